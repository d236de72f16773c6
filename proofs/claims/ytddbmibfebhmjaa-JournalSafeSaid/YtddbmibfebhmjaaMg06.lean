/- The contract of an eye's Stamps. Conditions: as each theorem states. -/
import Derived.Defers
import Derived.Recover
import Derived.Test.YtddbmibfebhmjaaMg05
set_option maxRecDepth 100000
set_option maxHeartbeats 16000000
namespace Go.Proofs.Ytddbmibfebhmjaa
namespace S2
open Go.RowKit
def Caught (w : World) (b : Nat) (v : Value) (e : Ending) (u : FrameMode) (w' : World) : Prop :=
 e = .returned (.tuple #[]) ∧ u = .panicking [{ v := .iface 157 (.agg #[]), recovered := true }] ∧ w'.heap[b]? = some (.cells #[v, .bool true] 138 (0, 0)) ∧ Keeps (Only b) w w'
theorem mode_same {c : Frame} {u : FrameMode} (h : c.mode = u) : ({ c with mode := u } : Frame) = c := by subst h; rfl
theorem cell_new (w : World) (v : Value) (t : TypeId) : (w.alloc (.cells #[v] t)).cell? ⟨w.heap.size, 0, none⟩ = some v := cell_of_one (heap_alloc_new w _)
theorem two_cell (w : World) (o : Obj) (v : Value) (t : TypeId) : ((w.alloc o).alloc (.cells #[v] t)).cell? ⟨w.heap.size + 1, 0, none⟩ = some v := by
 have := cell_new (w.alloc o) v t
 rwa [World.size_alloc] at this
theorem kNew {w : World} {b : Nat} (h : b < w.heap.size) (k : Nat) : ¬ Only b (w.heap.size + k) := fun e => absurd h (by have e' : w.heap.size + k = b := e; omega)
theorem catch_panic49 (w : World) (pf pe b : Nat) (v v0 : Value) (bl : Bool) (hf : w.cell? ⟨pf, 0, none⟩ = some v) (he : w.cell? ⟨pe, 0, none⟩ = some (.pointer (some ⟨b, 0, none⟩))) (hb : w.heap[b]? = some (.cells #[v0, .bool bl] 138 (0, 0))) (hv : ∃ a n c, v = .slice a n c) :
  CallsD Try.prog 111 #[.pointer (some ⟨pf, 0, none⟩), .pointer (some ⟨pe, 0, none⟩)] (.panicking blindCh) w (Caught w b v) := by
 obtain ⟨a, n, c, rfl⟩ := hv
 refine callsD_of_wpS Try.func111 rfl fun c₀ cs hu => ?_
 unfold blindCh at hu
 apply wpS_seq
 apply wpS_region
 simp [wpOpsS, go_sem, recoverD, hu, Try.ntmps111, Exit.thenS]
 have hfr : #[Value.pointer (some { block := pf, off := 0 }), Value.pointer (some { block := pe, off := 0 })] ++ ((Array.replicate 21 undef).setIfInBounds 3 (Value.iface 157 (Value.agg #[]))).setIfInBounds 0 (Value.iface 157 (Value.agg #[])) = #[Value.pointer (some { block := pf, off := 0 }), Value.pointer (some { block := pe, off := 0 }), Value.iface 157 (Value.agg #[]), undef, undef, Value.iface 157 (Value.agg #[]), undef, undef, undef, undef, undef, undef, undef, undef, undef, undef, undef, undef, undef, undef, undef, undef, undef] := by kernel_rfl
 rw [hfr]
 clear hfr
 apply wpS_of_wp
 generalize hQ : (fun (e : Exit) (a' : Act) (w' : World) => bodyPostS _ _ _ _ _ e a' _ w') = Q
 have hne : ∀ w : World, (binOp .eql 20 (.iface 157 (.agg #[])) .nilIface).run Try.prog w = .ok (.bool false) w := fun _ => by kernel_rfl
 have hta : ∀ w : World, (Instr.typeAssert (.iface 157 (.agg #[])) 20 157 true).run Try.prog w = .ok (.tuple #[.agg #[], .bool true]) w := fun _ => by kernel_rfl
 have c0 : w.cell? ⟨b, 0, none⟩ = some v0 := by rw [cell_of_row w _ _ _ _ _ hb]; rfl
 have c1 : w.cell? ⟨b, 1, none⟩ = some (.bool bl) := by rw [cell_of_row w _ _ _ _ _ hb]; rfl
 have f0 := fun ob => alloc_free c0 (frozen_of_row w b 0 _ _ hb) ob
 have f1 := fun ob => alloc_free c1 (frozen_of_row w b 1 _ _ hb) ob
 have d0 := fun ob => alloc_cell c0 ob
 have d1 := fun ob => alloc_cell c1 ob
 have hf2 := fun ob => alloc_cell hf ob
 have he2 := fun ob => alloc_cell he ob
 have HB := Lib.hid hb
 have HQ := Lib.hid hQ
 have HU := Lib.hid hu
 clear hb hQ hu
 go_wp2
 rw [← HQ.out]
 have hb2 : (w.alloc (Obj.cells #[] 157)).heap[b]? = some (.cells #[v0, .bool bl] 138 (0, 0)) := (Below.heap_alloc _ _ _ (lt_of_block HB.out)).trans HB.out
 exact ⟨rfl, _, rfl, .tuple #[], results_none rfl _ _ _, rfl, rfl, block_setCell (block_setCell hb2 _) _, kSet (S := Only b) (p := ⟨b, 1, none⟩) (kSet (S := Only b) (p := ⟨b, 0, none⟩) (kAlloc (Keeps.refl _ _) _) (.inl rfl) _) (.inl rfl) _⟩
theorem catch_idle49 (w : World) (pf pe : Nat) : CallsD Try.prog 111 #[.pointer (some ⟨pf, 0, none⟩), .pointer (some ⟨pe, 0, none⟩)] .returning w fun e u' w' => e = .returned (.tuple #[]) ∧ u' = .returning ∧ w = w' := by
 refine callsD_of_wpS Try.func111 rfl fun c₀ cs hu => ?_
 apply wpS_seq
 apply wpS_region
 simp [wpOpsS, go_sem, recoverD, hu, Try.ntmps111, Exit.thenS]
 have hfr : #[Value.pointer (some { block := pf, off := 0 }), Value.pointer (some { block := pe, off := 0 })] ++ ((Array.replicate 21 undef).setIfInBounds 3 (Value.nilIface)).setIfInBounds 0 (Value.nilIface) = #[Value.pointer (some { block := pf, off := 0 }), Value.pointer (some { block := pe, off := 0 }), Value.nilIface, undef, undef, Value.nilIface, undef, undef, undef, undef, undef, undef, undef, undef, undef, undef, undef, undef, undef, undef, undef, undef, undef] := by kernel_rfl
 rw [hfr]
 clear hfr
 apply wpS_of_wp
 generalize hQ : (fun (e : Exit) (a' : Act) (w' : World) => bodyPostS _ _ _ _ _ e a' _ w') = Q
 have hne : ∀ w : World, (binOp .eql 20 .nilIface .nilIface).run Try.prog w = .ok (.bool true) w := fun _ => by kernel_rfl
 have HQ := Lib.hid hQ
 have HU := Lib.hid hu
 clear hQ hu
 go_wp2
 rw [← HQ.out]
 exact ⟨rfl, .returning, by rw [mode_same HU.out], .tuple #[], results_none rfl _ _ _, rfl, rfl, rfl⟩
theorem catch_panic53 (w : World) (pf pe b : Nat) (v v0 : Value) (bl : Bool) (hf : w.cell? ⟨pf, 0, none⟩ = some v) (he : w.cell? ⟨pe, 0, none⟩ = some (.pointer (some ⟨b, 0, none⟩))) (hb : w.heap[b]? = some (.cells #[v0, .bool bl] 138 (0, 0))) (hv : ∃ a n c, v = .slice a n c) :
  CallsD Try.prog 109 #[.pointer (some ⟨pf, 0, none⟩), .pointer (some ⟨pe, 0, none⟩)] (.panicking blindCh) w (Caught w b v) := by
 obtain ⟨a, n, c, rfl⟩ := hv
 refine callsD_of_wpS Try.func109 rfl fun c₀ cs hu => ?_
 unfold blindCh at hu
 apply wpS_seq
 apply wpS_region
 simp [wpOpsS, go_sem, recoverD, hu, Try.ntmps109, Exit.thenS]
 have hfr : #[Value.pointer (some { block := pf, off := 0 }), Value.pointer (some { block := pe, off := 0 })] ++ ((Array.replicate 21 undef).setIfInBounds 3 (Value.iface 157 (Value.agg #[]))).setIfInBounds 0 (Value.iface 157 (Value.agg #[])) = #[Value.pointer (some { block := pf, off := 0 }), Value.pointer (some { block := pe, off := 0 }), Value.iface 157 (Value.agg #[]), undef, undef, Value.iface 157 (Value.agg #[]), undef, undef, undef, undef, undef, undef, undef, undef, undef, undef, undef, undef, undef, undef, undef, undef, undef] := by kernel_rfl
 rw [hfr]
 clear hfr
 apply wpS_of_wp
 generalize hQ : (fun (e : Exit) (a' : Act) (w' : World) => bodyPostS _ _ _ _ _ e a' _ w') = Q
 have hne : ∀ w : World, (binOp .eql 20 (.iface 157 (.agg #[])) .nilIface).run Try.prog w = .ok (.bool false) w := fun _ => by kernel_rfl
 have hta : ∀ w : World, (Instr.typeAssert (.iface 157 (.agg #[])) 20 157 true).run Try.prog w = .ok (.tuple #[.agg #[], .bool true]) w := fun _ => by kernel_rfl
 have c0 : w.cell? ⟨b, 0, none⟩ = some v0 := by rw [cell_of_row w _ _ _ _ _ hb]; rfl
 have c1 : w.cell? ⟨b, 1, none⟩ = some (.bool bl) := by rw [cell_of_row w _ _ _ _ _ hb]; rfl
 have f0 := fun ob => alloc_free c0 (frozen_of_row w b 0 _ _ hb) ob
 have f1 := fun ob => alloc_free c1 (frozen_of_row w b 1 _ _ hb) ob
 have d0 := fun ob => alloc_cell c0 ob
 have d1 := fun ob => alloc_cell c1 ob
 have hf2 := fun ob => alloc_cell hf ob
 have he2 := fun ob => alloc_cell he ob
 have HB := Lib.hid hb
 have HQ := Lib.hid hQ
 have HU := Lib.hid hu
 clear hb hQ hu
 go_wp2
 rw [← HQ.out]
 have hb2 : (w.alloc (Obj.cells #[] 157)).heap[b]? = some (.cells #[v0, .bool bl] 138 (0, 0)) := (Below.heap_alloc _ _ _ (lt_of_block HB.out)).trans HB.out
 exact ⟨rfl, _, rfl, .tuple #[], results_none rfl _ _ _, rfl, rfl, block_setCell (block_setCell hb2 _) _, kSet (S := Only b) (p := ⟨b, 1, none⟩) (kSet (S := Only b) (p := ⟨b, 0, none⟩) (kAlloc (Keeps.refl _ _) _) (.inl rfl) _) (.inl rfl) _⟩
theorem catch_idle53 (w : World) (pf pe : Nat) : CallsD Try.prog 109 #[.pointer (some ⟨pf, 0, none⟩), .pointer (some ⟨pe, 0, none⟩)] .returning w fun e u' w' => e = .returned (.tuple #[]) ∧ u' = .returning ∧ w = w' := by
 refine callsD_of_wpS Try.func109 rfl fun c₀ cs hu => ?_
 apply wpS_seq
 apply wpS_region
 simp [wpOpsS, go_sem, recoverD, hu, Try.ntmps109, Exit.thenS]
 have hfr : #[Value.pointer (some { block := pf, off := 0 }), Value.pointer (some { block := pe, off := 0 })] ++ ((Array.replicate 21 undef).setIfInBounds 3 (Value.nilIface)).setIfInBounds 0 (Value.nilIface) = #[Value.pointer (some { block := pf, off := 0 }), Value.pointer (some { block := pe, off := 0 }), Value.nilIface, undef, undef, Value.nilIface, undef, undef, undef, undef, undef, undef, undef, undef, undef, undef, undef, undef, undef, undef, undef, undef, undef] := by kernel_rfl
 rw [hfr]
 clear hfr
 apply wpS_of_wp
 generalize hQ : (fun (e : Exit) (a' : Act) (w' : World) => bodyPostS _ _ _ _ _ e a' _ w') = Q
 have hne : ∀ w : World, (binOp .eql 20 .nilIface .nilIface).run Try.prog w = .ok (.bool true) w := fun _ => by kernel_rfl
 have HQ := Lib.hid hQ
 have HU := Lib.hid hu
 clear hQ hu
 go_wp2
 rw [← HQ.out]
 exact ⟨rfl, .returning, by rw [mode_same HU.out], .tuple #[], results_none rfl _ _ _, rfl, rfl, rfl⟩
theorem catch_panic55 (w : World) (pf pe b : Nat) (v v0 : Value) (bl : Bool) (hf : w.cell? ⟨pf, 0, none⟩ = some v) (he : w.cell? ⟨pe, 0, none⟩ = some (.pointer (some ⟨b, 0, none⟩))) (hb : w.heap[b]? = some (.cells #[v0, .bool bl] 138 (0, 0))) (hv : ∃ a n c, v = .slice a n c) :
  CallsD Try.prog 107 #[.pointer (some ⟨pf, 0, none⟩), .pointer (some ⟨pe, 0, none⟩)] (.panicking blindCh) w (Caught w b v) := by
 obtain ⟨a, n, c, rfl⟩ := hv
 refine callsD_of_wpS Try.func107 rfl fun c₀ cs hu => ?_
 unfold blindCh at hu
 apply wpS_seq
 apply wpS_region
 simp [wpOpsS, go_sem, recoverD, hu, Try.ntmps107, Exit.thenS]
 have hfr : #[Value.pointer (some { block := pf, off := 0 }), Value.pointer (some { block := pe, off := 0 })] ++ ((Array.replicate 21 undef).setIfInBounds 3 (Value.iface 157 (Value.agg #[]))).setIfInBounds 0 (Value.iface 157 (Value.agg #[])) = #[Value.pointer (some { block := pf, off := 0 }), Value.pointer (some { block := pe, off := 0 }), Value.iface 157 (Value.agg #[]), undef, undef, Value.iface 157 (Value.agg #[]), undef, undef, undef, undef, undef, undef, undef, undef, undef, undef, undef, undef, undef, undef, undef, undef, undef] := by kernel_rfl
 rw [hfr]
 clear hfr
 apply wpS_of_wp
 generalize hQ : (fun (e : Exit) (a' : Act) (w' : World) => bodyPostS _ _ _ _ _ e a' _ w') = Q
 have hne : ∀ w : World, (binOp .eql 20 (.iface 157 (.agg #[])) .nilIface).run Try.prog w = .ok (.bool false) w := fun _ => by kernel_rfl
 have hta : ∀ w : World, (Instr.typeAssert (.iface 157 (.agg #[])) 20 157 true).run Try.prog w = .ok (.tuple #[.agg #[], .bool true]) w := fun _ => by kernel_rfl
 have c0 : w.cell? ⟨b, 0, none⟩ = some v0 := by rw [cell_of_row w _ _ _ _ _ hb]; rfl
 have c1 : w.cell? ⟨b, 1, none⟩ = some (.bool bl) := by rw [cell_of_row w _ _ _ _ _ hb]; rfl
 have f0 := fun ob => alloc_free c0 (frozen_of_row w b 0 _ _ hb) ob
 have f1 := fun ob => alloc_free c1 (frozen_of_row w b 1 _ _ hb) ob
 have d0 := fun ob => alloc_cell c0 ob
 have d1 := fun ob => alloc_cell c1 ob
 have hf2 := fun ob => alloc_cell hf ob
 have he2 := fun ob => alloc_cell he ob
 have HB := Lib.hid hb
 have HQ := Lib.hid hQ
 have HU := Lib.hid hu
 clear hb hQ hu
 go_wp2
 rw [← HQ.out]
 have hb2 : (w.alloc (Obj.cells #[] 157)).heap[b]? = some (.cells #[v0, .bool bl] 138 (0, 0)) := (Below.heap_alloc _ _ _ (lt_of_block HB.out)).trans HB.out
 exact ⟨rfl, _, rfl, .tuple #[], results_none rfl _ _ _, rfl, rfl, block_setCell (block_setCell hb2 _) _, kSet (S := Only b) (p := ⟨b, 1, none⟩) (kSet (S := Only b) (p := ⟨b, 0, none⟩) (kAlloc (Keeps.refl _ _) _) (.inl rfl) _) (.inl rfl) _⟩
theorem catch_idle55 (w : World) (pf pe : Nat) : CallsD Try.prog 107 #[.pointer (some ⟨pf, 0, none⟩), .pointer (some ⟨pe, 0, none⟩)] .returning w fun e u' w' => e = .returned (.tuple #[]) ∧ u' = .returning ∧ w = w' := by
 refine callsD_of_wpS Try.func107 rfl fun c₀ cs hu => ?_
 apply wpS_seq
 apply wpS_region
 simp [wpOpsS, go_sem, recoverD, hu, Try.ntmps107, Exit.thenS]
 have hfr : #[Value.pointer (some { block := pf, off := 0 }), Value.pointer (some { block := pe, off := 0 })] ++ ((Array.replicate 21 undef).setIfInBounds 3 (Value.nilIface)).setIfInBounds 0 (Value.nilIface) = #[Value.pointer (some { block := pf, off := 0 }), Value.pointer (some { block := pe, off := 0 }), Value.nilIface, undef, undef, Value.nilIface, undef, undef, undef, undef, undef, undef, undef, undef, undef, undef, undef, undef, undef, undef, undef, undef, undef] := by kernel_rfl
 rw [hfr]
 clear hfr
 apply wpS_of_wp
 generalize hQ : (fun (e : Exit) (a' : Act) (w' : World) => bodyPostS _ _ _ _ _ e a' _ w') = Q
 have hne : ∀ w : World, (binOp .eql 20 .nilIface .nilIface).run Try.prog w = .ok (.bool true) w := fun _ => by kernel_rfl
 have HQ := Lib.hid hQ
 have HU := Lib.hid hu
 clear hQ hu
 go_wp2
 rw [← HQ.out]
 exact ⟨rfl, .returning, by rw [mode_same HU.out], .tuple #[], results_none rfl _ _ _, rfl, rfl, rfl⟩
theorem look49_yes (w : World) (b g : Nat) (l : List UInt8) (X : World → Value → World → Prop) (he : EyeAt w b g l false)
  (hc : ∀ W, Keeps (fun _ => False) w W → Calls Try.prog 94 #[.pointer (some ⟨b, 0, none⟩)] W fun e w' => ∃ v, e = .returned v ∧ X W v w' ∧ Keeps (Only b) W w') :
  Calls Try.prog 93 #[.pointer (some ⟨b, 0, none⟩), .func (.func 94) #[] #[]] w fun e w' => ∃ W v, e = .returned v ∧ Keeps (fun _ => False) w W ∧ X W v w' ∧ Keeps (Only b) w w' := by
 have HC := Lib.hid hc
 clear hc
 have HE := Lib.hid he
 obtain ⟨v, hv, hb, hne⟩ := he
 obtain ⟨a, n, c, rfl⟩ := hb.form
 have c0 : w.cell? ⟨b, 0, none⟩ = some (.slice a n c) := by rw [cell_of_row w _ _ _ _ _ hv]; rfl
 have c1 : w.cell? ⟨b, 1, none⟩ = some (.bool false) := by rw [cell_of_row w _ _ _ _ _ hv]; rfl
 have d0 := fun ob => alloc_cell c0 ob
 have d1 := fun ob => alloc_cell c1 ob
 have e0 := fun ob => fun ob' => alloc_cell (alloc_cell c0 ob) ob'
 have e1 := fun ob => fun ob' => alloc_cell (alloc_cell c1 ob) ob'
 have HB := Lib.hid hb
 have HV := Lib.hid hv
 have HN := Lib.hid hne
 clear hv hb hne
 have hmf : ∀ (fn : Fn) (first cap : Array Value) (w : World), (Instr.makeFunc fn first cap).run Try.prog w = .ok (.func fn first cap) w := fun _ _ _ _ => rfl
 go_enter_defers Try.func93, Try.ntmps93
 go_wp2_with fail
 have hK : Keeps (fun _ => False) w ((w.alloc (Obj.cells #[Value.pointer (some { block := b, off := 0 })] 124)).alloc (Obj.cells #[Value.slice a n c] 39)) := (by repeat (first | with_reducible exact Keeps.refl _ _ | with_reducible refine kAlloc ?_ _ | with_reducible refine kDrew ?_))
 generalize (w.alloc (Obj.cells #[Value.pointer (some { block := b, off := 0 })] 124)).alloc (Obj.cells #[Value.slice a n c] 39) = W at *
 refine (HC.out W hK).mono ?_
 rintro e w1 ⟨v, rfl, hx, hk1⟩
 have HX := Lib.hid hx
 have HK0 := Lib.hid hK
 have HK1 := Lib.hid hk1
 clear hx hK hk1
 go_wp2
 refine leaves_cons (f := 111) (args := #[.pointer (some ⟨w.heap.size + 1, 0, none⟩), .pointer (some ⟨w.heap.size, 0, none⟩)]) (by simp) (by simp [go_sem]) ?_
 refine (catch_idle49 w1 (w.heap.size + 1) (w.heap.size)).mono ?_
 rintro e u' w'' ⟨rfl, rfl, rfl⟩
 exact ⟨_, results_tmp rfl _ _ _, W, v, rfl, HK0.out, HX.out, (HK0.out.mono fun _ _ h => h.elim).then HK1.out⟩
theorem look49_no (w : World) (b g : Nat) (l : List UInt8) (he : EyeAt w b g l false)
  (hc : ∀ W, Keeps (fun _ => False) w W → Calls Try.prog 94 #[.pointer (some ⟨b, 0, none⟩)] W (Blinded W b g false)) :
  Calls Try.prog 93 #[.pointer (some ⟨b, 0, none⟩), .func (.func 94) #[] #[]] w fun e w' => e = .returned (.int .i64 0) ∧ EyeAt w' b g l true ∧ Keeps (Only b) w w' := by
 have HC := Lib.hid hc
 clear hc
 have HE := Lib.hid he
 obtain ⟨v, hv, hb, hne⟩ := he
 obtain ⟨a, n, c, rfl⟩ := hb.form
 have c0 : w.cell? ⟨b, 0, none⟩ = some (.slice a n c) := by rw [cell_of_row w _ _ _ _ _ hv]; rfl
 have c1 : w.cell? ⟨b, 1, none⟩ = some (.bool false) := by rw [cell_of_row w _ _ _ _ _ hv]; rfl
 have d0 := fun ob => alloc_cell c0 ob
 have d1 := fun ob => alloc_cell c1 ob
 have e0 := fun ob => fun ob' => alloc_cell (alloc_cell c0 ob) ob'
 have e1 := fun ob => fun ob' => alloc_cell (alloc_cell c1 ob) ob'
 have HB := Lib.hid hb
 have HV := Lib.hid hv
 have HN := Lib.hid hne
 clear hv hb hne
 have hmf : ∀ (fn : Fn) (first cap : Array Value) (w : World), (Instr.makeFunc fn first cap).run Try.prog w = .ok (.func fn first cap) w := fun _ _ _ _ => rfl
 go_enter_defers Try.func93, Try.ntmps93
 go_wp2_with fail
 have hK : Keeps (fun _ => False) w ((w.alloc (Obj.cells #[Value.pointer (some { block := b, off := 0 })] 124)).alloc (Obj.cells #[Value.slice a n c] 39)) := (by repeat (first | with_reducible exact Keeps.refl _ _ | with_reducible refine kAlloc ?_ _ | with_reducible refine kDrew ?_))
 have hlt := HE.out.lt
 have hpf : ((w.alloc (Obj.cells #[Value.pointer (some { block := b, off := 0 })] 124)).alloc (Obj.cells #[Value.slice a n c] 39)).cell? ⟨w.heap.size + 1, 0, none⟩ = some (.slice a n c) := two_cell w _ _ _
 have hpe : ((w.alloc (Obj.cells #[Value.pointer (some { block := b, off := 0 })] 124)).alloc (Obj.cells #[Value.slice a n c] 39)).cell? ⟨w.heap.size, 0, none⟩ = some (.pointer (some ⟨b, 0, none⟩)) := alloc_cell (cell_new w _ _) _
 generalize (w.alloc (Obj.cells #[Value.pointer (some { block := b, off := 0 })] 124)).alloc (Obj.cells #[Value.slice a n c] 39) = W at *
 refine (HC.out W hK).mono ?_
 rintro e w1 ⟨rfl, ⟨l', v0, hv0, _, _⟩, hk1⟩
 have HP := Lib.hid (hk1.cell (kNew hlt 1) hpf)
 have HPE := Lib.hid (hk1.cell (kNew hlt 0) hpe)
 have HV0 := Lib.hid hv0
 have HK1 := Lib.hid ((hK.mono fun _ _ h => h.elim : Keeps (Only b) w W).then hk1)
 clear hpf hpe hv0 hk1 hK d0 d1 e0 e1 c0 c1
 go_wp2
 refine leaves_cons (f := 111) (args := #[.pointer (some ⟨w.heap.size + 1, 0, none⟩), .pointer (some ⟨w.heap.size, 0, none⟩)]) (by simp) (by simp [go_sem]) ?_
 refine (catch_panic49 w1 (w.heap.size + 1) (w.heap.size) b _ v0 false HP.out HPE.out HV0.out ⟨a, n, c, rfl⟩).mono ?_
 rintro e u' w2 ⟨rfl, rfl, hh, hk2⟩
 exact ⟨_, results_tmp rfl _ _ _, rfl, ⟨_, hh, HB.out.keep (HK1.out.then hk2) (fun h e => HN.out h e), HN.out⟩, HK1.out.then hk2⟩
theorem look49_blind (w : World) (b g : Nat) (l : List UInt8) (he : EyeAt w b g l true) (rd : Value) :
  Calls Try.prog 93 #[.pointer (some ⟨b, 0, none⟩), rd] w fun e w' => e = .returned (.int .i64 0) ∧ Keeps (fun _ => False) w w' := by
 obtain ⟨v, hv, hb, hne⟩ := he
 obtain ⟨a, n, c, rfl⟩ := hb.form
 have c0 : w.cell? ⟨b, 0, none⟩ = some (.slice a n c) := by rw [cell_of_row w _ _ _ _ _ hv]; rfl
 have c1 : w.cell? ⟨b, 1, none⟩ = some (.bool true) := by rw [cell_of_row w _ _ _ _ _ hv]; rfl
 have d0 := fun ob => alloc_cell c0 ob
 have d1 := fun ob => alloc_cell c1 ob
 have e0 := fun ob => fun ob' => alloc_cell (alloc_cell c0 ob) ob'
 have e1 := fun ob => fun ob' => alloc_cell (alloc_cell c1 ob) ob'
 have HB := Lib.hid hb
 have HV := Lib.hid hv
 have HN := Lib.hid hne
 clear hv hb hne
 have hmf : ∀ (fn : Fn) (first cap : Array Value) (w : World), (Instr.makeFunc fn first cap).run Try.prog w = .ok (.func fn first cap) w := fun _ _ _ _ => rfl
 clear HB HV HN
 go_enter_defers Try.func93, Try.ntmps93
 go_wp2
 exact ⟨_, results_tmp rfl _ _ _, rfl, (by repeat (first | with_reducible exact Keeps.refl _ _ | with_reducible refine kAlloc ?_ _ | with_reducible refine kDrew ?_))⟩
theorem look53_yes (w : World) (b g : Nat) (l : List UInt8) (X : World → Value → World → Prop) (he : EyeAt w b g l false)
  (hc : ∀ W, Keeps (fun _ => False) w W → Calls Try.prog 92 #[.pointer (some ⟨b, 0, none⟩)] W fun e w' => ∃ v, e = .returned v ∧ X W v w' ∧ Keeps (Only b) W w') :
  Calls Try.prog 91 #[.pointer (some ⟨b, 0, none⟩), .func (.func 92) #[] #[]] w fun e w' => ∃ W v, e = .returned v ∧ Keeps (fun _ => False) w W ∧ X W v w' ∧ Keeps (Only b) w w' := by
 have HC := Lib.hid hc
 clear hc
 have HE := Lib.hid he
 obtain ⟨v, hv, hb, hne⟩ := he
 obtain ⟨a, n, c, rfl⟩ := hb.form
 have c0 : w.cell? ⟨b, 0, none⟩ = some (.slice a n c) := by rw [cell_of_row w _ _ _ _ _ hv]; rfl
 have c1 : w.cell? ⟨b, 1, none⟩ = some (.bool false) := by rw [cell_of_row w _ _ _ _ _ hv]; rfl
 have d0 := fun ob => alloc_cell c0 ob
 have d1 := fun ob => alloc_cell c1 ob
 have e0 := fun ob => fun ob' => alloc_cell (alloc_cell c0 ob) ob'
 have e1 := fun ob => fun ob' => alloc_cell (alloc_cell c1 ob) ob'
 have HB := Lib.hid hb
 have HV := Lib.hid hv
 have HN := Lib.hid hne
 clear hv hb hne
 have hmf : ∀ (fn : Fn) (first cap : Array Value) (w : World), (Instr.makeFunc fn first cap).run Try.prog w = .ok (.func fn first cap) w := fun _ _ _ _ => rfl
 go_enter_defers Try.func91, Try.ntmps91
 go_wp2_with fail
 have hK : Keeps (fun _ => False) w ((w.alloc (Obj.cells #[Value.pointer (some { block := b, off := 0 })] 124)).alloc (Obj.cells #[Value.slice a n c] 39)) := (by repeat (first | with_reducible exact Keeps.refl _ _ | with_reducible refine kAlloc ?_ _ | with_reducible refine kDrew ?_))
 generalize (w.alloc (Obj.cells #[Value.pointer (some { block := b, off := 0 })] 124)).alloc (Obj.cells #[Value.slice a n c] 39) = W at *
 refine (HC.out W hK).mono ?_
 rintro e w1 ⟨v, rfl, hx, hk1⟩
 have HX := Lib.hid hx
 have HK0 := Lib.hid hK
 have HK1 := Lib.hid hk1
 clear hx hK hk1
 go_wp2
 refine leaves_cons (f := 109) (args := #[.pointer (some ⟨w.heap.size + 1, 0, none⟩), .pointer (some ⟨w.heap.size, 0, none⟩)]) (by simp) (by simp [go_sem]) ?_
 refine (catch_idle53 w1 (w.heap.size + 1) (w.heap.size)).mono ?_
 rintro e u' w'' ⟨rfl, rfl, rfl⟩
 exact ⟨_, results_tmp rfl _ _ _, W, v, rfl, HK0.out, HX.out, (HK0.out.mono fun _ _ h => h.elim).then HK1.out⟩
theorem look53_no (w : World) (b g : Nat) (l : List UInt8) (he : EyeAt w b g l false)
  (hc : ∀ W, Keeps (fun _ => False) w W → Calls Try.prog 92 #[.pointer (some ⟨b, 0, none⟩)] W (Blinded W b g false)) :
  Calls Try.prog 91 #[.pointer (some ⟨b, 0, none⟩), .func (.func 92) #[] #[]] w fun e w' => e = .returned (.string ⟨#[]⟩) ∧ EyeAt w' b g l true ∧ Keeps (Only b) w w' := by
 have HC := Lib.hid hc
 clear hc
 have HE := Lib.hid he
 obtain ⟨v, hv, hb, hne⟩ := he
 obtain ⟨a, n, c, rfl⟩ := hb.form
 have c0 : w.cell? ⟨b, 0, none⟩ = some (.slice a n c) := by rw [cell_of_row w _ _ _ _ _ hv]; rfl
 have c1 : w.cell? ⟨b, 1, none⟩ = some (.bool false) := by rw [cell_of_row w _ _ _ _ _ hv]; rfl
 have d0 := fun ob => alloc_cell c0 ob
 have d1 := fun ob => alloc_cell c1 ob
 have e0 := fun ob => fun ob' => alloc_cell (alloc_cell c0 ob) ob'
 have e1 := fun ob => fun ob' => alloc_cell (alloc_cell c1 ob) ob'
 have HB := Lib.hid hb
 have HV := Lib.hid hv
 have HN := Lib.hid hne
 clear hv hb hne
 have hmf : ∀ (fn : Fn) (first cap : Array Value) (w : World), (Instr.makeFunc fn first cap).run Try.prog w = .ok (.func fn first cap) w := fun _ _ _ _ => rfl
 go_enter_defers Try.func91, Try.ntmps91
 go_wp2_with fail
 have hK : Keeps (fun _ => False) w ((w.alloc (Obj.cells #[Value.pointer (some { block := b, off := 0 })] 124)).alloc (Obj.cells #[Value.slice a n c] 39)) := (by repeat (first | with_reducible exact Keeps.refl _ _ | with_reducible refine kAlloc ?_ _ | with_reducible refine kDrew ?_))
 have hlt := HE.out.lt
 have hpf : ((w.alloc (Obj.cells #[Value.pointer (some { block := b, off := 0 })] 124)).alloc (Obj.cells #[Value.slice a n c] 39)).cell? ⟨w.heap.size + 1, 0, none⟩ = some (.slice a n c) := two_cell w _ _ _
 have hpe : ((w.alloc (Obj.cells #[Value.pointer (some { block := b, off := 0 })] 124)).alloc (Obj.cells #[Value.slice a n c] 39)).cell? ⟨w.heap.size, 0, none⟩ = some (.pointer (some ⟨b, 0, none⟩)) := alloc_cell (cell_new w _ _) _
 generalize (w.alloc (Obj.cells #[Value.pointer (some { block := b, off := 0 })] 124)).alloc (Obj.cells #[Value.slice a n c] 39) = W at *
 refine (HC.out W hK).mono ?_
 rintro e w1 ⟨rfl, ⟨l', v0, hv0, _, _⟩, hk1⟩
 have HP := Lib.hid (hk1.cell (kNew hlt 1) hpf)
 have HPE := Lib.hid (hk1.cell (kNew hlt 0) hpe)
 have HV0 := Lib.hid hv0
 have HK1 := Lib.hid ((hK.mono fun _ _ h => h.elim : Keeps (Only b) w W).then hk1)
 clear hpf hpe hv0 hk1 hK d0 d1 e0 e1 c0 c1
 go_wp2
 refine leaves_cons (f := 109) (args := #[.pointer (some ⟨w.heap.size + 1, 0, none⟩), .pointer (some ⟨w.heap.size, 0, none⟩)]) (by simp) (by simp [go_sem]) ?_
 refine (catch_panic53 w1 (w.heap.size + 1) (w.heap.size) b _ v0 false HP.out HPE.out HV0.out ⟨a, n, c, rfl⟩).mono ?_
 rintro e u' w2 ⟨rfl, rfl, hh, hk2⟩
 exact ⟨_, results_tmp rfl _ _ _, rfl, ⟨_, hh, HB.out.keep (HK1.out.then hk2) (fun h e => HN.out h e), HN.out⟩, HK1.out.then hk2⟩
theorem look53_blind (w : World) (b g : Nat) (l : List UInt8) (he : EyeAt w b g l true) (rd : Value) :
  Calls Try.prog 91 #[.pointer (some ⟨b, 0, none⟩), rd] w fun e w' => e = .returned (.string ⟨#[]⟩) ∧ Keeps (fun _ => False) w w' := by
 obtain ⟨v, hv, hb, hne⟩ := he
 obtain ⟨a, n, c, rfl⟩ := hb.form
 have c0 : w.cell? ⟨b, 0, none⟩ = some (.slice a n c) := by rw [cell_of_row w _ _ _ _ _ hv]; rfl
 have c1 : w.cell? ⟨b, 1, none⟩ = some (.bool true) := by rw [cell_of_row w _ _ _ _ _ hv]; rfl
 have d0 := fun ob => alloc_cell c0 ob
 have d1 := fun ob => alloc_cell c1 ob
 have e0 := fun ob => fun ob' => alloc_cell (alloc_cell c0 ob) ob'
 have e1 := fun ob => fun ob' => alloc_cell (alloc_cell c1 ob) ob'
 have HB := Lib.hid hb
 have HV := Lib.hid hv
 have HN := Lib.hid hne
 clear hv hb hne
 have hmf : ∀ (fn : Fn) (first cap : Array Value) (w : World), (Instr.makeFunc fn first cap).run Try.prog w = .ok (.func fn first cap) w := fun _ _ _ _ => rfl
 clear HB HV HN
 go_enter_defers Try.func91, Try.ntmps91
 go_wp2
 exact ⟨_, results_tmp rfl _ _ _, rfl, (by repeat (first | with_reducible exact Keeps.refl _ _ | with_reducible refine kAlloc ?_ _ | with_reducible refine kDrew ?_))⟩
theorem look55_yes (w : World) (b g : Nat) (l : List UInt8) (X : World → Value → World → Prop) (he : EyeAt w b g l false)
  (hc : ∀ W, Keeps (fun _ => False) w W → Calls Try.prog 90 #[.pointer (some ⟨b, 0, none⟩)] W fun e w' => ∃ v, e = .returned v ∧ X W v w' ∧ Keeps (Only b) W w') :
  Calls Try.prog 89 #[.pointer (some ⟨b, 0, none⟩), .func (.func 90) #[] #[]] w fun e w' => ∃ W v, e = .returned v ∧ Keeps (fun _ => False) w W ∧ X W v w' ∧ Keeps (Only b) w w' := by
 have HC := Lib.hid hc
 clear hc
 have HE := Lib.hid he
 obtain ⟨v, hv, hb, hne⟩ := he
 obtain ⟨a, n, c, rfl⟩ := hb.form
 have c0 : w.cell? ⟨b, 0, none⟩ = some (.slice a n c) := by rw [cell_of_row w _ _ _ _ _ hv]; rfl
 have c1 : w.cell? ⟨b, 1, none⟩ = some (.bool false) := by rw [cell_of_row w _ _ _ _ _ hv]; rfl
 have d0 := fun ob => alloc_cell c0 ob
 have d1 := fun ob => alloc_cell c1 ob
 have e0 := fun ob => fun ob' => alloc_cell (alloc_cell c0 ob) ob'
 have e1 := fun ob => fun ob' => alloc_cell (alloc_cell c1 ob) ob'
 have HB := Lib.hid hb
 have HV := Lib.hid hv
 have HN := Lib.hid hne
 clear hv hb hne
 have hmf : ∀ (fn : Fn) (first cap : Array Value) (w : World), (Instr.makeFunc fn first cap).run Try.prog w = .ok (.func fn first cap) w := fun _ _ _ _ => rfl
 go_enter_defers Try.func89, Try.ntmps89
 go_wp2_with fail
 have hK : Keeps (fun _ => False) w ((w.alloc (Obj.cells #[Value.pointer (some { block := b, off := 0 })] 124)).alloc (Obj.cells #[Value.slice a n c] 39)) := (by repeat (first | with_reducible exact Keeps.refl _ _ | with_reducible refine kAlloc ?_ _ | with_reducible refine kDrew ?_))
 generalize (w.alloc (Obj.cells #[Value.pointer (some { block := b, off := 0 })] 124)).alloc (Obj.cells #[Value.slice a n c] 39) = W at *
 refine (HC.out W hK).mono ?_
 rintro e w1 ⟨v, rfl, hx, hk1⟩
 have HX := Lib.hid hx
 have HK0 := Lib.hid hK
 have HK1 := Lib.hid hk1
 clear hx hK hk1
 go_wp2
 refine leaves_cons (f := 107) (args := #[.pointer (some ⟨w.heap.size + 1, 0, none⟩), .pointer (some ⟨w.heap.size, 0, none⟩)]) (by simp) (by simp [go_sem]) ?_
 refine (catch_idle55 w1 (w.heap.size + 1) (w.heap.size)).mono ?_
 rintro e u' w'' ⟨rfl, rfl, rfl⟩
 exact ⟨_, results_tmp rfl _ _ _, W, v, rfl, HK0.out, HX.out, (HK0.out.mono fun _ _ h => h.elim).then HK1.out⟩
theorem look55_no (w : World) (b g : Nat) (l : List UInt8) (he : EyeAt w b g l false)
  (hc : ∀ W, Keeps (fun _ => False) w W → Calls Try.prog 90 #[.pointer (some ⟨b, 0, none⟩)] W (Blinded W b g false)) :
  Calls Try.prog 89 #[.pointer (some ⟨b, 0, none⟩), .func (.func 90) #[] #[]] w fun e w' => e = .returned (.bool false) ∧ EyeAt w' b g l true ∧ Keeps (Only b) w w' := by
 have HC := Lib.hid hc
 clear hc
 have HE := Lib.hid he
 obtain ⟨v, hv, hb, hne⟩ := he
 obtain ⟨a, n, c, rfl⟩ := hb.form
 have c0 : w.cell? ⟨b, 0, none⟩ = some (.slice a n c) := by rw [cell_of_row w _ _ _ _ _ hv]; rfl
 have c1 : w.cell? ⟨b, 1, none⟩ = some (.bool false) := by rw [cell_of_row w _ _ _ _ _ hv]; rfl
 have d0 := fun ob => alloc_cell c0 ob
 have d1 := fun ob => alloc_cell c1 ob
 have e0 := fun ob => fun ob' => alloc_cell (alloc_cell c0 ob) ob'
 have e1 := fun ob => fun ob' => alloc_cell (alloc_cell c1 ob) ob'
 have HB := Lib.hid hb
 have HV := Lib.hid hv
 have HN := Lib.hid hne
 clear hv hb hne
 have hmf : ∀ (fn : Fn) (first cap : Array Value) (w : World), (Instr.makeFunc fn first cap).run Try.prog w = .ok (.func fn first cap) w := fun _ _ _ _ => rfl
 go_enter_defers Try.func89, Try.ntmps89
 go_wp2_with fail
 have hK : Keeps (fun _ => False) w ((w.alloc (Obj.cells #[Value.pointer (some { block := b, off := 0 })] 124)).alloc (Obj.cells #[Value.slice a n c] 39)) := (by repeat (first | with_reducible exact Keeps.refl _ _ | with_reducible refine kAlloc ?_ _ | with_reducible refine kDrew ?_))
 have hlt := HE.out.lt
 have hpf : ((w.alloc (Obj.cells #[Value.pointer (some { block := b, off := 0 })] 124)).alloc (Obj.cells #[Value.slice a n c] 39)).cell? ⟨w.heap.size + 1, 0, none⟩ = some (.slice a n c) := two_cell w _ _ _
 have hpe : ((w.alloc (Obj.cells #[Value.pointer (some { block := b, off := 0 })] 124)).alloc (Obj.cells #[Value.slice a n c] 39)).cell? ⟨w.heap.size, 0, none⟩ = some (.pointer (some ⟨b, 0, none⟩)) := alloc_cell (cell_new w _ _) _
 generalize (w.alloc (Obj.cells #[Value.pointer (some { block := b, off := 0 })] 124)).alloc (Obj.cells #[Value.slice a n c] 39) = W at *
 refine (HC.out W hK).mono ?_
 rintro e w1 ⟨rfl, ⟨l', v0, hv0, _, _⟩, hk1⟩
 have HP := Lib.hid (hk1.cell (kNew hlt 1) hpf)
 have HPE := Lib.hid (hk1.cell (kNew hlt 0) hpe)
 have HV0 := Lib.hid hv0
 have HK1 := Lib.hid ((hK.mono fun _ _ h => h.elim : Keeps (Only b) w W).then hk1)
 clear hpf hpe hv0 hk1 hK d0 d1 e0 e1 c0 c1
 go_wp2
 refine leaves_cons (f := 107) (args := #[.pointer (some ⟨w.heap.size + 1, 0, none⟩), .pointer (some ⟨w.heap.size, 0, none⟩)]) (by simp) (by simp [go_sem]) ?_
 refine (catch_panic55 w1 (w.heap.size + 1) (w.heap.size) b _ v0 false HP.out HPE.out HV0.out ⟨a, n, c, rfl⟩).mono ?_
 rintro e u' w2 ⟨rfl, rfl, hh, hk2⟩
 exact ⟨_, results_tmp rfl _ _ _, rfl, ⟨_, hh, HB.out.keep (HK1.out.then hk2) (fun h e => HN.out h e), HN.out⟩, HK1.out.then hk2⟩
theorem look55_blind (w : World) (b g : Nat) (l : List UInt8) (he : EyeAt w b g l true) (rd : Value) :
  Calls Try.prog 89 #[.pointer (some ⟨b, 0, none⟩), rd] w fun e w' => e = .returned (.bool false) ∧ Keeps (fun _ => False) w w' := by
 obtain ⟨v, hv, hb, hne⟩ := he
 obtain ⟨a, n, c, rfl⟩ := hb.form
 have c0 : w.cell? ⟨b, 0, none⟩ = some (.slice a n c) := by rw [cell_of_row w _ _ _ _ _ hv]; rfl
 have c1 : w.cell? ⟨b, 1, none⟩ = some (.bool true) := by rw [cell_of_row w _ _ _ _ _ hv]; rfl
 have d0 := fun ob => alloc_cell c0 ob
 have d1 := fun ob => alloc_cell c1 ob
 have e0 := fun ob => fun ob' => alloc_cell (alloc_cell c0 ob) ob'
 have e1 := fun ob => fun ob' => alloc_cell (alloc_cell c1 ob) ob'
 have HB := Lib.hid hb
 have HV := Lib.hid hv
 have HN := Lib.hid hne
 clear hv hb hne
 have hmf : ∀ (fn : Fn) (first cap : Array Value) (w : World), (Instr.makeFunc fn first cap).run Try.prog w = .ok (.func fn first cap) w := fun _ _ _ _ => rfl
 clear HB HV HN
 go_enter_defers Try.func89, Try.ntmps89
 go_wp2
 exact ⟨_, results_tmp rfl _ _ _, rfl, (by repeat (first | with_reducible exact Keeps.refl _ _ | with_reducible refine kAlloc ?_ _ | with_reducible refine kDrew ?_))⟩

def okI (l : List UInt8) (bl : Bool) : Bool := !bl && decide (8 ≤ l.length)
def okT (l : List UInt8) (bl : Bool) : Bool := !bl && decide (4 ≤ l.length ∧ leN (l.take 4) ≤ 1048576 ∧ leN (l.take 4) ≤ (l.drop 4).length)
def okB (l : List UInt8) (bl : Bool) : Bool := !bl && decide (1 ≤ l.length ∧ leN (l.take 1) ≤ 1)
instance (l : List UInt8) : Decidable (hasL l) := by unfold hasL; infer_instance
def behind (ok : Bool) (k : Nat) (l : List UInt8) : List UInt8 := if ok then l.drop k else l
def atT (l : List UInt8) : ByteArray := ⟨((l.drop 4).take (leN (l.take 4))).toArray⟩
def valI (l : List UInt8) (bl : Bool) : Int := if okI l bl then rd l else 0
def valT (l : List UInt8) (bl : Bool) : ByteArray := if okT l bl then atT l else ⟨#[]⟩
def valB (l : List UInt8) (bl : Bool) : Bool := okB l bl && decide (leN (l.take 1) = 1)
theorem eyeInt_any (w : World) (b g : Nat) (l : List UInt8) (bl : Bool) (he : EyeAt w b g l bl) :
  Calls Try.prog 82 #[.pointer (some ⟨b, 0, none⟩)] w (Seen w b g (!okI l bl) (.int .i64 (valI l bl)) (behind (okI l bl) 8 l)) := by
 have HE := Lib.hid he
 clear he
 cases bl
 ·by_cases h : 8 ≤ l.length
  ·have hok : okI l false = true := by simp only [okI, Bool.not_false, Bool.true_and, decide_eq_true_eq]; exact h
   have hv : valI l false = rd l := by simp [valI, hok]
   rw [hv, hok]
   clear hv hok
   go_enter Try.func82, Try.ntmps82
   go_wp2_with (go_at_call 93; refine (look49_yes _ b g l (fun _ v w' => v = .int .i64 (rd l) ∧ EyeAt w' b g (l.drop 8) false) HE.out (fun W hW => (int_yes W b g l false (HE.out.before hW) h).mono fun e w' ⟨h1, h2, h3⟩ => ⟨_, h1, ⟨rfl, h2⟩, h3⟩)).mono ?_; rintro e w1 ⟨W, v, rfl, hW, ⟨rfl, he1⟩, hk1⟩; have HE1 := Lib.hid he1; have HK1 := Lib.hid hk1; clear he1 hk1 hW)
   go_ret
   exact ⟨rfl, HE1.out, HK1.out⟩
  ·have hok : okI l false = false := by simp only [okI, Bool.not_false, Bool.true_and, decide_eq_false_iff_not]; exact h
   have hv : valI l false = 0 := by simp [valI, hok]
   rw [hv, hok]
   clear hv hok
   go_enter Try.func82, Try.ntmps82
   go_wp2_with (go_at_call 93; refine (look49_no _ b g l HE.out (fun W hW => (int_no W b g l false (HE.out.before hW) (by omega)))).mono ?_; rintro e w1 ⟨rfl, he1, hk1⟩; have HE1 := Lib.hid he1; have HK1 := Lib.hid hk1; clear he1 hk1)
   go_ret
   exact ⟨rfl, HE1.out, HK1.out⟩
 ·have hok : okI l true = false := by simp [okI]
  have hv : valI l true = 0 := by simp [valI, hok]
  rw [hv, hok]
  clear hv hok
  go_enter Try.func82, Try.ntmps82
  go_wp2_with (go_at_call 93; refine (look49_blind _ b g l HE.out _).mono ?_; rintro e w1 ⟨rfl, hk1⟩; have HE1 := Lib.hid (HE.out.before hk1); have HK1 := Lib.hid hk1; clear hk1)
  go_ret
  exact ⟨rfl, HE1.out, HK1.out.mono fun _ _ h => h.elim⟩
theorem eyeText_any (w : World) (b g : Nat) (l : List UInt8) (bl : Bool) (he : EyeAt w b g l bl) :
  Calls Try.prog 81 #[.pointer (some ⟨b, 0, none⟩)] w (Seen w b g (!okT l bl) (.string (valT l bl)) (behind (okT l bl) (4 + leN (l.take 4)) l)) := by
 have HE := Lib.hid he
 clear he
 cases bl
 ·by_cases h : 4 ≤ l.length ∧ leN (l.take 4) ≤ 1048576 ∧ leN (l.take 4) ≤ (l.drop 4).length
  ·have hok : okT l false = true := by simp only [okT, Bool.not_false, Bool.true_and, decide_eq_true_eq]; exact h
   have hv : valT l false = atT l := by simp [valT, hok]
   rw [hv, hok]
   clear hv hok
   go_enter Try.func81, Try.ntmps81
   go_wp2_with (go_at_call 91; refine (look53_yes _ b g l (fun _ v w' => v = .string (atT l) ∧ EyeAt w' b g (l.drop (4 + leN (l.take 4))) false) HE.out (fun W hW => (text_yes W b g l false (HE.out.before hW) h.1 _ rfl h.2.1 h.2.2).mono fun e w' ⟨h1, h2, h3⟩ => ⟨_, h1, ⟨rfl, h2⟩, h3⟩)).mono ?_; rintro e w1 ⟨W, v, rfl, hW, ⟨rfl, he1⟩, hk1⟩; have HE1 := Lib.hid he1; have HK1 := Lib.hid hk1; clear he1 hk1 hW)
   go_ret
   exact ⟨rfl, HE1.out, HK1.out⟩
  ·have hok : okT l false = false := by simp only [okT, Bool.not_false, Bool.true_and, decide_eq_false_iff_not]; exact h
   have hv : valT l false = ⟨#[]⟩ := by simp [valT, hok]
   rw [hv, hok]
   clear hv hok
   go_enter Try.func81, Try.ntmps81
   go_wp2_with (go_at_call 91; refine (look53_no _ b g l HE.out (fun W hW => (text_no W b g l false (HE.out.before hW) _ rfl (by omega)))).mono ?_; rintro e w1 ⟨rfl, he1, hk1⟩; have HE1 := Lib.hid he1; have HK1 := Lib.hid hk1; clear he1 hk1)
   go_ret
   exact ⟨rfl, HE1.out, HK1.out⟩
 ·have hok : okT l true = false := by simp [okT]
  have hv : valT l true = ⟨#[]⟩ := by simp [valT, hok]
  rw [hv, hok]
  clear hv hok
  go_enter Try.func81, Try.ntmps81
  go_wp2_with (go_at_call 91; refine (look53_blind _ b g l HE.out _).mono ?_; rintro e w1 ⟨rfl, hk1⟩; have HE1 := Lib.hid (HE.out.before hk1); have HK1 := Lib.hid hk1; clear hk1)
  go_ret
  exact ⟨rfl, HE1.out, HK1.out.mono fun _ _ h => h.elim⟩
theorem eyeBool_any (w : World) (b g : Nat) (l : List UInt8) (bl : Bool) (he : EyeAt w b g l bl) :
  Calls Try.prog 80 #[.pointer (some ⟨b, 0, none⟩)] w (Seen w b g (!okB l bl) (.bool (valB l bl)) (behind (okB l bl) 1 l)) := by
 have HE := Lib.hid he
 clear he
 cases bl
 ·by_cases h : 1 ≤ l.length ∧ leN (l.take 1) ≤ 1
  ·have hok : okB l false = true := by simp only [okB, Bool.not_false, Bool.true_and, decide_eq_true_eq]; exact h
   have hv : valB l false = decide (leN (l.take 1) = 1) := by simp [valB, hok]
   rw [hv, hok]
   clear hv hok
   go_enter Try.func80, Try.ntmps80
   go_wp2_with (go_at_call 89; refine (look55_yes _ b g l (fun _ v w' => v = .bool (decide (leN (l.take 1) = 1)) ∧ EyeAt w' b g (l.drop 1) false) HE.out (fun W hW => (bool_yes W b g l false (HE.out.before hW) h.1 _ rfl h.2).mono fun e w' ⟨h1, h2, h3⟩ => ⟨_, h1, ⟨rfl, h2⟩, h3⟩)).mono ?_; rintro e w1 ⟨W, v, rfl, hW, ⟨rfl, he1⟩, hk1⟩; have HE1 := Lib.hid he1; have HK1 := Lib.hid hk1; clear he1 hk1 hW)
   go_ret
   exact ⟨rfl, HE1.out, HK1.out⟩
  ·have hok : okB l false = false := by simp only [okB, Bool.not_false, Bool.true_and, decide_eq_false_iff_not]; exact h
   have hv : valB l false = false := by simp [valB, hok]
   rw [hv, hok]
   clear hv hok
   go_enter Try.func80, Try.ntmps80
   go_wp2_with (go_at_call 89; refine (look55_no _ b g l HE.out (fun W hW => (bool_no W b g l false (HE.out.before hW) _ rfl (by omega)))).mono ?_; rintro e w1 ⟨rfl, he1, hk1⟩; have HE1 := Lib.hid he1; have HK1 := Lib.hid hk1; clear he1 hk1)
   go_ret
   exact ⟨rfl, HE1.out, HK1.out⟩
 ·have hok : okB l true = false := by simp [okB]
  have hv : valB l true = false := by simp [valB, hok]
  rw [hv, hok]
  clear hv hok
  go_enter Try.func80, Try.ntmps80
  go_wp2_with (go_at_call 89; refine (look55_blind _ b g l HE.out _).mono ?_; rintro e w1 ⟨rfl, hk1⟩; have HE1 := Lib.hid (HE.out.before hk1); have HK1 := Lib.hid hk1; clear hk1)
  go_ret
  exact ⟨rfl, HE1.out, HK1.out.mono fun _ _ h => h.elim⟩
theorem left_any (w : World) (b g : Nat) (l : List UInt8) (bl : Bool) (he : EyeAt w b g l bl) : Calls Try.prog 79 #[.pointer (some ⟨b, 0, none⟩)] w fun e w' => e = .returned (.int .i64 l.length) ∧ w = w' := by
 obtain ⟨v, hv, hb, _⟩ := he
 have c0 : w.cell? ⟨b, 0, none⟩ = some v := by rw [cell_of_row w _ _ _ _ _ hv]; rfl
 have hmax := hb.len
 have hf : ∃ a c, v = .slice a l.length c := by
  rcases hb with ⟨rfl, rfl⟩ | ⟨o, cap, rfl, _⟩
  ·exact ⟨_, _, rfl⟩
  ·exact ⟨_, _, rfl⟩
 obtain ⟨a, c, rfl⟩ := hf
 clear hv hb
 go_enter Try.func79, Try.ntmps79
 go_wp2
 go_ret
 exact ⟨rfl, rfl⟩
def sumStep (h : Int) (x : UInt8) : Int := IntKind.u64.wrap (bits .xor .u64 h (IntKind.u64.wrap x.toNat) * 1099511628211)
def sumL (l : List UInt8) : Int := l.foldl sumStep 14695981039346656037
theorem sumL_snoc (l : List UInt8) (x : UInt8) : sumL (l ++ [x]) = sumStep (sumL l) x := by simp [sumL]
theorem take_snoc' {l : List UInt8} {j : Nat} {x : UInt8} (h : l[j]? = some x) : l.take (j + 1) = l.take j ++ [x] := by
 obtain ⟨hj, rfl⟩ := List.getElem?_eq_some_iff.1 h
 exact List.take_succ_eq_append_getElem hj
theorem sum_any (w : World) (g : Nat) (v : Value) (l : List UInt8) (h : Bs w g v l) : Calls Try.prog 71 #[v] w fun e w' => e = .returned (.int .u64 (sumL l)) ∧ w = w' := by
 have HB := Lib.hid h
 have hmax := h.len
 unfold maxLen at hmax
 have hf : ∃ a c, v = .slice a l.length c := by
  rcases h with ⟨rfl, rfl⟩ | ⟨o, cap, rfl, _⟩
  ·exact ⟨_, _, rfl⟩
  ·exact ⟨_, _, rfl⟩
 obtain ⟨a, c, rfl⟩ := hf
 clear h
 go_enter Try.func71, Try.ntmps71
 go_wp2
 go_loop [3, 8] (fun s i => ∃ j : Nat, j ≤ l.length ∧ i = .int .i64 j ∧ s = .int .u64 (sumL (l.take j))) (fun _ i => l.length - (RowKit.intOf i).toNat)
 case atStart => exact ⟨0, Nat.zero_le _, rfl, rfl⟩
 case round =>
  obtain ⟨j, hj, rfl, rfl⟩ := hrel
  by_cases hlt : j < l.length
  ·obtain ⟨x, hx⟩ := get_lt hlt
   rcases HB.out with ⟨_, h0⟩ | ⟨o, cap, he, _, _, h3⟩
   ·rw [h0] at hlt; simp at hlt
   ·simp only [Value.slice.injEq, true_and] at he
    obtain ⟨rfl, rfl⟩ := he
    have cx := h3 j x hx
    unfold bv at cx
    have HS : Hid (sumL (l.take (j + 1)) = sumStep (sumL (l.take j)) x) := by show _ = _; rw [take_snoc' hx, sumL_snoc]
    clear h3 hx
    go_wp2
    go_round
    case rel => exact ⟨j + 1, hlt, by go_num, by rw [HS.out]; rfl⟩
    case measure => simp [RowKit.intOf]; omega
  ·obtain rfl : j = l.length := by omega
   go_wp2
   go_ret
   exact ⟨by first | rfl | rw [List.take_length], rfl⟩

theorem behind_yes (k : Nat) (l : List UInt8) : behind true k l = l.drop k := by simp [behind]
end S2
end Go.Proofs.Ytddbmibfebhmjaa
