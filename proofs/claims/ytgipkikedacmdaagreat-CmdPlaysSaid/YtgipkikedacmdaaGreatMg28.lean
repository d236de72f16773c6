/- The contract of an eye's Stamps. Conditions: as each theorem states. -/
import Derived.Defers
import Derived.Recover
import Derived.Test.YtgipkikedacmdaaGreatMg27
set_option maxRecDepth 100000
set_option maxHeartbeats 16000000
namespace Go.Proofs.YtgipkikedacmdaaGreat
open Go.Lib renaming hid → hI
namespace S2
open Go.RowKit
def Caught (w : World) (b : Nat) (v : Value) (e : Ending) (u : FrameMode) (w' : World) : Prop :=
 e = .returned (.tuple #[]) ∧ u = .panicking [{ v := .iface 231 (.agg #[]), recovered := true }] ∧ w'.heap[b]? = some (.cells #[v, .bool true] 189 (0, 0)) ∧ Keeps (Only b) w w'
theorem mode_same {c : Frame} {u : FrameMode} (h : c.mode = u) : ({ c with mode := u } : Frame) = c := by subst h; rfl
theorem cell_new (w : World) (v : Value) (t : TypeId) : (w.alloc (.cells #[v] t)).cell? ⟨w.heap.size, 0, none⟩ = some v := cell_of_one (heap_alloc_new w _)
theorem two_at (w : World) (o : Obj) (c : Array Value) (t : TypeId) : ((w.alloc o).alloc (.cells c t)).heap[w.heap.size + 1]? = some (.cells c t (0, 0)) := by
 have := heap_alloc_new (w.alloc o) (.cells c t)
 rwa [World.size_alloc] at this
theorem two_cell (w : World) (o : Obj) (v : Value) (t : TypeId) : ((w.alloc o).alloc (.cells #[v] t)).cell? ⟨w.heap.size + 1, 0, none⟩ = some v := by
 have := cell_new (w.alloc o) v t
 rwa [World.size_alloc] at this
theorem three_at (w : World) (o o' : Obj) (v : Value) {t : TypeId} : (((w.alloc o).alloc o').alloc (.cells #[v] t)).cell? ⟨w.heap.size + 2, 0, none⟩ = some v := by
 have := cell_new ((w.alloc o).alloc o') v t
 rwa [World.size_alloc, World.size_alloc] at this
theorem hgl {w w' : World} {b g : Nat} {l : List UInt8} {bl : Bool} (_ : EyeAt w' b g l bl) (hg : l ≠ [] → g < w.heap.size) : l ≠ [] → ¬ w.heap.size ≤ g := fun hne hle => absurd (hg hne) (by omega)
theorem kNew {w : World} {b : Nat} (h : b < w.heap.size) (k : Nat) : ¬ Only b (w.heap.size + k) := fun e => absurd h (by have e' : w.heap.size + k = b := e; omega)
theorem catch_panic49 (w : World) (pf pe b : Nat) (v v0 : Value) (bl : Bool) (hf : w.cell? ⟨pf, 0, none⟩ = some v) (he : w.cell? ⟨pe, 0, none⟩ = some (.pointer (some ⟨b, 0, none⟩))) (hb : w.heap[b]? = some (.cells #[v0, .bool bl] 189 (0, 0))) (hv : ∃ a n c, v = .slice a n c) :
  CallsD Tryz.prog 196 #[.pointer (some ⟨pf, 0, none⟩), .pointer (some ⟨pe, 0, none⟩)] (.panicking blindCh) w (Caught w b v) := by
 obtain ⟨a, n, c, rfl⟩ := hv
 refine callsD_of_wpS Tryz.func196 rfl fun c₀ cs hu => ?_
 unfold blindCh at hu
 apply wpS_seq
 apply wpS_region
 simp [wpOpsS, go_sem, recoverD, hu, Tryz.ntmps196, Exit.thenS]
 have hfr : #[Value.pointer (some { block := pf, off := 0 }), Value.pointer (some { block := pe, off := 0 })] ++ ((Array.replicate 21 undef).setIfInBounds 3 (Value.iface 231 (Value.agg #[]))).setIfInBounds 0 (Value.iface 231 (Value.agg #[])) = #[Value.pointer (some { block := pf, off := 0 }), Value.pointer (some { block := pe, off := 0 }), Value.iface 231 (Value.agg #[]), undef, undef, Value.iface 231 (Value.agg #[]), undef, undef, undef, undef, undef, undef, undef, undef, undef, undef, undef, undef, undef, undef, undef, undef, undef] := by kernel_rfl
 rw [hfr]
 clear hfr
 apply wpS_of_wp
 generalize hQ : (fun (e : Exit) (a' : Act) (w' : World) => bodyPostS _ _ _ _ _ e a' _ w') = Q
 have hne : ∀ w : World, (binOp .eql 20 (.iface 231 (.agg #[])) .nilIface).run Tryz.prog w = .ok (.bool false) w := fun _ => by kernel_rfl
 have hta : ∀ w : World, (Instr.typeAssert (.iface 231 (.agg #[])) 20 231 true).run Tryz.prog w = .ok (.tuple #[.agg #[], .bool true]) w := fun _ => by kernel_rfl
 have c0 : w.cell? ⟨b, 0, none⟩ = some v0 := by rw [cell_of_row w _ _ _ _ _ hb]; rfl
 have c1 : w.cell? ⟨b, 1, none⟩ = some (.bool bl) := by rw [cell_of_row w _ _ _ _ _ hb]; rfl
 have f0 := fun ob => alloc_free c0 (frozen_of_row w b 0 _ _ hb) ob
 have f1 := fun ob => alloc_free c1 (frozen_of_row w b 1 _ _ hb) ob
 have d0 := fun ob => alloc_cell c0 ob
 have d1 := fun ob => alloc_cell c1 ob
 have hf2 := fun ob => alloc_cell hf ob
 have he2 := fun ob => alloc_cell he ob
 have HB := hI hb
 have HQ := hI hQ
 have HU := hI hu
 clear hb hQ hu
 go_wp2
 rw [← HQ.out]
 have hb2 : (w.alloc (Obj.cells #[] 231)).heap[b]? = some (.cells #[v0, .bool bl] 189 (0, 0)) := (Below.heap_alloc _ _ _ (lt_of_block HB.out)).trans HB.out
 exact ⟨rfl, _, rfl, .tuple #[], results_none rfl _ _ _, rfl, rfl, block_setCell (block_setCell hb2 _) _, kSet (S := Only b) (p := ⟨b, 1, none⟩) (kSet (S := Only b) (p := ⟨b, 0, none⟩) (kAlloc (Keeps.refl _ _) _) (.inl rfl) _) (.inl rfl) _⟩
theorem catch_idle49 (w : World) (pf pe : Nat) : CallsD Tryz.prog 196 #[.pointer (some ⟨pf, 0, none⟩), .pointer (some ⟨pe, 0, none⟩)] .returning w fun e u' w' => e = .returned (.tuple #[]) ∧ u' = .returning ∧ w = w' := by
 refine callsD_of_wpS Tryz.func196 rfl fun c₀ cs hu => ?_
 apply wpS_seq
 apply wpS_region
 simp [wpOpsS, go_sem, recoverD, hu, Tryz.ntmps196, Exit.thenS]
 have hfr : #[Value.pointer (some { block := pf, off := 0 }), Value.pointer (some { block := pe, off := 0 })] ++ ((Array.replicate 21 undef).setIfInBounds 3 (Value.nilIface)).setIfInBounds 0 (Value.nilIface) = #[Value.pointer (some { block := pf, off := 0 }), Value.pointer (some { block := pe, off := 0 }), Value.nilIface, undef, undef, Value.nilIface, undef, undef, undef, undef, undef, undef, undef, undef, undef, undef, undef, undef, undef, undef, undef, undef, undef] := by kernel_rfl
 rw [hfr]
 clear hfr
 apply wpS_of_wp
 generalize hQ : (fun (e : Exit) (a' : Act) (w' : World) => bodyPostS _ _ _ _ _ e a' _ w') = Q
 have hne : ∀ w : World, (binOp .eql 20 .nilIface .nilIface).run Tryz.prog w = .ok (.bool true) w := fun _ => by kernel_rfl
 have HQ := hI hQ
 have HU := hI hu
 clear hQ hu
 go_wp2
 rw [← HQ.out]
 exact ⟨rfl, .returning, by rw [mode_same HU.out], .tuple #[], results_none rfl _ _ _, rfl, rfl, rfl⟩
theorem catch_panic53 (w : World) (pf pe b : Nat) (v v0 : Value) (bl : Bool) (hf : w.cell? ⟨pf, 0, none⟩ = some v) (he : w.cell? ⟨pe, 0, none⟩ = some (.pointer (some ⟨b, 0, none⟩))) (hb : w.heap[b]? = some (.cells #[v0, .bool bl] 189 (0, 0))) (hv : ∃ a n c, v = .slice a n c) :
  CallsD Tryz.prog 218 #[.pointer (some ⟨pf, 0, none⟩), .pointer (some ⟨pe, 0, none⟩)] (.panicking blindCh) w (Caught w b v) := by
 obtain ⟨a, n, c, rfl⟩ := hv
 refine callsD_of_wpS Tryz.func218 rfl fun c₀ cs hu => ?_
 unfold blindCh at hu
 apply wpS_seq
 apply wpS_region
 simp [wpOpsS, go_sem, recoverD, hu, Tryz.ntmps218, Exit.thenS]
 have hfr : #[Value.pointer (some { block := pf, off := 0 }), Value.pointer (some { block := pe, off := 0 })] ++ ((Array.replicate 21 undef).setIfInBounds 3 (Value.iface 231 (Value.agg #[]))).setIfInBounds 0 (Value.iface 231 (Value.agg #[])) = #[Value.pointer (some { block := pf, off := 0 }), Value.pointer (some { block := pe, off := 0 }), Value.iface 231 (Value.agg #[]), undef, undef, Value.iface 231 (Value.agg #[]), undef, undef, undef, undef, undef, undef, undef, undef, undef, undef, undef, undef, undef, undef, undef, undef, undef] := by kernel_rfl
 rw [hfr]
 clear hfr
 apply wpS_of_wp
 generalize hQ : (fun (e : Exit) (a' : Act) (w' : World) => bodyPostS _ _ _ _ _ e a' _ w') = Q
 have hne : ∀ w : World, (binOp .eql 20 (.iface 231 (.agg #[])) .nilIface).run Tryz.prog w = .ok (.bool false) w := fun _ => by kernel_rfl
 have hta : ∀ w : World, (Instr.typeAssert (.iface 231 (.agg #[])) 20 231 true).run Tryz.prog w = .ok (.tuple #[.agg #[], .bool true]) w := fun _ => by kernel_rfl
 have c0 : w.cell? ⟨b, 0, none⟩ = some v0 := by rw [cell_of_row w _ _ _ _ _ hb]; rfl
 have c1 : w.cell? ⟨b, 1, none⟩ = some (.bool bl) := by rw [cell_of_row w _ _ _ _ _ hb]; rfl
 have f0 := fun ob => alloc_free c0 (frozen_of_row w b 0 _ _ hb) ob
 have f1 := fun ob => alloc_free c1 (frozen_of_row w b 1 _ _ hb) ob
 have d0 := fun ob => alloc_cell c0 ob
 have d1 := fun ob => alloc_cell c1 ob
 have hf2 := fun ob => alloc_cell hf ob
 have he2 := fun ob => alloc_cell he ob
 have HB := hI hb
 have HQ := hI hQ
 have HU := hI hu
 clear hb hQ hu
 go_wp2
 rw [← HQ.out]
 have hb2 : (w.alloc (Obj.cells #[] 231)).heap[b]? = some (.cells #[v0, .bool bl] 189 (0, 0)) := (Below.heap_alloc _ _ _ (lt_of_block HB.out)).trans HB.out
 exact ⟨rfl, _, rfl, .tuple #[], results_none rfl _ _ _, rfl, rfl, block_setCell (block_setCell hb2 _) _, kSet (S := Only b) (p := ⟨b, 1, none⟩) (kSet (S := Only b) (p := ⟨b, 0, none⟩) (kAlloc (Keeps.refl _ _) _) (.inl rfl) _) (.inl rfl) _⟩
theorem catch_idle53 (w : World) (pf pe : Nat) : CallsD Tryz.prog 218 #[.pointer (some ⟨pf, 0, none⟩), .pointer (some ⟨pe, 0, none⟩)] .returning w fun e u' w' => e = .returned (.tuple #[]) ∧ u' = .returning ∧ w = w' := by
 refine callsD_of_wpS Tryz.func218 rfl fun c₀ cs hu => ?_
 apply wpS_seq
 apply wpS_region
 simp [wpOpsS, go_sem, recoverD, hu, Tryz.ntmps218, Exit.thenS]
 have hfr : #[Value.pointer (some { block := pf, off := 0 }), Value.pointer (some { block := pe, off := 0 })] ++ ((Array.replicate 21 undef).setIfInBounds 3 (Value.nilIface)).setIfInBounds 0 (Value.nilIface) = #[Value.pointer (some { block := pf, off := 0 }), Value.pointer (some { block := pe, off := 0 }), Value.nilIface, undef, undef, Value.nilIface, undef, undef, undef, undef, undef, undef, undef, undef, undef, undef, undef, undef, undef, undef, undef, undef, undef] := by kernel_rfl
 rw [hfr]
 clear hfr
 apply wpS_of_wp
 generalize hQ : (fun (e : Exit) (a' : Act) (w' : World) => bodyPostS _ _ _ _ _ e a' _ w') = Q
 have hne : ∀ w : World, (binOp .eql 20 .nilIface .nilIface).run Tryz.prog w = .ok (.bool true) w := fun _ => by kernel_rfl
 have HQ := hI hQ
 have HU := hI hu
 clear hQ hu
 go_wp2
 rw [← HQ.out]
 exact ⟨rfl, .returning, by rw [mode_same HU.out], .tuple #[], results_none rfl _ _ _, rfl, rfl, rfl⟩
theorem catch_panic55 (w : World) (pf pe b : Nat) (v v0 : Value) (bl : Bool) (hf : w.cell? ⟨pf, 0, none⟩ = some v) (he : w.cell? ⟨pe, 0, none⟩ = some (.pointer (some ⟨b, 0, none⟩))) (hb : w.heap[b]? = some (.cells #[v0, .bool bl] 189 (0, 0))) (hv : ∃ a n c, v = .slice a n c) :
  CallsD Tryz.prog 203 #[.pointer (some ⟨pf, 0, none⟩), .pointer (some ⟨pe, 0, none⟩)] (.panicking blindCh) w (Caught w b v) := by
 obtain ⟨a, n, c, rfl⟩ := hv
 refine callsD_of_wpS Tryz.func203 rfl fun c₀ cs hu => ?_
 unfold blindCh at hu
 apply wpS_seq
 apply wpS_region
 simp [wpOpsS, go_sem, recoverD, hu, Tryz.ntmps203, Exit.thenS]
 have hfr : #[Value.pointer (some { block := pf, off := 0 }), Value.pointer (some { block := pe, off := 0 })] ++ ((Array.replicate 21 undef).setIfInBounds 3 (Value.iface 231 (Value.agg #[]))).setIfInBounds 0 (Value.iface 231 (Value.agg #[])) = #[Value.pointer (some { block := pf, off := 0 }), Value.pointer (some { block := pe, off := 0 }), Value.iface 231 (Value.agg #[]), undef, undef, Value.iface 231 (Value.agg #[]), undef, undef, undef, undef, undef, undef, undef, undef, undef, undef, undef, undef, undef, undef, undef, undef, undef] := by kernel_rfl
 rw [hfr]
 clear hfr
 apply wpS_of_wp
 generalize hQ : (fun (e : Exit) (a' : Act) (w' : World) => bodyPostS _ _ _ _ _ e a' _ w') = Q
 have hne : ∀ w : World, (binOp .eql 20 (.iface 231 (.agg #[])) .nilIface).run Tryz.prog w = .ok (.bool false) w := fun _ => by kernel_rfl
 have hta : ∀ w : World, (Instr.typeAssert (.iface 231 (.agg #[])) 20 231 true).run Tryz.prog w = .ok (.tuple #[.agg #[], .bool true]) w := fun _ => by kernel_rfl
 have c0 : w.cell? ⟨b, 0, none⟩ = some v0 := by rw [cell_of_row w _ _ _ _ _ hb]; rfl
 have c1 : w.cell? ⟨b, 1, none⟩ = some (.bool bl) := by rw [cell_of_row w _ _ _ _ _ hb]; rfl
 have f0 := fun ob => alloc_free c0 (frozen_of_row w b 0 _ _ hb) ob
 have f1 := fun ob => alloc_free c1 (frozen_of_row w b 1 _ _ hb) ob
 have d0 := fun ob => alloc_cell c0 ob
 have d1 := fun ob => alloc_cell c1 ob
 have hf2 := fun ob => alloc_cell hf ob
 have he2 := fun ob => alloc_cell he ob
 have HB := hI hb
 have HQ := hI hQ
 have HU := hI hu
 clear hb hQ hu
 go_wp2
 rw [← HQ.out]
 have hb2 : (w.alloc (Obj.cells #[] 231)).heap[b]? = some (.cells #[v0, .bool bl] 189 (0, 0)) := (Below.heap_alloc _ _ _ (lt_of_block HB.out)).trans HB.out
 exact ⟨rfl, _, rfl, .tuple #[], results_none rfl _ _ _, rfl, rfl, block_setCell (block_setCell hb2 _) _, kSet (S := Only b) (p := ⟨b, 1, none⟩) (kSet (S := Only b) (p := ⟨b, 0, none⟩) (kAlloc (Keeps.refl _ _) _) (.inl rfl) _) (.inl rfl) _⟩
theorem catch_idle55 (w : World) (pf pe : Nat) : CallsD Tryz.prog 203 #[.pointer (some ⟨pf, 0, none⟩), .pointer (some ⟨pe, 0, none⟩)] .returning w fun e u' w' => e = .returned (.tuple #[]) ∧ u' = .returning ∧ w = w' := by
 refine callsD_of_wpS Tryz.func203 rfl fun c₀ cs hu => ?_
 apply wpS_seq
 apply wpS_region
 simp [wpOpsS, go_sem, recoverD, hu, Tryz.ntmps203, Exit.thenS]
 have hfr : #[Value.pointer (some { block := pf, off := 0 }), Value.pointer (some { block := pe, off := 0 })] ++ ((Array.replicate 21 undef).setIfInBounds 3 (Value.nilIface)).setIfInBounds 0 (Value.nilIface) = #[Value.pointer (some { block := pf, off := 0 }), Value.pointer (some { block := pe, off := 0 }), Value.nilIface, undef, undef, Value.nilIface, undef, undef, undef, undef, undef, undef, undef, undef, undef, undef, undef, undef, undef, undef, undef, undef, undef] := by kernel_rfl
 rw [hfr]
 clear hfr
 apply wpS_of_wp
 generalize hQ : (fun (e : Exit) (a' : Act) (w' : World) => bodyPostS _ _ _ _ _ e a' _ w') = Q
 have hne : ∀ w : World, (binOp .eql 20 .nilIface .nilIface).run Tryz.prog w = .ok (.bool true) w := fun _ => by kernel_rfl
 have HQ := hI hQ
 have HU := hI hu
 clear hQ hu
 go_wp2
 rw [← HQ.out]
 exact ⟨rfl, .returning, by rw [mode_same HU.out], .tuple #[], results_none rfl _ _ _, rfl, rfl, rfl⟩
theorem catch_panic57 (w : World) (pf pe b : Nat) (v v0 : Value) (bl : Bool) (hf : w.cell? ⟨pf, 0, none⟩ = some v) (he : w.cell? ⟨pe, 0, none⟩ = some (.pointer (some ⟨b, 0, none⟩))) (hb : w.heap[b]? = some (.cells #[v0, .bool bl] 189 (0, 0))) (hv : ∃ a n c, v = .slice a n c) :
  CallsD Tryz.prog 200 #[.pointer (some ⟨pf, 0, none⟩), .pointer (some ⟨pe, 0, none⟩)] (.panicking blindCh) w (Caught w b v) := by
 obtain ⟨a, n, c, rfl⟩ := hv
 refine callsD_of_wpS Tryz.func200 rfl fun c₀ cs hu => ?_
 unfold blindCh at hu
 apply wpS_seq
 apply wpS_region
 simp [wpOpsS, go_sem, recoverD, hu, Tryz.ntmps200, Exit.thenS]
 have hfr : #[Value.pointer (some { block := pf, off := 0 }), Value.pointer (some { block := pe, off := 0 })] ++ ((Array.replicate 21 undef).setIfInBounds 3 (Value.iface 231 (Value.agg #[]))).setIfInBounds 0 (Value.iface 231 (Value.agg #[])) = #[Value.pointer (some { block := pf, off := 0 }), Value.pointer (some { block := pe, off := 0 }), Value.iface 231 (Value.agg #[]), undef, undef, Value.iface 231 (Value.agg #[]), undef, undef, undef, undef, undef, undef, undef, undef, undef, undef, undef, undef, undef, undef, undef, undef, undef] := by kernel_rfl
 rw [hfr]
 clear hfr
 apply wpS_of_wp
 generalize hQ : (fun (e : Exit) (a' : Act) (w' : World) => bodyPostS _ _ _ _ _ e a' _ w') = Q
 have hne : ∀ w : World, (binOp .eql 20 (.iface 231 (.agg #[])) .nilIface).run Tryz.prog w = .ok (.bool false) w := fun _ => by kernel_rfl
 have hta : ∀ w : World, (Instr.typeAssert (.iface 231 (.agg #[])) 20 231 true).run Tryz.prog w = .ok (.tuple #[.agg #[], .bool true]) w := fun _ => by kernel_rfl
 have c0 : w.cell? ⟨b, 0, none⟩ = some v0 := by rw [cell_of_row w _ _ _ _ _ hb]; rfl
 have c1 : w.cell? ⟨b, 1, none⟩ = some (.bool bl) := by rw [cell_of_row w _ _ _ _ _ hb]; rfl
 have f0 := fun ob => alloc_free c0 (frozen_of_row w b 0 _ _ hb) ob
 have f1 := fun ob => alloc_free c1 (frozen_of_row w b 1 _ _ hb) ob
 have d0 := fun ob => alloc_cell c0 ob
 have d1 := fun ob => alloc_cell c1 ob
 have hf2 := fun ob => alloc_cell hf ob
 have he2 := fun ob => alloc_cell he ob
 have HB := hI hb
 have HQ := hI hQ
 have HU := hI hu
 clear hb hQ hu
 go_wp2
 rw [← HQ.out]
 have hb2 : (w.alloc (Obj.cells #[] 231)).heap[b]? = some (.cells #[v0, .bool bl] 189 (0, 0)) := (Below.heap_alloc _ _ _ (lt_of_block HB.out)).trans HB.out
 exact ⟨rfl, _, rfl, .tuple #[], results_none rfl _ _ _, rfl, rfl, block_setCell (block_setCell hb2 _) _, kSet (S := Only b) (p := ⟨b, 1, none⟩) (kSet (S := Only b) (p := ⟨b, 0, none⟩) (kAlloc (Keeps.refl _ _) _) (.inl rfl) _) (.inl rfl) _⟩
theorem catch_idle57 (w : World) (pf pe : Nat) : CallsD Tryz.prog 200 #[.pointer (some ⟨pf, 0, none⟩), .pointer (some ⟨pe, 0, none⟩)] .returning w fun e u' w' => e = .returned (.tuple #[]) ∧ u' = .returning ∧ w = w' := by
 refine callsD_of_wpS Tryz.func200 rfl fun c₀ cs hu => ?_
 apply wpS_seq
 apply wpS_region
 simp [wpOpsS, go_sem, recoverD, hu, Tryz.ntmps200, Exit.thenS]
 have hfr : #[Value.pointer (some { block := pf, off := 0 }), Value.pointer (some { block := pe, off := 0 })] ++ ((Array.replicate 21 undef).setIfInBounds 3 (Value.nilIface)).setIfInBounds 0 (Value.nilIface) = #[Value.pointer (some { block := pf, off := 0 }), Value.pointer (some { block := pe, off := 0 }), Value.nilIface, undef, undef, Value.nilIface, undef, undef, undef, undef, undef, undef, undef, undef, undef, undef, undef, undef, undef, undef, undef, undef, undef] := by kernel_rfl
 rw [hfr]
 clear hfr
 apply wpS_of_wp
 generalize hQ : (fun (e : Exit) (a' : Act) (w' : World) => bodyPostS _ _ _ _ _ e a' _ w') = Q
 have hne : ∀ w : World, (binOp .eql 20 .nilIface .nilIface).run Tryz.prog w = .ok (.bool true) w := fun _ => by kernel_rfl
 have HQ := hI hQ
 have HU := hI hu
 clear hQ hu
 go_wp2
 rw [← HQ.out]
 exact ⟨rfl, .returning, by rw [mode_same HU.out], .tuple #[], results_none rfl _ _ _, rfl, rfl, rfl⟩
theorem catch_panic59 (w : World) (pf pe b : Nat) (v v0 : Value) (bl : Bool) (hf : w.cell? ⟨pf, 0, none⟩ = some v) (he : w.cell? ⟨pe, 0, none⟩ = some (.pointer (some ⟨b, 0, none⟩))) (hb : w.heap[b]? = some (.cells #[v0, .bool bl] 189 (0, 0))) (hv : ∃ a n c, v = .slice a n c) :
  CallsD Tryz.prog 219 #[.pointer (some ⟨pf, 0, none⟩), .pointer (some ⟨pe, 0, none⟩)] (.panicking blindCh) w (Caught w b v) := by
 obtain ⟨a, n, c, rfl⟩ := hv
 refine callsD_of_wpS Tryz.func219 rfl fun c₀ cs hu => ?_
 unfold blindCh at hu
 apply wpS_seq
 apply wpS_region
 simp [wpOpsS, go_sem, recoverD, hu, Tryz.ntmps219, Exit.thenS]
 have hfr : #[Value.pointer (some { block := pf, off := 0 }), Value.pointer (some { block := pe, off := 0 })] ++ ((Array.replicate 21 undef).setIfInBounds 3 (Value.iface 231 (Value.agg #[]))).setIfInBounds 0 (Value.iface 231 (Value.agg #[])) = #[Value.pointer (some { block := pf, off := 0 }), Value.pointer (some { block := pe, off := 0 }), Value.iface 231 (Value.agg #[]), undef, undef, Value.iface 231 (Value.agg #[]), undef, undef, undef, undef, undef, undef, undef, undef, undef, undef, undef, undef, undef, undef, undef, undef, undef] := by kernel_rfl
 rw [hfr]
 clear hfr
 apply wpS_of_wp
 generalize hQ : (fun (e : Exit) (a' : Act) (w' : World) => bodyPostS _ _ _ _ _ e a' _ w') = Q
 have hne : ∀ w : World, (binOp .eql 20 (.iface 231 (.agg #[])) .nilIface).run Tryz.prog w = .ok (.bool false) w := fun _ => by kernel_rfl
 have hta : ∀ w : World, (Instr.typeAssert (.iface 231 (.agg #[])) 20 231 true).run Tryz.prog w = .ok (.tuple #[.agg #[], .bool true]) w := fun _ => by kernel_rfl
 have c0 : w.cell? ⟨b, 0, none⟩ = some v0 := by rw [cell_of_row w _ _ _ _ _ hb]; rfl
 have c1 : w.cell? ⟨b, 1, none⟩ = some (.bool bl) := by rw [cell_of_row w _ _ _ _ _ hb]; rfl
 have f0 := fun ob => alloc_free c0 (frozen_of_row w b 0 _ _ hb) ob
 have f1 := fun ob => alloc_free c1 (frozen_of_row w b 1 _ _ hb) ob
 have d0 := fun ob => alloc_cell c0 ob
 have d1 := fun ob => alloc_cell c1 ob
 have hf2 := fun ob => alloc_cell hf ob
 have he2 := fun ob => alloc_cell he ob
 have HB := hI hb
 have HQ := hI hQ
 have HU := hI hu
 clear hb hQ hu
 go_wp2
 rw [← HQ.out]
 have hb2 : (w.alloc (Obj.cells #[] 231)).heap[b]? = some (.cells #[v0, .bool bl] 189 (0, 0)) := (Below.heap_alloc _ _ _ (lt_of_block HB.out)).trans HB.out
 exact ⟨rfl, _, rfl, .tuple #[], results_none rfl _ _ _, rfl, rfl, block_setCell (block_setCell hb2 _) _, kSet (S := Only b) (p := ⟨b, 1, none⟩) (kSet (S := Only b) (p := ⟨b, 0, none⟩) (kAlloc (Keeps.refl _ _) _) (.inl rfl) _) (.inl rfl) _⟩
theorem catch_idle59 (w : World) (pf pe : Nat) : CallsD Tryz.prog 219 #[.pointer (some ⟨pf, 0, none⟩), .pointer (some ⟨pe, 0, none⟩)] .returning w fun e u' w' => e = .returned (.tuple #[]) ∧ u' = .returning ∧ w = w' := by
 refine callsD_of_wpS Tryz.func219 rfl fun c₀ cs hu => ?_
 apply wpS_seq
 apply wpS_region
 simp [wpOpsS, go_sem, recoverD, hu, Tryz.ntmps219, Exit.thenS]
 have hfr : #[Value.pointer (some { block := pf, off := 0 }), Value.pointer (some { block := pe, off := 0 })] ++ ((Array.replicate 21 undef).setIfInBounds 3 (Value.nilIface)).setIfInBounds 0 (Value.nilIface) = #[Value.pointer (some { block := pf, off := 0 }), Value.pointer (some { block := pe, off := 0 }), Value.nilIface, undef, undef, Value.nilIface, undef, undef, undef, undef, undef, undef, undef, undef, undef, undef, undef, undef, undef, undef, undef, undef, undef] := by kernel_rfl
 rw [hfr]
 clear hfr
 apply wpS_of_wp
 generalize hQ : (fun (e : Exit) (a' : Act) (w' : World) => bodyPostS _ _ _ _ _ e a' _ w') = Q
 have hne : ∀ w : World, (binOp .eql 20 .nilIface .nilIface).run Tryz.prog w = .ok (.bool true) w := fun _ => by kernel_rfl
 have HQ := hI hQ
 have HU := hI hu
 clear hQ hu
 go_wp2
 rw [← HQ.out]
 exact ⟨rfl, .returning, by rw [mode_same HU.out], .tuple #[], results_none rfl _ _ _, rfl, rfl, rfl⟩
theorem look49_yes (w : World) (b g : Nat) (l : List UInt8) (X : World → Value → World → Prop) (he : EyeAt w b g l false)
  (hc : ∀ W, Keeps (fun _ => False) w W → Calls Tryz.prog 160 #[.pointer (some ⟨b, 0, none⟩)] W fun e w' => ∃ v, e = .returned v ∧ X W v w' ∧ Keeps (Only b) W w') :
  Calls Tryz.prog 159 #[.pointer (some ⟨b, 0, none⟩), .func (.func 160) #[] #[]] w fun e w' => ∃ W v, e = .returned v ∧ Keeps (fun _ => False) w W ∧ X W v w' ∧ Keeps (Only b) w w' := by
 have HC := hI hc
 clear hc
 have HE := hI he
 obtain ⟨v, hv, hb, hne⟩ := he
 obtain ⟨a, n, c, rfl⟩ := hb.form
 have c0 : w.cell? ⟨b, 0, none⟩ = some (.slice a n c) := by rw [cell_of_row w _ _ _ _ _ hv]; rfl
 have c1 : w.cell? ⟨b, 1, none⟩ = some (.bool false) := by rw [cell_of_row w _ _ _ _ _ hv]; rfl
 have d0 := fun ob => alloc_cell c0 ob
 have d1 := fun ob => alloc_cell c1 ob
 have e0 := fun ob => fun ob' => alloc_cell (alloc_cell c0 ob) ob'
 have e1 := fun ob => fun ob' => alloc_cell (alloc_cell c1 ob) ob'
 have HB := hI hb
 have HV := hI hv
 have HN := hI hne
 clear hv hb hne
 have hmf : ∀ (fn : Fn) (first cap : Array Value) (w : World), (Instr.makeFunc fn first cap).run Tryz.prog w = .ok (.func fn first cap) w := fun _ _ _ _ => rfl
 go_enter_defers Tryz.func159, Tryz.ntmps159
 go_wp2_with fail
 have hK : Keeps (fun _ => False) w ((w.alloc (Obj.cells #[Value.pointer (some { block := b, off := 0 })] 140)).alloc (Obj.cells #[Value.slice a n c] 32)) := (by repeat (first | with_reducible exact Keeps.refl _ _ | with_reducible refine kAlloc ?_ _ | with_reducible refine kDrew ?_))
 generalize (w.alloc (Obj.cells #[Value.pointer (some { block := b, off := 0 })] 140)).alloc (Obj.cells #[Value.slice a n c] 32) = W at *
 refine (HC.out W hK).mono ?_
 rintro e w1 ⟨v, rfl, hx, hk1⟩
 have HX := hI hx
 have HK0 := hI hK
 have HK1 := hI hk1
 clear hx hK hk1
 go_wp2
 refine leaves_cons (f := 196) (args := #[.pointer (some ⟨w.heap.size + 1, 0, none⟩), .pointer (some ⟨w.heap.size, 0, none⟩)]) (by simp) (by simp [go_sem]) ?_
 refine (catch_idle49 w1 (w.heap.size + 1) (w.heap.size)).mono ?_
 rintro e u' w'' ⟨rfl, rfl, rfl⟩
 exact ⟨_, results_tmp rfl _ _ _, W, v, rfl, HK0.out, HX.out, (HK0.out.mono fun _ _ h => h.elim).then HK1.out⟩
theorem look49_no (w : World) (b g : Nat) (l : List UInt8) (he : EyeAt w b g l false)
  (hc : ∀ W, Keeps (fun _ => False) w W → Calls Tryz.prog 160 #[.pointer (some ⟨b, 0, none⟩)] W (Blinded W b g false)) :
  Calls Tryz.prog 159 #[.pointer (some ⟨b, 0, none⟩), .func (.func 160) #[] #[]] w fun e w' => e = .returned (.int .i64 0) ∧ EyeAt w' b g l true ∧ Keeps (Only b) w w' := by
 have HC := hI hc
 clear hc
 have HE := hI he
 obtain ⟨v, hv, hb, hne⟩ := he
 obtain ⟨a, n, c, rfl⟩ := hb.form
 have c0 : w.cell? ⟨b, 0, none⟩ = some (.slice a n c) := by rw [cell_of_row w _ _ _ _ _ hv]; rfl
 have c1 : w.cell? ⟨b, 1, none⟩ = some (.bool false) := by rw [cell_of_row w _ _ _ _ _ hv]; rfl
 have d0 := fun ob => alloc_cell c0 ob
 have d1 := fun ob => alloc_cell c1 ob
 have e0 := fun ob => fun ob' => alloc_cell (alloc_cell c0 ob) ob'
 have e1 := fun ob => fun ob' => alloc_cell (alloc_cell c1 ob) ob'
 have HB := hI hb
 have HV := hI hv
 have HN := hI hne
 clear hv hb hne
 have hmf : ∀ (fn : Fn) (first cap : Array Value) (w : World), (Instr.makeFunc fn first cap).run Tryz.prog w = .ok (.func fn first cap) w := fun _ _ _ _ => rfl
 go_enter_defers Tryz.func159, Tryz.ntmps159
 go_wp2_with fail
 have hK : Keeps (fun _ => False) w ((w.alloc (Obj.cells #[Value.pointer (some { block := b, off := 0 })] 140)).alloc (Obj.cells #[Value.slice a n c] 32)) := (by repeat (first | with_reducible exact Keeps.refl _ _ | with_reducible refine kAlloc ?_ _ | with_reducible refine kDrew ?_))
 have hlt := HE.out.lt
 have hpf : ((w.alloc (Obj.cells #[Value.pointer (some { block := b, off := 0 })] 140)).alloc (Obj.cells #[Value.slice a n c] 32)).cell? ⟨w.heap.size + 1, 0, none⟩ = some (.slice a n c) := two_cell w _ _ _
 have hpe : ((w.alloc (Obj.cells #[Value.pointer (some { block := b, off := 0 })] 140)).alloc (Obj.cells #[Value.slice a n c] 32)).cell? ⟨w.heap.size, 0, none⟩ = some (.pointer (some ⟨b, 0, none⟩)) := alloc_cell (cell_new w _ _) _
 generalize (w.alloc (Obj.cells #[Value.pointer (some { block := b, off := 0 })] 140)).alloc (Obj.cells #[Value.slice a n c] 32) = W at *
 refine (HC.out W hK).mono ?_
 rintro e w1 ⟨rfl, ⟨l', v0, hv0, _, _⟩, hk1⟩
 have HP := hI (hk1.cell (kNew hlt 1) hpf)
 have HPE := hI (hk1.cell (kNew hlt 0) hpe)
 have HV0 := hI hv0
 have HK1 := hI ((hK.mono fun _ _ h => h.elim : Keeps (Only b) w W).then hk1)
 clear hpf hpe hv0 hk1 hK d0 d1 e0 e1 c0 c1
 go_wp2
 refine leaves_cons (f := 196) (args := #[.pointer (some ⟨w.heap.size + 1, 0, none⟩), .pointer (some ⟨w.heap.size, 0, none⟩)]) (by simp) (by simp [go_sem]) ?_
 refine (catch_panic49 w1 (w.heap.size + 1) (w.heap.size) b _ v0 false HP.out HPE.out HV0.out ⟨a, n, c, rfl⟩).mono ?_
 rintro e u' w2 ⟨rfl, rfl, hh, hk2⟩
 exact ⟨_, results_tmp rfl _ _ _, rfl, ⟨_, hh, HB.out.keep (HK1.out.then hk2) (fun h e => HN.out h e), HN.out⟩, HK1.out.then hk2⟩
theorem look49_blind (w : World) (b g : Nat) (l : List UInt8) (he : EyeAt w b g l true) (rd : Value) :
  Calls Tryz.prog 159 #[.pointer (some ⟨b, 0, none⟩), rd] w fun e w' => e = .returned (.int .i64 0) ∧ Keeps (fun _ => False) w w' := by
 obtain ⟨v, hv, hb, hne⟩ := he
 obtain ⟨a, n, c, rfl⟩ := hb.form
 have c0 : w.cell? ⟨b, 0, none⟩ = some (.slice a n c) := by rw [cell_of_row w _ _ _ _ _ hv]; rfl
 have c1 : w.cell? ⟨b, 1, none⟩ = some (.bool true) := by rw [cell_of_row w _ _ _ _ _ hv]; rfl
 have d0 := fun ob => alloc_cell c0 ob
 have d1 := fun ob => alloc_cell c1 ob
 have e0 := fun ob => fun ob' => alloc_cell (alloc_cell c0 ob) ob'
 have e1 := fun ob => fun ob' => alloc_cell (alloc_cell c1 ob) ob'
 have HB := hI hb
 have HV := hI hv
 have HN := hI hne
 clear hv hb hne
 have hmf : ∀ (fn : Fn) (first cap : Array Value) (w : World), (Instr.makeFunc fn first cap).run Tryz.prog w = .ok (.func fn first cap) w := fun _ _ _ _ => rfl
 clear HB HV HN
 go_enter_defers Tryz.func159, Tryz.ntmps159
 go_wp2
 exact ⟨_, results_tmp rfl _ _ _, rfl, (by repeat (first | with_reducible exact Keeps.refl _ _ | with_reducible refine kAlloc ?_ _ | with_reducible refine kDrew ?_))⟩
theorem look53_yes (w : World) (b g : Nat) (l : List UInt8) (X : World → Value → World → Prop) (he : EyeAt w b g l false)
  (hc : ∀ W, Keeps (fun _ => False) w W → Calls Tryz.prog 214 #[.pointer (some ⟨b, 0, none⟩)] W fun e w' => ∃ v, e = .returned v ∧ X W v w' ∧ Keeps (Only b) W w') :
  Calls Tryz.prog 213 #[.pointer (some ⟨b, 0, none⟩), .func (.func 214) #[] #[]] w fun e w' => ∃ W v, e = .returned v ∧ Keeps (fun _ => False) w W ∧ X W v w' ∧ Keeps (Only b) w w' := by
 have HC := hI hc
 clear hc
 have HE := hI he
 obtain ⟨v, hv, hb, hne⟩ := he
 obtain ⟨a, n, c, rfl⟩ := hb.form
 have c0 : w.cell? ⟨b, 0, none⟩ = some (.slice a n c) := by rw [cell_of_row w _ _ _ _ _ hv]; rfl
 have c1 : w.cell? ⟨b, 1, none⟩ = some (.bool false) := by rw [cell_of_row w _ _ _ _ _ hv]; rfl
 have d0 := fun ob => alloc_cell c0 ob
 have d1 := fun ob => alloc_cell c1 ob
 have e0 := fun ob => fun ob' => alloc_cell (alloc_cell c0 ob) ob'
 have e1 := fun ob => fun ob' => alloc_cell (alloc_cell c1 ob) ob'
 have HB := hI hb
 have HV := hI hv
 have HN := hI hne
 clear hv hb hne
 have hmf : ∀ (fn : Fn) (first cap : Array Value) (w : World), (Instr.makeFunc fn first cap).run Tryz.prog w = .ok (.func fn first cap) w := fun _ _ _ _ => rfl
 go_enter_defers Tryz.func213, Tryz.ntmps213
 go_wp2_with fail
 have hK : Keeps (fun _ => False) w ((w.alloc (Obj.cells #[Value.pointer (some { block := b, off := 0 })] 140)).alloc (Obj.cells #[Value.slice a n c] 32)) := (by repeat (first | with_reducible exact Keeps.refl _ _ | with_reducible refine kAlloc ?_ _ | with_reducible refine kDrew ?_))
 generalize (w.alloc (Obj.cells #[Value.pointer (some { block := b, off := 0 })] 140)).alloc (Obj.cells #[Value.slice a n c] 32) = W at *
 refine (HC.out W hK).mono ?_
 rintro e w1 ⟨v, rfl, hx, hk1⟩
 have HX := hI hx
 have HK0 := hI hK
 have HK1 := hI hk1
 clear hx hK hk1
 go_wp2
 refine leaves_cons (f := 218) (args := #[.pointer (some ⟨w.heap.size + 1, 0, none⟩), .pointer (some ⟨w.heap.size, 0, none⟩)]) (by simp) (by simp [go_sem]) ?_
 refine (catch_idle53 w1 (w.heap.size + 1) (w.heap.size)).mono ?_
 rintro e u' w'' ⟨rfl, rfl, rfl⟩
 exact ⟨_, results_tmp rfl _ _ _, W, v, rfl, HK0.out, HX.out, (HK0.out.mono fun _ _ h => h.elim).then HK1.out⟩
theorem look53_no (w : World) (b g : Nat) (l : List UInt8) (he : EyeAt w b g l false)
  (hc : ∀ W, Keeps (fun _ => False) w W → Calls Tryz.prog 214 #[.pointer (some ⟨b, 0, none⟩)] W (Blinded W b g false)) :
  Calls Tryz.prog 213 #[.pointer (some ⟨b, 0, none⟩), .func (.func 214) #[] #[]] w fun e w' => e = .returned (.string ⟨#[]⟩) ∧ EyeAt w' b g l true ∧ Keeps (Only b) w w' := by
 have HC := hI hc
 clear hc
 have HE := hI he
 obtain ⟨v, hv, hb, hne⟩ := he
 obtain ⟨a, n, c, rfl⟩ := hb.form
 have c0 : w.cell? ⟨b, 0, none⟩ = some (.slice a n c) := by rw [cell_of_row w _ _ _ _ _ hv]; rfl
 have c1 : w.cell? ⟨b, 1, none⟩ = some (.bool false) := by rw [cell_of_row w _ _ _ _ _ hv]; rfl
 have d0 := fun ob => alloc_cell c0 ob
 have d1 := fun ob => alloc_cell c1 ob
 have e0 := fun ob => fun ob' => alloc_cell (alloc_cell c0 ob) ob'
 have e1 := fun ob => fun ob' => alloc_cell (alloc_cell c1 ob) ob'
 have HB := hI hb
 have HV := hI hv
 have HN := hI hne
 clear hv hb hne
 have hmf : ∀ (fn : Fn) (first cap : Array Value) (w : World), (Instr.makeFunc fn first cap).run Tryz.prog w = .ok (.func fn first cap) w := fun _ _ _ _ => rfl
 go_enter_defers Tryz.func213, Tryz.ntmps213
 go_wp2_with fail
 have hK : Keeps (fun _ => False) w ((w.alloc (Obj.cells #[Value.pointer (some { block := b, off := 0 })] 140)).alloc (Obj.cells #[Value.slice a n c] 32)) := (by repeat (first | with_reducible exact Keeps.refl _ _ | with_reducible refine kAlloc ?_ _ | with_reducible refine kDrew ?_))
 have hlt := HE.out.lt
 have hpf : ((w.alloc (Obj.cells #[Value.pointer (some { block := b, off := 0 })] 140)).alloc (Obj.cells #[Value.slice a n c] 32)).cell? ⟨w.heap.size + 1, 0, none⟩ = some (.slice a n c) := two_cell w _ _ _
 have hpe : ((w.alloc (Obj.cells #[Value.pointer (some { block := b, off := 0 })] 140)).alloc (Obj.cells #[Value.slice a n c] 32)).cell? ⟨w.heap.size, 0, none⟩ = some (.pointer (some ⟨b, 0, none⟩)) := alloc_cell (cell_new w _ _) _
 generalize (w.alloc (Obj.cells #[Value.pointer (some { block := b, off := 0 })] 140)).alloc (Obj.cells #[Value.slice a n c] 32) = W at *
 refine (HC.out W hK).mono ?_
 rintro e w1 ⟨rfl, ⟨l', v0, hv0, _, _⟩, hk1⟩
 have HP := hI (hk1.cell (kNew hlt 1) hpf)
 have HPE := hI (hk1.cell (kNew hlt 0) hpe)
 have HV0 := hI hv0
 have HK1 := hI ((hK.mono fun _ _ h => h.elim : Keeps (Only b) w W).then hk1)
 clear hpf hpe hv0 hk1 hK d0 d1 e0 e1 c0 c1
 go_wp2
 refine leaves_cons (f := 218) (args := #[.pointer (some ⟨w.heap.size + 1, 0, none⟩), .pointer (some ⟨w.heap.size, 0, none⟩)]) (by simp) (by simp [go_sem]) ?_
 refine (catch_panic53 w1 (w.heap.size + 1) (w.heap.size) b _ v0 false HP.out HPE.out HV0.out ⟨a, n, c, rfl⟩).mono ?_
 rintro e u' w2 ⟨rfl, rfl, hh, hk2⟩
 exact ⟨_, results_tmp rfl _ _ _, rfl, ⟨_, hh, HB.out.keep (HK1.out.then hk2) (fun h e => HN.out h e), HN.out⟩, HK1.out.then hk2⟩
theorem look53_blind (w : World) (b g : Nat) (l : List UInt8) (he : EyeAt w b g l true) (rd : Value) :
  Calls Tryz.prog 213 #[.pointer (some ⟨b, 0, none⟩), rd] w fun e w' => e = .returned (.string ⟨#[]⟩) ∧ Keeps (fun _ => False) w w' := by
 obtain ⟨v, hv, hb, hne⟩ := he
 obtain ⟨a, n, c, rfl⟩ := hb.form
 have c0 : w.cell? ⟨b, 0, none⟩ = some (.slice a n c) := by rw [cell_of_row w _ _ _ _ _ hv]; rfl
 have c1 : w.cell? ⟨b, 1, none⟩ = some (.bool true) := by rw [cell_of_row w _ _ _ _ _ hv]; rfl
 have d0 := fun ob => alloc_cell c0 ob
 have d1 := fun ob => alloc_cell c1 ob
 have e0 := fun ob => fun ob' => alloc_cell (alloc_cell c0 ob) ob'
 have e1 := fun ob => fun ob' => alloc_cell (alloc_cell c1 ob) ob'
 have HB := hI hb
 have HV := hI hv
 have HN := hI hne
 clear hv hb hne
 have hmf : ∀ (fn : Fn) (first cap : Array Value) (w : World), (Instr.makeFunc fn first cap).run Tryz.prog w = .ok (.func fn first cap) w := fun _ _ _ _ => rfl
 clear HB HV HN
 go_enter_defers Tryz.func213, Tryz.ntmps213
 go_wp2
 exact ⟨_, results_tmp rfl _ _ _, rfl, (by repeat (first | with_reducible exact Keeps.refl _ _ | with_reducible refine kAlloc ?_ _ | with_reducible refine kDrew ?_))⟩
theorem look55_yes (w : World) (b g : Nat) (l : List UInt8) (X : World → Value → World → Prop) (he : EyeAt w b g l false)
  (hc : ∀ W, Keeps (fun _ => False) w W → Calls Tryz.prog 175 #[.pointer (some ⟨b, 0, none⟩)] W fun e w' => ∃ v, e = .returned v ∧ X W v w' ∧ Keeps (Only b) W w') :
  Calls Tryz.prog 174 #[.pointer (some ⟨b, 0, none⟩), .func (.func 175) #[] #[]] w fun e w' => ∃ W v, e = .returned v ∧ Keeps (fun _ => False) w W ∧ X W v w' ∧ Keeps (Only b) w w' := by
 have HC := hI hc
 clear hc
 have HE := hI he
 obtain ⟨v, hv, hb, hne⟩ := he
 obtain ⟨a, n, c, rfl⟩ := hb.form
 have c0 : w.cell? ⟨b, 0, none⟩ = some (.slice a n c) := by rw [cell_of_row w _ _ _ _ _ hv]; rfl
 have c1 : w.cell? ⟨b, 1, none⟩ = some (.bool false) := by rw [cell_of_row w _ _ _ _ _ hv]; rfl
 have d0 := fun ob => alloc_cell c0 ob
 have d1 := fun ob => alloc_cell c1 ob
 have e0 := fun ob => fun ob' => alloc_cell (alloc_cell c0 ob) ob'
 have e1 := fun ob => fun ob' => alloc_cell (alloc_cell c1 ob) ob'
 have HB := hI hb
 have HV := hI hv
 have HN := hI hne
 clear hv hb hne
 have hmf : ∀ (fn : Fn) (first cap : Array Value) (w : World), (Instr.makeFunc fn first cap).run Tryz.prog w = .ok (.func fn first cap) w := fun _ _ _ _ => rfl
 go_enter_defers Tryz.func174, Tryz.ntmps174
 go_wp2_with fail
 have hK : Keeps (fun _ => False) w ((w.alloc (Obj.cells #[Value.pointer (some { block := b, off := 0 })] 140)).alloc (Obj.cells #[Value.slice a n c] 32)) := (by repeat (first | with_reducible exact Keeps.refl _ _ | with_reducible refine kAlloc ?_ _ | with_reducible refine kDrew ?_))
 generalize (w.alloc (Obj.cells #[Value.pointer (some { block := b, off := 0 })] 140)).alloc (Obj.cells #[Value.slice a n c] 32) = W at *
 refine (HC.out W hK).mono ?_
 rintro e w1 ⟨v, rfl, hx, hk1⟩
 have HX := hI hx
 have HK0 := hI hK
 have HK1 := hI hk1
 clear hx hK hk1
 go_wp2
 refine leaves_cons (f := 203) (args := #[.pointer (some ⟨w.heap.size + 1, 0, none⟩), .pointer (some ⟨w.heap.size, 0, none⟩)]) (by simp) (by simp [go_sem]) ?_
 refine (catch_idle55 w1 (w.heap.size + 1) (w.heap.size)).mono ?_
 rintro e u' w'' ⟨rfl, rfl, rfl⟩
 exact ⟨_, results_tmp rfl _ _ _, W, v, rfl, HK0.out, HX.out, (HK0.out.mono fun _ _ h => h.elim).then HK1.out⟩
theorem look55_no (w : World) (b g : Nat) (l : List UInt8) (he : EyeAt w b g l false)
  (hc : ∀ W, Keeps (fun _ => False) w W → Calls Tryz.prog 175 #[.pointer (some ⟨b, 0, none⟩)] W (Blinded W b g false)) :
  Calls Tryz.prog 174 #[.pointer (some ⟨b, 0, none⟩), .func (.func 175) #[] #[]] w fun e w' => e = .returned (.bool false) ∧ EyeAt w' b g l true ∧ Keeps (Only b) w w' := by
 have HC := hI hc
 clear hc
 have HE := hI he
 obtain ⟨v, hv, hb, hne⟩ := he
 obtain ⟨a, n, c, rfl⟩ := hb.form
 have c0 : w.cell? ⟨b, 0, none⟩ = some (.slice a n c) := by rw [cell_of_row w _ _ _ _ _ hv]; rfl
 have c1 : w.cell? ⟨b, 1, none⟩ = some (.bool false) := by rw [cell_of_row w _ _ _ _ _ hv]; rfl
 have d0 := fun ob => alloc_cell c0 ob
 have d1 := fun ob => alloc_cell c1 ob
 have e0 := fun ob => fun ob' => alloc_cell (alloc_cell c0 ob) ob'
 have e1 := fun ob => fun ob' => alloc_cell (alloc_cell c1 ob) ob'
 have HB := hI hb
 have HV := hI hv
 have HN := hI hne
 clear hv hb hne
 have hmf : ∀ (fn : Fn) (first cap : Array Value) (w : World), (Instr.makeFunc fn first cap).run Tryz.prog w = .ok (.func fn first cap) w := fun _ _ _ _ => rfl
 go_enter_defers Tryz.func174, Tryz.ntmps174
 go_wp2_with fail
 have hK : Keeps (fun _ => False) w ((w.alloc (Obj.cells #[Value.pointer (some { block := b, off := 0 })] 140)).alloc (Obj.cells #[Value.slice a n c] 32)) := (by repeat (first | with_reducible exact Keeps.refl _ _ | with_reducible refine kAlloc ?_ _ | with_reducible refine kDrew ?_))
 have hlt := HE.out.lt
 have hpf : ((w.alloc (Obj.cells #[Value.pointer (some { block := b, off := 0 })] 140)).alloc (Obj.cells #[Value.slice a n c] 32)).cell? ⟨w.heap.size + 1, 0, none⟩ = some (.slice a n c) := two_cell w _ _ _
 have hpe : ((w.alloc (Obj.cells #[Value.pointer (some { block := b, off := 0 })] 140)).alloc (Obj.cells #[Value.slice a n c] 32)).cell? ⟨w.heap.size, 0, none⟩ = some (.pointer (some ⟨b, 0, none⟩)) := alloc_cell (cell_new w _ _) _
 generalize (w.alloc (Obj.cells #[Value.pointer (some { block := b, off := 0 })] 140)).alloc (Obj.cells #[Value.slice a n c] 32) = W at *
 refine (HC.out W hK).mono ?_
 rintro e w1 ⟨rfl, ⟨l', v0, hv0, _, _⟩, hk1⟩
 have HP := hI (hk1.cell (kNew hlt 1) hpf)
 have HPE := hI (hk1.cell (kNew hlt 0) hpe)
 have HV0 := hI hv0
 have HK1 := hI ((hK.mono fun _ _ h => h.elim : Keeps (Only b) w W).then hk1)
 clear hpf hpe hv0 hk1 hK d0 d1 e0 e1 c0 c1
 go_wp2
 refine leaves_cons (f := 203) (args := #[.pointer (some ⟨w.heap.size + 1, 0, none⟩), .pointer (some ⟨w.heap.size, 0, none⟩)]) (by simp) (by simp [go_sem]) ?_
 refine (catch_panic55 w1 (w.heap.size + 1) (w.heap.size) b _ v0 false HP.out HPE.out HV0.out ⟨a, n, c, rfl⟩).mono ?_
 rintro e u' w2 ⟨rfl, rfl, hh, hk2⟩
 exact ⟨_, results_tmp rfl _ _ _, rfl, ⟨_, hh, HB.out.keep (HK1.out.then hk2) (fun h e => HN.out h e), HN.out⟩, HK1.out.then hk2⟩
theorem look55_blind (w : World) (b g : Nat) (l : List UInt8) (he : EyeAt w b g l true) (rd : Value) :
  Calls Tryz.prog 174 #[.pointer (some ⟨b, 0, none⟩), rd] w fun e w' => e = .returned (.bool false) ∧ Keeps (fun _ => False) w w' := by
 obtain ⟨v, hv, hb, hne⟩ := he
 obtain ⟨a, n, c, rfl⟩ := hb.form
 have c0 : w.cell? ⟨b, 0, none⟩ = some (.slice a n c) := by rw [cell_of_row w _ _ _ _ _ hv]; rfl
 have c1 : w.cell? ⟨b, 1, none⟩ = some (.bool true) := by rw [cell_of_row w _ _ _ _ _ hv]; rfl
 have d0 := fun ob => alloc_cell c0 ob
 have d1 := fun ob => alloc_cell c1 ob
 have e0 := fun ob => fun ob' => alloc_cell (alloc_cell c0 ob) ob'
 have e1 := fun ob => fun ob' => alloc_cell (alloc_cell c1 ob) ob'
 have HB := hI hb
 have HV := hI hv
 have HN := hI hne
 clear hv hb hne
 have hmf : ∀ (fn : Fn) (first cap : Array Value) (w : World), (Instr.makeFunc fn first cap).run Tryz.prog w = .ok (.func fn first cap) w := fun _ _ _ _ => rfl
 clear HB HV HN
 go_enter_defers Tryz.func174, Tryz.ntmps174
 go_wp2
 exact ⟨_, results_tmp rfl _ _ _, rfl, (by repeat (first | with_reducible exact Keeps.refl _ _ | with_reducible refine kAlloc ?_ _ | with_reducible refine kDrew ?_))⟩
theorem look57_yes (w : World) (b g : Nat) (l : List UInt8) (x y : Int) (l' : List UInt8) (hl : l' ≠ [] → l ≠ []) (he : EyeAt w b g l false)
  (hc : ∀ W, Keeps (fun _ => False) w W → Calls Tryz.prog 171 #[.pointer (some ⟨b, 0, none⟩)] W (Seen W b g false (.agg #[.int .i64 x, .int .i64 y]) l')) :
  Calls Tryz.prog 170 #[.pointer (some ⟨b, 0, none⟩), .func (.func 171) #[] #[]] w fun e w' => e = .returned (.agg #[.int .i64 x, .int .i64 y]) ∧ EyeAt w' b g l' false ∧ Keeps (Only b) w w' := by
 have HC := hI hc
 clear hc
 have HE := hI he
 obtain ⟨v, hv, hb, hne⟩ := he
 obtain ⟨a, n, c, rfl⟩ := hb.form
 have c0 : w.cell? ⟨b, 0, none⟩ = some (.slice a n c) := by rw [cell_of_row w _ _ _ _ _ hv]; rfl
 have c1 : w.cell? ⟨b, 1, none⟩ = some (.bool false) := by rw [cell_of_row w _ _ _ _ _ hv]; rfl
 have d0 := fun ob => alloc_cell c0 ob
 have d1 := fun ob => alloc_cell c1 ob
 have e0 := fun ob => fun ob' => alloc_cell (alloc_cell c0 ob) ob'
 have e1 := fun ob => fun ob' => alloc_cell (alloc_cell c1 ob) ob'
 have HB := hI hb
 have HV := hI hv
 have HN := hI hne
 clear hv hb hne
 have hmf : ∀ (fn : Fn) (first cap : Array Value) (w : World), (Instr.makeFunc fn first cap).run Tryz.prog w = .ok (.func fn first cap) w := fun _ _ _ _ => rfl
 go_enter_defers Tryz.func170, Tryz.ntmps170
 go_wp2_with fail
 have hK : Keeps (fun _ => False) w (((w.alloc (Obj.cells #[Value.pointer (some { block := b, off := 0 })] 140)).alloc (Obj.cells #[Value.int IntKind.i64 0, Value.int IntKind.i64 0] 23)).alloc (Obj.cells #[Value.slice a n c] 32)) := (by repeat (first | with_reducible exact Keeps.refl _ _ | with_reducible refine kAlloc ?_ _ | with_reducible refine kDrew ?_))
 have hR : (((w.alloc (Obj.cells #[Value.pointer (some { block := b, off := 0 })] 140)).alloc (Obj.cells #[Value.int IntKind.i64 0, Value.int IntKind.i64 0] 23)).alloc (Obj.cells #[Value.slice a n c] 32)).heap[w.heap.size + 1]? = some (.cells #[.int .i64 0, .int .i64 0] 23 (0, 0)) := (Below.heap_alloc _ _ _ (by simp)).trans (two_at w _ _ _)
 generalize ((w.alloc (Obj.cells #[Value.pointer (some { block := b, off := 0 })] 140)).alloc (Obj.cells #[Value.int IntKind.i64 0, Value.int IntKind.i64 0] 23)).alloc (Obj.cells #[Value.slice a n c] 32) = W at *
 refine (HC.out W hK).mono ?_
 rintro e w1 ⟨rfl, he1, hk1⟩
 have hlt := HE.out.lt
 have hR1 := (hk1.block _ (lt_of_block hR) (kNew hlt 1)).trans hR
 have r0 : w1.cell? ⟨w.heap.size + 1, 0, none⟩ = some (.int .i64 0) := by rw [cell_of_row _ _ _ _ _ _ hR1]; rfl
 have r1 : w1.cell? ⟨w.heap.size + 1, 1, none⟩ = some (.int .i64 0) := by rw [cell_of_row _ _ _ _ _ _ hR1]; rfl
 have rf0 : w1.frozen? ⟨w.heap.size + 1, 0, none⟩ = false := frozen_of_row _ _ _ _ _ hR1
 have rf1 : w1.frozen? ⟨w.heap.size + 1, 1, none⟩ = false := frozen_of_row _ _ _ _ _ hR1
 have hR3 := block_setCell (i := 1) (block_setCell (i := 0) hR1 (.int .i64 x)) (.int .i64 y)
 have s0 : ((w1.setCell ⟨w.heap.size + 1, 0, none⟩ (.int .i64 x)).setCell ⟨w.heap.size + 1, 1, none⟩ (.int .i64 y)).cell? ⟨w.heap.size + 1, 0, none⟩ = some (.int .i64 x) := by rw [cell_of_row _ _ _ _ _ _ hR3]; rfl
 have s1 : ((w1.setCell ⟨w.heap.size + 1, 0, none⟩ (.int .i64 x)).setCell ⟨w.heap.size + 1, 1, none⟩ (.int .i64 y)).cell? ⟨w.heap.size + 1, 1, none⟩ = some (.int .i64 y) := by rw [cell_of_row _ _ _ _ _ _ hR3]; rfl
 have hk0 : Keeps (Only b) w w1 := (hK.mono fun _ _ h => h.elim).then hk1
 have hk3 : Keeps (Only b) w ((w1.setCell ⟨w.heap.size + 1, 0, none⟩ (.int .i64 x)).setCell ⟨w.heap.size + 1, 1, none⟩ (.int .i64 y)) := kSet (kSet hk0 (.inr (Nat.le_add_right _ _)) _) (.inr (Nat.le_add_right _ _)) _
 have hk13 : Keeps (fun x => w.heap.size ≤ x) w1 ((w1.setCell ⟨w.heap.size + 1, 0, none⟩ (.int .i64 x)).setCell ⟨w.heap.size + 1, 1, none⟩ (.int .i64 y)) := kSet (S := fun x => w.heap.size ≤ x) (p := ⟨w.heap.size + 1, 1, none⟩) (kSet (S := fun x => w.heap.size ≤ x) (p := ⟨w.heap.size + 1, 0, none⟩) (Keeps.refl _ _) (.inl (Nat.le_add_right _ _)) _) (.inl (Nat.le_add_right _ _)) _
 have HE3 := hI (he1.keep hk13 (fun h => absurd hlt (by omega)) (hgl he1 (fun h => HE.out.lt2 (hl h))))
 have HK3 := hI hk3
 clear hk3 hk13 hk0 hR3 hR1 hR hK he1 hk1 d0 d1 e0 e1 c0 c1
 go_wp2
 refine leaves_cons (f := 200) (args := #[.pointer (some ⟨w.heap.size + 2, 0, none⟩), .pointer (some ⟨w.heap.size, 0, none⟩)]) (by simp) (by simp [go_sem]) ?_
 refine (catch_idle57 _ (w.heap.size + 2) (w.heap.size)).mono ?_
 rintro e u' w'' ⟨rfl, rfl, rfl⟩
 exact ⟨.agg #[.int .i64 x, .int .i64 y], by simp [results, Tryz.results170, go_sem, s0, s1], rfl, HE3.out, HK3.out⟩
theorem look57_no (w : World) (b g : Nat) (l : List UInt8) (he : EyeAt w b g l false)
  (hc : ∀ W, Keeps (fun _ => False) w W → Calls Tryz.prog 171 #[.pointer (some ⟨b, 0, none⟩)] W (Blinded W b g false)) :
  Calls Tryz.prog 170 #[.pointer (some ⟨b, 0, none⟩), .func (.func 171) #[] #[]] w fun e w' => e = .returned (.agg #[.int .i64 0, .int .i64 0]) ∧ EyeAt w' b g l true ∧ Keeps (Only b) w w' := by
 have HC := hI hc
 clear hc
 have HE := hI he
 obtain ⟨v, hv, hb, hne⟩ := he
 obtain ⟨a, n, c, rfl⟩ := hb.form
 have c0 : w.cell? ⟨b, 0, none⟩ = some (.slice a n c) := by rw [cell_of_row w _ _ _ _ _ hv]; rfl
 have c1 : w.cell? ⟨b, 1, none⟩ = some (.bool false) := by rw [cell_of_row w _ _ _ _ _ hv]; rfl
 have d0 := fun ob => alloc_cell c0 ob
 have d1 := fun ob => alloc_cell c1 ob
 have e0 := fun ob => fun ob' => alloc_cell (alloc_cell c0 ob) ob'
 have e1 := fun ob => fun ob' => alloc_cell (alloc_cell c1 ob) ob'
 have HB := hI hb
 have HV := hI hv
 have HN := hI hne
 clear hv hb hne
 have hmf : ∀ (fn : Fn) (first cap : Array Value) (w : World), (Instr.makeFunc fn first cap).run Tryz.prog w = .ok (.func fn first cap) w := fun _ _ _ _ => rfl
 go_enter_defers Tryz.func170, Tryz.ntmps170
 go_wp2_with fail
 have hK : Keeps (fun _ => False) w (((w.alloc (Obj.cells #[Value.pointer (some { block := b, off := 0 })] 140)).alloc (Obj.cells #[Value.int IntKind.i64 0, Value.int IntKind.i64 0] 23)).alloc (Obj.cells #[Value.slice a n c] 32)) := (by repeat (first | with_reducible exact Keeps.refl _ _ | with_reducible refine kAlloc ?_ _ | with_reducible refine kDrew ?_))
 have hlt := HE.out.lt
 have hR : (((w.alloc (Obj.cells #[Value.pointer (some { block := b, off := 0 })] 140)).alloc (Obj.cells #[Value.int IntKind.i64 0, Value.int IntKind.i64 0] 23)).alloc (Obj.cells #[Value.slice a n c] 32)).heap[w.heap.size + 1]? = some (.cells #[.int .i64 0, .int .i64 0] 23 (0, 0)) := (Below.heap_alloc _ _ _ (by simp)).trans (two_at w _ _ _)
 have hpf : (((w.alloc (Obj.cells #[Value.pointer (some { block := b, off := 0 })] 140)).alloc (Obj.cells #[Value.int IntKind.i64 0, Value.int IntKind.i64 0] 23)).alloc (Obj.cells #[Value.slice a n c] 32)).cell? ⟨w.heap.size + 2, 0, none⟩ = some (.slice a n c) := three_at w _ _ _
 have hpe : (((w.alloc (Obj.cells #[Value.pointer (some { block := b, off := 0 })] 140)).alloc (Obj.cells #[Value.int IntKind.i64 0, Value.int IntKind.i64 0] 23)).alloc (Obj.cells #[Value.slice a n c] 32)).cell? ⟨w.heap.size, 0, none⟩ = some (.pointer (some ⟨b, 0, none⟩)) := alloc_cell (alloc_cell (cell_new w _ _) _) _
 generalize ((w.alloc (Obj.cells #[Value.pointer (some { block := b, off := 0 })] 140)).alloc (Obj.cells #[Value.int IntKind.i64 0, Value.int IntKind.i64 0] 23)).alloc (Obj.cells #[Value.slice a n c] 32) = W at *
 refine (HC.out W hK).mono ?_
 rintro e w1 ⟨rfl, ⟨l', v0, hv0, _, _⟩, hk1⟩
 have hR1 := (hk1.block _ (lt_of_block hR) (kNew hlt 1)).trans hR
 have HP := hI (hk1.cell (kNew hlt 2) hpf)
 have HPE := hI (hk1.cell (kNew hlt 0) hpe)
 have HV0 := hI hv0
 have HK1 := hI ((hK.mono fun _ _ h => h.elim : Keeps (Only b) w W).then hk1)
 clear hpf hpe hv0 hk1 hK d0 d1 e0 e1 c0 c1
 go_wp2
 refine leaves_cons (f := 200) (args := #[.pointer (some ⟨w.heap.size + 2, 0, none⟩), .pointer (some ⟨w.heap.size, 0, none⟩)]) (by simp) (by simp [go_sem]) ?_
 refine (catch_panic57 w1 (w.heap.size + 2) (w.heap.size) b _ v0 false HP.out HPE.out HV0.out ⟨a, n, c, rfl⟩).mono ?_
 rintro e u' w2 ⟨rfl, rfl, hh, hk2⟩
 have z0 : w2.cell? ⟨w.heap.size + 1, 0, none⟩ = some (.int .i64 0) := by rw [cell_of_row _ _ _ _ _ _ ((hk2.block _ (lt_of_block hR1) (kNew hlt 1)).trans hR1)]; rfl
 have z1 : w2.cell? ⟨w.heap.size + 1, 1, none⟩ = some (.int .i64 0) := by rw [cell_of_row _ _ _ _ _ _ ((hk2.block _ (lt_of_block hR1) (kNew hlt 1)).trans hR1)]; rfl
 exact ⟨_, by simp [results, Tryz.results170, go_sem, z0, z1], rfl, ⟨_, hh, HB.out.keep (HK1.out.then hk2) (fun h e => HN.out h e), HN.out⟩, HK1.out.then hk2⟩
theorem look57_blind (w : World) (b g : Nat) (l : List UInt8) (he : EyeAt w b g l true) (rd : Value) :
  Calls Tryz.prog 170 #[.pointer (some ⟨b, 0, none⟩), rd] w fun e w' => e = .returned (.agg #[.int .i64 0, .int .i64 0]) ∧ Keeps (fun _ => False) w w' := by
 obtain ⟨v, hv, hb, hne⟩ := he
 obtain ⟨a, n, c, rfl⟩ := hb.form
 have c0 : w.cell? ⟨b, 0, none⟩ = some (.slice a n c) := by rw [cell_of_row w _ _ _ _ _ hv]; rfl
 have c1 : w.cell? ⟨b, 1, none⟩ = some (.bool true) := by rw [cell_of_row w _ _ _ _ _ hv]; rfl
 have d0 := fun ob => alloc_cell c0 ob
 have d1 := fun ob => alloc_cell c1 ob
 have e0 := fun ob => fun ob' => alloc_cell (alloc_cell c0 ob) ob'
 have e1 := fun ob => fun ob' => alloc_cell (alloc_cell c1 ob) ob'
 have HB := hI hb
 have HV := hI hv
 have HN := hI hne
 clear hv hb hne
 have hmf : ∀ (fn : Fn) (first cap : Array Value) (w : World), (Instr.makeFunc fn first cap).run Tryz.prog w = .ok (.func fn first cap) w := fun _ _ _ _ => rfl
 clear HB HV HN
 go_enter_defers Tryz.func170, Tryz.ntmps170
 go_wp2
 exact ⟨_, by simp [results, Tryz.results170, go_sem], rfl, (by repeat (first | with_reducible exact Keeps.refl _ _ | with_reducible refine kAlloc ?_ _ | with_reducible refine kDrew ?_))⟩
theorem look59_yes (w : World) (b g : Nat) (l : List UInt8) (X : World → Value → World → Prop) (he : EyeAt w b g l false)
  (hc : ∀ W, Keeps (fun _ => False) w W → Calls Tryz.prog 216 #[.pointer (some ⟨b, 0, none⟩)] W fun e w' => ∃ v, e = .returned v ∧ X W v w' ∧ Keeps (Only b) W w') :
  Calls Tryz.prog 215 #[.pointer (some ⟨b, 0, none⟩), .func (.func 216) #[] #[]] w fun e w' => ∃ W v, e = .returned v ∧ Keeps (fun _ => False) w W ∧ X W v w' ∧ Keeps (Only b) w w' := by
 have HC := hI hc
 clear hc
 have HE := hI he
 obtain ⟨v, hv, hb, hne⟩ := he
 obtain ⟨a, n, c, rfl⟩ := hb.form
 have c0 : w.cell? ⟨b, 0, none⟩ = some (.slice a n c) := by rw [cell_of_row w _ _ _ _ _ hv]; rfl
 have c1 : w.cell? ⟨b, 1, none⟩ = some (.bool false) := by rw [cell_of_row w _ _ _ _ _ hv]; rfl
 have d0 := fun ob => alloc_cell c0 ob
 have d1 := fun ob => alloc_cell c1 ob
 have e0 := fun ob => fun ob' => alloc_cell (alloc_cell c0 ob) ob'
 have e1 := fun ob => fun ob' => alloc_cell (alloc_cell c1 ob) ob'
 have HB := hI hb
 have HV := hI hv
 have HN := hI hne
 clear hv hb hne
 have hmf : ∀ (fn : Fn) (first cap : Array Value) (w : World), (Instr.makeFunc fn first cap).run Tryz.prog w = .ok (.func fn first cap) w := fun _ _ _ _ => rfl
 go_enter_defers Tryz.func215, Tryz.ntmps215
 go_wp2_with fail
 have hK : Keeps (fun _ => False) w ((w.alloc (Obj.cells #[Value.pointer (some { block := b, off := 0 })] 140)).alloc (Obj.cells #[Value.slice a n c] 32)) := (by repeat (first | with_reducible exact Keeps.refl _ _ | with_reducible refine kAlloc ?_ _ | with_reducible refine kDrew ?_))
 generalize (w.alloc (Obj.cells #[Value.pointer (some { block := b, off := 0 })] 140)).alloc (Obj.cells #[Value.slice a n c] 32) = W at *
 refine (HC.out W hK).mono ?_
 rintro e w1 ⟨v, rfl, hx, hk1⟩
 have HX := hI hx
 have HK0 := hI hK
 have HK1 := hI hk1
 clear hx hK hk1
 go_wp2
 refine leaves_cons (f := 219) (args := #[.pointer (some ⟨w.heap.size + 1, 0, none⟩), .pointer (some ⟨w.heap.size, 0, none⟩)]) (by simp) (by simp [go_sem]) ?_
 refine (catch_idle59 w1 (w.heap.size + 1) (w.heap.size)).mono ?_
 rintro e u' w'' ⟨rfl, rfl, rfl⟩
 exact ⟨_, results_tmp rfl _ _ _, W, v, rfl, HK0.out, HX.out, (HK0.out.mono fun _ _ h => h.elim).then HK1.out⟩
theorem look59_no (w : World) (b g : Nat) (l : List UInt8) (he : EyeAt w b g l false)
  (hc : ∀ W, Keeps (fun _ => False) w W → Calls Tryz.prog 216 #[.pointer (some ⟨b, 0, none⟩)] W (Blinded W b g false)) :
  Calls Tryz.prog 215 #[.pointer (some ⟨b, 0, none⟩), .func (.func 216) #[] #[]] w fun e w' => e = .returned (.slice none 0 0) ∧ EyeAt w' b g l true ∧ Keeps (Only b) w w' := by
 have HC := hI hc
 clear hc
 have HE := hI he
 obtain ⟨v, hv, hb, hne⟩ := he
 obtain ⟨a, n, c, rfl⟩ := hb.form
 have c0 : w.cell? ⟨b, 0, none⟩ = some (.slice a n c) := by rw [cell_of_row w _ _ _ _ _ hv]; rfl
 have c1 : w.cell? ⟨b, 1, none⟩ = some (.bool false) := by rw [cell_of_row w _ _ _ _ _ hv]; rfl
 have d0 := fun ob => alloc_cell c0 ob
 have d1 := fun ob => alloc_cell c1 ob
 have e0 := fun ob => fun ob' => alloc_cell (alloc_cell c0 ob) ob'
 have e1 := fun ob => fun ob' => alloc_cell (alloc_cell c1 ob) ob'
 have HB := hI hb
 have HV := hI hv
 have HN := hI hne
 clear hv hb hne
 have hmf : ∀ (fn : Fn) (first cap : Array Value) (w : World), (Instr.makeFunc fn first cap).run Tryz.prog w = .ok (.func fn first cap) w := fun _ _ _ _ => rfl
 go_enter_defers Tryz.func215, Tryz.ntmps215
 go_wp2_with fail
 have hK : Keeps (fun _ => False) w ((w.alloc (Obj.cells #[Value.pointer (some { block := b, off := 0 })] 140)).alloc (Obj.cells #[Value.slice a n c] 32)) := (by repeat (first | with_reducible exact Keeps.refl _ _ | with_reducible refine kAlloc ?_ _ | with_reducible refine kDrew ?_))
 have hlt := HE.out.lt
 have hpf : ((w.alloc (Obj.cells #[Value.pointer (some { block := b, off := 0 })] 140)).alloc (Obj.cells #[Value.slice a n c] 32)).cell? ⟨w.heap.size + 1, 0, none⟩ = some (.slice a n c) := two_cell w _ _ _
 have hpe : ((w.alloc (Obj.cells #[Value.pointer (some { block := b, off := 0 })] 140)).alloc (Obj.cells #[Value.slice a n c] 32)).cell? ⟨w.heap.size, 0, none⟩ = some (.pointer (some ⟨b, 0, none⟩)) := alloc_cell (cell_new w _ _) _
 generalize (w.alloc (Obj.cells #[Value.pointer (some { block := b, off := 0 })] 140)).alloc (Obj.cells #[Value.slice a n c] 32) = W at *
 refine (HC.out W hK).mono ?_
 rintro e w1 ⟨rfl, ⟨l', v0, hv0, _, _⟩, hk1⟩
 have HP := hI (hk1.cell (kNew hlt 1) hpf)
 have HPE := hI (hk1.cell (kNew hlt 0) hpe)
 have HV0 := hI hv0
 have HK1 := hI ((hK.mono fun _ _ h => h.elim : Keeps (Only b) w W).then hk1)
 clear hpf hpe hv0 hk1 hK d0 d1 e0 e1 c0 c1
 go_wp2
 refine leaves_cons (f := 219) (args := #[.pointer (some ⟨w.heap.size + 1, 0, none⟩), .pointer (some ⟨w.heap.size, 0, none⟩)]) (by simp) (by simp [go_sem]) ?_
 refine (catch_panic59 w1 (w.heap.size + 1) (w.heap.size) b _ v0 false HP.out HPE.out HV0.out ⟨a, n, c, rfl⟩).mono ?_
 rintro e u' w2 ⟨rfl, rfl, hh, hk2⟩
 exact ⟨_, results_tmp rfl _ _ _, rfl, ⟨_, hh, HB.out.keep (HK1.out.then hk2) (fun h e => HN.out h e), HN.out⟩, HK1.out.then hk2⟩
theorem look59_blind (w : World) (b g : Nat) (l : List UInt8) (he : EyeAt w b g l true) (rd : Value) :
  Calls Tryz.prog 215 #[.pointer (some ⟨b, 0, none⟩), rd] w fun e w' => e = .returned (.slice none 0 0) ∧ Keeps (fun _ => False) w w' := by
 obtain ⟨v, hv, hb, hne⟩ := he
 obtain ⟨a, n, c, rfl⟩ := hb.form
 have c0 : w.cell? ⟨b, 0, none⟩ = some (.slice a n c) := by rw [cell_of_row w _ _ _ _ _ hv]; rfl
 have c1 : w.cell? ⟨b, 1, none⟩ = some (.bool true) := by rw [cell_of_row w _ _ _ _ _ hv]; rfl
 have d0 := fun ob => alloc_cell c0 ob
 have d1 := fun ob => alloc_cell c1 ob
 have e0 := fun ob => fun ob' => alloc_cell (alloc_cell c0 ob) ob'
 have e1 := fun ob => fun ob' => alloc_cell (alloc_cell c1 ob) ob'
 have HB := hI hb
 have HV := hI hv
 have HN := hI hne
 clear hv hb hne
 have hmf : ∀ (fn : Fn) (first cap : Array Value) (w : World), (Instr.makeFunc fn first cap).run Tryz.prog w = .ok (.func fn first cap) w := fun _ _ _ _ => rfl
 clear HB HV HN
 go_enter_defers Tryz.func215, Tryz.ntmps215
 go_wp2
 exact ⟨_, results_tmp rfl _ _ _, rfl, (by repeat (first | with_reducible exact Keeps.refl _ _ | with_reducible refine kAlloc ?_ _ | with_reducible refine kDrew ?_))⟩

def okI (l : List UInt8) (bl : Bool) : Bool := !bl && decide (8 ≤ l.length)
def okT (l : List UInt8) (bl : Bool) : Bool := !bl && decide (4 ≤ l.length ∧ leN (l.take 4) ≤ 1048576 ∧ leN (l.take 4) ≤ (l.drop 4).length)
def okB (l : List UInt8) (bl : Bool) : Bool := !bl && decide (1 ≤ l.length ∧ leN (l.take 1) ≤ 1)
def okS (l : List UInt8) (bl : Bool) : Bool := !bl && decide (16 ≤ l.length)
instance (l : List UInt8) : Decidable (hasL l) := by unfold hasL; infer_instance
def okL (l : List UInt8) (bl : Bool) : Bool := !bl && decide (hasL l)
def behind (ok : Bool) (k : Nat) (l : List UInt8) : List UInt8 := if ok then l.drop k else l
def atT (l : List UInt8) : ByteArray := ⟨((l.drop 4).take (leN (l.take 4))).toArray⟩
def valI (l : List UInt8) (bl : Bool) : Int := if okI l bl then rd l else 0
def valT (l : List UInt8) (bl : Bool) : ByteArray := if okT l bl then atT l else ⟨#[]⟩
def valB (l : List UInt8) (bl : Bool) : Bool := okB l bl && decide (leN (l.take 1) = 1)
def valS (l : List UInt8) (bl : Bool) : Int × Int := if okS l bl then rdS l else (0, 0)
def valL (l : List UInt8) (bl : Bool) : List (Int × Int) := if okL l bl then rdL l (rd l).toNat else []
theorem eyeInt_any (w : World) (b g : Nat) (l : List UInt8) (bl : Bool) (he : EyeAt w b g l bl) :
  Calls Tryz.prog 103 #[.pointer (some ⟨b, 0, none⟩)] w (Seen w b g (!okI l bl) (.int .i64 (valI l bl)) (behind (okI l bl) 8 l)) := by
 have HE := hI he
 clear he
 cases bl
 ·by_cases h : 8 ≤ l.length
  ·have hok : okI l false = true := by simp only [okI, Bool.not_false, Bool.true_and, decide_eq_true_eq]; exact h
   have hv : valI l false = rd l := by simp [valI, hok]
   rw [hv, hok]
   clear hv hok
   go_enter Tryz.func103, Tryz.ntmps103
   go_wp2_with (go_at_call 159; refine (look49_yes _ b g l (fun _ v w' => v = .int .i64 (rd l) ∧ EyeAt w' b g (l.drop 8) false) HE.out (fun W hW => (int_yes W b g l false (HE.out.before hW) h).mono fun e w' ⟨h1, h2, h3⟩ => ⟨_, h1, ⟨rfl, h2⟩, h3⟩)).mono ?_; rintro e w1 ⟨W, v, rfl, hW, ⟨rfl, he1⟩, hk1⟩; have HE1 := hI he1; have HK1 := hI hk1; clear he1 hk1 hW)
   go_ret
   exact ⟨rfl, HE1.out, HK1.out⟩
  ·have hok : okI l false = false := by simp only [okI, Bool.not_false, Bool.true_and, decide_eq_false_iff_not]; exact h
   have hv : valI l false = 0 := by simp [valI, hok]
   rw [hv, hok]
   clear hv hok
   go_enter Tryz.func103, Tryz.ntmps103
   go_wp2_with (go_at_call 159; refine (look49_no _ b g l HE.out (fun W hW => (int_no W b g l false (HE.out.before hW) (by omega)))).mono ?_; rintro e w1 ⟨rfl, he1, hk1⟩; have HE1 := hI he1; have HK1 := hI hk1; clear he1 hk1)
   go_ret
   exact ⟨rfl, HE1.out, HK1.out⟩
 ·have hok : okI l true = false := by simp [okI]
  have hv : valI l true = 0 := by simp [valI, hok]
  rw [hv, hok]
  clear hv hok
  go_enter Tryz.func103, Tryz.ntmps103
  go_wp2_with (go_at_call 159; refine (look49_blind _ b g l HE.out _).mono ?_; rintro e w1 ⟨rfl, hk1⟩; have HE1 := hI (HE.out.before hk1); have HK1 := hI hk1; clear hk1)
  go_ret
  exact ⟨rfl, HE1.out, HK1.out.mono fun _ _ h => h.elim⟩
theorem eyeText_any (w : World) (b g : Nat) (l : List UInt8) (bl : Bool) (he : EyeAt w b g l bl) :
  Calls Tryz.prog 201 #[.pointer (some ⟨b, 0, none⟩)] w (Seen w b g (!okT l bl) (.string (valT l bl)) (behind (okT l bl) (4 + leN (l.take 4)) l)) := by
 have HE := hI he
 clear he
 cases bl
 ·by_cases h : 4 ≤ l.length ∧ leN (l.take 4) ≤ 1048576 ∧ leN (l.take 4) ≤ (l.drop 4).length
  ·have hok : okT l false = true := by simp only [okT, Bool.not_false, Bool.true_and, decide_eq_true_eq]; exact h
   have hv : valT l false = atT l := by simp [valT, hok]
   rw [hv, hok]
   clear hv hok
   go_enter Tryz.func201, Tryz.ntmps201
   go_wp2_with (go_at_call 213; refine (look53_yes _ b g l (fun _ v w' => v = .string (atT l) ∧ EyeAt w' b g (l.drop (4 + leN (l.take 4))) false) HE.out (fun W hW => (text_yes W b g l false (HE.out.before hW) h.1 _ rfl h.2.1 h.2.2).mono fun e w' ⟨h1, h2, h3⟩ => ⟨_, h1, ⟨rfl, h2⟩, h3⟩)).mono ?_; rintro e w1 ⟨W, v, rfl, hW, ⟨rfl, he1⟩, hk1⟩; have HE1 := hI he1; have HK1 := hI hk1; clear he1 hk1 hW)
   go_ret
   exact ⟨rfl, HE1.out, HK1.out⟩
  ·have hok : okT l false = false := by simp only [okT, Bool.not_false, Bool.true_and, decide_eq_false_iff_not]; exact h
   have hv : valT l false = ⟨#[]⟩ := by simp [valT, hok]
   rw [hv, hok]
   clear hv hok
   go_enter Tryz.func201, Tryz.ntmps201
   go_wp2_with (go_at_call 213; refine (look53_no _ b g l HE.out (fun W hW => (text_no W b g l false (HE.out.before hW) _ rfl (by omega)))).mono ?_; rintro e w1 ⟨rfl, he1, hk1⟩; have HE1 := hI he1; have HK1 := hI hk1; clear he1 hk1)
   go_ret
   exact ⟨rfl, HE1.out, HK1.out⟩
 ·have hok : okT l true = false := by simp [okT]
  have hv : valT l true = ⟨#[]⟩ := by simp [valT, hok]
  rw [hv, hok]
  clear hv hok
  go_enter Tryz.func201, Tryz.ntmps201
  go_wp2_with (go_at_call 213; refine (look53_blind _ b g l HE.out _).mono ?_; rintro e w1 ⟨rfl, hk1⟩; have HE1 := hI (HE.out.before hk1); have HK1 := hI hk1; clear hk1)
  go_ret
  exact ⟨rfl, HE1.out, HK1.out.mono fun _ _ h => h.elim⟩
theorem eyeBool_any (w : World) (b g : Nat) (l : List UInt8) (bl : Bool) (he : EyeAt w b g l bl) :
  Calls Tryz.prog 125 #[.pointer (some ⟨b, 0, none⟩)] w (Seen w b g (!okB l bl) (.bool (valB l bl)) (behind (okB l bl) 1 l)) := by
 have HE := hI he
 clear he
 cases bl
 ·by_cases h : 1 ≤ l.length ∧ leN (l.take 1) ≤ 1
  ·have hok : okB l false = true := by simp only [okB, Bool.not_false, Bool.true_and, decide_eq_true_eq]; exact h
   have hv : valB l false = decide (leN (l.take 1) = 1) := by simp [valB, hok]
   rw [hv, hok]
   clear hv hok
   go_enter Tryz.func125, Tryz.ntmps125
   go_wp2_with (go_at_call 174; refine (look55_yes _ b g l (fun _ v w' => v = .bool (decide (leN (l.take 1) = 1)) ∧ EyeAt w' b g (l.drop 1) false) HE.out (fun W hW => (bool_yes W b g l false (HE.out.before hW) h.1 _ rfl h.2).mono fun e w' ⟨h1, h2, h3⟩ => ⟨_, h1, ⟨rfl, h2⟩, h3⟩)).mono ?_; rintro e w1 ⟨W, v, rfl, hW, ⟨rfl, he1⟩, hk1⟩; have HE1 := hI he1; have HK1 := hI hk1; clear he1 hk1 hW)
   go_ret
   exact ⟨rfl, HE1.out, HK1.out⟩
  ·have hok : okB l false = false := by simp only [okB, Bool.not_false, Bool.true_and, decide_eq_false_iff_not]; exact h
   have hv : valB l false = false := by simp [valB, hok]
   rw [hv, hok]
   clear hv hok
   go_enter Tryz.func125, Tryz.ntmps125
   go_wp2_with (go_at_call 174; refine (look55_no _ b g l HE.out (fun W hW => (bool_no W b g l false (HE.out.before hW) _ rfl (by omega)))).mono ?_; rintro e w1 ⟨rfl, he1, hk1⟩; have HE1 := hI he1; have HK1 := hI hk1; clear he1 hk1)
   go_ret
   exact ⟨rfl, HE1.out, HK1.out⟩
 ·have hok : okB l true = false := by simp [okB]
  have hv : valB l true = false := by simp [valB, hok]
  rw [hv, hok]
  clear hv hok
  go_enter Tryz.func125, Tryz.ntmps125
  go_wp2_with (go_at_call 174; refine (look55_blind _ b g l HE.out _).mono ?_; rintro e w1 ⟨rfl, hk1⟩; have HE1 := hI (HE.out.before hk1); have HK1 := hI hk1; clear hk1)
  go_ret
  exact ⟨rfl, HE1.out, HK1.out.mono fun _ _ h => h.elim⟩
theorem res2 {w w1 : World} {S : Nat → Prop} (hk : Keeps S (w.alloc (Obj.cells #[Value.int IntKind.i64 0, Value.int IntKind.i64 0] 23)) w1) (hS : ¬ S w.heap.size) (x y : Int) :
  w1.cell? ⟨w.heap.size, 0, none⟩ = some (.int .i64 0) ∧ w1.cell? ⟨w.heap.size, 1, none⟩ = some (.int .i64 0) ∧ w1.frozen? ⟨w.heap.size, 0, none⟩ = false ∧ w1.frozen? ⟨w.heap.size, 1, none⟩ = false ∧
  ((w1.setCell ⟨w.heap.size, 0, none⟩ (.int .i64 x)).setCell ⟨w.heap.size, 1, none⟩ (.int .i64 y)).cell? ⟨w.heap.size, 0, none⟩ = some (.int .i64 x) ∧ ((w1.setCell ⟨w.heap.size, 0, none⟩ (.int .i64 x)).setCell ⟨w.heap.size, 1, none⟩ (.int .i64 y)).cell? ⟨w.heap.size, 1, none⟩ = some (.int .i64 y) ∧
  Keeps S w ((w1.setCell ⟨w.heap.size, 0, none⟩ (.int .i64 x)).setCell ⟨w.heap.size, 1, none⟩ (.int .i64 y)) ∧ Keeps (fun k => w.heap.size ≤ k) w1 ((w1.setCell ⟨w.heap.size, 0, none⟩ (.int .i64 x)).setCell ⟨w.heap.size, 1, none⟩ (.int .i64 y)) := by
 have hR : (w.alloc (Obj.cells #[Value.int IntKind.i64 0, Value.int IntKind.i64 0] 23)).heap[w.heap.size]? = some (.cells #[.int .i64 0, .int .i64 0] 23 (0, 0)) := heap_alloc_new w _
 have hR1 := (hk.block _ (lt_of_block hR) hS).trans hR
 have hR3 := block_setCell (i := 1) (block_setCell (i := 0) hR1 (.int .i64 x)) (.int .i64 y)
 exact ⟨by rw [cell_of_row _ _ _ _ _ _ hR1]; rfl, by rw [cell_of_row _ _ _ _ _ _ hR1]; rfl, frozen_of_row _ _ _ _ _ hR1, frozen_of_row _ _ _ _ _ hR1, by rw [cell_of_row _ _ _ _ _ _ hR3]; rfl, by rw [cell_of_row _ _ _ _ _ _ hR3]; rfl,
  kSet (kSet ((Keeps.alloc S w _).then hk) (.inr (Nat.le_refl _)) _) (.inr (Nat.le_refl _)) _,
  kSet (S := fun k => w.heap.size ≤ k) (p := ⟨w.heap.size, 1, none⟩) (kSet (S := fun k => w.heap.size ≤ k) (p := ⟨w.heap.size, 0, none⟩) (Keeps.refl _ _) (.inl (Nat.le_refl _)) _) (.inl (Nat.le_refl _)) _⟩
theorem eyeStamp_any (w : World) (b g : Nat) (l : List UInt8) (bl : Bool) (he : EyeAt w b g l bl) :
  Calls Tryz.prog 123 #[.pointer (some ⟨b, 0, none⟩)] w (Seen w b g (!okS l bl) (.agg #[.int .i64 (valS l bl).1, .int .i64 (valS l bl).2]) (behind (okS l bl) 16 l)) := by
 have HE := hI he
 clear he
 cases bl
 ·by_cases h : 16 ≤ l.length
  ·have hok : okS l false = true := by simp [okS, h]
   have hv : valS l false = (rd l, rd (l.drop 8)) := by simp [valS, hok, rdS]
   rw [hv, hok]
   clear hv hok
   go_enter Tryz.func123, Tryz.ntmps123
   go_wp2_with fail
   have hA : Keeps (fun _ => False) w (w.alloc (Obj.cells #[Value.int IntKind.i64 0, Value.int IntKind.i64 0] 23)) := Keeps.alloc _ _ _
   refine (look57_yes _ b g l (rd l) (rd (l.drop 8)) (l.drop 16) drop_ne (HE.out.before hA) (fun W hW => stamp_yes W b g l false (HE.out.before (hA.then hW)) h)).mono ?_; rintro e w1 ⟨rfl, he1, hk1⟩
   obtain ⟨r0, r1, rf0, rf1, s0, s1, hk2, hk12⟩ := res2 hk1 (kNew HE.out.lt 0) (rd l) (rd (l.drop 8))
   have HE2 := hI (he1.keep hk12 (fun h => absurd HE.out.lt (by omega)) (hgl he1 (fun h => HE.out.lt2 (drop_ne h))))
   have HK2 := hI hk2
   clear hk1 hk2 hk12 hA
   go_wp2
   exact bodyPost_ret (v := .agg #[.int .i64 (rd l), .int .i64 (rd (l.drop 8))]) (by simp [results, Tryz.results123, go_sem, s0, s1]) rfl ⟨rfl, HE2.out, HK2.out⟩
  ·have hok : okS l false = false := by simp [okS, h]
   have hv : valS l false = (0, 0) := by simp [valS, hok]
   rw [hv, hok]
   clear hv hok
   go_enter Tryz.func123, Tryz.ntmps123
   go_wp2_with fail
   have hA : Keeps (fun _ => False) w (w.alloc (Obj.cells #[Value.int IntKind.i64 0, Value.int IntKind.i64 0] 23)) := Keeps.alloc _ _ _
   refine (look57_no _ b g l (HE.out.before hA) (fun W hW => stamp_no W b g l false (HE.out.before (hA.then hW)) (by omega))).mono ?_; rintro e w1 ⟨rfl, he1, hk1⟩
   obtain ⟨r0, r1, rf0, rf1, s0, s1, hk2, hk12⟩ := res2 hk1 (kNew HE.out.lt 0) (0) (0)
   have HE2 := hI (he1.keep hk12 (fun h => absurd HE.out.lt (by omega)) (hgl he1 (fun h => HE.out.lt2 h)))
   have HK2 := hI hk2
   clear hk1 hk2 hk12 hA
   go_wp2
   exact bodyPost_ret (v := .agg #[.int .i64 (0), .int .i64 (0)]) (by simp [results, Tryz.results123, go_sem, s0, s1]) rfl ⟨rfl, HE2.out, HK2.out⟩
 ·have hok : okS l true = false := by simp [okS]
  have hv : valS l true = (0, 0) := by simp [valS, hok]
  rw [hv, hok]
  clear hv hok
  go_enter Tryz.func123, Tryz.ntmps123
  go_wp2_with fail
  have hA : Keeps (fun _ => False) w (w.alloc (Obj.cells #[Value.int IntKind.i64 0, Value.int IntKind.i64 0] 23)) := Keeps.alloc _ _ _
  refine (look57_blind _ b g l (HE.out.before hA) _).mono ?_; rintro e w1 ⟨rfl, hk0⟩; have hk1 : Keeps (Only b) _ w1 := hk0.mono fun _ _ h => h.elim; have he1 := (HE.out.before hA).before hk0; clear hk0
  obtain ⟨r0, r1, rf0, rf1, s0, s1, hk2, hk12⟩ := res2 hk1 (kNew HE.out.lt 0) (0) (0)
  have HE2 := hI (he1.keep hk12 (fun h => absurd HE.out.lt (by omega)) (hgl he1 (fun h => HE.out.lt2 h)))
  have HK2 := hI hk2
  clear hk1 hk2 hk12 hA
  go_wp2
  exact bodyPost_ret (v := .agg #[.int .i64 (0), .int .i64 (0)]) (by simp [results, Tryz.results123, go_sem, s0, s1]) rfl ⟨rfl, HE2.out, HK2.out⟩
def Opened (w : World) (l : List UInt8) (e : Ending) (w' : World) : Prop :=
 ∃ b g, e = .returned (.pointer (some ⟨b, 0, none⟩)) ∧ EyeAt w' b g l false ∧ w.heap.size ≤ b ∧ (l ≠ [] → w.heap.size ≤ g) ∧ Below w.heap.size w w'
theorem left_any (w : World) (b g : Nat) (l : List UInt8) (bl : Bool) (he : EyeAt w b g l bl) : Calls Tryz.prog 102 #[.pointer (some ⟨b, 0, none⟩)] w fun e w' => e = .returned (.int .i64 l.length) ∧ w = w' := by
 obtain ⟨v, hv, hb, _⟩ := he
 have c0 : w.cell? ⟨b, 0, none⟩ = some v := by rw [cell_of_row w _ _ _ _ _ hv]; rfl
 have hmax := hb.len
 have hf : ∃ a c, v = .slice a l.length c := by
  rcases hb with ⟨rfl, rfl⟩ | ⟨o, cap, rfl, _⟩
  ·exact ⟨_, _, rfl⟩
  ·exact ⟨_, _, rfl⟩
 obtain ⟨a, c, rfl⟩ := hf
 clear hv hb
 go_enter Tryz.func102, Tryz.ntmps102
 go_wp2
 go_ret
 exact ⟨rfl, rfl⟩
def doneN (l : List UInt8) (bl : Bool) : Int := if bl || !l.isEmpty then 20 else 0
theorem done_any (w : World) (b g : Nat) (l : List UInt8) (bl : Bool) (he : EyeAt w b g l bl) : Calls Tryz.prog 130 #[.pointer (some ⟨b, 0, none⟩)] w fun e w' => e = .returned (.int .i64 (doneN l bl)) ∧ w = w' := by
 obtain ⟨v, hv, hb, _⟩ := he
 have c0 : w.cell? ⟨b, 0, none⟩ = some v := by rw [cell_of_row w _ _ _ _ _ hv]; rfl
 have c1 : w.cell? ⟨b, 1, none⟩ = some (.bool bl) := by rw [cell_of_row w _ _ _ _ _ hv]; rfl
 have hmax := hb.len
 have hf : ∃ a c, v = .slice a l.length c := by
  rcases hb with ⟨rfl, rfl⟩ | ⟨o, cap, rfl, _⟩
  ·exact ⟨_, _, rfl⟩
  ·exact ⟨_, _, rfl⟩
 obtain ⟨a, c, rfl⟩ := hf
 clear hv hb
 cases bl
 ·by_cases hl : l = []
  ·subst hl
   have hd : doneN [] false = 0 := rfl
   rw [hd]
   go_enter Tryz.func130, Tryz.ntmps130
   go_wp2
   go_ret
   exact ⟨rfl, rfl⟩
  ·have hd : doneN l false = 20 := by
    cases l with
    | nil => exact absurd rfl hl
    | cons x r => rfl
   have hpos : 0 < l.length := List.length_pos_iff.2 hl
   rw [hd]
   clear hd hl
   go_enter Tryz.func130, Tryz.ntmps130
   go_wp2
   go_ret
   exact ⟨rfl, rfl⟩
 ·have hd : doneN l true = 20 := rfl
  rw [hd]
  go_enter Tryz.func130, Tryz.ntmps130
  go_wp2
  go_ret
  exact ⟨rfl, rfl⟩

theorem behind_yes (k : Nat) (l : List UInt8) : behind true k l = l.drop k := by simp [behind]
theorem behind_no (k : Nat) (l : List UInt8) : behind false k l = l := by simp [behind]
end S2
end Go.Proofs.YtgipkikedacmdaaGreat
