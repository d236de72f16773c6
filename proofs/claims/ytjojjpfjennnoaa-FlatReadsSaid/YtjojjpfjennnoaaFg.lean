/- An eye's door: the deferred function that recovers, and look at its five types. Conditions: as each theorem states. -/
import Derived.Test.YtjojjpfjennnoaaFf
import Derived.Defers
import Derived.Recover
namespace Go.Proofs.Ytjojjpfjennnoaa
open Go.RowKit

/-- What the deferred function comes to where the body has panicked with blindness: the eye is where it was, and blind. -/
def Caught (w : World) (b : Nat) (v : Value) (e : Ending) (u : FrameMode) (w' : World) : Prop :=
  e = .returned (.tuple #[]) ∧ u = .panicking [{ v := .iface 95 (.agg #[]), recovered := true }] ∧ w'.heap[b]? = some (.cells #[v, .bool true] 80 (0, 0)) ∧ Keeps (Only b) w w'
theorem mode_same {c : Frame} {u : FrameMode} (h : c.mode = u) : ({ c with mode := u } : Frame) = c := by subst h; rfl
theorem cell_new (w : World) (v : Value) (t : TypeId) : (w.alloc (.cells #[v] t)).cell? ⟨w.heap.size, 0, none⟩ = some v := cell_of_one (heap_alloc_new w _)
theorem two_at (w : World) (o : Obj) (c : Array Value) (t : TypeId) : ((w.alloc o).alloc (.cells c t)).heap[w.heap.size + 1]? = some (.cells c t (0, 0)) := by
  have := heap_alloc_new (w.alloc o) (.cells c t)
  rwa [World.size_alloc] at this
theorem two_cell (w : World) (o : Obj) (v : Value) (t : TypeId) : ((w.alloc o).alloc (.cells #[v] t)).cell? ⟨w.heap.size + 1, 0, none⟩ = some v := by
  have := cell_new (w.alloc o) v t
  rwa [World.size_alloc] at this
theorem three_at (w : World) (o o' : Obj) (v : Value) {t : TypeId} : (((w.alloc o).alloc o').alloc (.cells #[v] t)).cell? ⟨w.heap.size + 2, 0, none⟩ = some v := by
  have := cell_new ((w.alloc o).alloc o') v t
  rwa [World.size_alloc, World.size_alloc] at this
theorem hgl {w w' : World} {b g : Nat} {l : List UInt8} {bl : Bool} (_ : EyeAt w' b g l bl) (hg : l ≠ [] → g < w.heap.size) : l ≠ [] → ¬ w.heap.size ≤ g := fun hne hle => absurd (hg hne) (by omega)
theorem kNew {w : World} {b : Nat} (h : b < w.heap.size) (k : Nat) : ¬ Only b (w.heap.size + k) := fun e => absurd h (by have e' : w.heap.size + k = b := e; omega)

set_option maxHeartbeats 400000 in
theorem catch_panic49 (w : World) (pf pe b : Nat) (v v0 : Value) (bl : Bool) (hf : w.cell? ⟨pf, 0, none⟩ = some v) (he : w.cell? ⟨pe, 0, none⟩ = some (.pointer (some ⟨b, 0, none⟩))) (hb : w.heap[b]? = some (.cells #[v0, .bool bl] 80 (0, 0))) (hv : ∃ a n c, v = .slice a n c) :
    CallsD Try.prog 61 #[.pointer (some ⟨pf, 0, none⟩), .pointer (some ⟨pe, 0, none⟩)] (.panicking blindCh) w (Caught w b v) := by
  obtain ⟨a, n, c, rfl⟩ := hv
  refine callsD_of_wpS Try.func61 rfl fun c₀ cs hu => ?_
  unfold blindCh at hu
  apply wpS_seq
  apply wpS_region
  simp [wpOpsS, go_sem, recoverD, hu, Try.ntmps61, Exit.thenS]
  have hfr : #[Value.pointer (some { block := pf, off := 0 }), Value.pointer (some { block := pe, off := 0 })] ++ ((Array.replicate 21 undef).setIfInBounds 3 (Value.iface 95 (Value.agg #[]))).setIfInBounds 0 (Value.iface 95 (Value.agg #[])) = #[Value.pointer (some { block := pf, off := 0 }), Value.pointer (some { block := pe, off := 0 }), Value.iface 95 (Value.agg #[]), undef, undef, Value.iface 95 (Value.agg #[]), undef, undef, undef, undef, undef, undef, undef, undef, undef, undef, undef, undef, undef, undef, undef, undef, undef] := by kernel_rfl
  rw [hfr]
  clear hfr
  apply wpS_of_wp
  generalize hQ : (fun (e : Exit) (a' : Act) (w' : World) => bodyPostS _ _ _ _ _ e a' _ w') = Q
  have hne : ∀ w : World, (binOp .eql 20 (.iface 95 (.agg #[])) .nilIface).run Try.prog w = .ok (.bool false) w := fun _ => by kernel_rfl
  have hta : ∀ w : World, (Instr.typeAssert (.iface 95 (.agg #[])) 20 95 true).run Try.prog w = .ok (.tuple #[.agg #[], .bool true]) w := fun _ => by kernel_rfl
  have c0 : w.cell? ⟨b, 0, none⟩ = some v0 := by rw [cell_of_row w _ _ _ _ _ hb]; rfl
  have c1 : w.cell? ⟨b, 1, none⟩ = some (.bool bl) := by rw [cell_of_row w _ _ _ _ _ hb]; rfl
  have f0 := fun ob => alloc_free c0 (frozen_of_row w b 0 _ _ hb) ob
  have f1 := fun ob => alloc_free c1 (frozen_of_row w b 1 _ _ hb) ob
  have d0 := fun ob => alloc_cell c0 ob
  have d1 := fun ob => alloc_cell c1 ob
  have hf2 := fun ob => alloc_cell hf ob
  have he2 := fun ob => alloc_cell he ob
  have HB := Lib.hid hb
  have HQ := Lib.hid hQ
  have HU := Lib.hid hu
  clear hb hQ hu
  go_wp2
  rw [← HQ.out]
  have hb2 : (w.alloc (Obj.cells #[] 95)).heap[b]? = some (.cells #[v0, .bool bl] 80 (0, 0)) := (Below.heap_alloc _ _ _ (lt_of_block HB.out)).trans HB.out
  exact ⟨rfl, _, rfl, .tuple #[], results_none rfl _ _ _, rfl, rfl, block_setCell (block_setCell hb2 _) _, kSet (S := Only b) (p := ⟨b, 1, none⟩) (kSet (S := Only b) (p := ⟨b, 0, none⟩) (kAlloc (Keeps.refl _ _) _) (.inl rfl) _) (.inl rfl) _⟩

set_option maxHeartbeats 400000 in
theorem catch_idle49 (w : World) (pf pe : Nat) : CallsD Try.prog 61 #[.pointer (some ⟨pf, 0, none⟩), .pointer (some ⟨pe, 0, none⟩)] .returning w fun e u' w' => e = .returned (.tuple #[]) ∧ u' = .returning ∧ w = w' := by
  refine callsD_of_wpS Try.func61 rfl fun c₀ cs hu => ?_
  apply wpS_seq
  apply wpS_region
  simp [wpOpsS, go_sem, recoverD, hu, Try.ntmps61, Exit.thenS]
  have hfr : #[Value.pointer (some { block := pf, off := 0 }), Value.pointer (some { block := pe, off := 0 })] ++ ((Array.replicate 21 undef).setIfInBounds 3 (Value.nilIface)).setIfInBounds 0 (Value.nilIface) = #[Value.pointer (some { block := pf, off := 0 }), Value.pointer (some { block := pe, off := 0 }), Value.nilIface, undef, undef, Value.nilIface, undef, undef, undef, undef, undef, undef, undef, undef, undef, undef, undef, undef, undef, undef, undef, undef, undef] := by kernel_rfl
  rw [hfr]
  clear hfr
  apply wpS_of_wp
  generalize hQ : (fun (e : Exit) (a' : Act) (w' : World) => bodyPostS _ _ _ _ _ e a' _ w') = Q
  have hne : ∀ w : World, (binOp .eql 20 .nilIface .nilIface).run Try.prog w = .ok (.bool true) w := fun _ => by kernel_rfl
  have HQ := Lib.hid hQ
  have HU := Lib.hid hu
  clear hQ hu
  go_wp2
  rw [← HQ.out]
  exact ⟨rfl, .returning, by rw [mode_same HU.out], .tuple #[], results_none rfl _ _ _, rfl, rfl, rfl⟩

set_option maxHeartbeats 400000 in
theorem catch_panic53 (w : World) (pf pe b : Nat) (v v0 : Value) (bl : Bool) (hf : w.cell? ⟨pf, 0, none⟩ = some v) (he : w.cell? ⟨pe, 0, none⟩ = some (.pointer (some ⟨b, 0, none⟩))) (hb : w.heap[b]? = some (.cells #[v0, .bool bl] 80 (0, 0))) (hv : ∃ a n c, v = .slice a n c) :
    CallsD Try.prog 63 #[.pointer (some ⟨pf, 0, none⟩), .pointer (some ⟨pe, 0, none⟩)] (.panicking blindCh) w (Caught w b v) := by
  obtain ⟨a, n, c, rfl⟩ := hv
  refine callsD_of_wpS Try.func63 rfl fun c₀ cs hu => ?_
  unfold blindCh at hu
  apply wpS_seq
  apply wpS_region
  simp [wpOpsS, go_sem, recoverD, hu, Try.ntmps63, Exit.thenS]
  have hfr : #[Value.pointer (some { block := pf, off := 0 }), Value.pointer (some { block := pe, off := 0 })] ++ ((Array.replicate 21 undef).setIfInBounds 3 (Value.iface 95 (Value.agg #[]))).setIfInBounds 0 (Value.iface 95 (Value.agg #[])) = #[Value.pointer (some { block := pf, off := 0 }), Value.pointer (some { block := pe, off := 0 }), Value.iface 95 (Value.agg #[]), undef, undef, Value.iface 95 (Value.agg #[]), undef, undef, undef, undef, undef, undef, undef, undef, undef, undef, undef, undef, undef, undef, undef, undef, undef] := by kernel_rfl
  rw [hfr]
  clear hfr
  apply wpS_of_wp
  generalize hQ : (fun (e : Exit) (a' : Act) (w' : World) => bodyPostS _ _ _ _ _ e a' _ w') = Q
  have hne : ∀ w : World, (binOp .eql 20 (.iface 95 (.agg #[])) .nilIface).run Try.prog w = .ok (.bool false) w := fun _ => by kernel_rfl
  have hta : ∀ w : World, (Instr.typeAssert (.iface 95 (.agg #[])) 20 95 true).run Try.prog w = .ok (.tuple #[.agg #[], .bool true]) w := fun _ => by kernel_rfl
  have c0 : w.cell? ⟨b, 0, none⟩ = some v0 := by rw [cell_of_row w _ _ _ _ _ hb]; rfl
  have c1 : w.cell? ⟨b, 1, none⟩ = some (.bool bl) := by rw [cell_of_row w _ _ _ _ _ hb]; rfl
  have f0 := fun ob => alloc_free c0 (frozen_of_row w b 0 _ _ hb) ob
  have f1 := fun ob => alloc_free c1 (frozen_of_row w b 1 _ _ hb) ob
  have d0 := fun ob => alloc_cell c0 ob
  have d1 := fun ob => alloc_cell c1 ob
  have hf2 := fun ob => alloc_cell hf ob
  have he2 := fun ob => alloc_cell he ob
  have HB := Lib.hid hb
  have HQ := Lib.hid hQ
  have HU := Lib.hid hu
  clear hb hQ hu
  go_wp2
  rw [← HQ.out]
  have hb2 : (w.alloc (Obj.cells #[] 95)).heap[b]? = some (.cells #[v0, .bool bl] 80 (0, 0)) := (Below.heap_alloc _ _ _ (lt_of_block HB.out)).trans HB.out
  exact ⟨rfl, _, rfl, .tuple #[], results_none rfl _ _ _, rfl, rfl, block_setCell (block_setCell hb2 _) _, kSet (S := Only b) (p := ⟨b, 1, none⟩) (kSet (S := Only b) (p := ⟨b, 0, none⟩) (kAlloc (Keeps.refl _ _) _) (.inl rfl) _) (.inl rfl) _⟩

set_option maxHeartbeats 400000 in
theorem catch_idle53 (w : World) (pf pe : Nat) : CallsD Try.prog 63 #[.pointer (some ⟨pf, 0, none⟩), .pointer (some ⟨pe, 0, none⟩)] .returning w fun e u' w' => e = .returned (.tuple #[]) ∧ u' = .returning ∧ w = w' := by
  refine callsD_of_wpS Try.func63 rfl fun c₀ cs hu => ?_
  apply wpS_seq
  apply wpS_region
  simp [wpOpsS, go_sem, recoverD, hu, Try.ntmps63, Exit.thenS]
  have hfr : #[Value.pointer (some { block := pf, off := 0 }), Value.pointer (some { block := pe, off := 0 })] ++ ((Array.replicate 21 undef).setIfInBounds 3 (Value.nilIface)).setIfInBounds 0 (Value.nilIface) = #[Value.pointer (some { block := pf, off := 0 }), Value.pointer (some { block := pe, off := 0 }), Value.nilIface, undef, undef, Value.nilIface, undef, undef, undef, undef, undef, undef, undef, undef, undef, undef, undef, undef, undef, undef, undef, undef, undef] := by kernel_rfl
  rw [hfr]
  clear hfr
  apply wpS_of_wp
  generalize hQ : (fun (e : Exit) (a' : Act) (w' : World) => bodyPostS _ _ _ _ _ e a' _ w') = Q
  have hne : ∀ w : World, (binOp .eql 20 .nilIface .nilIface).run Try.prog w = .ok (.bool true) w := fun _ => by kernel_rfl
  have HQ := Lib.hid hQ
  have HU := Lib.hid hu
  clear hQ hu
  go_wp2
  rw [← HQ.out]
  exact ⟨rfl, .returning, by rw [mode_same HU.out], .tuple #[], results_none rfl _ _ _, rfl, rfl, rfl⟩

set_option maxHeartbeats 400000 in
theorem catch_panic55 (w : World) (pf pe b : Nat) (v v0 : Value) (bl : Bool) (hf : w.cell? ⟨pf, 0, none⟩ = some v) (he : w.cell? ⟨pe, 0, none⟩ = some (.pointer (some ⟨b, 0, none⟩))) (hb : w.heap[b]? = some (.cells #[v0, .bool bl] 80 (0, 0))) (hv : ∃ a n c, v = .slice a n c) :
    CallsD Try.prog 65 #[.pointer (some ⟨pf, 0, none⟩), .pointer (some ⟨pe, 0, none⟩)] (.panicking blindCh) w (Caught w b v) := by
  obtain ⟨a, n, c, rfl⟩ := hv
  refine callsD_of_wpS Try.func65 rfl fun c₀ cs hu => ?_
  unfold blindCh at hu
  apply wpS_seq
  apply wpS_region
  simp [wpOpsS, go_sem, recoverD, hu, Try.ntmps65, Exit.thenS]
  have hfr : #[Value.pointer (some { block := pf, off := 0 }), Value.pointer (some { block := pe, off := 0 })] ++ ((Array.replicate 21 undef).setIfInBounds 3 (Value.iface 95 (Value.agg #[]))).setIfInBounds 0 (Value.iface 95 (Value.agg #[])) = #[Value.pointer (some { block := pf, off := 0 }), Value.pointer (some { block := pe, off := 0 }), Value.iface 95 (Value.agg #[]), undef, undef, Value.iface 95 (Value.agg #[]), undef, undef, undef, undef, undef, undef, undef, undef, undef, undef, undef, undef, undef, undef, undef, undef, undef] := by kernel_rfl
  rw [hfr]
  clear hfr
  apply wpS_of_wp
  generalize hQ : (fun (e : Exit) (a' : Act) (w' : World) => bodyPostS _ _ _ _ _ e a' _ w') = Q
  have hne : ∀ w : World, (binOp .eql 20 (.iface 95 (.agg #[])) .nilIface).run Try.prog w = .ok (.bool false) w := fun _ => by kernel_rfl
  have hta : ∀ w : World, (Instr.typeAssert (.iface 95 (.agg #[])) 20 95 true).run Try.prog w = .ok (.tuple #[.agg #[], .bool true]) w := fun _ => by kernel_rfl
  have c0 : w.cell? ⟨b, 0, none⟩ = some v0 := by rw [cell_of_row w _ _ _ _ _ hb]; rfl
  have c1 : w.cell? ⟨b, 1, none⟩ = some (.bool bl) := by rw [cell_of_row w _ _ _ _ _ hb]; rfl
  have f0 := fun ob => alloc_free c0 (frozen_of_row w b 0 _ _ hb) ob
  have f1 := fun ob => alloc_free c1 (frozen_of_row w b 1 _ _ hb) ob
  have d0 := fun ob => alloc_cell c0 ob
  have d1 := fun ob => alloc_cell c1 ob
  have hf2 := fun ob => alloc_cell hf ob
  have he2 := fun ob => alloc_cell he ob
  have HB := Lib.hid hb
  have HQ := Lib.hid hQ
  have HU := Lib.hid hu
  clear hb hQ hu
  go_wp2
  rw [← HQ.out]
  have hb2 : (w.alloc (Obj.cells #[] 95)).heap[b]? = some (.cells #[v0, .bool bl] 80 (0, 0)) := (Below.heap_alloc _ _ _ (lt_of_block HB.out)).trans HB.out
  exact ⟨rfl, _, rfl, .tuple #[], results_none rfl _ _ _, rfl, rfl, block_setCell (block_setCell hb2 _) _, kSet (S := Only b) (p := ⟨b, 1, none⟩) (kSet (S := Only b) (p := ⟨b, 0, none⟩) (kAlloc (Keeps.refl _ _) _) (.inl rfl) _) (.inl rfl) _⟩

set_option maxHeartbeats 400000 in
theorem catch_idle55 (w : World) (pf pe : Nat) : CallsD Try.prog 65 #[.pointer (some ⟨pf, 0, none⟩), .pointer (some ⟨pe, 0, none⟩)] .returning w fun e u' w' => e = .returned (.tuple #[]) ∧ u' = .returning ∧ w = w' := by
  refine callsD_of_wpS Try.func65 rfl fun c₀ cs hu => ?_
  apply wpS_seq
  apply wpS_region
  simp [wpOpsS, go_sem, recoverD, hu, Try.ntmps65, Exit.thenS]
  have hfr : #[Value.pointer (some { block := pf, off := 0 }), Value.pointer (some { block := pe, off := 0 })] ++ ((Array.replicate 21 undef).setIfInBounds 3 (Value.nilIface)).setIfInBounds 0 (Value.nilIface) = #[Value.pointer (some { block := pf, off := 0 }), Value.pointer (some { block := pe, off := 0 }), Value.nilIface, undef, undef, Value.nilIface, undef, undef, undef, undef, undef, undef, undef, undef, undef, undef, undef, undef, undef, undef, undef, undef, undef] := by kernel_rfl
  rw [hfr]
  clear hfr
  apply wpS_of_wp
  generalize hQ : (fun (e : Exit) (a' : Act) (w' : World) => bodyPostS _ _ _ _ _ e a' _ w') = Q
  have hne : ∀ w : World, (binOp .eql 20 .nilIface .nilIface).run Try.prog w = .ok (.bool true) w := fun _ => by kernel_rfl
  have HQ := Lib.hid hQ
  have HU := Lib.hid hu
  clear hQ hu
  go_wp2
  rw [← HQ.out]
  exact ⟨rfl, .returning, by rw [mode_same HU.out], .tuple #[], results_none rfl _ _ _, rfl, rfl, rfl⟩

set_option maxHeartbeats 400000 in
theorem catch_panic57 (w : World) (pf pe b : Nat) (v v0 : Value) (bl : Bool) (hf : w.cell? ⟨pf, 0, none⟩ = some v) (he : w.cell? ⟨pe, 0, none⟩ = some (.pointer (some ⟨b, 0, none⟩))) (hb : w.heap[b]? = some (.cells #[v0, .bool bl] 80 (0, 0))) (hv : ∃ a n c, v = .slice a n c) :
    CallsD Try.prog 66 #[.pointer (some ⟨pf, 0, none⟩), .pointer (some ⟨pe, 0, none⟩)] (.panicking blindCh) w (Caught w b v) := by
  obtain ⟨a, n, c, rfl⟩ := hv
  refine callsD_of_wpS Try.func66 rfl fun c₀ cs hu => ?_
  unfold blindCh at hu
  apply wpS_seq
  apply wpS_region
  simp [wpOpsS, go_sem, recoverD, hu, Try.ntmps66, Exit.thenS]
  have hfr : #[Value.pointer (some { block := pf, off := 0 }), Value.pointer (some { block := pe, off := 0 })] ++ ((Array.replicate 21 undef).setIfInBounds 3 (Value.iface 95 (Value.agg #[]))).setIfInBounds 0 (Value.iface 95 (Value.agg #[])) = #[Value.pointer (some { block := pf, off := 0 }), Value.pointer (some { block := pe, off := 0 }), Value.iface 95 (Value.agg #[]), undef, undef, Value.iface 95 (Value.agg #[]), undef, undef, undef, undef, undef, undef, undef, undef, undef, undef, undef, undef, undef, undef, undef, undef, undef] := by kernel_rfl
  rw [hfr]
  clear hfr
  apply wpS_of_wp
  generalize hQ : (fun (e : Exit) (a' : Act) (w' : World) => bodyPostS _ _ _ _ _ e a' _ w') = Q
  have hne : ∀ w : World, (binOp .eql 20 (.iface 95 (.agg #[])) .nilIface).run Try.prog w = .ok (.bool false) w := fun _ => by kernel_rfl
  have hta : ∀ w : World, (Instr.typeAssert (.iface 95 (.agg #[])) 20 95 true).run Try.prog w = .ok (.tuple #[.agg #[], .bool true]) w := fun _ => by kernel_rfl
  have c0 : w.cell? ⟨b, 0, none⟩ = some v0 := by rw [cell_of_row w _ _ _ _ _ hb]; rfl
  have c1 : w.cell? ⟨b, 1, none⟩ = some (.bool bl) := by rw [cell_of_row w _ _ _ _ _ hb]; rfl
  have f0 := fun ob => alloc_free c0 (frozen_of_row w b 0 _ _ hb) ob
  have f1 := fun ob => alloc_free c1 (frozen_of_row w b 1 _ _ hb) ob
  have d0 := fun ob => alloc_cell c0 ob
  have d1 := fun ob => alloc_cell c1 ob
  have hf2 := fun ob => alloc_cell hf ob
  have he2 := fun ob => alloc_cell he ob
  have HB := Lib.hid hb
  have HQ := Lib.hid hQ
  have HU := Lib.hid hu
  clear hb hQ hu
  go_wp2
  rw [← HQ.out]
  have hb2 : (w.alloc (Obj.cells #[] 95)).heap[b]? = some (.cells #[v0, .bool bl] 80 (0, 0)) := (Below.heap_alloc _ _ _ (lt_of_block HB.out)).trans HB.out
  exact ⟨rfl, _, rfl, .tuple #[], results_none rfl _ _ _, rfl, rfl, block_setCell (block_setCell hb2 _) _, kSet (S := Only b) (p := ⟨b, 1, none⟩) (kSet (S := Only b) (p := ⟨b, 0, none⟩) (kAlloc (Keeps.refl _ _) _) (.inl rfl) _) (.inl rfl) _⟩

set_option maxHeartbeats 400000 in
theorem catch_idle57 (w : World) (pf pe : Nat) : CallsD Try.prog 66 #[.pointer (some ⟨pf, 0, none⟩), .pointer (some ⟨pe, 0, none⟩)] .returning w fun e u' w' => e = .returned (.tuple #[]) ∧ u' = .returning ∧ w = w' := by
  refine callsD_of_wpS Try.func66 rfl fun c₀ cs hu => ?_
  apply wpS_seq
  apply wpS_region
  simp [wpOpsS, go_sem, recoverD, hu, Try.ntmps66, Exit.thenS]
  have hfr : #[Value.pointer (some { block := pf, off := 0 }), Value.pointer (some { block := pe, off := 0 })] ++ ((Array.replicate 21 undef).setIfInBounds 3 (Value.nilIface)).setIfInBounds 0 (Value.nilIface) = #[Value.pointer (some { block := pf, off := 0 }), Value.pointer (some { block := pe, off := 0 }), Value.nilIface, undef, undef, Value.nilIface, undef, undef, undef, undef, undef, undef, undef, undef, undef, undef, undef, undef, undef, undef, undef, undef, undef] := by kernel_rfl
  rw [hfr]
  clear hfr
  apply wpS_of_wp
  generalize hQ : (fun (e : Exit) (a' : Act) (w' : World) => bodyPostS _ _ _ _ _ e a' _ w') = Q
  have hne : ∀ w : World, (binOp .eql 20 .nilIface .nilIface).run Try.prog w = .ok (.bool true) w := fun _ => by kernel_rfl
  have HQ := Lib.hid hQ
  have HU := Lib.hid hu
  clear hQ hu
  go_wp2
  rw [← HQ.out]
  exact ⟨rfl, .returning, by rw [mode_same HU.out], .tuple #[], results_none rfl _ _ _, rfl, rfl, rfl⟩

set_option maxHeartbeats 400000 in
theorem catch_panic59 (w : World) (pf pe b : Nat) (v v0 : Value) (bl : Bool) (hf : w.cell? ⟨pf, 0, none⟩ = some v) (he : w.cell? ⟨pe, 0, none⟩ = some (.pointer (some ⟨b, 0, none⟩))) (hb : w.heap[b]? = some (.cells #[v0, .bool bl] 80 (0, 0))) (hv : ∃ a n c, v = .slice a n c) :
    CallsD Try.prog 67 #[.pointer (some ⟨pf, 0, none⟩), .pointer (some ⟨pe, 0, none⟩)] (.panicking blindCh) w (Caught w b v) := by
  obtain ⟨a, n, c, rfl⟩ := hv
  refine callsD_of_wpS Try.func67 rfl fun c₀ cs hu => ?_
  unfold blindCh at hu
  apply wpS_seq
  apply wpS_region
  simp [wpOpsS, go_sem, recoverD, hu, Try.ntmps67, Exit.thenS]
  have hfr : #[Value.pointer (some { block := pf, off := 0 }), Value.pointer (some { block := pe, off := 0 })] ++ ((Array.replicate 21 undef).setIfInBounds 3 (Value.iface 95 (Value.agg #[]))).setIfInBounds 0 (Value.iface 95 (Value.agg #[])) = #[Value.pointer (some { block := pf, off := 0 }), Value.pointer (some { block := pe, off := 0 }), Value.iface 95 (Value.agg #[]), undef, undef, Value.iface 95 (Value.agg #[]), undef, undef, undef, undef, undef, undef, undef, undef, undef, undef, undef, undef, undef, undef, undef, undef, undef] := by kernel_rfl
  rw [hfr]
  clear hfr
  apply wpS_of_wp
  generalize hQ : (fun (e : Exit) (a' : Act) (w' : World) => bodyPostS _ _ _ _ _ e a' _ w') = Q
  have hne : ∀ w : World, (binOp .eql 20 (.iface 95 (.agg #[])) .nilIface).run Try.prog w = .ok (.bool false) w := fun _ => by kernel_rfl
  have hta : ∀ w : World, (Instr.typeAssert (.iface 95 (.agg #[])) 20 95 true).run Try.prog w = .ok (.tuple #[.agg #[], .bool true]) w := fun _ => by kernel_rfl
  have c0 : w.cell? ⟨b, 0, none⟩ = some v0 := by rw [cell_of_row w _ _ _ _ _ hb]; rfl
  have c1 : w.cell? ⟨b, 1, none⟩ = some (.bool bl) := by rw [cell_of_row w _ _ _ _ _ hb]; rfl
  have f0 := fun ob => alloc_free c0 (frozen_of_row w b 0 _ _ hb) ob
  have f1 := fun ob => alloc_free c1 (frozen_of_row w b 1 _ _ hb) ob
  have d0 := fun ob => alloc_cell c0 ob
  have d1 := fun ob => alloc_cell c1 ob
  have hf2 := fun ob => alloc_cell hf ob
  have he2 := fun ob => alloc_cell he ob
  have HB := Lib.hid hb
  have HQ := Lib.hid hQ
  have HU := Lib.hid hu
  clear hb hQ hu
  go_wp2
  rw [← HQ.out]
  have hb2 : (w.alloc (Obj.cells #[] 95)).heap[b]? = some (.cells #[v0, .bool bl] 80 (0, 0)) := (Below.heap_alloc _ _ _ (lt_of_block HB.out)).trans HB.out
  exact ⟨rfl, _, rfl, .tuple #[], results_none rfl _ _ _, rfl, rfl, block_setCell (block_setCell hb2 _) _, kSet (S := Only b) (p := ⟨b, 1, none⟩) (kSet (S := Only b) (p := ⟨b, 0, none⟩) (kAlloc (Keeps.refl _ _) _) (.inl rfl) _) (.inl rfl) _⟩

set_option maxHeartbeats 400000 in
theorem catch_idle59 (w : World) (pf pe : Nat) : CallsD Try.prog 67 #[.pointer (some ⟨pf, 0, none⟩), .pointer (some ⟨pe, 0, none⟩)] .returning w fun e u' w' => e = .returned (.tuple #[]) ∧ u' = .returning ∧ w = w' := by
  refine callsD_of_wpS Try.func67 rfl fun c₀ cs hu => ?_
  apply wpS_seq
  apply wpS_region
  simp [wpOpsS, go_sem, recoverD, hu, Try.ntmps67, Exit.thenS]
  have hfr : #[Value.pointer (some { block := pf, off := 0 }), Value.pointer (some { block := pe, off := 0 })] ++ ((Array.replicate 21 undef).setIfInBounds 3 (Value.nilIface)).setIfInBounds 0 (Value.nilIface) = #[Value.pointer (some { block := pf, off := 0 }), Value.pointer (some { block := pe, off := 0 }), Value.nilIface, undef, undef, Value.nilIface, undef, undef, undef, undef, undef, undef, undef, undef, undef, undef, undef, undef, undef, undef, undef, undef, undef] := by kernel_rfl
  rw [hfr]
  clear hfr
  apply wpS_of_wp
  generalize hQ : (fun (e : Exit) (a' : Act) (w' : World) => bodyPostS _ _ _ _ _ e a' _ w') = Q
  have hne : ∀ w : World, (binOp .eql 20 .nilIface .nilIface).run Try.prog w = .ok (.bool true) w := fun _ => by kernel_rfl
  have HQ := Lib.hid hQ
  have HU := Lib.hid hu
  clear hQ hu
  go_wp2
  rw [← HQ.out]
  exact ⟨rfl, .returning, by rw [mode_same HU.out], .tuple #[], results_none rfl _ _ _, rfl, rfl, rfl⟩

set_option maxRecDepth 100000 in
set_option maxHeartbeats 1000000 in
theorem look49_yes (w : World) (b g : Nat) (l : List UInt8) (X : World → Value → World → Prop) (he : EyeAt w b g l false)
    (hc : ∀ W, Keeps (fun _ => False) w W → Calls Try.prog 50 #[.pointer (some ⟨b, 0, none⟩)] W fun e w' => ∃ v, e = .returned v ∧ X W v w' ∧ Keeps (Only b) W w') :
    Calls Try.prog 49 #[.pointer (some ⟨b, 0, none⟩), .func (.func 50) #[] #[]] w fun e w' => ∃ W v, e = .returned v ∧ Keeps (fun _ => False) w W ∧ X W v w' ∧ Keeps (Only b) w w' := by
  have HC := Lib.hid hc
  clear hc
  have HE := Lib.hid he
  obtain ⟨v, hv, hb, hne⟩ := he
  obtain ⟨a, n, c, rfl⟩ := hb.form
  have c0 : w.cell? ⟨b, 0, none⟩ = some (.slice a n c) := by rw [cell_of_row w _ _ _ _ _ hv]; rfl
  have c1 : w.cell? ⟨b, 1, none⟩ = some (.bool false) := by rw [cell_of_row w _ _ _ _ _ hv]; rfl
  have d0 := fun ob => alloc_cell c0 ob
  have d1 := fun ob => alloc_cell c1 ob
  have e0 := fun ob => fun ob' => alloc_cell (alloc_cell c0 ob) ob'
  have e1 := fun ob => fun ob' => alloc_cell (alloc_cell c1 ob) ob'
  have HB := Lib.hid hb
  have HV := Lib.hid hv
  have HN := Lib.hid hne
  clear hv hb hne
  have hmf : ∀ (fn : Fn) (first cap : Array Value) (w : World), (Instr.makeFunc fn first cap).run Try.prog w = .ok (.func fn first cap) w := fun _ _ _ _ => rfl
  go_enter_defers Try.func49, Try.ntmps49
  go_wp2_with fail
  have hK : Keeps (fun _ => False) w ((w.alloc (Obj.cells #[Value.pointer (some { block := b, off := 0 })] 40)).alloc (Obj.cells #[Value.slice a n c] 27)) := (by repeat (first | with_reducible exact Keeps.refl _ _ | with_reducible refine kAlloc ?_ _ | with_reducible refine kDrew ?_))
  generalize (w.alloc (Obj.cells #[Value.pointer (some { block := b, off := 0 })] 40)).alloc (Obj.cells #[Value.slice a n c] 27) = W at *
  refine (HC.out W hK).mono ?_
  rintro e w1 ⟨v, rfl, hx, hk1⟩
  have HX := Lib.hid hx
  have HK0 := Lib.hid hK
  have HK1 := Lib.hid hk1
  clear hx hK hk1
  go_wp2
  refine leaves_cons (f := 61) (args := #[.pointer (some ⟨w.heap.size + 1, 0, none⟩), .pointer (some ⟨w.heap.size, 0, none⟩)]) (by simp) (by simp [go_sem]) ?_
  refine (catch_idle49 w1 (w.heap.size + 1) (w.heap.size)).mono ?_
  rintro e u' w'' ⟨rfl, rfl, rfl⟩
  exact ⟨_, results_tmp rfl _ _ _, W, v, rfl, HK0.out, HX.out, (HK0.out.mono fun _ _ h => h.elim).then HK1.out⟩

set_option maxRecDepth 100000 in
set_option maxHeartbeats 1000000 in
theorem look49_no (w : World) (b g : Nat) (l : List UInt8) (he : EyeAt w b g l false)
    (hc : ∀ W, Keeps (fun _ => False) w W → Calls Try.prog 50 #[.pointer (some ⟨b, 0, none⟩)] W (Blinded W b g false)) :
    Calls Try.prog 49 #[.pointer (some ⟨b, 0, none⟩), .func (.func 50) #[] #[]] w fun e w' => e = .returned (.int .i64 0) ∧ EyeAt w' b g l true ∧ Keeps (Only b) w w' := by
  have HC := Lib.hid hc
  clear hc
  have HE := Lib.hid he
  obtain ⟨v, hv, hb, hne⟩ := he
  obtain ⟨a, n, c, rfl⟩ := hb.form
  have c0 : w.cell? ⟨b, 0, none⟩ = some (.slice a n c) := by rw [cell_of_row w _ _ _ _ _ hv]; rfl
  have c1 : w.cell? ⟨b, 1, none⟩ = some (.bool false) := by rw [cell_of_row w _ _ _ _ _ hv]; rfl
  have d0 := fun ob => alloc_cell c0 ob
  have d1 := fun ob => alloc_cell c1 ob
  have e0 := fun ob => fun ob' => alloc_cell (alloc_cell c0 ob) ob'
  have e1 := fun ob => fun ob' => alloc_cell (alloc_cell c1 ob) ob'
  have HB := Lib.hid hb
  have HV := Lib.hid hv
  have HN := Lib.hid hne
  clear hv hb hne
  have hmf : ∀ (fn : Fn) (first cap : Array Value) (w : World), (Instr.makeFunc fn first cap).run Try.prog w = .ok (.func fn first cap) w := fun _ _ _ _ => rfl
  go_enter_defers Try.func49, Try.ntmps49
  go_wp2_with fail
  have hK : Keeps (fun _ => False) w ((w.alloc (Obj.cells #[Value.pointer (some { block := b, off := 0 })] 40)).alloc (Obj.cells #[Value.slice a n c] 27)) := (by repeat (first | with_reducible exact Keeps.refl _ _ | with_reducible refine kAlloc ?_ _ | with_reducible refine kDrew ?_))
  have hlt := HE.out.lt
  have hpf : ((w.alloc (Obj.cells #[Value.pointer (some { block := b, off := 0 })] 40)).alloc (Obj.cells #[Value.slice a n c] 27)).cell? ⟨w.heap.size + 1, 0, none⟩ = some (.slice a n c) := two_cell w _ _ _
  have hpe : ((w.alloc (Obj.cells #[Value.pointer (some { block := b, off := 0 })] 40)).alloc (Obj.cells #[Value.slice a n c] 27)).cell? ⟨w.heap.size, 0, none⟩ = some (.pointer (some ⟨b, 0, none⟩)) := alloc_cell (cell_new w _ _) _
  generalize (w.alloc (Obj.cells #[Value.pointer (some { block := b, off := 0 })] 40)).alloc (Obj.cells #[Value.slice a n c] 27) = W at *
  refine (HC.out W hK).mono ?_
  rintro e w1 ⟨rfl, ⟨l', v0, hv0, _, _⟩, hk1⟩
  have HP := Lib.hid (hk1.cell (kNew hlt 1) hpf)
  have HPE := Lib.hid (hk1.cell (kNew hlt 0) hpe)
  have HV0 := Lib.hid hv0
  have HK1 := Lib.hid ((hK.mono fun _ _ h => h.elim : Keeps (Only b) w W).then hk1)
  clear hpf hpe hv0 hk1 hK d0 d1 e0 e1 c0 c1
  go_wp2
  refine leaves_cons (f := 61) (args := #[.pointer (some ⟨w.heap.size + 1, 0, none⟩), .pointer (some ⟨w.heap.size, 0, none⟩)]) (by simp) (by simp [go_sem]) ?_
  refine (catch_panic49 w1 (w.heap.size + 1) (w.heap.size) b _ v0 false HP.out HPE.out HV0.out ⟨a, n, c, rfl⟩).mono ?_
  rintro e u' w2 ⟨rfl, rfl, hh, hk2⟩
  exact ⟨_, results_tmp rfl _ _ _, rfl, ⟨_, hh, HB.out.keep (HK1.out.then hk2) (fun h e => HN.out h e), HN.out⟩, HK1.out.then hk2⟩

set_option maxRecDepth 100000 in
set_option maxHeartbeats 1000000 in
theorem look49_blind (w : World) (b g : Nat) (l : List UInt8) (he : EyeAt w b g l true) (rd : Value) :
    Calls Try.prog 49 #[.pointer (some ⟨b, 0, none⟩), rd] w fun e w' => e = .returned (.int .i64 0) ∧ Keeps (fun _ => False) w w' := by
  obtain ⟨v, hv, hb, hne⟩ := he
  obtain ⟨a, n, c, rfl⟩ := hb.form
  have c0 : w.cell? ⟨b, 0, none⟩ = some (.slice a n c) := by rw [cell_of_row w _ _ _ _ _ hv]; rfl
  have c1 : w.cell? ⟨b, 1, none⟩ = some (.bool true) := by rw [cell_of_row w _ _ _ _ _ hv]; rfl
  have d0 := fun ob => alloc_cell c0 ob
  have d1 := fun ob => alloc_cell c1 ob
  have e0 := fun ob => fun ob' => alloc_cell (alloc_cell c0 ob) ob'
  have e1 := fun ob => fun ob' => alloc_cell (alloc_cell c1 ob) ob'
  have HB := Lib.hid hb
  have HV := Lib.hid hv
  have HN := Lib.hid hne
  clear hv hb hne
  have hmf : ∀ (fn : Fn) (first cap : Array Value) (w : World), (Instr.makeFunc fn first cap).run Try.prog w = .ok (.func fn first cap) w := fun _ _ _ _ => rfl
  clear HB HV HN
  go_enter_defers Try.func49, Try.ntmps49
  go_wp2
  exact ⟨_, results_tmp rfl _ _ _, rfl, (by repeat (first | with_reducible exact Keeps.refl _ _ | with_reducible refine kAlloc ?_ _ | with_reducible refine kDrew ?_))⟩

set_option maxRecDepth 100000 in
set_option maxHeartbeats 1000000 in
theorem look49_nil (w : World) (rd : Value) :
    Calls Try.prog 49 #[.pointer none, rd] w fun e w' => e = .returned (.int .i64 0) ∧ Keeps (fun _ => False) w w' := by
  go_enter_defers Try.func49, Try.ntmps49
  go_wp2
  exact ⟨_, results_tmp rfl _ _ _, rfl, (by repeat (first | with_reducible exact Keeps.refl _ _ | with_reducible refine kAlloc ?_ _ | with_reducible refine kDrew ?_))⟩

set_option maxRecDepth 100000 in
set_option maxHeartbeats 1000000 in
theorem look53_yes (w : World) (b g : Nat) (l : List UInt8) (X : World → Value → World → Prop) (he : EyeAt w b g l false)
    (hc : ∀ W, Keeps (fun _ => False) w W → Calls Try.prog 54 #[.pointer (some ⟨b, 0, none⟩)] W fun e w' => ∃ v, e = .returned v ∧ X W v w' ∧ Keeps (Only b) W w') :
    Calls Try.prog 53 #[.pointer (some ⟨b, 0, none⟩), .func (.func 54) #[] #[]] w fun e w' => ∃ W v, e = .returned v ∧ Keeps (fun _ => False) w W ∧ X W v w' ∧ Keeps (Only b) w w' := by
  have HC := Lib.hid hc
  clear hc
  have HE := Lib.hid he
  obtain ⟨v, hv, hb, hne⟩ := he
  obtain ⟨a, n, c, rfl⟩ := hb.form
  have c0 : w.cell? ⟨b, 0, none⟩ = some (.slice a n c) := by rw [cell_of_row w _ _ _ _ _ hv]; rfl
  have c1 : w.cell? ⟨b, 1, none⟩ = some (.bool false) := by rw [cell_of_row w _ _ _ _ _ hv]; rfl
  have d0 := fun ob => alloc_cell c0 ob
  have d1 := fun ob => alloc_cell c1 ob
  have e0 := fun ob => fun ob' => alloc_cell (alloc_cell c0 ob) ob'
  have e1 := fun ob => fun ob' => alloc_cell (alloc_cell c1 ob) ob'
  have HB := Lib.hid hb
  have HV := Lib.hid hv
  have HN := Lib.hid hne
  clear hv hb hne
  have hmf : ∀ (fn : Fn) (first cap : Array Value) (w : World), (Instr.makeFunc fn first cap).run Try.prog w = .ok (.func fn first cap) w := fun _ _ _ _ => rfl
  go_enter_defers Try.func53, Try.ntmps53
  go_wp2_with fail
  have hK : Keeps (fun _ => False) w ((w.alloc (Obj.cells #[Value.pointer (some { block := b, off := 0 })] 40)).alloc (Obj.cells #[Value.slice a n c] 27)) := (by repeat (first | with_reducible exact Keeps.refl _ _ | with_reducible refine kAlloc ?_ _ | with_reducible refine kDrew ?_))
  generalize (w.alloc (Obj.cells #[Value.pointer (some { block := b, off := 0 })] 40)).alloc (Obj.cells #[Value.slice a n c] 27) = W at *
  refine (HC.out W hK).mono ?_
  rintro e w1 ⟨v, rfl, hx, hk1⟩
  have HX := Lib.hid hx
  have HK0 := Lib.hid hK
  have HK1 := Lib.hid hk1
  clear hx hK hk1
  go_wp2
  refine leaves_cons (f := 63) (args := #[.pointer (some ⟨w.heap.size + 1, 0, none⟩), .pointer (some ⟨w.heap.size, 0, none⟩)]) (by simp) (by simp [go_sem]) ?_
  refine (catch_idle53 w1 (w.heap.size + 1) (w.heap.size)).mono ?_
  rintro e u' w'' ⟨rfl, rfl, rfl⟩
  exact ⟨_, results_tmp rfl _ _ _, W, v, rfl, HK0.out, HX.out, (HK0.out.mono fun _ _ h => h.elim).then HK1.out⟩

set_option maxRecDepth 100000 in
set_option maxHeartbeats 1000000 in
theorem look53_no (w : World) (b g : Nat) (l : List UInt8) (he : EyeAt w b g l false)
    (hc : ∀ W, Keeps (fun _ => False) w W → Calls Try.prog 54 #[.pointer (some ⟨b, 0, none⟩)] W (Blinded W b g false)) :
    Calls Try.prog 53 #[.pointer (some ⟨b, 0, none⟩), .func (.func 54) #[] #[]] w fun e w' => e = .returned (.string ⟨#[]⟩) ∧ EyeAt w' b g l true ∧ Keeps (Only b) w w' := by
  have HC := Lib.hid hc
  clear hc
  have HE := Lib.hid he
  obtain ⟨v, hv, hb, hne⟩ := he
  obtain ⟨a, n, c, rfl⟩ := hb.form
  have c0 : w.cell? ⟨b, 0, none⟩ = some (.slice a n c) := by rw [cell_of_row w _ _ _ _ _ hv]; rfl
  have c1 : w.cell? ⟨b, 1, none⟩ = some (.bool false) := by rw [cell_of_row w _ _ _ _ _ hv]; rfl
  have d0 := fun ob => alloc_cell c0 ob
  have d1 := fun ob => alloc_cell c1 ob
  have e0 := fun ob => fun ob' => alloc_cell (alloc_cell c0 ob) ob'
  have e1 := fun ob => fun ob' => alloc_cell (alloc_cell c1 ob) ob'
  have HB := Lib.hid hb
  have HV := Lib.hid hv
  have HN := Lib.hid hne
  clear hv hb hne
  have hmf : ∀ (fn : Fn) (first cap : Array Value) (w : World), (Instr.makeFunc fn first cap).run Try.prog w = .ok (.func fn first cap) w := fun _ _ _ _ => rfl
  go_enter_defers Try.func53, Try.ntmps53
  go_wp2_with fail
  have hK : Keeps (fun _ => False) w ((w.alloc (Obj.cells #[Value.pointer (some { block := b, off := 0 })] 40)).alloc (Obj.cells #[Value.slice a n c] 27)) := (by repeat (first | with_reducible exact Keeps.refl _ _ | with_reducible refine kAlloc ?_ _ | with_reducible refine kDrew ?_))
  have hlt := HE.out.lt
  have hpf : ((w.alloc (Obj.cells #[Value.pointer (some { block := b, off := 0 })] 40)).alloc (Obj.cells #[Value.slice a n c] 27)).cell? ⟨w.heap.size + 1, 0, none⟩ = some (.slice a n c) := two_cell w _ _ _
  have hpe : ((w.alloc (Obj.cells #[Value.pointer (some { block := b, off := 0 })] 40)).alloc (Obj.cells #[Value.slice a n c] 27)).cell? ⟨w.heap.size, 0, none⟩ = some (.pointer (some ⟨b, 0, none⟩)) := alloc_cell (cell_new w _ _) _
  generalize (w.alloc (Obj.cells #[Value.pointer (some { block := b, off := 0 })] 40)).alloc (Obj.cells #[Value.slice a n c] 27) = W at *
  refine (HC.out W hK).mono ?_
  rintro e w1 ⟨rfl, ⟨l', v0, hv0, _, _⟩, hk1⟩
  have HP := Lib.hid (hk1.cell (kNew hlt 1) hpf)
  have HPE := Lib.hid (hk1.cell (kNew hlt 0) hpe)
  have HV0 := Lib.hid hv0
  have HK1 := Lib.hid ((hK.mono fun _ _ h => h.elim : Keeps (Only b) w W).then hk1)
  clear hpf hpe hv0 hk1 hK d0 d1 e0 e1 c0 c1
  go_wp2
  refine leaves_cons (f := 63) (args := #[.pointer (some ⟨w.heap.size + 1, 0, none⟩), .pointer (some ⟨w.heap.size, 0, none⟩)]) (by simp) (by simp [go_sem]) ?_
  refine (catch_panic53 w1 (w.heap.size + 1) (w.heap.size) b _ v0 false HP.out HPE.out HV0.out ⟨a, n, c, rfl⟩).mono ?_
  rintro e u' w2 ⟨rfl, rfl, hh, hk2⟩
  exact ⟨_, results_tmp rfl _ _ _, rfl, ⟨_, hh, HB.out.keep (HK1.out.then hk2) (fun h e => HN.out h e), HN.out⟩, HK1.out.then hk2⟩

set_option maxRecDepth 100000 in
set_option maxHeartbeats 1000000 in
theorem look53_blind (w : World) (b g : Nat) (l : List UInt8) (he : EyeAt w b g l true) (rd : Value) :
    Calls Try.prog 53 #[.pointer (some ⟨b, 0, none⟩), rd] w fun e w' => e = .returned (.string ⟨#[]⟩) ∧ Keeps (fun _ => False) w w' := by
  obtain ⟨v, hv, hb, hne⟩ := he
  obtain ⟨a, n, c, rfl⟩ := hb.form
  have c0 : w.cell? ⟨b, 0, none⟩ = some (.slice a n c) := by rw [cell_of_row w _ _ _ _ _ hv]; rfl
  have c1 : w.cell? ⟨b, 1, none⟩ = some (.bool true) := by rw [cell_of_row w _ _ _ _ _ hv]; rfl
  have d0 := fun ob => alloc_cell c0 ob
  have d1 := fun ob => alloc_cell c1 ob
  have e0 := fun ob => fun ob' => alloc_cell (alloc_cell c0 ob) ob'
  have e1 := fun ob => fun ob' => alloc_cell (alloc_cell c1 ob) ob'
  have HB := Lib.hid hb
  have HV := Lib.hid hv
  have HN := Lib.hid hne
  clear hv hb hne
  have hmf : ∀ (fn : Fn) (first cap : Array Value) (w : World), (Instr.makeFunc fn first cap).run Try.prog w = .ok (.func fn first cap) w := fun _ _ _ _ => rfl
  clear HB HV HN
  go_enter_defers Try.func53, Try.ntmps53
  go_wp2
  exact ⟨_, results_tmp rfl _ _ _, rfl, (by repeat (first | with_reducible exact Keeps.refl _ _ | with_reducible refine kAlloc ?_ _ | with_reducible refine kDrew ?_))⟩

set_option maxRecDepth 100000 in
set_option maxHeartbeats 1000000 in
theorem look53_nil (w : World) (rd : Value) :
    Calls Try.prog 53 #[.pointer none, rd] w fun e w' => e = .returned (.string ⟨#[]⟩) ∧ Keeps (fun _ => False) w w' := by
  go_enter_defers Try.func53, Try.ntmps53
  go_wp2
  exact ⟨_, results_tmp rfl _ _ _, rfl, (by repeat (first | with_reducible exact Keeps.refl _ _ | with_reducible refine kAlloc ?_ _ | with_reducible refine kDrew ?_))⟩

set_option maxRecDepth 100000 in
set_option maxHeartbeats 1000000 in
theorem look55_yes (w : World) (b g : Nat) (l : List UInt8) (X : World → Value → World → Prop) (he : EyeAt w b g l false)
    (hc : ∀ W, Keeps (fun _ => False) w W → Calls Try.prog 56 #[.pointer (some ⟨b, 0, none⟩)] W fun e w' => ∃ v, e = .returned v ∧ X W v w' ∧ Keeps (Only b) W w') :
    Calls Try.prog 55 #[.pointer (some ⟨b, 0, none⟩), .func (.func 56) #[] #[]] w fun e w' => ∃ W v, e = .returned v ∧ Keeps (fun _ => False) w W ∧ X W v w' ∧ Keeps (Only b) w w' := by
  have HC := Lib.hid hc
  clear hc
  have HE := Lib.hid he
  obtain ⟨v, hv, hb, hne⟩ := he
  obtain ⟨a, n, c, rfl⟩ := hb.form
  have c0 : w.cell? ⟨b, 0, none⟩ = some (.slice a n c) := by rw [cell_of_row w _ _ _ _ _ hv]; rfl
  have c1 : w.cell? ⟨b, 1, none⟩ = some (.bool false) := by rw [cell_of_row w _ _ _ _ _ hv]; rfl
  have d0 := fun ob => alloc_cell c0 ob
  have d1 := fun ob => alloc_cell c1 ob
  have e0 := fun ob => fun ob' => alloc_cell (alloc_cell c0 ob) ob'
  have e1 := fun ob => fun ob' => alloc_cell (alloc_cell c1 ob) ob'
  have HB := Lib.hid hb
  have HV := Lib.hid hv
  have HN := Lib.hid hne
  clear hv hb hne
  have hmf : ∀ (fn : Fn) (first cap : Array Value) (w : World), (Instr.makeFunc fn first cap).run Try.prog w = .ok (.func fn first cap) w := fun _ _ _ _ => rfl
  go_enter_defers Try.func55, Try.ntmps55
  go_wp2_with fail
  have hK : Keeps (fun _ => False) w ((w.alloc (Obj.cells #[Value.pointer (some { block := b, off := 0 })] 40)).alloc (Obj.cells #[Value.slice a n c] 27)) := (by repeat (first | with_reducible exact Keeps.refl _ _ | with_reducible refine kAlloc ?_ _ | with_reducible refine kDrew ?_))
  generalize (w.alloc (Obj.cells #[Value.pointer (some { block := b, off := 0 })] 40)).alloc (Obj.cells #[Value.slice a n c] 27) = W at *
  refine (HC.out W hK).mono ?_
  rintro e w1 ⟨v, rfl, hx, hk1⟩
  have HX := Lib.hid hx
  have HK0 := Lib.hid hK
  have HK1 := Lib.hid hk1
  clear hx hK hk1
  go_wp2
  refine leaves_cons (f := 65) (args := #[.pointer (some ⟨w.heap.size + 1, 0, none⟩), .pointer (some ⟨w.heap.size, 0, none⟩)]) (by simp) (by simp [go_sem]) ?_
  refine (catch_idle55 w1 (w.heap.size + 1) (w.heap.size)).mono ?_
  rintro e u' w'' ⟨rfl, rfl, rfl⟩
  exact ⟨_, results_tmp rfl _ _ _, W, v, rfl, HK0.out, HX.out, (HK0.out.mono fun _ _ h => h.elim).then HK1.out⟩

set_option maxRecDepth 100000 in
set_option maxHeartbeats 1000000 in
theorem look55_no (w : World) (b g : Nat) (l : List UInt8) (he : EyeAt w b g l false)
    (hc : ∀ W, Keeps (fun _ => False) w W → Calls Try.prog 56 #[.pointer (some ⟨b, 0, none⟩)] W (Blinded W b g false)) :
    Calls Try.prog 55 #[.pointer (some ⟨b, 0, none⟩), .func (.func 56) #[] #[]] w fun e w' => e = .returned (.bool false) ∧ EyeAt w' b g l true ∧ Keeps (Only b) w w' := by
  have HC := Lib.hid hc
  clear hc
  have HE := Lib.hid he
  obtain ⟨v, hv, hb, hne⟩ := he
  obtain ⟨a, n, c, rfl⟩ := hb.form
  have c0 : w.cell? ⟨b, 0, none⟩ = some (.slice a n c) := by rw [cell_of_row w _ _ _ _ _ hv]; rfl
  have c1 : w.cell? ⟨b, 1, none⟩ = some (.bool false) := by rw [cell_of_row w _ _ _ _ _ hv]; rfl
  have d0 := fun ob => alloc_cell c0 ob
  have d1 := fun ob => alloc_cell c1 ob
  have e0 := fun ob => fun ob' => alloc_cell (alloc_cell c0 ob) ob'
  have e1 := fun ob => fun ob' => alloc_cell (alloc_cell c1 ob) ob'
  have HB := Lib.hid hb
  have HV := Lib.hid hv
  have HN := Lib.hid hne
  clear hv hb hne
  have hmf : ∀ (fn : Fn) (first cap : Array Value) (w : World), (Instr.makeFunc fn first cap).run Try.prog w = .ok (.func fn first cap) w := fun _ _ _ _ => rfl
  go_enter_defers Try.func55, Try.ntmps55
  go_wp2_with fail
  have hK : Keeps (fun _ => False) w ((w.alloc (Obj.cells #[Value.pointer (some { block := b, off := 0 })] 40)).alloc (Obj.cells #[Value.slice a n c] 27)) := (by repeat (first | with_reducible exact Keeps.refl _ _ | with_reducible refine kAlloc ?_ _ | with_reducible refine kDrew ?_))
  have hlt := HE.out.lt
  have hpf : ((w.alloc (Obj.cells #[Value.pointer (some { block := b, off := 0 })] 40)).alloc (Obj.cells #[Value.slice a n c] 27)).cell? ⟨w.heap.size + 1, 0, none⟩ = some (.slice a n c) := two_cell w _ _ _
  have hpe : ((w.alloc (Obj.cells #[Value.pointer (some { block := b, off := 0 })] 40)).alloc (Obj.cells #[Value.slice a n c] 27)).cell? ⟨w.heap.size, 0, none⟩ = some (.pointer (some ⟨b, 0, none⟩)) := alloc_cell (cell_new w _ _) _
  generalize (w.alloc (Obj.cells #[Value.pointer (some { block := b, off := 0 })] 40)).alloc (Obj.cells #[Value.slice a n c] 27) = W at *
  refine (HC.out W hK).mono ?_
  rintro e w1 ⟨rfl, ⟨l', v0, hv0, _, _⟩, hk1⟩
  have HP := Lib.hid (hk1.cell (kNew hlt 1) hpf)
  have HPE := Lib.hid (hk1.cell (kNew hlt 0) hpe)
  have HV0 := Lib.hid hv0
  have HK1 := Lib.hid ((hK.mono fun _ _ h => h.elim : Keeps (Only b) w W).then hk1)
  clear hpf hpe hv0 hk1 hK d0 d1 e0 e1 c0 c1
  go_wp2
  refine leaves_cons (f := 65) (args := #[.pointer (some ⟨w.heap.size + 1, 0, none⟩), .pointer (some ⟨w.heap.size, 0, none⟩)]) (by simp) (by simp [go_sem]) ?_
  refine (catch_panic55 w1 (w.heap.size + 1) (w.heap.size) b _ v0 false HP.out HPE.out HV0.out ⟨a, n, c, rfl⟩).mono ?_
  rintro e u' w2 ⟨rfl, rfl, hh, hk2⟩
  exact ⟨_, results_tmp rfl _ _ _, rfl, ⟨_, hh, HB.out.keep (HK1.out.then hk2) (fun h e => HN.out h e), HN.out⟩, HK1.out.then hk2⟩

set_option maxRecDepth 100000 in
set_option maxHeartbeats 1000000 in
theorem look55_blind (w : World) (b g : Nat) (l : List UInt8) (he : EyeAt w b g l true) (rd : Value) :
    Calls Try.prog 55 #[.pointer (some ⟨b, 0, none⟩), rd] w fun e w' => e = .returned (.bool false) ∧ Keeps (fun _ => False) w w' := by
  obtain ⟨v, hv, hb, hne⟩ := he
  obtain ⟨a, n, c, rfl⟩ := hb.form
  have c0 : w.cell? ⟨b, 0, none⟩ = some (.slice a n c) := by rw [cell_of_row w _ _ _ _ _ hv]; rfl
  have c1 : w.cell? ⟨b, 1, none⟩ = some (.bool true) := by rw [cell_of_row w _ _ _ _ _ hv]; rfl
  have d0 := fun ob => alloc_cell c0 ob
  have d1 := fun ob => alloc_cell c1 ob
  have e0 := fun ob => fun ob' => alloc_cell (alloc_cell c0 ob) ob'
  have e1 := fun ob => fun ob' => alloc_cell (alloc_cell c1 ob) ob'
  have HB := Lib.hid hb
  have HV := Lib.hid hv
  have HN := Lib.hid hne
  clear hv hb hne
  have hmf : ∀ (fn : Fn) (first cap : Array Value) (w : World), (Instr.makeFunc fn first cap).run Try.prog w = .ok (.func fn first cap) w := fun _ _ _ _ => rfl
  clear HB HV HN
  go_enter_defers Try.func55, Try.ntmps55
  go_wp2
  exact ⟨_, results_tmp rfl _ _ _, rfl, (by repeat (first | with_reducible exact Keeps.refl _ _ | with_reducible refine kAlloc ?_ _ | with_reducible refine kDrew ?_))⟩

set_option maxRecDepth 100000 in
set_option maxHeartbeats 1000000 in
theorem look55_nil (w : World) (rd : Value) :
    Calls Try.prog 55 #[.pointer none, rd] w fun e w' => e = .returned (.bool false) ∧ Keeps (fun _ => False) w w' := by
  go_enter_defers Try.func55, Try.ntmps55
  go_wp2
  exact ⟨_, results_tmp rfl _ _ _, rfl, (by repeat (first | with_reducible exact Keeps.refl _ _ | with_reducible refine kAlloc ?_ _ | with_reducible refine kDrew ?_))⟩

set_option maxRecDepth 100000 in
set_option maxHeartbeats 1000000 in
theorem look57_yes (w : World) (b g : Nat) (l : List UInt8) (x y : Int) (l' : List UInt8) (hl : l' ≠ [] → l ≠ []) (he : EyeAt w b g l false)
    (hc : ∀ W, Keeps (fun _ => False) w W → Calls Try.prog 58 #[.pointer (some ⟨b, 0, none⟩)] W (Seen W b g false (.agg #[.int .i64 x, .int .i64 y]) l')) :
    Calls Try.prog 57 #[.pointer (some ⟨b, 0, none⟩), .func (.func 58) #[] #[]] w fun e w' => e = .returned (.agg #[.int .i64 x, .int .i64 y]) ∧ EyeAt w' b g l' false ∧ Keeps (Only b) w w' := by
  have HC := Lib.hid hc
  clear hc
  have HE := Lib.hid he
  obtain ⟨v, hv, hb, hne⟩ := he
  obtain ⟨a, n, c, rfl⟩ := hb.form
  have c0 : w.cell? ⟨b, 0, none⟩ = some (.slice a n c) := by rw [cell_of_row w _ _ _ _ _ hv]; rfl
  have c1 : w.cell? ⟨b, 1, none⟩ = some (.bool false) := by rw [cell_of_row w _ _ _ _ _ hv]; rfl
  have d0 := fun ob => alloc_cell c0 ob
  have d1 := fun ob => alloc_cell c1 ob
  have e0 := fun ob => fun ob' => alloc_cell (alloc_cell c0 ob) ob'
  have e1 := fun ob => fun ob' => alloc_cell (alloc_cell c1 ob) ob'
  have HB := Lib.hid hb
  have HV := Lib.hid hv
  have HN := Lib.hid hne
  clear hv hb hne
  have hmf : ∀ (fn : Fn) (first cap : Array Value) (w : World), (Instr.makeFunc fn first cap).run Try.prog w = .ok (.func fn first cap) w := fun _ _ _ _ => rfl
  go_enter_defers Try.func57, Try.ntmps57
  go_wp2_with fail
  have hK : Keeps (fun _ => False) w (((w.alloc (Obj.cells #[Value.pointer (some { block := b, off := 0 })] 40)).alloc (Obj.cells #[Value.int IntKind.i64 0, Value.int IntKind.i64 0] 49)).alloc (Obj.cells #[Value.slice a n c] 27)) := (by repeat (first | with_reducible exact Keeps.refl _ _ | with_reducible refine kAlloc ?_ _ | with_reducible refine kDrew ?_))
  have hR : (((w.alloc (Obj.cells #[Value.pointer (some { block := b, off := 0 })] 40)).alloc (Obj.cells #[Value.int IntKind.i64 0, Value.int IntKind.i64 0] 49)).alloc (Obj.cells #[Value.slice a n c] 27)).heap[w.heap.size + 1]? = some (.cells #[.int .i64 0, .int .i64 0] 49 (0, 0)) := (Below.heap_alloc _ _ _ (by simp)).trans (two_at w _ _ _)
  generalize ((w.alloc (Obj.cells #[Value.pointer (some { block := b, off := 0 })] 40)).alloc (Obj.cells #[Value.int IntKind.i64 0, Value.int IntKind.i64 0] 49)).alloc (Obj.cells #[Value.slice a n c] 27) = W at *
  refine (HC.out W hK).mono ?_
  rintro e w1 ⟨rfl, he1, hk1⟩
  have hlt := HE.out.lt
  have hR1 := (hk1.block _ (lt_of_block hR) (kNew hlt 1)).trans hR
  have r0 : w1.cell? ⟨w.heap.size + 1, 0, none⟩ = some (.int .i64 0) := by rw [cell_of_row _ _ _ _ _ _ hR1]; rfl
  have r1 : w1.cell? ⟨w.heap.size + 1, 1, none⟩ = some (.int .i64 0) := by rw [cell_of_row _ _ _ _ _ _ hR1]; rfl
  have rf0 : w1.frozen? ⟨w.heap.size + 1, 0, none⟩ = false := frozen_of_row _ _ _ _ _ hR1
  have rf1 : w1.frozen? ⟨w.heap.size + 1, 1, none⟩ = false := frozen_of_row _ _ _ _ _ hR1
  have hR3 := block_setCell (i := 1) (block_setCell (i := 0) hR1 (.int .i64 x)) (.int .i64 y)
  have s0 : ((w1.setCell ⟨w.heap.size + 1, 0, none⟩ (.int .i64 x)).setCell ⟨w.heap.size + 1, 1, none⟩ (.int .i64 y)).cell? ⟨w.heap.size + 1, 0, none⟩ = some (.int .i64 x) := by rw [cell_of_row _ _ _ _ _ _ hR3]; rfl
  have s1 : ((w1.setCell ⟨w.heap.size + 1, 0, none⟩ (.int .i64 x)).setCell ⟨w.heap.size + 1, 1, none⟩ (.int .i64 y)).cell? ⟨w.heap.size + 1, 1, none⟩ = some (.int .i64 y) := by rw [cell_of_row _ _ _ _ _ _ hR3]; rfl
  have hk0 : Keeps (Only b) w w1 := (hK.mono fun _ _ h => h.elim).then hk1
  have hk3 : Keeps (Only b) w ((w1.setCell ⟨w.heap.size + 1, 0, none⟩ (.int .i64 x)).setCell ⟨w.heap.size + 1, 1, none⟩ (.int .i64 y)) := kSet (kSet hk0 (.inr (Nat.le_add_right _ _)) _) (.inr (Nat.le_add_right _ _)) _
  have hk13 : Keeps (fun x => w.heap.size ≤ x) w1 ((w1.setCell ⟨w.heap.size + 1, 0, none⟩ (.int .i64 x)).setCell ⟨w.heap.size + 1, 1, none⟩ (.int .i64 y)) := kSet (S := fun x => w.heap.size ≤ x) (p := ⟨w.heap.size + 1, 1, none⟩) (kSet (S := fun x => w.heap.size ≤ x) (p := ⟨w.heap.size + 1, 0, none⟩) (Keeps.refl _ _) (.inl (Nat.le_add_right _ _)) _) (.inl (Nat.le_add_right _ _)) _
  have HE3 := Lib.hid (he1.keep hk13 (fun h => absurd hlt (by omega)) (hgl he1 (fun h => HE.out.lt2 (hl h))))
  have HK3 := Lib.hid hk3
  clear hk3 hk13 hk0 hR3 hR1 hR hK he1 hk1 d0 d1 e0 e1 c0 c1
  go_wp2
  refine leaves_cons (f := 66) (args := #[.pointer (some ⟨w.heap.size + 2, 0, none⟩), .pointer (some ⟨w.heap.size, 0, none⟩)]) (by simp) (by simp [go_sem]) ?_
  refine (catch_idle57 _ (w.heap.size + 2) (w.heap.size)).mono ?_
  rintro e u' w'' ⟨rfl, rfl, rfl⟩
  exact ⟨.agg #[.int .i64 x, .int .i64 y], by simp [results, Try.results57, go_sem, s0, s1], rfl, HE3.out, HK3.out⟩

set_option maxRecDepth 100000 in
set_option maxHeartbeats 1000000 in
theorem look57_no (w : World) (b g : Nat) (l : List UInt8) (he : EyeAt w b g l false)
    (hc : ∀ W, Keeps (fun _ => False) w W → Calls Try.prog 58 #[.pointer (some ⟨b, 0, none⟩)] W (Blinded W b g false)) :
    Calls Try.prog 57 #[.pointer (some ⟨b, 0, none⟩), .func (.func 58) #[] #[]] w fun e w' => e = .returned (.agg #[.int .i64 0, .int .i64 0]) ∧ EyeAt w' b g l true ∧ Keeps (Only b) w w' := by
  have HC := Lib.hid hc
  clear hc
  have HE := Lib.hid he
  obtain ⟨v, hv, hb, hne⟩ := he
  obtain ⟨a, n, c, rfl⟩ := hb.form
  have c0 : w.cell? ⟨b, 0, none⟩ = some (.slice a n c) := by rw [cell_of_row w _ _ _ _ _ hv]; rfl
  have c1 : w.cell? ⟨b, 1, none⟩ = some (.bool false) := by rw [cell_of_row w _ _ _ _ _ hv]; rfl
  have d0 := fun ob => alloc_cell c0 ob
  have d1 := fun ob => alloc_cell c1 ob
  have e0 := fun ob => fun ob' => alloc_cell (alloc_cell c0 ob) ob'
  have e1 := fun ob => fun ob' => alloc_cell (alloc_cell c1 ob) ob'
  have HB := Lib.hid hb
  have HV := Lib.hid hv
  have HN := Lib.hid hne
  clear hv hb hne
  have hmf : ∀ (fn : Fn) (first cap : Array Value) (w : World), (Instr.makeFunc fn first cap).run Try.prog w = .ok (.func fn first cap) w := fun _ _ _ _ => rfl
  go_enter_defers Try.func57, Try.ntmps57
  go_wp2_with fail
  have hK : Keeps (fun _ => False) w (((w.alloc (Obj.cells #[Value.pointer (some { block := b, off := 0 })] 40)).alloc (Obj.cells #[Value.int IntKind.i64 0, Value.int IntKind.i64 0] 49)).alloc (Obj.cells #[Value.slice a n c] 27)) := (by repeat (first | with_reducible exact Keeps.refl _ _ | with_reducible refine kAlloc ?_ _ | with_reducible refine kDrew ?_))
  have hlt := HE.out.lt
  have hR : (((w.alloc (Obj.cells #[Value.pointer (some { block := b, off := 0 })] 40)).alloc (Obj.cells #[Value.int IntKind.i64 0, Value.int IntKind.i64 0] 49)).alloc (Obj.cells #[Value.slice a n c] 27)).heap[w.heap.size + 1]? = some (.cells #[.int .i64 0, .int .i64 0] 49 (0, 0)) := (Below.heap_alloc _ _ _ (by simp)).trans (two_at w _ _ _)
  have hpf : (((w.alloc (Obj.cells #[Value.pointer (some { block := b, off := 0 })] 40)).alloc (Obj.cells #[Value.int IntKind.i64 0, Value.int IntKind.i64 0] 49)).alloc (Obj.cells #[Value.slice a n c] 27)).cell? ⟨w.heap.size + 2, 0, none⟩ = some (.slice a n c) := three_at w _ _ _
  have hpe : (((w.alloc (Obj.cells #[Value.pointer (some { block := b, off := 0 })] 40)).alloc (Obj.cells #[Value.int IntKind.i64 0, Value.int IntKind.i64 0] 49)).alloc (Obj.cells #[Value.slice a n c] 27)).cell? ⟨w.heap.size, 0, none⟩ = some (.pointer (some ⟨b, 0, none⟩)) := alloc_cell (alloc_cell (cell_new w _ _) _) _
  generalize ((w.alloc (Obj.cells #[Value.pointer (some { block := b, off := 0 })] 40)).alloc (Obj.cells #[Value.int IntKind.i64 0, Value.int IntKind.i64 0] 49)).alloc (Obj.cells #[Value.slice a n c] 27) = W at *
  refine (HC.out W hK).mono ?_
  rintro e w1 ⟨rfl, ⟨l', v0, hv0, _, _⟩, hk1⟩
  have hR1 := (hk1.block _ (lt_of_block hR) (kNew hlt 1)).trans hR
  have HP := Lib.hid (hk1.cell (kNew hlt 2) hpf)
  have HPE := Lib.hid (hk1.cell (kNew hlt 0) hpe)
  have HV0 := Lib.hid hv0
  have HK1 := Lib.hid ((hK.mono fun _ _ h => h.elim : Keeps (Only b) w W).then hk1)
  clear hpf hpe hv0 hk1 hK d0 d1 e0 e1 c0 c1
  go_wp2
  refine leaves_cons (f := 66) (args := #[.pointer (some ⟨w.heap.size + 2, 0, none⟩), .pointer (some ⟨w.heap.size, 0, none⟩)]) (by simp) (by simp [go_sem]) ?_
  refine (catch_panic57 w1 (w.heap.size + 2) (w.heap.size) b _ v0 false HP.out HPE.out HV0.out ⟨a, n, c, rfl⟩).mono ?_
  rintro e u' w2 ⟨rfl, rfl, hh, hk2⟩
  have z0 : w2.cell? ⟨w.heap.size + 1, 0, none⟩ = some (.int .i64 0) := by rw [cell_of_row _ _ _ _ _ _ ((hk2.block _ (lt_of_block hR1) (kNew hlt 1)).trans hR1)]; rfl
  have z1 : w2.cell? ⟨w.heap.size + 1, 1, none⟩ = some (.int .i64 0) := by rw [cell_of_row _ _ _ _ _ _ ((hk2.block _ (lt_of_block hR1) (kNew hlt 1)).trans hR1)]; rfl
  exact ⟨_, by simp [results, Try.results57, go_sem, z0, z1], rfl, ⟨_, hh, HB.out.keep (HK1.out.then hk2) (fun h e => HN.out h e), HN.out⟩, HK1.out.then hk2⟩

set_option maxRecDepth 100000 in
set_option maxHeartbeats 1000000 in
theorem look57_blind (w : World) (b g : Nat) (l : List UInt8) (he : EyeAt w b g l true) (rd : Value) :
    Calls Try.prog 57 #[.pointer (some ⟨b, 0, none⟩), rd] w fun e w' => e = .returned (.agg #[.int .i64 0, .int .i64 0]) ∧ Keeps (fun _ => False) w w' := by
  obtain ⟨v, hv, hb, hne⟩ := he
  obtain ⟨a, n, c, rfl⟩ := hb.form
  have c0 : w.cell? ⟨b, 0, none⟩ = some (.slice a n c) := by rw [cell_of_row w _ _ _ _ _ hv]; rfl
  have c1 : w.cell? ⟨b, 1, none⟩ = some (.bool true) := by rw [cell_of_row w _ _ _ _ _ hv]; rfl
  have d0 := fun ob => alloc_cell c0 ob
  have d1 := fun ob => alloc_cell c1 ob
  have e0 := fun ob => fun ob' => alloc_cell (alloc_cell c0 ob) ob'
  have e1 := fun ob => fun ob' => alloc_cell (alloc_cell c1 ob) ob'
  have HB := Lib.hid hb
  have HV := Lib.hid hv
  have HN := Lib.hid hne
  clear hv hb hne
  have hmf : ∀ (fn : Fn) (first cap : Array Value) (w : World), (Instr.makeFunc fn first cap).run Try.prog w = .ok (.func fn first cap) w := fun _ _ _ _ => rfl
  clear HB HV HN
  go_enter_defers Try.func57, Try.ntmps57
  go_wp2
  exact ⟨_, by simp [results, Try.results57, go_sem], rfl, (by repeat (first | with_reducible exact Keeps.refl _ _ | with_reducible refine kAlloc ?_ _ | with_reducible refine kDrew ?_))⟩

set_option maxRecDepth 100000 in
set_option maxHeartbeats 1000000 in
theorem look57_nil (w : World) (rd : Value) :
    Calls Try.prog 57 #[.pointer none, rd] w fun e w' => e = .returned (.agg #[.int .i64 0, .int .i64 0]) ∧ Keeps (fun _ => False) w w' := by
  go_enter_defers Try.func57, Try.ntmps57
  go_wp2
  exact ⟨_, by simp [results, Try.results57, go_sem], rfl, (by repeat (first | with_reducible exact Keeps.refl _ _ | with_reducible refine kAlloc ?_ _ | with_reducible refine kDrew ?_))⟩

set_option maxRecDepth 100000 in
set_option maxHeartbeats 1000000 in
theorem look59_yes (w : World) (b g : Nat) (l : List UInt8) (X : World → Value → World → Prop) (he : EyeAt w b g l false)
    (hc : ∀ W, Keeps (fun _ => False) w W → Calls Try.prog 60 #[.pointer (some ⟨b, 0, none⟩)] W fun e w' => ∃ v, e = .returned v ∧ X W v w' ∧ Keeps (Only b) W w') :
    Calls Try.prog 59 #[.pointer (some ⟨b, 0, none⟩), .func (.func 60) #[] #[]] w fun e w' => ∃ W v, e = .returned v ∧ Keeps (fun _ => False) w W ∧ X W v w' ∧ Keeps (Only b) w w' := by
  have HC := Lib.hid hc
  clear hc
  have HE := Lib.hid he
  obtain ⟨v, hv, hb, hne⟩ := he
  obtain ⟨a, n, c, rfl⟩ := hb.form
  have c0 : w.cell? ⟨b, 0, none⟩ = some (.slice a n c) := by rw [cell_of_row w _ _ _ _ _ hv]; rfl
  have c1 : w.cell? ⟨b, 1, none⟩ = some (.bool false) := by rw [cell_of_row w _ _ _ _ _ hv]; rfl
  have d0 := fun ob => alloc_cell c0 ob
  have d1 := fun ob => alloc_cell c1 ob
  have e0 := fun ob => fun ob' => alloc_cell (alloc_cell c0 ob) ob'
  have e1 := fun ob => fun ob' => alloc_cell (alloc_cell c1 ob) ob'
  have HB := Lib.hid hb
  have HV := Lib.hid hv
  have HN := Lib.hid hne
  clear hv hb hne
  have hmf : ∀ (fn : Fn) (first cap : Array Value) (w : World), (Instr.makeFunc fn first cap).run Try.prog w = .ok (.func fn first cap) w := fun _ _ _ _ => rfl
  go_enter_defers Try.func59, Try.ntmps59
  go_wp2_with fail
  have hK : Keeps (fun _ => False) w ((w.alloc (Obj.cells #[Value.pointer (some { block := b, off := 0 })] 40)).alloc (Obj.cells #[Value.slice a n c] 27)) := (by repeat (first | with_reducible exact Keeps.refl _ _ | with_reducible refine kAlloc ?_ _ | with_reducible refine kDrew ?_))
  generalize (w.alloc (Obj.cells #[Value.pointer (some { block := b, off := 0 })] 40)).alloc (Obj.cells #[Value.slice a n c] 27) = W at *
  refine (HC.out W hK).mono ?_
  rintro e w1 ⟨v, rfl, hx, hk1⟩
  have HX := Lib.hid hx
  have HK0 := Lib.hid hK
  have HK1 := Lib.hid hk1
  clear hx hK hk1
  go_wp2
  refine leaves_cons (f := 67) (args := #[.pointer (some ⟨w.heap.size + 1, 0, none⟩), .pointer (some ⟨w.heap.size, 0, none⟩)]) (by simp) (by simp [go_sem]) ?_
  refine (catch_idle59 w1 (w.heap.size + 1) (w.heap.size)).mono ?_
  rintro e u' w'' ⟨rfl, rfl, rfl⟩
  exact ⟨_, results_tmp rfl _ _ _, W, v, rfl, HK0.out, HX.out, (HK0.out.mono fun _ _ h => h.elim).then HK1.out⟩

set_option maxRecDepth 100000 in
set_option maxHeartbeats 1000000 in
theorem look59_no (w : World) (b g : Nat) (l : List UInt8) (he : EyeAt w b g l false)
    (hc : ∀ W, Keeps (fun _ => False) w W → Calls Try.prog 60 #[.pointer (some ⟨b, 0, none⟩)] W (Blinded W b g false)) :
    Calls Try.prog 59 #[.pointer (some ⟨b, 0, none⟩), .func (.func 60) #[] #[]] w fun e w' => e = .returned (.slice none 0 0) ∧ EyeAt w' b g l true ∧ Keeps (Only b) w w' := by
  have HC := Lib.hid hc
  clear hc
  have HE := Lib.hid he
  obtain ⟨v, hv, hb, hne⟩ := he
  obtain ⟨a, n, c, rfl⟩ := hb.form
  have c0 : w.cell? ⟨b, 0, none⟩ = some (.slice a n c) := by rw [cell_of_row w _ _ _ _ _ hv]; rfl
  have c1 : w.cell? ⟨b, 1, none⟩ = some (.bool false) := by rw [cell_of_row w _ _ _ _ _ hv]; rfl
  have d0 := fun ob => alloc_cell c0 ob
  have d1 := fun ob => alloc_cell c1 ob
  have e0 := fun ob => fun ob' => alloc_cell (alloc_cell c0 ob) ob'
  have e1 := fun ob => fun ob' => alloc_cell (alloc_cell c1 ob) ob'
  have HB := Lib.hid hb
  have HV := Lib.hid hv
  have HN := Lib.hid hne
  clear hv hb hne
  have hmf : ∀ (fn : Fn) (first cap : Array Value) (w : World), (Instr.makeFunc fn first cap).run Try.prog w = .ok (.func fn first cap) w := fun _ _ _ _ => rfl
  go_enter_defers Try.func59, Try.ntmps59
  go_wp2_with fail
  have hK : Keeps (fun _ => False) w ((w.alloc (Obj.cells #[Value.pointer (some { block := b, off := 0 })] 40)).alloc (Obj.cells #[Value.slice a n c] 27)) := (by repeat (first | with_reducible exact Keeps.refl _ _ | with_reducible refine kAlloc ?_ _ | with_reducible refine kDrew ?_))
  have hlt := HE.out.lt
  have hpf : ((w.alloc (Obj.cells #[Value.pointer (some { block := b, off := 0 })] 40)).alloc (Obj.cells #[Value.slice a n c] 27)).cell? ⟨w.heap.size + 1, 0, none⟩ = some (.slice a n c) := two_cell w _ _ _
  have hpe : ((w.alloc (Obj.cells #[Value.pointer (some { block := b, off := 0 })] 40)).alloc (Obj.cells #[Value.slice a n c] 27)).cell? ⟨w.heap.size, 0, none⟩ = some (.pointer (some ⟨b, 0, none⟩)) := alloc_cell (cell_new w _ _) _
  generalize (w.alloc (Obj.cells #[Value.pointer (some { block := b, off := 0 })] 40)).alloc (Obj.cells #[Value.slice a n c] 27) = W at *
  refine (HC.out W hK).mono ?_
  rintro e w1 ⟨rfl, ⟨l', v0, hv0, _, _⟩, hk1⟩
  have HP := Lib.hid (hk1.cell (kNew hlt 1) hpf)
  have HPE := Lib.hid (hk1.cell (kNew hlt 0) hpe)
  have HV0 := Lib.hid hv0
  have HK1 := Lib.hid ((hK.mono fun _ _ h => h.elim : Keeps (Only b) w W).then hk1)
  clear hpf hpe hv0 hk1 hK d0 d1 e0 e1 c0 c1
  go_wp2
  refine leaves_cons (f := 67) (args := #[.pointer (some ⟨w.heap.size + 1, 0, none⟩), .pointer (some ⟨w.heap.size, 0, none⟩)]) (by simp) (by simp [go_sem]) ?_
  refine (catch_panic59 w1 (w.heap.size + 1) (w.heap.size) b _ v0 false HP.out HPE.out HV0.out ⟨a, n, c, rfl⟩).mono ?_
  rintro e u' w2 ⟨rfl, rfl, hh, hk2⟩
  exact ⟨_, results_tmp rfl _ _ _, rfl, ⟨_, hh, HB.out.keep (HK1.out.then hk2) (fun h e => HN.out h e), HN.out⟩, HK1.out.then hk2⟩

set_option maxRecDepth 100000 in
set_option maxHeartbeats 1000000 in
theorem look59_blind (w : World) (b g : Nat) (l : List UInt8) (he : EyeAt w b g l true) (rd : Value) :
    Calls Try.prog 59 #[.pointer (some ⟨b, 0, none⟩), rd] w fun e w' => e = .returned (.slice none 0 0) ∧ Keeps (fun _ => False) w w' := by
  obtain ⟨v, hv, hb, hne⟩ := he
  obtain ⟨a, n, c, rfl⟩ := hb.form
  have c0 : w.cell? ⟨b, 0, none⟩ = some (.slice a n c) := by rw [cell_of_row w _ _ _ _ _ hv]; rfl
  have c1 : w.cell? ⟨b, 1, none⟩ = some (.bool true) := by rw [cell_of_row w _ _ _ _ _ hv]; rfl
  have d0 := fun ob => alloc_cell c0 ob
  have d1 := fun ob => alloc_cell c1 ob
  have e0 := fun ob => fun ob' => alloc_cell (alloc_cell c0 ob) ob'
  have e1 := fun ob => fun ob' => alloc_cell (alloc_cell c1 ob) ob'
  have HB := Lib.hid hb
  have HV := Lib.hid hv
  have HN := Lib.hid hne
  clear hv hb hne
  have hmf : ∀ (fn : Fn) (first cap : Array Value) (w : World), (Instr.makeFunc fn first cap).run Try.prog w = .ok (.func fn first cap) w := fun _ _ _ _ => rfl
  clear HB HV HN
  go_enter_defers Try.func59, Try.ntmps59
  go_wp2
  exact ⟨_, results_tmp rfl _ _ _, rfl, (by repeat (first | with_reducible exact Keeps.refl _ _ | with_reducible refine kAlloc ?_ _ | with_reducible refine kDrew ?_))⟩

set_option maxRecDepth 100000 in
set_option maxHeartbeats 1000000 in
theorem look59_nil (w : World) (rd : Value) :
    Calls Try.prog 59 #[.pointer none, rd] w fun e w' => e = .returned (.slice none 0 0) ∧ Keeps (fun _ => False) w w' := by
  go_enter_defers Try.func59, Try.ntmps59
  go_wp2
  exact ⟨_, results_tmp rfl _ _ _, rfl, (by repeat (first | with_reducible exact Keeps.refl _ _ | with_reducible refine kAlloc ?_ _ | with_reducible refine kDrew ?_))⟩

end Go.Proofs.Ytjojjpfjennnoaa
