/- Stores into a part of a block, the world behind told by that block's whole row: no program is named. Conditions: none. -/
import Derived.Deep.MidRow
import Derived.Deep.WholeRow
import Derived.Laws.AppendOwn
import Derived.WalkSpells
set_option maxRecDepth 100000
set_option maxHeartbeats 16000000
set_option linter.unusedVariables false
set_option linter.unusedSimpArgs false
namespace Go.Proofs.YtgipkikedacmdaaGreat
namespace SC
open Go.RowKit
def splice : Array Value → Nat → List Value → Array Value
 | C, _, [] => C
 | C, i, v :: r => splice (C.setIfInBounds i v) (i + 1) r
theorem setCells_row : ∀ (vs : List Value) (w : World) (b o : Nat) (C : Array Value) (T : TypeId), w.heap[b]? = some (.cells C T (0, 0)) → (w.setCells b o vs).heap[b]? = some (.cells (splice C o vs) T (0, 0)) ∧ w.grownBy (w.setCells b o vs) (some b) := by
 intro vs
 induction vs with
 | nil => intro w b o C T h; exact ⟨h, rfl, rfl, rfl, Nat.le_refl _, fun _ _ _ => rfl⟩
 | cons v r ih =>
  intro w b o C T h
  have h1 := heap_setCell_same w b o C T v h
  obtain ⟨h2, h3⟩ := ih (w.setCell ⟨b, o, none⟩ v) b (o + 1) _ T h1
  have e := setCell_eq_setRow w b o C T (0, 0) v h
  refine ⟨h2, ?_⟩
  show w.grownBy ((w.setCell ⟨b, o, none⟩ v).setCells b (o + 1) r) (some b)
  refine ⟨?_, ?_, ?_, ?_, ?_⟩
  ·rw [h3.os, e]; rfl
  ·rw [h3.tape, e]; rfl
  ·rw [h3.output, e]; rfl
  ·refine Nat.le_trans ?_ h3.size; rw [e]; simp
  ·intro k hk hne
   rw [h3.block k (by rw [e]; simpa using hk) hne]
   exact heap_setCell_other w _ k v (fun x => hne (by rw [x]))
theorem run_storeVar_part {P : Program} (w : World) (b o : Nat) (ty : TypeId) {v : Value} {cs : Array Value} (hv : v.cells = cs) {C : Array Value} {T : TypeId} (hg : w.heap[b]? = some (.cells C T (0, 0))) (hi : (P.info? ty).map (·.size) = some cs.size) (hfit : o + cs.size ≤ C.size) (h1 : cs.all (·.oneCell') = true) :
  (storeVar ty ⟨b, o, none⟩ v).run P w = .ok () (w.setCells b o cs.toList) := by
 have := run_storeCells_cells (P := P) b o cs.toList 0 w (fun j hj => by
   have hj' : j < cs.size := by simpa using hj
   rw [cell_of_row w b (o + 0 + j) C T (0, 0) hg]
   rw [Array.getElem?_eq_getElem (by omega)]
   rfl) (fun j hj => frozen_of_row w b _ C T hg)
  (fun x hx => (Array.all_eq_true_iff_forall_mem.1 h1) x (by simpa using hx))
 cases hq : P.info? ty with
 | none => simp [hq] at hi
 | some i =>
  have hs : cs.size = i.size := by simp [hq] at hi; omega
  simp only [Nat.add_zero] at this
  simp [storeVar, sizeOf, typeInfo, hq, hv, hs, this]
theorem wp_store_part {P : Program} {op : Oper} {a : Act} {w : World} {K : Act → World → Prop} {Q : Exit → Act → World → Prop} (ty : TypeId) (x y : Operand) (ho : op.op = .store ty x y)
  (b o : Nat) (hx : a.eval x = .pointer (some ⟨b, o, none⟩)) {v : Value} (hy : a.eval y = v) {cs : Array Value} (hv : v.cells = cs) {C D : Array Value} {T : TypeId} (hg : w.heap[b]? = some (.cells C T (0, 0))) (hi : (P.info? ty).map (·.size) = some cs.size) (hfit : o + cs.size ≤ C.size) (h1 : cs.all (·.oneCell') = true) (hD : splice C o cs.toList = D)
  (h : ∀ w', w'.heap[b]? = some (.cells D T (0, 0)) → w.grownBy w' (some b) → K (a.put op.dst undef) w') : op.wp P a w K Q := by
 unfold Oper.wp execOp
 simp only [ho, hx, hy, Instr.storeAt, Instr.sureAddr, Sem.run_bind, Sem.run_pure, Result.andThen_ok, run_storeVar_part w b o ty hv hg hi hfit h1]
 obtain ⟨h2, h3⟩ := setCells_row cs.toList w b o C T hg
 rw [hD] at h2
 exact h _ h2 h3
theorem wpList_unguard9 {P : Program} {ops : Array Oper} {Q : Exit → Act → World → Prop} {a : Act} {w : World} {rest : List Oper} {o : Oper} (hw : Region.wanted o (yielded ops a.tmps) = true)
  (h : wpList P ops Q ({ o with guard := none } :: rest) a w) : wpList P ops Q (o :: rest) a w := by
 unfold wpList at h ⊢
 rw [if_pos hw]
 rw [if_pos (by simp [Region.wanted])] at h
 exact h
theorem wpList_store_part {P : Program} {ops : Array Oper} {rest : List Oper} {op : Oper} {a : Act} {w : World} {Q : Exit → Act → World → Prop} (ty : TypeId) (x y : Operand) (ho : op.op = .store ty x y) (hw : Region.wanted op (yielded ops a.tmps) = true)
  (b o : Nat) (hx : a.eval x = .pointer (some ⟨b, o, none⟩)) {v : Value} (hy : a.eval y = v) {cs : Array Value} (hv : v.cells = cs) {C D : Array Value} {T : TypeId} (hg : w.heap[b]? = some (.cells C T (0, 0))) (hi : (P.info? ty).map (·.size) = some cs.size) (hfit : o + cs.size ≤ C.size) (h1 : cs.all (·.oneCell') = true) (hD : splice C o cs.toList = D)
  (h : ∀ w', w'.heap[b]? = some (.cells D T (0, 0)) → w.grownBy w' (some b) → wpList P ops Q rest (a.put op.dst undef) w') : wpList P ops Q (op :: rest) a w :=
 wpList_unguard9 hw (wpList_plain rfl fun _ hK => wp_store_part ty x y ho b o hx hy hv hg hi hfit h1 hD (fun w' h1 h2 => hK _ _ (h w' h1 h2)))
theorem range_part {w : World} {b : Nat} {C : Array Value} {T : TypeId} {fr : Nat × Nat} (hg : w.heap[b]? = some (.cells C T fr)) (o : Nat) (cs : List Value) (h : ∀ j v, cs[j]? = some v → C[o + j]? = some v) : w.rangeAt b o cs := fun j v hj => by
 rw [cell_of_row w b (o + j) C T fr hg]
 exact h j v hj
theorem wp_load_one {P : Program} {op : Oper} {a : Act} {w : World} {K : Act → World → Prop} {Q : Exit → Act → World → Prop} (ty : TypeId) (x : Operand) (ho : op.op = .load ty x)
  (b o : Nat) (hx : a.eval x = .pointer (some ⟨b, o, none⟩)) {C : Array Value} {T : TypeId} {fr : Nat × Nat} (hg : w.heap[b]? = some (.cells C T fr)) {d : TypeDesc} (hu : P.underlying ty = some d) (hd : d.isRow = false) {v : Value} (hv : C[o]? = some v)
  (h : K (a.put op.dst v) w) : op.wp P a w K Q := by
 have hc : w.cell? ⟨b, o, none⟩ = some v := (cell_of_row w b o C T fr hg).trans hv
 have hagg : (isAgg ty).run P w = .ok false w := by
  unfold isAgg
  rw [Sem.run_bind, run_underlying hu w]
  cases d <;> simp_all
 have hl : (loadVar ty ⟨b, o, none⟩).run P w = .ok v w := by
  unfold loadVar
  rw [Sem.run_bind, hagg]
  simp [hc]
 unfold Oper.wp execOp
 simp only [ho, hx, Instr.loadAt, Instr.sureAddr, Sem.run_bind, Sem.run_pure, Result.andThen_ok, hl]
 exact h
theorem wpList_load_one {P : Program} {ops : Array Oper} {rest : List Oper} {op : Oper} {a : Act} {w : World} {Q : Exit → Act → World → Prop} (ty : TypeId) (x : Operand) (ho : op.op = .load ty x) (hw : Region.wanted op (yielded ops a.tmps) = true)
  (b o : Nat) (hx : a.eval x = .pointer (some ⟨b, o, none⟩)) {C : Array Value} {T : TypeId} {fr : Nat × Nat} (hg : w.heap[b]? = some (.cells C T fr)) {d : TypeDesc} (hu : P.underlying ty = some d) (hd : d.isRow = false) {v : Value} (hv : C[o]? = some v)
  (h : wpList P ops Q rest (a.put op.dst v) w) : wpList P ops Q (op :: rest) a w :=
 wpList_unguard9 hw (wpList_plain rfl fun _ hK => wp_load_one ty x ho b o hx hg hu hd hv (hK _ _ h))
theorem wp_load_part {P : Program} {op : Oper} {a : Act} {w : World} {K : Act → World → Prop} {Q : Exit → Act → World → Prop} (ty : TypeId) (x : Operand) (ho : op.op = .load ty x)
  (b o : Nat) (hx : a.eval x = .pointer (some ⟨b, o, none⟩)) {C : Array Value} {T : TypeId} {fr : Nat × Nat} (hg : w.heap[b]? = some (.cells C T fr)) {d : TypeDesc} (hu : P.underlying ty = some d) (hd : d.isRow = true) (cs : Array Value) (hi : (P.info? ty).map (·.size) = some cs.toList.length) (hcs : ∀ j v, cs.toList[j]? = some v → C[o + j]? = some v)
  (h : K (a.put op.dst (.agg cs)) w) : op.wp P a w K Q := by
 have := wp_load_mid (P := P) (Q := Q) (K := K) ty x ho b o hx cs.toList d (range_part hg o cs.toList hcs) hu hd hi
 rw [Array.toArray_toList] at this
 exact this h
theorem wpList_load_part {P : Program} {ops : Array Oper} {rest : List Oper} {op : Oper} {a : Act} {w : World} {Q : Exit → Act → World → Prop} (ty : TypeId) (x : Operand) (ho : op.op = .load ty x) (hw : Region.wanted op (yielded ops a.tmps) = true)
  (b o : Nat) (hx : a.eval x = .pointer (some ⟨b, o, none⟩)) {C : Array Value} {T : TypeId} {fr : Nat × Nat} (hg : w.heap[b]? = some (.cells C T fr)) {d : TypeDesc} (hu : P.underlying ty = some d) (hd : d.isRow = true) (cs : Array Value) (hi : (P.info? ty).map (·.size) = some cs.toList.length) (hcs : ∀ j v, cs.toList[j]? = some v → C[o + j]? = some v)
  (h : wpList P ops Q rest (a.put op.dst (.agg cs)) w) : wpList P ops Q (op :: rest) a w :=
 wpList_unguard9 hw (wpList_plain rfl fun _ hK => wp_load_part ty x ho b o hx hg hu hd cs hi hcs (hK _ _ h))
theorem two_at {C : Array Value} {o : Nat} {x y : Value} (h0 : C[o]? = some x) (h1 : C[o + 1]? = some y) : ∀ j v, (#[x, y] : Array Value).toList[j]? = some v → C[o + j]? = some v := by
 intro j v hj
 match j, hj with
 | 0, hj => simp only [List.getElem?_cons_zero, Option.some.injEq] at hj; subst hj; exact h0
 | 1, hj => simp only [List.getElem?_cons_succ, List.getElem?_cons_zero, Option.some.injEq] at hj; subst hj; exact h1
 | n + 2, hj => simp at hj
theorem four_at {C : Array Value} {o : Nat} {x y z u : Value} (h0 : C[o]? = some x) (h1 : C[o + 1]? = some y) (h2 : C[o + 2]? = some z) (h3 : C[o + 3]? = some u) : ∀ j v, (#[x, y, z, u] : Array Value).toList[j]? = some v → C[o + j]? = some v := by
 intro j v hj
 match j, hj with
 | 0, hj => simp only [List.getElem?_cons_zero, Option.some.injEq] at hj; subst hj; exact h0
 | 1, hj => simp only [List.getElem?_cons_succ, List.getElem?_cons_zero, Option.some.injEq] at hj; subst hj; exact h1
 | 2, hj => simp only [List.getElem?_cons_succ, List.getElem?_cons_zero, Option.some.injEq] at hj; subst hj; exact h2
 | 3, hj => simp only [List.getElem?_cons_succ, List.getElem?_cons_zero, Option.some.injEq] at hj; subst hj; exact h3
 | n + 4, hj => simp at hj
theorem atW {P : Program} {ops : Array Oper} {Q : Exit → Act → World → Prop} {a : Act} {l : List Oper} (w : World) (h : wpList P ops Q l a w) : wpList P ops Q l a w := h
theorem atC {P : Program} {f : FuncId} {args : Array Value} {Q : Ending → World → Prop} (w : World) (h : Calls P f args w Q) : Calls P f args w Q := h
end SC
end Go.Proofs.YtgipkikedacmdaaGreat
