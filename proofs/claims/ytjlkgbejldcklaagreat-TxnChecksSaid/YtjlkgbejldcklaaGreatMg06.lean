/- Less; Union. Conditions: lists of at most some hundred thousand spans. -/
import Derived.Test.YtjlkgbejldcklaaGreatProg
import Derived.Shelf.SlSortCmp.NoneTotal
import Derived.Test.YtjlkgbejldcklaaGreatMg05
/- The library's sort at spans by their From: it leaves a permutation of the row, in which no From is below one ahead. Conditions: a row of at most a million spans that may be written. -/
namespace Go.Proofs.YtjlkgbejldcklaaGreat
namespace S3
open Go.RowKit
open Go.Sort (grow flatK get_flatK size_flatK Holds HoldsK putRowK putRow mapBlock onCells SWO grow_grow alloc_eq_grow)

theorem grow_below (w : World) (q : Nat) (os : Array Obj) : Below w.heap.size w (grow (w.drewN q) os) :=
  ⟨rfl, rfl, rfl, by simp [grow, World.drewN], fun k hk => by
    show (w.heap ++ os)[k]? = _
    rw [Array.getElem?_append_left hk]⟩
def encS (x : Sp) : List Value := [.string x.1, .string x.2]
def cfS (x y : Sp) : Int := cmpT x.1 y.1
theorem ltOf_cfS (x y : Sp) : ltOf cfS x y = ltT x.1 y.1 := by
  unfold ltOf cfS
  cases h : ltT x.1 y.1
  · simp only [decide_eq_false_iff_not]
    intro hc
    rw [(cmpT_neg x.1 y.1).1 hc] at h
    cases h
  · simp only [decide_eq_true_eq]
    exact (cmpT_neg x.1 y.1).2 h
theorem swoS : SWO (ltOf cfS) where
  irrefl x := by rw [ltOf_cfS, lt_irrefl]
  trans x y z h1 h2 := by rw [ltOf_cfS] at *; exact lt_trans h1 h2
  ntrans x y z h1 h2 := by rw [ltOf_cfS] at *; exact ge_trans h2 h1
/-- Block g holds the spans of l from its head on, and they may be written. -/
def RowC (w : World) (g : Nat) (l : List Sp) : Prop := Row2 w g 0 l ∧ ∀ i, i < l.length * 2 → w.frozen? ⟨g, i, none⟩ = false
theorem holds_of_row {w : World} {g : Nat} {l : List Sp} (h : RowC w g l) : HoldsK encS 2 w g 0 l.toArray := by
  intro j hj
  rw [size_flatK] at hj
  have hj2 : j < l.length * 2 := by simpa using hj
  obtain ⟨s, hs⟩ := at_lt (l := l) (k := j / 2) (by omega)
  obtain ⟨c0, c1⟩ := h.1 (j / 2) s hs
  have hget : l.toArray[j / 2]! = s := by simp [hs]
  rw [get_flatK _ _ _ _ hj, hget, Nat.zero_add]
  rw [Nat.zero_add] at c0 c1
  refine ⟨?_, h.2 j hj2⟩
  rcases Nat.mod_two_eq_zero_or_one j with hm | hm
  · rw [hm]
    rw [show j / 2 * 2 = j by omega] at c0
    exact c0
  · rw [hm]
    rw [show j / 2 * 2 + 1 = j by omega] at c1
    exact c1
theorem row_of_holds {w : World} {g : Nat} {d : Array Sp} (h : HoldsK encS 2 w g 0 d) : Row2 w g 0 d.toList := by
  intro i s hi
  have hil : i < d.size := by simpa using (List.getElem?_eq_some_iff.1 hi).1
  have hget : d[i]! = s := by
    have : d[i]? = some s := by simpa using hi
    rw [getElem!_pos d i hil]
    rw [Array.getElem?_eq_getElem hil] at this
    exact Option.some.inj this
  have h0 := h (i * 2) (by rw [size_flatK]; omega)
  have h1 := h (i * 2 + 1) (by rw [size_flatK]; omega)
  rw [get_flatK _ _ _ _ (by omega), Nat.zero_add] at h0 h1
  rw [show i * 2 / 2 = i by omega, show i * 2 % 2 = 0 by omega, hget] at h0
  rw [show (i * 2 + 1) / 2 = i by omega, show (i * 2 + 1) % 2 = 1 by omega, hget] at h1
  rw [Nat.zero_add]
  exact ⟨h0.1, h1.1⟩
theorem but_sortWorld (w : World) (g m : Nat) (d : Array Sp) (os : Array Obj) : w.grownBy (sortWorldK encS 2 w g 0 m d os) (some g) := by
  have h1 : w.grownBy (putRowK encS 2 (Go.Sort.ahead w m) g 0 d) (some g) := by
    refine ⟨rfl, rfl, rfl, ?_, fun k hk hne => ?_⟩
    · simp [putRowK, Go.Sort.ahead]
    · have hkg : g ≠ k := fun e => hne (by rw [e])
      simp only [putRowK, putRow, mapBlock, Go.Sort.ahead, Array.getElem?_modify]
      rw [if_neg hkg]
  have h2 := grow_below (putRowK encS 2 (Go.Sort.ahead w m) g 0 d) 0 os
  exact ⟨h2.os.trans h1.os, h2.tape.trans h1.tape, h2.output.trans h1.output, Nat.le_trans h1.size h2.size, fun k hk hne => (h2.block k (Nat.lt_of_lt_of_le hk h1.size)).trans (h1.block k hk hne)⟩

end S3
end Go.Proofs.YtjlkgbejldcklaaGreat

/- The spans that are not empty, by rising From; outside; Union. Conditions: lists of at most a million spans. -/
namespace Go.Proofs.YtjlkgbejldcklaaGreat
namespace S3
open Go.RowKit

theorem one_new (X : World) (s : Sp) (n : Nat) (h : X.heap.size = n) : Sl (X.alloc (.cells #[.string s.1, .string s.2] 195)) (.slice (some ⟨n, 0, none⟩) 1 1) [s] := by
  subst h
  exact one_sl (box2_new X s) 1
theorem filter_take {α : Type} (p : α → Bool) (l : List α) (k : Nat) (x : α) (h : l[k]? = some x) : (l.take (k + 1)).filter p = (l.take k).filter p ++ if p x then [x] else [] := by
  rw [List.take_add_one, h, List.filter_append]
  cases hp : p x <;> simp [hp]
theorem filter_len {α : Type} (p : α → Bool) (l : List α) (k : Nat) : ((l.take k).filter p).length ≤ l.length := Nat.le_trans (List.length_filter_le _ _) (by simp; omega)

end S3
end Go.Proofs.YtjlkgbejldcklaaGreat

/- Less; Union. Conditions: lists of at most some hundred thousand spans. -/
set_option linter.unusedVariables false
namespace Go.Proofs.YtjlkgbejldcklaaGreat
namespace S3
open Go.RowKit

theorem OwnL.setTo {w : World} {base g m c : Nat} {pre : List Sp} {cur : Sp} (h : OwnL w base (.slice (some ⟨g, 0, none⟩) (m + 1) c) (pre ++ [cur])) (t : ByteArray) (hm : pre.length = m) :
    OwnL (w.setCell ⟨g, m * 2 + 1, none⟩ (.string t)) base (.slice (some ⟨g, 0, none⟩) (m + 1) c) (pre ++ [(cur.1, t)]) := by
  subst hm
  obtain ⟨h1, ⟨h2, _⟩ | ⟨g', cap, cs, hv, hg, hh, hn, hm, hs, hx⟩⟩ := h
  · cases h2
  · simp only [Value.slice.injEq, Option.some.injEq, Addr.mk.injEq, and_true] at hv
    obtain ⟨rfl, _, rfl⟩ := hv
    refine ⟨cellsL_length _, .inr ⟨g, c, _, by simp, hg, block_setCell hh _, by simpa using hn, hm, by simp [hs], ?_⟩⟩
    have e1 : (pre ++ [(cur.1, t)]).length = (pre ++ [cur]).length := by simp
    rw [e1, Array.toList_setIfInBounds, List.take_set, hx]
    simp only [cellsL_append]
    have e2 : pre.length * 2 + 1 = (cellsL pre).length + 1 := by rw [cellsL_length]
    rw [e2, List.set_append_right _ _ (by omega), show (cellsL pre).length + 1 - (cellsL pre).length = 1 by omega]
    rfl

end S3
end Go.Proofs.YtjlkgbejldcklaaGreat
