/- Whether the spans of shards lie one behind the other; Check of the program. Conditions: a topology of less than 2^63 shards. -/
import Derived.Test.YtopogdfmbdbimaaTc
set_option linter.unusedVariables false
namespace Go.Proofs.Ytopogdfmbdbimaa
open Go.RowKit

theorem row_drop {l : List Sh} {k : Nat} {s : Sh} (h : l[k]? = some s) (x : ByteArray) : rowF x ((spans l).drop k) = ((s.sp.1.toList == x.toList) && ((decide (k + 1 = l.length) || (ltT s.sp.1 s.sp.2 && decide (s.sp.2.size ≤ 16))) && rowF s.sp.2 ((spans l).drop (k + 1)))) := by
  obtain ⟨h1, rfl⟩ := List.getElem?_eq_some_iff.1 h
  have hl : (spans l).length = l.length := by simp [spans]
  rw [List.drop_eq_getElem_cons (by rw [hl]; exact h1)]
  have e : ((spans l).drop (k + 1)).isEmpty = decide (k + 1 = l.length) := by
    rw [Bool.eq_iff_iff, List.isEmpty_iff, List.drop_eq_nil_iff, hl, decide_eq_true_eq]
    omega
  rw [rowF, e]
  have e2 : (spans l)[k]'(by rw [hl]; exact h1) = l[k].sp := by simp [spans]
  rw [e2]
/-- Of the shards' spans the first k lie one behind the other, up to x. -/
def RowAt (l : List Sh) (k : Nat) (x : ByteArray) : Prop := rowF ⟨#[]⟩ (spans l) = rowF x ((spans l).drop k)
theorem rowAt_bad {l : List Sh} {k : Nat} {x : ByteArray} {s : Sh} (h : RowAt l k x) (hs : l[k]? = some s) (h1 : (s.sp.1.toList == x.toList) = false) : rowF ⟨#[]⟩ (spans l) = false := by
  rw [show rowF ⟨#[]⟩ (spans l) = _ from h, row_drop hs, h1]
  rfl
theorem rowAt_low {l : List Sh} {k : Nat} {x : ByteArray} {s : Sh} (h : RowAt l k x) (hs : l[k]? = some s) (h1 : ¬ k + 1 = l.length) (h2 : ltT s.sp.1 s.sp.2 = false ∨ 16 < s.sp.2.size) : rowF ⟨#[]⟩ (spans l) = false := by
  rw [show rowF ⟨#[]⟩ (spans l) = _ from h, row_drop hs]
  have e : (ltT s.sp.1 s.sp.2 && decide (s.sp.2.size ≤ 16)) = false := by
    rcases h2 with h2 | h2
    · rw [h2]; rfl
    · rw [decide_eq_false (by omega)]; simp
  rw [e, decide_eq_false h1]
  simp
theorem rowAt_next {l : List Sh} {k : Nat} {s : Sh} (h : RowAt l k s.sp.1) (hs : l[k]? = some s) (h1 : k + 1 = l.length ∨ (ltT s.sp.1 s.sp.2 = true ∧ s.sp.2.size ≤ 16)) : RowAt l (k + 1) s.sp.2 := by
  unfold RowAt
  rw [show rowF ⟨#[]⟩ (spans l) = _ from h, row_drop hs]
  have e : (decide (k + 1 = l.length) || (ltT s.sp.1 s.sp.2 && decide (s.sp.2.size ≤ 16))) = true := by
    rcases h1 with h1 | ⟨h1, h2⟩
    · rw [decide_eq_true h1]; rfl
    · rw [h1, decide_eq_true h2]; simp
  rw [e]
  simp
theorem rowAt_end {l : List Sh} {k : Nat} {x : ByteArray} (h : RowAt l k x) (hk : l.length ≤ k) : rowF ⟨#[]⟩ (spans l) = noT x := by
  rw [show rowF ⟨#[]⟩ (spans l) = _ from h, List.drop_eq_nil_of_le (by simpa [spans] using hk)]
  rfl
theorem le_iff (a b : ByteArray) : (Op.bytesLess b.toList a.toList || b.toList == a.toList) = !ltT a b := by
  show (ltT b a || b.toList == a.toList) = _
  cases h : ltT a b
  · cases h2 : ltT b a
    · rw [lt_total h h2]; simp
    · simp
  · rw [lt_asymm h]
    have : b.toList ≠ a.toList := by
      intro e
      rw [text_ext e, lt_irrefl] at h
      cases h
    simp [this]

end Go.Proofs.Ytopogdfmbdbimaa
