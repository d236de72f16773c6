/- Whether numbers are rising nodes, whether spans lie one behind the other. Conditions: lists of at most a million. -/
import Derived.Test.YtopogdfmbdbimaaTb
set_option linter.unusedVariables false
namespace Go.Proofs.Ytopogdfmbdbimaa
open Go.RowKit

theorem ris_drop {l : List Int} {k : Nat} {n : Int} (h : l[k]? = some n) (p : Int) : risF p (l.drop k) = (nodeB n && (decide (p < n) && risF n (l.drop (k + 1)))) := by
  obtain ⟨h1, rfl⟩ := List.getElem?_eq_some_iff.1 h
  rw [List.drop_eq_getElem_cons h1]
  rfl
/-- Of l the first k are rising nodes, the last of which is p. -/
def RisAt (l : List Int) (k : Nat) (p : Int) : Prop := (k = 0 → p = 0) ∧ (∀ j, k = j + 1 → l[j]? = some p) ∧ risF 0 l = risF p (l.drop k)
theorem risAt_zero (l : List Int) : RisAt l 0 0 := ⟨fun _ => rfl, fun j h => (by cases h), rfl⟩
theorem risAt_next {l : List Int} {k : Nat} {p n : Int} (h : RisAt l k p) (hn : l[k]? = some n) (h1 : nodeB n = true) (h2 : p < n) : RisAt l (k + 1) n := by
  refine ⟨fun h => (by cases h), fun j hj => by cases hj; exact hn, ?_⟩
  rw [h.2.2, ris_drop hn, h1]
  simp [h2]
theorem risAt_bad {l : List Int} {k : Nat} {p n : Int} (h : RisAt l k p) (hn : l[k]? = some n) (h1 : nodeB n = false ∨ n ≤ p) : risF 0 l = false := by
  rw [h.2.2, ris_drop hn]
  rcases h1 with h1 | h1
  · rw [h1]; rfl
  · have : ¬ p < n := by omega
    simp [this]
theorem risAt_end {l : List Int} {k : Nat} {p : Int} (h : RisAt l k p) (hk : l.length ≤ k) : risF 0 l = true := by
  rw [h.2.2, List.drop_eq_nil_of_le hk]
  rfl

end Go.Proofs.Ytopogdfmbdbimaa
