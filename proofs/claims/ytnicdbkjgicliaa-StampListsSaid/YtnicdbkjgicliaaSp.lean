/- Plain facts about stamps as pairs of numbers and lists of them: the order, the greatest one, sorted lists. No program is named. -/
import Derived.Test.YtnicdbkjgicliaaSa
namespace Go.Proofs.Ytnicdbkjgicliaa

theorem ltS_iff (a b : Int × Int) : ltS a b = true ↔ a.1 < b.1 ∨ a.1 = b.1 ∧ a.2 < b.2 := by simp [ltS]
theorem ltS_not (a b : Int × Int) : ltS a b = false ↔ ¬ (a.1 < b.1 ∨ a.1 = b.1 ∧ a.2 < b.2) := by simp [ltS]
theorem cmpI_eq (a b : Int) : (cmpI a b = -1 ∧ a < b) ∨ (cmpI a b = 0 ∧ a = b) ∨ (cmpI a b = 1 ∧ b < a) := by
  unfold cmpI
  split
  · exact .inl ⟨rfl, ‹_›⟩
  · split
    · exact .inr (.inr ⟨rfl, ‹_›⟩)
    · exact .inr (.inl ⟨rfl, by omega⟩)
theorem cmpS_eq (t n t' n' : Int) : (cmpS t n t' n' = -1 ∧ ltS (t, n) (t', n') = true ∧ ltS (t', n') (t, n) = false) ∨ (cmpS t n t' n' = 0 ∧ t = t' ∧ n = n') ∨ (cmpS t n t' n' = 1 ∧ ltS (t', n') (t, n) = true ∧ ltS (t, n) (t', n') = false) := by
  unfold cmpS orI
  simp only [ltS_iff, ltS_not]
  rcases cmpI_eq t t' with ⟨h, h1⟩ | ⟨h, h1⟩ | ⟨h, h1⟩ <;> rcases cmpI_eq n n' with ⟨g, g1⟩ | ⟨g, g1⟩ | ⟨g, g1⟩ <;> rw [h, g] <;> simp <;> omega
theorem cmpS_neg (t n t' n' : Int) : cmpS t n t' n' < 0 ↔ ltS (t, n) (t', n') = true := by
  rcases cmpS_eq t n t' n' with ⟨h, h1, h2⟩ | ⟨h, h1, h2⟩ | ⟨h, h1, h2⟩ <;> rw [h]
  · simp [h1]
  · subst h1; subst h2; simp [ltS]
  · simp [h2]
theorem cmpS_pos (t n t' n' : Int) : 0 < cmpS t n t' n' ↔ ltS (t', n') (t, n) = true := by
  rcases cmpS_eq t n t' n' with ⟨h, h1, h2⟩ | ⟨h, h1, h2⟩ | ⟨h, h1, h2⟩ <;> rw [h]
  · simp [h2]
  · subst h1; subst h2; simp [ltS]
  · simp [h1]

def stepM (m y : Int × Int) : Int × Int := if ltS m y then y else m
/-- The greatest one; (0, 0), if there is none. -/
def maxL : List (Int × Int) → Int × Int
  | [] => (0, 0)
  | x :: r => r.foldl stepM x
theorem maxL_take (l : List (Int × Int)) (k : Nat) (y : Int × Int) (h1 : 1 ≤ k) (hy : l[k]? = some y) : maxL (l.take (k + 1)) = stepM (maxL (l.take k)) y := by
  cases l with
  | nil => simp at hy
  | cons x r =>
    obtain ⟨k, rfl⟩ : ∃ j, k = j + 1 := ⟨k - 1, by omega⟩
    rw [List.getElem?_cons_succ] at hy
    simp only [List.take_succ_cons, maxL]
    rw [List.take_add_one, hy]
    simp [List.foldl_append]
theorem maxL_one (l : List (Int × Int)) (y : Int × Int) (hy : l[0]? = some y) : maxL (l.take 1) = y := by
  cases l with
  | nil => simp at hy
  | cons x r => simp at hy; simp [maxL, hy]
theorem foldl_max (r : List (Int × Int)) : ∀ x : Int × Int, (r.foldl stepM x = x ∨ r.foldl stepM x ∈ r) ∧ ltS (r.foldl stepM x) x = false ∧ ∀ y ∈ r, ltS (r.foldl stepM x) y = false := by
  induction r with
  | nil => intro x; simp [ltS]
  | cons a r ih =>
    intro x
    obtain ⟨h1, h2, h3⟩ := ih (stepM x a)
    simp only [List.foldl_cons]
    generalize List.foldl stepM (stepM x a) r = m at *
    have hs : stepM x a = x ∧ ltS x a = false ∨ stepM x a = a ∧ ltS x a = true := by
      unfold stepM
      cases h : ltS x a <;> simp
    refine ⟨?_, ?_, ?_⟩
    · rcases h1 with h1 | h1
      · rcases hs with ⟨h, _⟩ | ⟨h, _⟩
        · exact .inl (h1.trans h)
        · exact .inr (by rw [h1, h]; simp)
      · exact .inr (by simp [h1])
    · rcases hs with ⟨h, h'⟩ | ⟨h, h'⟩ <;> rw [h] at h2 <;> rw [ltS_not] at *
      · exact h2
      · rw [ltS_iff] at h'; omega
    · intro y hy
      rcases List.mem_cons.1 hy with rfl | hy
      · rcases hs with ⟨h, h'⟩ | ⟨h, h'⟩ <;> rw [h] at h2
        · rw [ltS_not] at *; omega
        · exact h2
      · exact h3 y hy
theorem maxL_mem (l : List (Int × Int)) (h : l ≠ []) : maxL l ∈ l := by
  cases l with
  | nil => exact absurd rfl h
  | cons x r =>
    rcases (foldl_max r x).1 with h | h
    · simp only [maxL]; rw [h]; simp
    · simp only [maxL]; simp [h]
theorem maxL_ge (l : List (Int × Int)) : ∀ y ∈ l, ltS (maxL l) y = false := by
  cases l with
  | nil => intro y hy; simp at hy
  | cons x r =>
    intro y hy
    rcases List.mem_cons.1 hy with rfl | hy
    · exact (foldl_max r y).2.1
    · exact (foldl_max r x).2.2 y hy

end Go.Proofs.Ytnicdbkjgicliaa
