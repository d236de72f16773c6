/- Dependencies as lists: whether they may be, put together, parted. No program is named. -/
import Derived.Test.YtjlkgbejldcklaaGreatMg02
/- Dependencies as lists: whether they may be, put together, parted. No program is named. -/
set_option linter.unusedVariables false
namespace Go.Proofs.YtjlkgbejldcklaaGreat
open S1
namespace SD

/-- Dependencies: shards, each with its stamps. -/
abbrev Dd := List (Int × List (Int × Int))
/-- Each less than the next one. -/
def risB : List (Int × Int) → Bool
  | x :: y :: r => ltS x y && risB (y :: r)
  | _ => true
theorem risB_iff : ∀ {l : List (Int × Int)}, risB l = true ↔ SS l := by
  intro l
  induction l with
  | nil => exact ⟨fun _ => List.Pairwise.nil, fun _ => rfl⟩
  | cons x r ih =>
    cases r with
    | nil => exact ⟨fun _ => List.pairwise_singleton _ _, fun _ => rfl⟩
    | cons y r =>
      unfold risB
      rw [Bool.and_eq_true, ih]
      constructor
      · rintro ⟨h1, h2⟩
        refine List.pairwise_cons.2 ⟨fun z hz => ?_, h2⟩
        rcases List.mem_cons.1 hz with rfl | hz
        · exact h1
        · exact ltS_trans h1 ((List.pairwise_cons.1 h2).1 z hz)
      · intro h
        obtain ⟨h1, h2⟩ := List.pairwise_cons.1 h
        exact ⟨h1 y (by simp), h2⟩
/-- How many stamps in all. -/
def idsN (d : Dd) : Nat := (d.map fun x => x.2.length).sum
/-- The shards rise, from behind p on; each may be; each has a list of stamps. -/
def depsF : Int → Dd → Bool
  | _, [] => true
  | p, x :: r => decide (p < x.1) && (decide (x.1 < 8) && (risB x.2 && (x.2.all isS && depsF x.1 r)))
def checkD (d : Dd) : Int := if 8 < d.length ∨ 512 < idsN d then 6 else if depsF (-1) d = true then 0 else 60
theorem checkD_ok {d : Dd} : checkD d = 0 ↔ d.length ≤ 8 ∧ idsN d ≤ 512 ∧ depsF (-1) d = true := by
  unfold checkD
  split
  · rename_i h
    constructor
    · intro e
      cases e
    · rintro ⟨h1, h2, _⟩
      omega
  · rename_i h
    split
    · rename_i h2
      exact ⟨fun _ => ⟨by omega, by omega, h2⟩, fun _ => rfl⟩
    · rename_i h2
      constructor
      · intro e
        cases e
      · rintro ⟨_, _, h3⟩
        exact absurd h3 h2
theorem idsN_cons (x : Int × List (Int × Int)) (r : Dd) : idsN (x :: r) = x.2.length + idsN r := by simp [idsN]
theorem idsN_nil : idsN [] = 0 := rfl
theorem idsN_append (a b : Dd) : idsN (a ++ b) = idsN a + idsN b := by simp [idsN]
theorem idsN_take {d : Dd} {k : Nat} {x : Int × List (Int × Int)} (h : d[k]? = some x) : idsN (d.take (k + 1)) = idsN (d.take k) + x.2.length := by
  rw [List.take_add_one, h, idsN_append]
  simp [idsN]
theorem idsN_mem {d : Dd} {x : Int × List (Int × Int)} (h : x ∈ d) : x.2.length ≤ idsN d := by
  induction d with
  | nil => cases h
  | cons y r ih =>
    rw [idsN_cons]
    rcases List.mem_cons.1 h with rfl | h
    · omega
    · have := ih h
      omega
/-- Ids of a shard. -/
def addD : Dd → Int → List (Int × Int) → Dd
  | [], s, l => [(s, sortL l)]
  | x :: r, s, l => if x.1 < s then x :: addD r s l else if x.1 = s then (s, sortL (x.2 ++ l)) :: r else (s, sortL l) :: x :: r
theorem addD_nil (s : Int) (l : List (Int × Int)) : addD [] s l = [(s, sortL l)] := rfl
theorem addD_cons (x : Int × List (Int × Int)) (r : Dd) (s : Int) (l : List (Int × Int)) : addD (x :: r) s l = if x.1 < s then x :: addD r s l else if x.1 = s then (s, sortL (x.2 ++ l)) :: r else (s, sortL l) :: x :: r := rfl
/-- Those of all, one behind the other. -/
def joinD (acc d : Dd) : Dd := d.foldl (fun a x => addD a x.1 x.2) acc
def mergeD (l : List Dd) : Dd := l.foldl joinD []
def getD : Dd → Int → List (Int × Int)
  | [], _ => []
  | x :: r, s => if x.1 = s then x.2 else getD r s
def onlyD (d : Dd) (P : List Int) : Dd := d.filter fun x => P.any (· == x.1)
def withoutD (d : Dd) (X : List (Int × Int)) : Dd := d.map fun x => (x.1, x.2.filter fun i => !X.contains i)
def belowD (d : Dd) (s : Int × Int) : Dd := d.map fun x => (x.1, x.2.filter fun i => ltS i s)
def allD (d : Dd) : List (Int × Int) := sortL (d.flatMap fun x => x.2)

/-- The shards rise, from behind p on. -/
def RisD (p : Int) (d : Dd) : Prop := (∀ x ∈ d, p < x.1) ∧ d.Pairwise fun a b => a.1 < b.1
theorem depsF_facts : ∀ {d : Dd} {p : Int}, depsF p d = true → RisD p d ∧ ∀ x ∈ d, x.1 < 8 ∧ SS x.2 ∧ ∀ i ∈ x.2, isS i = true := by
  intro d
  induction d with
  | nil => intro p _; exact ⟨⟨fun x hx => (by cases hx), List.Pairwise.nil⟩, fun x hx => (by cases hx)⟩
  | cons y r ih =>
    intro p h
    unfold depsF at h
    simp only [Bool.and_eq_true, decide_eq_true_eq, List.all_eq_true] at h
    obtain ⟨h1, h2, h3, h4, h5⟩ := h
    obtain ⟨⟨h6, h7⟩, h8⟩ := ih h5
    refine ⟨⟨fun x hx => ?_, List.pairwise_cons.2 ⟨fun x hx => h6 x hx, h7⟩⟩, fun x hx => ?_⟩
    · rcases List.mem_cons.1 hx with rfl | hx
      · exact h1
      · have := h6 x hx
        omega
    · rcases List.mem_cons.1 hx with rfl | hx
      · exact ⟨h2, risB_iff.1 h3, h4⟩
      · exact h8 x hx
theorem depsF_of : ∀ {d : Dd} {p : Int}, RisD p d → (∀ x ∈ d, x.1 < 8 ∧ SS x.2 ∧ ∀ i ∈ x.2, isS i = true) → depsF p d = true := by
  intro d
  induction d with
  | nil => intro p _ _; rfl
  | cons y r ih =>
    intro p h h2
    obtain ⟨h3, h4⟩ := h
    obtain ⟨h5, h6⟩ := List.pairwise_cons.1 h4
    obtain ⟨h7, h8, h9⟩ := h2 y (by simp)
    unfold depsF
    simp only [Bool.and_eq_true, decide_eq_true_eq, List.all_eq_true]
    exact ⟨h3 y (by simp), h7, risB_iff.2 h8, h9, ih ⟨h5, h6⟩ fun x hx => h2 x (by simp [hx])⟩
theorem getD_none {s t : Int} (ht : t ≤ s) : ∀ {d : Dd}, (∀ y ∈ d, s < y.1) → getD d t = [] := by
  intro d
  induction d with
  | nil => intro _; rfl
  | cons y q ih =>
    intro h
    unfold getD
    rw [if_neg (by have := h y (by simp); omega)]
    exact ih fun z hz => h z (by simp [hz])
/-- Ids are put in: the shards rise as before; who has which stamps. -/
theorem addD_mem : ∀ {d : Dd} {p s : Int} {l : List (Int × Int)}, RisD p d → p < s → RisD p (addD d s l) ∧ ∀ t i, i ∈ getD (addD d s l) t ↔ i ∈ getD d t ∨ (t = s ∧ i ∈ l) := by
  intro d
  induction d with
  | nil =>
    intro p s l _ hp
    refine ⟨⟨fun x hx => ?_, List.pairwise_singleton _ _⟩, fun t i => ?_⟩
    · simp only [addD_nil, List.mem_singleton] at hx
      subst hx
      exact hp
    · rw [addD_nil]
      unfold getD
      by_cases h : s = t
      · subst h
        rw [if_pos rfl]
        simp [mem_sortL]
      · have h2 : ¬ t = s := fun e => h e.symm
        simp [getD, h, h2]
  | cons x r ih =>
    intro p s l h hp
    obtain ⟨h1, h2⟩ := h
    obtain ⟨h3, h4⟩ := List.pairwise_cons.1 h2
    rw [addD_cons]
    by_cases hlt : x.1 < s
    · rw [if_pos hlt]
      obtain ⟨⟨h5, h6⟩, h7⟩ := ih (p := x.1) (l := l) ⟨h3, h4⟩ hlt
      refine ⟨⟨fun y hy => ?_, List.pairwise_cons.2 ⟨h5, h6⟩⟩, fun t i => ?_⟩
      · rcases List.mem_cons.1 hy with rfl | hy
        · exact h1 _ (by simp)
        · have := h5 y hy
          have := h1 x (by simp)
          omega
      · unfold getD
        by_cases ht : x.1 = t
        · rw [if_pos ht, if_pos ht]
          constructor
          · exact fun h => .inl h
          · rintro (h | ⟨rfl, _⟩)
            · exact h
            · omega
        · rw [if_neg ht, if_neg ht]
          exact h7 t i
    · rw [if_neg hlt]
      by_cases he : x.1 = s
      · rw [if_pos he]
        subst he
        refine ⟨⟨fun y hy => ?_, List.pairwise_cons.2 ⟨fun y hy => h3 y hy, h4⟩⟩, fun t i => ?_⟩
        · rcases List.mem_cons.1 hy with rfl | hy
          · exact hp
          · exact h1 y (by simp [hy])
        · unfold getD
          by_cases ht : x.1 = t
          · rw [if_pos ht, if_pos ht, mem_sortL, List.mem_append]
            constructor
            · rintro (h | h)
              · exact .inl h
              · exact .inr ⟨ht.symm, h⟩
            · rintro (h | ⟨_, h⟩)
              · exact .inl h
              · exact .inr h
          · rw [if_neg ht, if_neg ht]
            constructor
            · exact fun h => .inl h
            · rintro (h | ⟨rfl, _⟩)
              · exact h
              · exact absurd rfl ht
      · rw [if_neg he]
        refine ⟨⟨fun y hy => ?_, List.pairwise_cons.2 ⟨fun y hy => ?_, h2⟩⟩, fun t i => ?_⟩
        · rcases List.mem_cons.1 hy with rfl | hy
          · exact hp
          · exact h1 y hy
        · rcases List.mem_cons.1 hy with rfl | hy
          · show s < _
            omega
          · have := h3 y hy
            show s < _
            omega
        · have hno : ∀ t, t ≤ s → getD (x :: r) t = [] := by
            intro t ht
            have hx : ∀ y ∈ x :: r, s < y.1 := fun y hy => by
              rcases List.mem_cons.1 hy with rfl | hy
              · omega
              · have := h3 y hy
                omega
            exact getD_none ht hx
          by_cases ht : s = t
          · subst ht
            rw [hno s (Int.le_refl _)]
            simp [getD, mem_sortL]
          · have h5 : ¬ t = s := fun e => ht e.symm
            conv => lhs; unfold getD
            rw [if_neg ht]
            constructor
            · exact fun h => .inl h
            · rintro (h | ⟨e, _⟩)
              · exact h
              · exact absurd e h5

end SD
end Go.Proofs.YtjlkgbejldcklaaGreat
