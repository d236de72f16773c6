/- Dependencies put together: which shards, whose stamps; two of them with the same shards and stamps are one. No program is named. -/
import Derived.Test.YtjlkgbejldcklaaGreatMg32
/- Dependencies put together: which shards, whose stamps; two of them with the same shards and stamps are one. No program is named. -/
set_option linter.unusedVariables false
namespace Go.Proofs.YtjlkgbejldcklaaGreat
open S1
namespace SD

/-- The shard is there. -/
def Sh (d : Dd) (t : Int) : Prop := ∃ x ∈ d, x.1 = t
def SSD (d : Dd) : Prop := ∀ x ∈ d, SS x.2
theorem sh_nil (t : Int) : ¬ Sh [] t := fun ⟨x, h, _⟩ => by cases h
theorem sh_cons (x : Int × List (Int × Int)) (r : Dd) (t : Int) : Sh (x :: r) t ↔ x.1 = t ∨ Sh r t := by
  constructor
  · rintro ⟨y, hy, h⟩
    rcases List.mem_cons.1 hy with rfl | hy
    · exact .inl h
    · exact .inr ⟨y, hy, h⟩
  · rintro (h | ⟨y, hy, h⟩)
    · exact ⟨x, by simp, h⟩
    · exact ⟨y, by simp [hy], h⟩
theorem sh_append (a b : Dd) (t : Int) : Sh (a ++ b) t ↔ Sh a t ∨ Sh b t := by
  constructor
  · rintro ⟨y, hy, h⟩
    rcases List.mem_append.1 hy with hy | hy
    · exact .inl ⟨y, hy, h⟩
    · exact .inr ⟨y, hy, h⟩
  · rintro (⟨y, hy, h⟩ | ⟨y, hy, h⟩)
    · exact ⟨y, by simp [hy], h⟩
    · exact ⟨y, by simp [hy], h⟩
theorem addD_sh : ∀ {d : Dd} {s : Int} {l : List (Int × Int)} (t : Int), Sh (addD d s l) t ↔ Sh d t ∨ s = t := by
  intro d
  induction d with
  | nil => intro s l t; rw [addD_nil, sh_cons]; exact ⟨fun h => by rcases h with h | h; exact .inr h; exact .inl h, fun h => by rcases h with h | h; exact .inr h; exact .inl h⟩
  | cons x r ih =>
    intro s l t
    rw [addD_cons]
    by_cases h1 : x.1 < s
    · rw [if_pos h1, sh_cons, sh_cons, ih]
      constructor
      · rintro (h | h | h)
        · exact .inl (.inl h)
        · exact .inl (.inr h)
        · exact .inr h
      · rintro ((h | h) | h)
        · exact .inl h
        · exact .inr (.inl h)
        · exact .inr (.inr h)
    · rw [if_neg h1]
      by_cases h2 : x.1 = s
      · rw [if_pos h2, sh_cons, sh_cons]
        constructor
        · rintro (h | h)
          · exact .inr h
          · exact .inl (.inr h)
        · rintro ((h | h) | h)
          · exact .inl (by rw [← h2]; exact h)
          · exact .inr h
          · exact .inl h
      · rw [if_neg h2, sh_cons]
        constructor
        · rintro (h | h)
          · exact .inr h
          · exact .inl h
        · rintro (h | h)
          · exact .inr h
          · exact .inl h
theorem addD_ss : ∀ {d : Dd} {s : Int} {l : List (Int × Int)}, SSD d → SSD (addD d s l) := by
  intro d
  induction d with
  | nil =>
    intro s l _ x hx
    rw [addD_nil, List.mem_singleton] at hx
    subst hx
    exact sortL_ss l
  | cons y r ih =>
    intro s l h
    have hr : SSD r := fun x hx => h x (by simp [hx])
    rw [addD_cons]
    by_cases h1 : y.1 < s
    · rw [if_pos h1]
      intro x hx
      rcases List.mem_cons.1 hx with rfl | hx
      · exact h _ (by simp)
      · exact ih hr x hx
    · rw [if_neg h1]
      by_cases h2 : y.1 = s
      · rw [if_pos h2]
        intro x hx
        rcases List.mem_cons.1 hx with rfl | hx
        · exact sortL_ss _
        · exact hr x hx
      · rw [if_neg h2]
        intro x hx
        rcases List.mem_cons.1 hx with rfl | hx
        · exact sortL_ss _
        · exact h x hx
/-- What putting pairs to dependencies comes to. -/
theorem fold_facts : ∀ (L acc : Dd) (p : Int), RisD p acc → SSD acc → (∀ x ∈ L, p < x.1) →
    RisD p (joinD acc L) ∧ SSD (joinD acc L) ∧ (∀ t, Sh (joinD acc L) t ↔ Sh acc t ∨ Sh L t) ∧ ∀ t i, i ∈ getD (joinD acc L) t ↔ i ∈ getD acc t ∨ ∃ x ∈ L, x.1 = t ∧ i ∈ x.2 := by
  intro L
  induction L with
  | nil =>
    intro acc p h1 h2 _
    refine ⟨h1, h2, fun t => ⟨.inl, fun h => ?_⟩, fun t i => ⟨.inl, fun h => ?_⟩⟩
    · rcases h with h | h
      · exact h
      · exact absurd h (sh_nil t)
    · rcases h with h | ⟨x, hx, _⟩
      · exact h
      · cases hx
  | cons y r ih =>
    intro acc p h1 h2 h3
    obtain ⟨a1, a2⟩ := addD_mem (l := y.2) h1 (h3 y (by simp))
    obtain ⟨b1, b2, b3, b4⟩ := ih (addD acc y.1 y.2) p a1 (addD_ss h2) fun x hx => h3 x (by simp [hx])
    refine ⟨b1, b2, fun t => ?_, fun t i => ?_⟩
    · show Sh (joinD (addD acc y.1 y.2) r) t ↔ _
      rw [b3, addD_sh, sh_cons]
      constructor
      · rintro ((h | h) | h)
        · exact .inl h
        · exact .inr (.inl h)
        · exact .inr (.inr h)
      · rintro (h | h | h)
        · exact .inl (.inl h)
        · exact .inl (.inr h)
        · exact .inr h
    · show i ∈ getD (joinD (addD acc y.1 y.2) r) t ↔ _
      rw [b4, a2]
      constructor
      · rintro ((h | ⟨h, h'⟩) | ⟨x, hx, h, h'⟩)
        · exact .inl h
        · exact .inr ⟨y, by simp, h.symm, h'⟩
        · exact .inr ⟨x, by simp [hx], h, h'⟩
      · rintro (h | ⟨x, hx, h, h'⟩)
        · exact .inl (.inl h)
        · rcases List.mem_cons.1 hx with rfl | hx
          · exact .inl (.inr ⟨h.symm, h'⟩)
          · exact .inr ⟨x, hx, h, h'⟩
theorem mergeD_flat (l : List Dd) : mergeD l = joinD [] l.flatten := by
  unfold mergeD
  have h : ∀ (l : List Dd) (acc : Dd), l.foldl joinD acc = joinD acc l.flatten := by
    intro l
    induction l with
    | nil => intro acc; rfl
    | cons d r ih =>
      intro acc
      rw [List.foldl_cons, ih, List.flatten_cons]
      unfold joinD
      rw [List.foldl_append]
  exact h l []
theorem mergeD_facts {l : List Dd} {p : Int} (h : ∀ d ∈ l, ∀ x ∈ d, p < x.1) : RisD p (mergeD l) ∧ SSD (mergeD l) ∧ (∀ t, Sh (mergeD l) t ↔ Sh l.flatten t) ∧ ∀ t i, i ∈ getD (mergeD l) t ↔ ∃ x ∈ l.flatten, x.1 = t ∧ i ∈ x.2 := by
  rw [mergeD_flat]
  obtain ⟨h1, h2, h3, h4⟩ := fold_facts l.flatten [] p ⟨fun x hx => (by cases hx), List.Pairwise.nil⟩ (fun x hx => (by cases hx)) fun x hx => by
    obtain ⟨d, hd, hx⟩ := List.mem_flatten.1 hx
    exact h d hd x hx
  refine ⟨h1, h2, fun t => ?_, fun t i => ?_⟩
  · rw [h3]
    exact ⟨fun h => h.resolve_left (sh_nil t), .inr⟩
  · rw [h4]
    exact ⟨fun h => h.resolve_left (fun h => by cases h), .inr⟩
/-- Two with the same shards, and in each the same stamps, are one. -/
theorem dd_ext : ∀ {d e : Dd} {p : Int}, RisD p d → RisD p e → SSD d → SSD e → (∀ t, Sh d t ↔ Sh e t) → (∀ t i, i ∈ getD d t ↔ i ∈ getD e t) → d = e := by
  intro d
  induction d with
  | nil =>
    intro e p _ _ _ _ h _
    cases e with
    | nil => rfl
    | cons y r => exact absurd ((h y.1).2 ⟨y, by simp, rfl⟩) (sh_nil _)
  | cons x r ih =>
    intro e p h1 h2 s1 s2 h3 h4
    cases e with
    | nil => exact absurd ((h3 x.1).1 ⟨x, by simp, rfl⟩) (sh_nil _)
    | cons y q =>
      obtain ⟨a1, a2⟩ := h1
      obtain ⟨b1, b2⟩ := h2
      obtain ⟨a3, a4⟩ := List.pairwise_cons.1 a2
      obtain ⟨b3, b4⟩ := List.pairwise_cons.1 b2
      have e1 : x.1 = y.1 := by
        have u1 := (h3 x.1).1 ⟨x, by simp, rfl⟩
        have u2 := (h3 y.1).2 ⟨y, by simp, rfl⟩
        rw [sh_cons] at u1 u2
        rcases u1 with u1 | ⟨z, hz, u1⟩
        · exact u1.symm
        · rcases u2 with u2 | ⟨z2, hz2, u2⟩
          · exact u2
          · have := b3 z hz
            have := a3 z2 hz2
            omega
      have g1 : ∀ t, t ≤ x.1 → getD r t = [] := fun t ht => getD_none ht a3
      have g2 : ∀ t, t ≤ x.1 → getD q t = [] := fun t ht => getD_none ht (by rw [e1]; exact b3)
      have e2 : x.2 = y.2 := by
        refine SS.uniq (s1 x (by simp)) (s2 y (by simp)) fun i => ?_
        have h := h4 x.1 i
        unfold getD at h
        rw [if_pos rfl, if_pos e1.symm] at h
        exact h
      have e3 : r = q := by
        refine ih (p := x.1) ⟨a3, a4⟩ ⟨by rw [e1]; exact b3, b4⟩ (fun z hz => s1 z (by simp [hz])) (fun z hz => s2 z (by simp [hz])) (fun t => ?_) (fun t i => ?_)
        · have h := h3 t
          rw [sh_cons, sh_cons, e1] at h
          by_cases ht : y.1 = t
          · subst ht
            constructor
            · rintro ⟨z, hz, hz2⟩
              have := a3 z hz
              omega
            · rintro ⟨z, hz, hz2⟩
              have := b3 z hz
              omega
          · exact ⟨fun u => (h.1 (.inr u)).resolve_left ht, fun u => (h.2 (.inr u)).resolve_left ht⟩
        · by_cases ht : x.1 = t
          · subst ht
            rw [g1 _ (Int.le_refl _), g2 _ (Int.le_refl _)]
          · have h := h4 t i
            unfold getD at h
            rw [if_neg ht, if_neg (by rw [← e1]; exact ht)] at h
            exact h
      have e4 : x = y := Prod.ext e1 e2
      rw [e4, e3]
/-- What a program makes that goes through the shards in their order. -/
theorem mergeD_of {l : List Dd} {p : Int} (h : ∀ d ∈ l, ∀ x ∈ d, p < x.1) {K : List Int} {f : Int → List (Int × Int)} (hK : K.Pairwise (· < ·)) (hm : ∀ t, t ∈ K ↔ Sh l.flatten t) (hf : ∀ t i, t ∈ K → (i ∈ f t ↔ ∃ x ∈ l.flatten, x.1 = t ∧ i ∈ x.2)) :
    (K.map fun t => (t, sortL (f t))) = mergeD l := by
  obtain ⟨h1, h2, h3, h4⟩ := mergeD_facts h
  have sh : ∀ t, Sh (K.map fun t => (t, sortL (f t))) t ↔ t ∈ K := by
    intro t
    constructor
    · rintro ⟨x, hx, rfl⟩
      obtain ⟨u, hu, rfl⟩ := List.mem_map.1 hx
      exact hu
    · intro ht
      exact ⟨_, List.mem_map.2 ⟨t, ht, rfl⟩, rfl⟩
  have gt : ∀ (K : List Int), K.Pairwise (· < ·) → ∀ t, getD (K.map fun t => (t, sortL (f t))) t = if t ∈ K then sortL (f t) else [] := by
    intro K
    induction K with
    | nil => intro _ t; rfl
    | cons k r ih =>
      intro hp t
      obtain ⟨p1, p2⟩ := List.pairwise_cons.1 hp
      rw [List.map_cons]
      unfold getD
      by_cases hk : k = t
      · subst hk
        rw [if_pos rfl, if_pos (by simp)]
      · rw [if_neg hk, ih p2]
        have : t ∈ k :: r ↔ t ∈ r := by
          rw [List.mem_cons]
          exact ⟨fun h => h.resolve_left fun e => hk e.symm, .inr⟩
        by_cases hr : t ∈ r
        · rw [if_pos hr, if_pos (this.2 hr)]
        · rw [if_neg hr, if_neg (fun h => hr (this.1 h))]
  refine dd_ext (p := p) ⟨fun x hx => ?_, ?_⟩ h1 (fun x hx => ?_) h2 (fun t => ?_) (fun t i => ?_)
  · obtain ⟨u, hu, rfl⟩ := List.mem_map.1 hx
    obtain ⟨y, hy, rfl⟩ := (hm u).1 hu
    obtain ⟨d, hd, hy⟩ := List.mem_flatten.1 hy
    exact h d hd y hy
  · exact List.pairwise_map.2 hK
  · obtain ⟨u, hu, rfl⟩ := List.mem_map.1 hx
    exact sortL_ss _
  · rw [sh, hm, h3]
  · rw [gt K hK, h4]
    by_cases ht : t ∈ K
    · rw [if_pos ht, mem_sortL]
      exact hf t i ht
    · rw [if_neg ht]
      constructor
      · intro u
        cases u
      · rintro ⟨x, hx, e, _⟩
        exact absurd ((hm t).2 ⟨x, hx, e⟩) ht

end SD
end Go.Proofs.YtjlkgbejldcklaaGreat
