/- Tallies as lists: places, each once; who has answered; whether that is enough, shard by shard; what follows. Conditions: none. -/
import Derived.Test.YtopogdfmbdbimaaTa
set_option linter.unusedVariables false
namespace Go.Proofs.Ytopogdfmbdbimaa

/-- The shard at a place, if that is one. -/
def atSh (l : List Sh) (i : Int) : Option Sh := if 0 ≤ i then l[i.toNat]? else none
theorem atSh_nat (l : List Sh) (i : Nat) : atSh l (i : Int) = l[i]? := by
  unfold atSh
  rw [if_pos (by omega), Int.toNat_natCast]
theorem atSh_some {l : List Sh} {i : Int} {s : Sh} (h : atSh l i = some s) : ∃ p : Nat, i = (p : Int) ∧ p < l.length ∧ l[p]? = some s := by
  unfold atSh at h
  split at h
  · rename_i h0
    obtain ⟨p, rfl⟩ := Int.eq_ofNat_of_zero_le h0
    rw [Int.toNat_natCast] at h
    exact ⟨p, rfl, (List.getElem?_eq_some_iff.1 h).1, h⟩
  · cases h
theorem atSh_isSome {l : List Sh} {i : Int} : (atSh l i).isSome = decide (0 ≤ i ∧ i < (l.length : Int)) := by
  unfold atSh
  split
  · rename_i h0
    rw [Bool.eq_iff_iff, Option.isSome_iff_exists, decide_eq_true_eq]
    constructor
    · rintro ⟨s, hs⟩
      have := (List.getElem?_eq_some_iff.1 hs).1
      omega
    · rintro ⟨_, h⟩
      exact ⟨_, List.getElem?_eq_getElem (by omega)⟩
  · rename_i h0
    simp [h0]
theorem atHas_sh (l : List Sh) (i n : Int) : atHas l i n = (match atSh l i with | some s => hasN s.nodes n | none => false) := by
  unfold atHas atSh shHas
  by_cases h : 0 ≤ i
  · rw [decide_eq_true h, if_pos h, Bool.true_and]
    cases l[i.toNat]? <;> rfl
  · simp [h]

/-- Places, each once, of those that are some. -/
def stepP (l : List Sh) (P : List Int) (i : Int) : List Int := if (atSh l i).isSome && !hasN P i then P ++ [i] else P
def placesL (l : List Sh) (S : List Int) : List Int := S.foldl (stepP l) []
theorem places_take {l : List Sh} {S : List Int} {k : Nat} {i : Int} (h : S[k]? = some i) : placesL l (S.take (k + 1)) = stepP l (placesL l (S.take k)) i := by
  unfold placesL
  rw [List.take_add_one, h, List.foldl_append]
  rfl
theorem stepP_mem (l : List Sh) (P : List Int) (i x : Int) : x ∈ stepP l P i ↔ x ∈ P ∨ (x = i ∧ (atSh l i).isSome = true) := by
  unfold stepP
  split
  · rename_i h
    simp only [Bool.and_eq_true] at h
    rw [List.mem_append, List.mem_singleton]
    constructor
    · rintro (h1 | h1)
      · exact .inl h1
      · exact .inr ⟨h1, h.1⟩
    · rintro (h1 | ⟨h1, _⟩)
      · exact .inl h1
      · exact .inr h1
  · rename_i h
    simp only [Bool.and_eq_true, Bool.not_eq_true', not_and, Bool.not_eq_false] at h
    constructor
    · exact .inl
    · rintro (h1 | ⟨rfl, h2⟩)
      · exact h1
      · exact hasN_mem.1 (h h2)
theorem foldl_mem (l : List Sh) (S : List Int) : ∀ (P : List Int) (x : Int), x ∈ S.foldl (stepP l) P ↔ x ∈ P ∨ (x ∈ S ∧ (atSh l x).isSome = true) := by
  induction S with
  | nil => intro P x; simp
  | cons i S ih =>
    intro P x
    rw [List.foldl_cons, ih, stepP_mem, List.mem_cons]
    constructor
    · rintro ((h | ⟨rfl, h⟩) | ⟨h1, h2⟩)
      · exact .inl h
      · exact .inr ⟨.inl rfl, h⟩
      · exact .inr ⟨.inr h1, h2⟩
    · rintro (h | ⟨rfl | h1, h2⟩)
      · exact .inl (.inl h)
      · exact .inl (.inr ⟨rfl, h2⟩)
      · exact .inr ⟨h1, h2⟩
theorem places_mem (l : List Sh) (S : List Int) (x : Int) : x ∈ placesL l S ↔ x ∈ S ∧ (atSh l x).isSome = true := by
  unfold placesL
  rw [foldl_mem]
  simp
theorem stepP_len (l : List Sh) (P : List Int) (i : Int) : (stepP l P i).length ≤ P.length + 1 := by
  unfold stepP
  split <;> simp
theorem places_len (l : List Sh) (S : List Int) : (placesL l S).length ≤ S.length := by
  suffices h : ∀ (P : List Int), (S.foldl (stepP l) P).length ≤ P.length + S.length by
    have := h []
    simpa [placesL] using this
  induction S with
  | nil => intro P; simp
  | cons i S ih =>
    intro P
    have h1 := ih (stepP l P i)
    have h2 := stepP_len l P i
    rw [List.foldl_cons, List.length_cons]
    omega
/-- Something of all shards at these places. -/
def forAll (l : List Sh) (S : List Int) (p : Sh → Bool) : Bool := S.all fun i => match atSh l i with | some s => p s | none => true
theorem forAll_true {l : List Sh} {S : List Int} {p : Sh → Bool} : forAll l S p = true ↔ ∀ i ∈ S, ∀ s, atSh l i = some s → p s = true := by
  unfold forAll
  rw [List.all_eq_true]
  constructor
  · intro h i hi s hs
    have := h i hi
    rw [hs] at this
    exact this
  · intro h i hi
    cases hs : atSh l i with
    | none => rfl
    | some s => exact h i hi s hs
theorem forAll_congr {l : List Sh} {S T : List Int} {p q : Sh → Bool} (hm : ∀ i, (atSh l i).isSome = true → (i ∈ S ↔ i ∈ T)) (hp : ∀ s ∈ l, p s = q s) : forAll l S p = forAll l T q := by
  have hin : ∀ {i s}, atSh l i = some s → s ∈ l := fun h => by
    obtain ⟨p, _, _, hs⟩ := atSh_some h
    exact List.mem_of_getElem? hs
  rw [Bool.eq_iff_iff, forAll_true, forAll_true]
  constructor
  · intro h i hi s hs
    rw [← hp s (hin hs)]
    exact h i ((hm i (by rw [hs]; rfl)).2 hi) s hs
  · intro h i hi s hs
    rw [hp s (hin hs)]
    exact h i ((hm i (by rw [hs]; rfl)).1 hi) s hs
theorem forAll_places (l : List Sh) (S : List Int) (p : Sh → Bool) : forAll l (placesL l S) p = forAll l S p :=
  forAll_congr (fun i hi => by rw [places_mem, hi]; simp) (fun _ _ => rfl)
theorem any_places (l : List Sh) (S : List Int) (n : Int) : anyHas l (placesL l S) n = anyHas l S n := by
  have h : ∀ T : List Int, anyHas l T n = true ↔ ∃ i ∈ T, ∃ s, atSh l i = some s ∧ hasN s.nodes n = true := by
    intro T
    unfold anyHas
    rw [List.any_eq_true]
    constructor
    · rintro ⟨i, hi, h⟩
      rw [atHas_sh] at h
      cases hs : atSh l i with
      | none => rw [hs] at h; cases h
      | some s => rw [hs] at h; exact ⟨i, hi, s, hs, h⟩
    · rintro ⟨i, hi, s, hs, h⟩
      exact ⟨i, hi, by rw [atHas_sh, hs]; exact h⟩
  rw [Bool.eq_iff_iff, h, h]
  constructor
  · rintro ⟨i, hi, s, hs, h⟩
    exact ⟨i, ((places_mem _ _ _).1 hi).1, s, hs, h⟩
  · rintro ⟨i, hi, s, hs, h⟩
    exact ⟨i, (places_mem _ _ _).2 ⟨hi, by rw [hs]; rfl⟩, s, hs, h⟩
theorem nodes_places (l : List Sh) (S : List Int) : nodesL l (placesL l S) = nodesL l S := by
  unfold nodesL nodesTo
  exact ofTo_congr fun i _ => by rw [any_places]

/-- How many of these nodes have answered. -/
def cntF (f : Int → Bool) (l : List Int) : Nat := (l.filter f).length
def quoB (l : List Sh) (S : List Int) (f : Int → Bool) : Bool := forAll l S fun s => decide (s.nodes.length < 2 * cntF f s.nodes)
def eachB (l : List Sh) (S : List Int) (f : Int → Bool) : Bool := forAll l S fun s => decide (0 < cntF f s.nodes)
def doneB (l : List Sh) (S : List Int) (f : Int → Bool) : Bool := (nodesL l S).all f
theorem cntF_mono {f g : Int → Bool} {l : List Int} (h : ∀ n ∈ l, f n = true → g n = true) : cntF f l ≤ cntF g l := by
  unfold cntF
  induction l with
  | nil => simp
  | cons x l ih =>
    have h1 := ih fun n hn => h n (by simp [hn])
    rw [List.filter_cons, List.filter_cons]
    cases hf : f x
    · cases g x
      · simpa using h1
      · simp only [Bool.false_eq_true, if_false, if_true, List.length_cons]
        omega
    · rw [h x (by simp) hf]
      simpa using h1
theorem cntF_congr {f g : Int → Bool} {l : List Int} (h : ∀ n ∈ l, f n = g n) : cntF f l = cntF g l := by
  unfold cntF
  rw [List.filter_congr h]
theorem cntF_le (f : Int → Bool) (l : List Int) : cntF f l ≤ l.length := List.length_filter_le _ _
theorem cntF_all {f : Int → Bool} {l : List Int} (h : ∀ n ∈ l, f n = true) : cntF f l = l.length := by
  unfold cntF
  rw [List.filter_eq_self.2 h]
/-- More than half, twice: somebody is in both. -/
theorem cntF_meet {f g : Int → Bool} : ∀ {l : List Int}, l.length < cntF f l + cntF g l → ∃ n ∈ l, f n = true ∧ g n = true
  | [], h => by simp [cntF] at h
  | x :: l, h => by
    by_cases hx : f x = true ∧ g x = true
    · exact ⟨x, by simp, hx⟩
    · have h2 : l.length < cntF f l + cntF g l := by
        unfold cntF at *
        rw [List.filter_cons, List.filter_cons, List.length_cons] at h
        cases hf : f x <;> cases hg : g x <;> simp_all <;> omega
      obtain ⟨n, hn, hh⟩ := cntF_meet h2
      exact ⟨n, by simp [hn], hh⟩
theorem quo_places (l : List Sh) (S : List Int) (f : Int → Bool) : quoB l (placesL l S) f = quoB l S f := forAll_places _ _ _
theorem each_places (l : List Sh) (S : List Int) (f : Int → Bool) : eachB l (placesL l S) f = eachB l S f := forAll_places _ _ _
theorem done_places (l : List Sh) (S : List Int) (f : Int → Bool) : doneB l (placesL l S) f = doneB l S f := by unfold doneB; rw [nodes_places]
theorem quo_mono {l : List Sh} {S : List Int} {f g : Int → Bool} (h : ∀ n, f n = true → g n = true) (hq : quoB l S f = true) : quoB l S g = true := by
  unfold quoB at *
  rw [forAll_true] at *
  intro i hi s hs
  have h1 := hq i hi s hs
  have h2 := cntF_mono (l := s.nodes) (f := f) (g := g) fun n _ => h n
  simp only [decide_eq_true_eq] at *
  omega
theorem quo_each {l : List Sh} {S : List Int} {f : Int → Bool} (hq : quoB l S f = true) : eachB l S f = true := by
  unfold quoB eachB at *
  rw [forAll_true] at *
  intro i hi s hs
  have h1 := hq i hi s hs
  simp only [decide_eq_true_eq] at *
  omega
theorem done_mono {l : List Sh} {S : List Int} {f g : Int → Bool} (h : ∀ n, f n = true → g n = true) (hq : doneB l S f = true) : doneB l S g = true := by
  unfold doneB at *
  rw [List.all_eq_true] at *
  exact fun n hn => h n (hq n hn)
theorem mem_nodesL {l : List Sh} {S : List Int} {n : Int} : n ∈ nodesL l S ↔ nodeB n = true ∧ anyHas l S n = true := by
  unfold nodesL nodesTo
  rw [ofTo_mem]
  constructor
  · rintro ⟨i, _, hp, rfl⟩
    simpa using hp
  · rintro ⟨h1, h2⟩
    have := nodeB_iff.1 h1
    obtain ⟨m, rfl⟩ := Int.eq_ofNat_of_zero_le (show 0 ≤ n by omega)
    exact ⟨m, by omega, by rw [h1, h2]; rfl, rfl⟩
/-- All nodes of the shards at these places, in a topology that may be. -/
theorem at_nodesL {l : List Sh} (h : Topo l) {S : List Int} {i : Int} {s : Sh} (hi : i ∈ S) (hs : atSh l i = some s) {n : Int} (hn : n ∈ s.nodes) : n ∈ nodesL l S := by
  obtain ⟨p, rfl, _, hp⟩ := atSh_some hs
  refine mem_nodesL.2 ⟨nodeB_iff.2 (h.node s (List.mem_of_getElem? hp) n hn), List.any_eq_true.2 ⟨_, hi, ?_⟩⟩
  rw [atHas_sh, hs]
  exact hasN_mem.2 hn
theorem done_quo {l : List Sh} (h : Topo l) {S : List Int} {f : Int → Bool} (hq : doneB l S f = true) : quoB l S f = true := by
  unfold quoB
  rw [forAll_true]
  intro i hi s hs
  obtain ⟨p, rfl, _, hp⟩ := atSh_some hs
  have h1 := (h.few s (List.mem_of_getElem? hp)).1
  unfold doneB at hq
  rw [List.all_eq_true] at hq
  rw [cntF_all fun n hn => hq n (at_nodesL h hi hs hn), decide_eq_true_eq]
  omega

end Go.Proofs.Ytopogdfmbdbimaa
