/- Plain facts about sorted lists of stamps: the list of these, each once, is one. No program is named. -/
import Derived.Test.YtnicdbkjgicliaaSp
namespace Go.Proofs.Ytnicdbkjgicliaa

theorem ltS_irrefl (a : Int × Int) : ltS a a = false := by simp [ltS]
theorem ltS_trans {a b c : Int × Int} (h : ltS a b = true) (k : ltS b c = true) : ltS a c = true := by simp only [ltS_iff] at *; omega
theorem ltS_asymm {a b : Int × Int} (h : ltS a b = true) : ltS b a = false := by simp only [ltS_iff, ltS_not] at *; omega
theorem ltS_total {a b : Int × Int} (h : ltS a b = false) (k : ltS b a = false) : a = b := by
  simp only [ltS_not] at *
  exact Prod.ext (by omega) (by omega)
theorem ltS_ge_trans {a b c : Int × Int} (h : ltS a b = false) (k : ltS b c = false) : ltS a c = false := by simp only [ltS_not] at *; omega

/-- A list that rises. -/
def SS (l : List (Int × Int)) : Prop := l.Pairwise fun a b => ltS a b = true
theorem SS.uniq : ∀ {a b : List (Int × Int)}, SS a → SS b → (∀ y, y ∈ a ↔ y ∈ b) → a = b
  | [], [], _, _, _ => rfl
  | [], y :: _, _, _, h => by have := (h y).2 (by simp); simp at this
  | x :: _, [], _, _, h => by have := (h x).1 (by simp); simp at this
  | x :: a, y :: b, ha, hb, h => by
    obtain ⟨ha1, ha2⟩ := List.pairwise_cons.1 ha
    obtain ⟨hb1, hb2⟩ := List.pairwise_cons.1 hb
    have hxy : x = y := by
      rcases List.mem_cons.1 ((h x).1 (by simp)) with h1 | h1
      · exact h1
      · rcases List.mem_cons.1 ((h y).2 (by simp)) with h2 | h2
        · exact h2.symm
        · have k1 := hb1 x h1
          have k2 := ha1 y h2
          rw [ltS_asymm k1] at k2
          cases k2
    subst hxy
    rw [SS.uniq ha2 hb2 fun z => ?_]
    constructor
    · intro hz
      rcases List.mem_cons.1 ((h z).1 (by simp [hz])) with h1 | h1
      · subst h1
        have := ha1 z hz
        rw [ltS_irrefl] at this
        cases this
      · exact h1
    · intro hz
      rcases List.mem_cons.1 ((h z).2 (by simp [hz])) with h1 | h1
      · subst h1
        have := hb1 z hz
        rw [ltS_irrefl] at this
        cases this
      · exact h1

/-- One stamp more, in its place, unless it is there. -/
def addL : List (Int × Int) → Int × Int → List (Int × Int)
  | [], s => [s]
  | x :: r, s => if ltS x s then x :: addL r s else if x = s then x :: r else s :: x :: r
theorem mem_addL (l : List (Int × Int)) (s y : Int × Int) : y ∈ addL l s ↔ y = s ∨ y ∈ l := by
  induction l with
  | nil => simp [addL]
  | cons x r ih =>
    unfold addL
    split
    · simp only [List.mem_cons, ih]
      constructor
      · rintro (h | h | h)
        · exact .inr (.inl h)
        · exact .inl h
        · exact .inr (.inr h)
      · rintro (h | h | h)
        · exact .inr (.inl h)
        · exact .inl h
        · exact .inr (.inr h)
    · split
      · rename_i h
        subst h
        simp only [List.mem_cons]
        constructor
        · intro h; exact .inr h
        · rintro (h | h)
          · exact .inl h
          · exact h
      · simp only [List.mem_cons]
theorem SS.addL {l : List (Int × Int)} (h : SS l) (s : Int × Int) : SS (addL l s) := by
  induction l with
  | nil => simp [SS, Proofs.Ytnicdbkjgicliaa.addL]
  | cons x r ih =>
    obtain ⟨h1, h2⟩ := List.pairwise_cons.1 h
    unfold Proofs.Ytnicdbkjgicliaa.addL
    split
    · rename_i hx
      refine List.pairwise_cons.2 ⟨fun y hy => ?_, ih h2⟩
      rcases (mem_addL r s y).1 hy with hy | hy
      · subst hy; exact hx
      · exact h1 y hy
    · split
      · exact h
      · rename_i hx hne
        have hlt : ltS s x = true := by
          cases hc : ltS s x
          · exact absurd (ltS_total (by simpa using hx) hc) hne
          · rfl
        refine List.pairwise_cons.2 ⟨fun y hy => ?_, h⟩
        rcases List.mem_cons.1 hy with hy | hy
        · subst hy; exact hlt
        · exact ltS_trans hlt (h1 y hy)
/-- The list of these, each once. -/
def sortL (l : List (Int × Int)) : List (Int × Int) := l.foldl addL []
theorem sortL_from (l : List (Int × Int)) : ∀ acc, SS acc → SS (l.foldl addL acc) ∧ ∀ y, y ∈ l.foldl addL acc ↔ y ∈ acc ∨ y ∈ l := by
  induction l with
  | nil => intro acc h; exact ⟨h, fun y => by simp⟩
  | cons x r ih =>
    intro acc h
    obtain ⟨h1, h2⟩ := ih (addL acc x) (h.addL x)
    refine ⟨h1, fun y => ?_⟩
    rw [List.foldl_cons, h2, mem_addL, List.mem_cons]
    constructor
    · rintro ((h | h) | h)
      · exact .inr (.inl h)
      · exact .inl h
      · exact .inr (.inr h)
    · rintro (h | h | h)
      · exact .inl (.inr h)
      · exact .inl (.inl h)
      · exact .inr h
theorem sortL_ss (l : List (Int × Int)) : SS (sortL l) := (sortL_from l [] List.Pairwise.nil).1
theorem mem_sortL (l : List (Int × Int)) (y : Int × Int) : y ∈ sortL l ↔ y ∈ l := by
  rw [sortL, (sortL_from l [] List.Pairwise.nil).2]
  simp
theorem sortL_eq {l r : List (Int × Int)} (h : SS r) (hm : ∀ y, y ∈ r ↔ y ∈ l) : r = sortL l := SS.uniq h (sortL_ss l) fun y => by rw [hm, mem_sortL]
theorem sortL_congr {l r : List (Int × Int)} (hm : ∀ y, y ∈ l ↔ y ∈ r) : sortL l = sortL r := sortL_eq (sortL_ss l) fun y => by rw [mem_sortL, hm]
theorem sortL_self {l : List (Int × Int)} (h : SS l) : sortL l = l := (sortL_eq h fun _ => Iff.rfl).symm
theorem addL_length (l : List (Int × Int)) (s : Int × Int) : (addL l s).length ≤ l.length + 1 := by
  induction l with
  | nil => simp [addL]
  | cons x r ih =>
    unfold addL
    split
    · simp only [List.length_cons]; omega
    · split <;> simp
theorem sortL_length (l : List (Int × Int)) : (sortL l).length ≤ l.length := by
  suffices h : ∀ acc, (l.foldl addL acc).length ≤ acc.length + l.length by simpa [sortL] using h []
  induction l with
  | nil => intro acc; simp
  | cons x r ih =>
    intro acc
    have h1 := ih (addL acc x)
    have h2 := addL_length acc x
    simp only [List.foldl_cons, List.length_cons]
    omega

/-- What slices.Compact does with one element more. -/
def stepC (acc : List (Int × Int)) (y : Int × Int) : List (Int × Int) := if acc.getLast? = some y then acc else acc ++ [y]
def cmpct (l : List (Int × Int)) : List (Int × Int) := l.foldl stepC []
theorem cmpct_snoc (l : List (Int × Int)) (y : Int × Int) : cmpct (l ++ [y]) = stepC (cmpct l) y := by simp [cmpct, List.foldl_append]
theorem stepC_last (acc : List (Int × Int)) (y : Int × Int) : (stepC acc y).getLast? = some y := by
  unfold stepC
  split
  · assumption
  · simp
theorem snoc_of {α : Type} (l : List α) (h : l ≠ []) : ∃ r y, l = r ++ [y] := ⟨l.dropLast, l.getLast h, (List.dropLast_concat_getLast h).symm⟩
theorem cmpct_last (l : List (Int × Int)) : (cmpct l).getLast? = l.getLast? := by
  by_cases h : l = []
  · subst h; rfl
  · obtain ⟨r, y, rfl⟩ := snoc_of l h
    rw [cmpct_snoc, stepC_last]
    simp
theorem cmpct_take (l : List (Int × Int)) (k : Nat) (y : Int × Int) (h : l[k]? = some y) : cmpct (l.take (k + 1)) = stepC (cmpct (l.take k)) y := by
  rw [List.take_add_one, h]
  exact cmpct_snoc _ _
theorem mem_stepC (acc : List (Int × Int)) (y z : Int × Int) : z ∈ stepC acc y ↔ z ∈ acc ∨ z = y := by
  unfold stepC
  split
  · rename_i h
    constructor
    · exact .inl
    · rintro (h1 | h1)
      · exact h1
      · subst h1; exact List.mem_of_getLast? h
  · simp
theorem cmpct_ind {p : List (Int × Int) → Prop} (l : List (Int × Int)) (h0 : p []) (hs : ∀ r y, r ++ [y] <+: l → p r → p (r ++ [y])) : p l := by
  suffices h : ∀ n, n ≤ l.length → p (l.take n) by simpa using h l.length (Nat.le_refl _)
  intro n
  induction n with
  | zero => intro _; simpa using h0
  | succ n ih =>
    intro hn
    obtain ⟨y, hy⟩ : ∃ y, l[n]? = some y := ⟨_, List.getElem?_eq_getElem hn⟩
    have e : l.take (n + 1) = l.take n ++ [y] := by rw [List.take_add_one, hy]; rfl
    rw [e]
    exact hs _ _ (by rw [← e]; exact List.take_prefix _ _) (ih (by omega))
theorem mem_cmpct (l : List (Int × Int)) : ∀ z, z ∈ cmpct l ↔ z ∈ l :=
  cmpct_ind (p := fun l => ∀ z, z ∈ cmpct l ↔ z ∈ l) l (fun z => Iff.rfl) fun r y _ ih z => by
    rw [cmpct_snoc, mem_stepC, ih, List.mem_append]
    simp
theorem cmpct_length (l : List (Int × Int)) : (cmpct l).length ≤ l.length :=
  cmpct_ind (p := fun l => (cmpct l).length ≤ l.length) l (Nat.le_refl _) fun r y _ ih => by
    rw [cmpct_snoc]
    unfold stepC
    split
    · simp; omega
    · simp; omega
theorem cmpct_ss (l : List (Int × Int)) (h : l.Pairwise fun a b => ltS b a = false) : SS (cmpct l) :=
  cmpct_ind (p := fun l => (l.Pairwise fun a b => ltS b a = false) → SS (cmpct l)) l (fun _ => List.Pairwise.nil) (fun r y _ ih hp => by
    obtain ⟨h1, _, h3⟩ := List.pairwise_append.1 hp
    rw [cmpct_snoc]
    unfold stepC
    split
    · exact ih h1
    · rename_i hne
      refine List.pairwise_append.2 ⟨ih h1, List.pairwise_singleton _ _, fun x hx z hz => ?_⟩
      simp only [List.mem_singleton] at hz
      subst hz
      have hxr := (mem_cmpct r x).1 hx
      have h4 := h3 x hxr z (by simp)
      cases hc : ltS x z
      · have hxz := ltS_total hc h4
        subst hxz
        exfalso
        apply hne
        rw [cmpct_last]
        obtain ⟨r', u, rfl⟩ := snoc_of r (by rintro rfl; simp at hxr)
        have hu := h3 u (by simp) x (by simp)
        rcases List.mem_append.1 hxr with h5 | h5
        · have h6 := (List.pairwise_append.1 h1).2.2 x h5 u (by simp)
          have := ltS_total h6 hu
          subst this
          simp
        · simp only [List.mem_singleton] at h5
          subst h5
          simp
      · rfl) h
theorem cmpct_sort {l d : List (Int × Int)} (hp : d.Perm l) (hs : d.Pairwise fun a b => ltS b a = false) : cmpct d = sortL l :=
  sortL_eq (cmpct_ss d hs) fun y => by rw [mem_cmpct]; exact hp.mem_iff

end Go.Proofs.Ytnicdbkjgicliaa
