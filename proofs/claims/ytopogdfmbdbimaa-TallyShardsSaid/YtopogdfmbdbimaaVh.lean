/- Answers taken up one behind the other; what a tally of the program's has to keep (TallyC); what follows for lists. Conditions: none. -/
import Derived.Test.YtopogdfmbdbimaaVg
set_option linter.unusedVariables false
namespace Go.Proofs.Ytopogdfmbdbimaa
open Go.RowKit

def addS (l : List Sh) (P N : List Int) (n : Int) : List Int := if addB l P N n = true then N ++ [n] else N
/-- Who has answered, behind these answers. -/
def addL (l : List Sh) (P N xs : List Int) : List Int := xs.foldl (addS l P) N
theorem addL_take {l : List Sh} {P N xs : List Int} {k : Nat} {n : Int} (h : xs[k]? = some n) : addL l P N (xs.take (k + 1)) = addS l P (addL l P N (xs.take k)) n := by
  unfold addL
  rw [List.take_add_one, h, List.foldl_append]
  rfl
theorem has_snoc (N : List Int) (x n : Int) : hasN (N ++ [x]) n = (hasN N n || (x == n)) := by simp [hasN, List.any_append]
theorem addS_has (l : List Sh) (P N : List Int) (x n : Int) : hasN (addS l P N x) n = (hasN N n || ((x == n) && hasN (nodesL l P) n)) := by
  unfold addS addB
  by_cases hx : x = n
  · subst hx
    cases h1 : hasN N x <;> cases h2 : hasN (nodesL l P) x <;> simp [h1, has_snoc]
  · have hb : (x == n) = false := by simpa using hx
    split
    · rw [has_snoc, hb]
      simp
    · rw [hb]
      simp
theorem addL_has (l : List Sh) (P xs : List Int) : ∀ (N : List Int) (n : Int), hasN (addL l P N xs) n = (hasN N n || (hasN xs n && hasN (nodesL l P) n)) := by
  induction xs with
  | nil => intro N n; simp [addL, hasN]
  | cons x xs ih =>
    intro N n
    show hasN (addL l P (addS l P N x) xs) n = _
    rw [ih, addS_has]
    have : hasN (x :: xs) n = ((x == n) || hasN xs n) := by simp [hasN]
    rw [this]
    cases hasN N n <;> cases (x == n) <;> cases hasN xs n <;> simp
theorem addL_has0 (l : List Sh) (P xs : List Int) (n : Int) : hasN (addL l P [] xs) n = (hasN xs n && hasN (nodesL l P) n) := by
  rw [addL_has]
  simp [hasN]
theorem addS_len (l : List Sh) (P N : List Int) (x : Int) : (addS l P N x).length ≤ N.length + 1 := by
  unfold addS
  split <;> simp
theorem addL_len (l : List Sh) (P xs : List Int) : ∀ N : List Int, (addL l P N xs).length ≤ N.length + xs.length := by
  induction xs with
  | nil => intro N; simp [addL]
  | cons x xs ih =>
    intro N
    have h1 := ih (addS l P N x)
    have h2 := addS_len l P N x
    have h3 : addL l P N (x :: xs) = addL l P (addS l P N x) xs := rfl
    rw [h3, List.length_cons]
    omega
theorem addL_len0 (l : List Sh) (P xs : List Int) : (addL l P [] xs).length ≤ xs.length := by
  have := addL_len l P xs []
  simpa using this
/-- Who is none of the nodes has no part. -/
theorem addS_skip {l : List Sh} {P N : List Int} {n : Int} (h : hasN (nodesL l P) n = false) : addS l P N n = N := by
  unfold addS addB
  rw [h]
  simp
theorem pick_congr {l : List Sh} {P N M : List Int} (h : ∀ n, hasN N n = hasN M n) (b : Bool) : pickL l P N b = pickL l P M b := by
  unfold pickL
  exact List.filter_congr fun n _ => by rw [h]
theorem has_filter (l : List Int) (p : Int → Bool) (n : Int) : hasN (l.filter p) n = (hasN l n && p n) := by
  rw [Bool.eq_iff_iff, hasN_mem, List.mem_filter, Bool.and_eq_true, hasN_mem]
theorem pick_has (l : List Sh) (P N : List Int) (b : Bool) (n : Int) : hasN (pickL l P N b) n = (hasN (nodesL l P) n && (hasN N n == b)) := has_filter _ _ _
/-- Something of the shards at these places that looks at their nodes alone. -/
theorem forAll_on {l : List Sh} {S : List Int} {p q : Sh → Bool} (h : ∀ i ∈ S, ∀ s, atSh l i = some s → p s = q s) : forAll l S p = forAll l S q := by
  rw [Bool.eq_iff_iff, forAll_true, forAll_true]
  constructor
  · intro k i hi s hs
    rw [← h i hi s hs]
    exact k i hi s hs
  · intro k i hi s hs
    rw [h i hi s hs]
    exact k i hi s hs
theorem quo_on {l : List Sh} {S : List Int} {f g : Int → Bool} (h : ∀ i ∈ S, ∀ s, atSh l i = some s → ∀ n ∈ s.nodes, f n = g n) : quoB l S f = quoB l S g :=
  forAll_on fun i hi s hs => by rw [cntF_congr (h i hi s hs)]
theorem each_on {l : List Sh} {S : List Int} {f g : Int → Bool} (h : ∀ i ∈ S, ∀ s, atSh l i = some s → ∀ n ∈ s.nodes, f n = g n) : eachB l S f = eachB l S g :=
  forAll_on fun i hi s hs => by rw [cntF_congr (h i hi s hs)]
theorem quo_same {l : List Sh} {S N M : List Int} (h : ∀ n, hasN N n = hasN M n) : quoB l S (hasN N) = quoB l S (hasN M) := quo_on fun _ _ _ _ n _ => h n
theorem done_same {l : List Sh} {S N M : List Int} (h : ∀ n, hasN N n = hasN M n) : doneB l S (hasN N) = doneB l S (hasN M) := by
  have : hasN N = hasN M := funext h
  rw [this]
theorem forAll_cons (l : List Sh) (i : Int) (S : List Int) (p : Sh → Bool) : forAll l (i :: S) p = (forAll l [i] p && forAll l S p) := by simp [forAll]
theorem forAll_take {l : List Sh} {S : List Int} {k : Nat} {i : Int} (h : S[k]? = some i) (p : Sh → Bool) : forAll l (S.take (k + 1)) p = (forAll l (S.take k) p && forAll l [i] p) := by
  unfold forAll
  rw [List.take_add_one, h, List.all_append]
  rfl
theorem places_ok {l : List Sh} {S : List Int} : ∀ i ∈ placesL l S, (atSh l i).isSome = true := fun i hi => ((places_mem l S i).1 hi).2
theorem rt_sep {W0 w : World} {b : Nat} {a : Option Addr} {c : Nat} {l : List Sh} {P N : List Int} {vP vN : Value} (h : RT W0 w b a c l P N vP vN) : ∀ x, footR b vP vN x → W0.heap.size ≤ x ∧ x < w.heap.size := by
  intro x hx
  refine ⟨h.fresh x hx, ?_⟩
  rcases hx with rfl | hx | hx
  · exact h.lt
  · exact h.ownP.blt x hx
  · exact h.ownN.blt x hx

/-- What a tally of the program's keeps: PT W0 w b l P N F: in w the block b is one, over the shards l, which lie in W0, of the places P; these have answered: N; what it owns are the blocks F. -/
structure TallyC (PT : World → World → Nat → List Sh → List Int → List Int → (Nat → Prop) → Prop) : Prop where
  keep : ∀ {W0 w w' : World} {b : Nat} {l : List Sh} {P N : List Int} {F S : Nat → Prop}, PT W0 w b l P N F → Keeps S w w' → (∀ x, S x → W0.heap.size ≤ x) → (∀ x, F x → ¬ S x) → PT W0 w' b l P N F
  sep : ∀ {W0 w : World} {b : Nat} {l : List Sh} {P N : List Int} {F : Nat → Prop}, PT W0 w b l P N F → ∀ x, F x → W0.heap.size ≤ x ∧ x < w.heap.size
  new : ∀ (W0 w : World) (a : Option Addr) (c : Nat) (l : List Sh) (ap : Option Addr) (cp : Nat) (S : List Int), Topo l → S.length ≤ 1000 → Hl W0 a l → Below W0.heap.size W0 w → Il w ap cp S →
    Calls Try.prog 11 #[.slice a l.length c, .slice ap S.length cp] w fun e w' => ∃ b F, e = .returned (.pointer (some ⟨b, 0, none⟩)) ∧ PT W0 w' b l (placesL l S) [] F ∧ Below w.heap.size w w' ∧ ∀ x, F x → w.heap.size ≤ x
  add : ∀ {W0 w : World} {b : Nat} {l : List Sh} {P N : List Int} {F : Nat → Prop} (n : Int), (Lit.int .i64 n).wf = true → N.length ≤ 1000 → PT W0 w b l P N F →
    Calls Try.prog 26 #[.pointer (some ⟨b, 0, none⟩), .int .i64 n] w fun e w' => ∃ F', e = .returned (.bool (addB l P N n)) ∧ PT W0 w' b l P (addS l P N n) F' ∧ Keeps F w w' ∧ ∀ x, F' x → F x ∨ w.heap.size ≤ x
  has : ∀ {W0 w : World} {b : Nat} {l : List Sh} {P N : List Int} {F : Nat → Prop} (n : Int), (Lit.int .i64 n).wf = true → N.length ≤ 1000 → PT W0 w b l P N F →
    Calls Try.prog 24 #[.pointer (some ⟨b, 0, none⟩), .int .i64 n] w fun e w' => e = .returned (.bool (hasN N n)) ∧ Below w.heap.size w w'
  nodes : ∀ {W0 w : World} {b : Nat} {l : List Sh} {P N : List Int} {F : Nat → Prop}, N.length ≤ 1000 → PT W0 w b l P N F → Calls Try.prog 20 #[.pointer (some ⟨b, 0, none⟩)] w (RetI w (pickL l P N true))
  waiting : ∀ {W0 w : World} {b : Nat} {l : List Sh} {P N : List Int} {F : Nat → Prop}, N.length ≤ 1000 → PT W0 w b l P N F → Calls Try.prog 22 #[.pointer (some ⟨b, 0, none⟩)] w (RetI w (pickL l P N false))
  quorum : ∀ {W0 w : World} {b : Nat} {l : List Sh} {P N : List Int} {F : Nat → Prop}, N.length ≤ 1000 → PT W0 w b l P N F →
    Calls Try.prog 13 #[.pointer (some ⟨b, 0, none⟩)] w fun e w' => e = .returned (.bool (quoB l P (hasN N))) ∧ Below w.heap.size w w'
  all : ∀ {W0 w : World} {b : Nat} {l : List Sh} {P N : List Int} {F : Nat → Prop}, N.length ≤ 1000 → PT W0 w b l P N F →
    Calls Try.prog 15 #[.pointer (some ⟨b, 0, none⟩)] w fun e w' => e = .returned (.bool (doneB l P (hasN N))) ∧ Below w.heap.size w w'
  each : ∀ {W0 w : World} {b : Nat} {l : List Sh} {P N : List Int} {F : Nat → Prop}, N.length ≤ 1000 → PT W0 w b l P N F →
    Calls Try.prog 17 #[.pointer (some ⟨b, 0, none⟩)] w fun e w' => e = .returned (.bool (eachB l P (hasN N))) ∧ Below w.heap.size w w'

end Go.Proofs.Ytopogdfmbdbimaa
