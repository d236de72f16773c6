/- What the walks of the laws of tallies share: two tallies side by side; lists of answers. Conditions: none. -/
import Derived.Test.YtopogdfmbdbimaaWk
import Derived.Test.YtopogdfmbdbimaaLaw
set_option linter.unusedVariables false
namespace Go.Proofs.Ytopogdfmbdbimaa
open Go.RowKit

theorem TC : TallyC PTo := tallyC_holds
/-- One tally takes something up: the other stays as it was, and apart from it. -/
theorem add_other {W0 w w' : World} {b2 : Nat} {l2 : List Sh} {P2 N2 : List Int} {F F' G : Nat → Prop} (hy : PTo W0 w b2 l2 P2 N2 G) (hk : Keeps F w w') (hn : ∀ x, F' x → F x ∨ w.heap.size ≤ x) (hF : ∀ x, F x → W0.heap.size ≤ x) (hd : ∀ x, F x → ¬ G x) :
    PTo W0 w' b2 l2 P2 N2 G ∧ ∀ x, F' x → ¬ G x := by
  refine ⟨TC.keep hy hk hF (fun x hg hf => hd x hf hg), fun x hx hg => ?_⟩
  rcases hn x hx with h | h
  · exact hd x h hg
  · have := (TC.sep hy x hg).2
    omega
theorem apart_swap {F G : Nat → Prop} (h : ∀ x, F x → ¬ G x) : ∀ x, G x → ¬ F x := fun x hg hf => h x hf hg
/-- Behind a tally's taking up. -/
theorem add_below {W0 w w' : World} {b : Nat} {l : List Sh} {P N : List Int} {F : Nat → Prop} (hx : PTo W0 w b l P N F) (hb : Below W0.heap.size W0 w) (hk : Keeps F w w') : Below W0.heap.size W0 w' ∧ Below W0.heap.size w w' := by
  have h : Below W0.heap.size w w' := hk.below hb.size fun x hxl hf => by have := (TC.sep hx x hf).1; omega
  exact ⟨hb.trans h, h⟩
/-- A list beside the tally that takes something up. -/
theorem own_add {w w' : World} {base : Nat} {v : Value} {L : List Int} {F F' : Nat → Prop} (ho : OwnI w base v L) (hk : Keeps F w w') (hn : ∀ x, F' x → F x ∨ w.heap.size ≤ x) (hd : ∀ x, F x → v.ownBlock ≠ some x) : OwnI w' base v L ∧ ∀ x, F' x → v.ownBlock ≠ some x := by
  refine ⟨ho.keep hk fun x hx hf => hd x hf hx, fun x hx e => ?_⟩
  rcases hn x hx with h | h
  · exact hd x h e
  · have := ho.blt x e
    omega
theorem addL_sub {l : List Sh} {P xs : List Int} {n : Int} (h : hasN (addL l P [] xs) n = true) : hasN (nodesL l P) n = true := by
  rw [addL_has0, Bool.and_eq_true] at h
  exact h.2
/-- Two quorums of the same shards. -/
theorem quo_meet {l : List Sh} {P N M : List Int} (h1 : quoB l P (hasN N) = true) (h2 : quoB l P (hasN M) = true) {i : Int} {s : Sh} (hi : i ∈ P) (hs : atSh l i = some s) : (s.nodes.any fun n => hasN N n && hasN M n) = true := by
  have e1 := of_decide_eq_true (forAll_true.1 h1 i hi s hs)
  have e2 := of_decide_eq_true (forAll_true.1 h2 i hi s hs)
  obtain ⟨n, hn, a, b⟩ := cntF_meet (f := hasN N) (g := hasN M) (l := s.nodes) (by omega)
  exact List.any_eq_true.2 ⟨n, hn, by rw [a, b]; rfl⟩
theorem any_step {p : Int → Bool} {l : List Int} {k : Nat} {x : Int} (hx : l[k]? = some x) : (l.take (k + 1)).any p = ((l.take k).any p || p x) := by
  rw [List.take_add_one, hx, List.any_append]
  simp
theorem node_wf {l : List Sh} (h : Topo l) {s : Sh} (hs : s ∈ l) {n : Int} (hn : n ∈ s.nodes) : (Lit.int .i64 n).wf = true := by
  have := h.node s hs n hn
  exact WalkArith.wf_i64 (by omega)

end Go.Proofs.Ytopogdfmbdbimaa
