/- DepsBelow: whatever the dependencies and the stamp, the law returns true: those below a time are below it, all that are; of all shards, or of each by itself. Conditions: none. -/
import Derived.Deep.RegionHeld3
import Derived.WalkSpells
import Derived.Test.YtjlkgbejldcklaaGreatMg43
import Derived.Test.YtjlkgbejldcklaaGreatMg44
import Derived.Test.YtjlkgbejldcklaaGreatMg38
import Derived.Test.YtjlkgbejldcklaaGreatMg02
import Derived.Test.YtjlkgbejldcklaaGreatMg11
/- DepsBelow: whatever the dependencies and the stamp, the law returns true: those below a time are below it, all that are; of all shards, or of each by itself. Conditions: none. -/
set_option linter.unusedVariables false
set_option linter.unusedSimpArgs false
namespace Go.Proofs.YtjlkgbejldcklaaGreat
open S1 SP
namespace SD
open Go.ChangeShapes Go.WideShapes Go.ChangeAt Go.RowKit Go.Joins Go.Deep

theorem allD_below (D : Dd) (q : Int × Int) : (allD D).filter (fun x => ltS x q) = allD (belowD D q) := by
  unfold allD
  refine sortL_eq ((sortL_ss _).filter _) fun y => ?_
  rw [List.mem_filter, mem_sortL, List.mem_flatMap, List.mem_flatMap]
  constructor
  · rintro ⟨⟨x, hx, hy⟩, hl⟩
    exact ⟨(x.1, x.2.filter fun i => ltS i q), List.mem_map.2 ⟨x, hx, rfl⟩, List.mem_filter.2 ⟨hy, hl⟩⟩
  · rintro ⟨z, hz, hy⟩
    obtain ⟨x, hx, rfl⟩ := List.mem_map.1 hz
    obtain ⟨h1, h2⟩ := List.mem_filter.1 hy
    exact ⟨⟨x, hx, h1⟩, h2⟩
theorem getD_below (q : Int × Int) (s : Int) : ∀ D : Dd, getD (belowD D q) s = (getD D s).filter fun x => ltS x q := by
  intro D
  induction D with
  | nil => rfl
  | cons x r ih =>
    show getD ((x.1, x.2.filter fun i => ltS i q) :: belowD r q) s = _
    unfold getD
    by_cases h : x.1 = s
    · rw [if_pos h, if_pos h]
    · rw [if_neg h, if_neg h]
      exact ih
theorem below_idem (D : Dd) (q : Int × Int) : belowD (belowD D q) q = belowD D q := by
  unfold belowD
  rw [List.map_map]
  refine List.map_congr_left fun x _ => ?_
  show (x.1, (x.2.filter _).filter _) = _
  rw [List.filter_filter]
  simp
theorem idsN_below (D : Dd) (q : Int × Int) : idsN (belowD D q) ≤ idsN D := by
  induction D with
  | nil => exact Nat.le_refl _
  | cons x r ih =>
    show idsN ((x.1, x.2.filter fun i => ltS i q) :: belowD r q) ≤ _
    rw [idsN_cons, idsN_cons]
    exact Nat.add_le_add (List.length_filter_le _ _) ih
theorem few_of {l : List Dp} (h1 : l.length ≤ 20) (h2 : idsN (toD l) ≤ 100) : FewD l ∧ idsN (toD l) ≤ 1000000 ∧ l.length ≤ 1000 :=
  ⟨⟨by omega, fun s hs => by have := idsN_le hs; omega⟩, by omega, by omega⟩
theorem getD_len (D : Dd) (s : Int) : (getD D s).length ≤ idsN D := by
  induction D with
  | nil => exact Nat.zero_le _
  | cons x r ih =>
    unfold getD
    rw [idsN_cons]
    by_cases h : x.1 = s
    · rw [if_pos h]; omega
    · rw [if_neg h]; omega
theorem allD_len (D : Dd) : (allD D).length ≤ idsN D := by
  unfold allD
  have h := sortL_length (D.flatMap fun x => x.2)
  have e := flatD_len D
  unfold flatD at e
  omega
theorem ris_ne {D : Dd} {p : Int} (h : RisD p D) {k : Nat} {x : Int × List (Int × Int)} (hx : D[k]? = some x) : ∀ y ∈ D.take k, y.1 ≠ x.1 := by
  intro y hy
  obtain ⟨j, hj, rfl⟩ := List.mem_iff_getElem.1 hy
  obtain ⟨hk, rfl⟩ := List.getElem?_eq_some_iff.1 hx
  rw [List.length_take] at hj
  rw [List.getElem_take]
  have := List.pairwise_iff_getElem.1 h.2 j k (by omega) hk (by omega)
  omega

theorem own6 : ownKnob Tryz.prog.godebug = none := by kernel_rfl
theorem laid6 : laidOutB Tryz.prog = true := by kernel_rfl
end SD
end Go.Proofs.YtjlkgbejldcklaaGreat
