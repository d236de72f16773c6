/- TopoChecks: whether a topology may be, as the reference says; whatever the topology, the law returns true and leaves its argument as it was. Conditions: none. -/
import Derived.Test.YtkgfpppbpjinaaaTr
set_option linter.unusedVariables false
set_option linter.unusedSimpArgs false
namespace Go.Proofs.Ytkgfpppbpjinaaa
open Go.ChangeShapes Go.WideShapes Go.ChangeAt Go.RowKit Go.Joins Go.Deep

set_option maxRecDepth 100000 in
set_option maxHeartbeats 4000000 in
theorem topoChecks_walk (a : Option Addr) (c : Nat) (l : List Sh) (w : World) (hh : Hl w a l) (hm : l.length ≤ 9223372036854775807) :
    Calls Try.prog 3 #[.slice a l.length c] w fun e w' => e = .returned (.bool true) ∧ Below w.heap.size w w' := by
  have HH := Lib.hid hh
  have HLM := Lib.hid hm
  have HB := Lib.hid (Below.refl w.heap.size w)
  clear hh hm
  go_enter Try.func3, Try.ntmps3
  go_wp2_with fail
  refine (tsmall_any _ _ l _ [] _ HH.out (⟨none, 0, rfl, fun _ => rfl, fun h => absurd rfl h⟩) HLM.out (Nat.zero_le _)).mono ?_
  rintro e _ ⟨b, rfl, h30, hb⟩
  replace HB := Lib.hid (blThen HB.out hb)
  replace HH := Lib.hid (HH.out.later hb)
  clear hb
  cases b
  · go_wp2_with fail
    refine (tlive_any _).mono ?_
    rintro e _ ⟨rfl, hb⟩
    go_wp2
    go_ret
    exact ⟨rfl, blThen HB.out hb⟩
  have H30 := Lib.hid (h30 rfl)
  clear h30
  go_wp2_with fail
  refine (tcheck_any _ _ l _ HH.out).mono ?_
  rintro e _ ⟨rfl, hb⟩
  replace HB := Lib.hid (blThen HB.out hb)
  replace HH := Lib.hid (HH.out.later hb)
  clear hb
  go_wp2_with fail
  refine (tnum_any _ _).mono ?_
  rintro e _ ⟨rfl, rfl⟩
  go_wp2_with fail
  refine (rtcheck_any _ _ l _ HH.out).mono ?_
  rintro e _ ⟨rfl, hb⟩
  replace HB := Lib.hid (blThen HB.out hb)
  replace HH := Lib.hid (HH.out.later hb)
  clear hb
  go_wp2_with fail
  refine (tlive_any _).mono ?_
  rintro e _ ⟨rfl, hb⟩
  go_wp2
  go_ret
  exact ⟨rfl, blThen HB.out hb⟩

set_option maxRecDepth 100000 in
theorem topoChecks_lifted (os : Os) (started : os.Started) (H : Type) (enc : TypeId × Value → H) :
    ReturnsInHanded {} Try.checked os 3 .any (Rows.topoChecksSpec.pre6 enc Try.prog Try.f3 Rows.topoChecksRow.domain false) (Rows.topoChecksSpec.post enc Try.prog Try.f3 false true false false) := by
  refine law_lift (C := Try.checked) own0 started (by kernel_rfl) Try.func3 laid0 rfl (by kernel_rfl) (fun _ _ _ _ => trodAll_mk1 (shut_bool Try.underlying4 true)) (fun ds h => match ds, h with | [_], _ => ⟨rfl, rfl, rfl⟩)
    (ChangeSpec.witness6 (enc := enc) (C := Try.checked) false ⟨#[], #[.slice none 0 0], []⟩ 8 (by kernel_rfl) (by kernel_rfl) (by kernel_rfl) (by kernel_rfl)) ?_
  intro W base args ds before hval0 hA0 hlt
  have hval : ∀ (j : Nat) t v, Try.f3.params[j]? = some t → args[j]? = some v → Value.okWide Try.prog W .any base t v := hval0
  have hA : DataW.TrodAll enc Try.prog W 0 (fun _ => true) true Try.f3.params.toList args.toList ds before := hA0
  rw [Try.params3] at hA hval
  obtain ⟨v0, d0, rfl, rfl, h0⟩ := trodAll_one hA
  obtain ⟨a0, l0, c0, rfl, hh0, hm0⟩ := open_shards (hval 0 22 v0 rfl rfl) h0
  exact topoChecks_walk _ _ l0 W hh0 hm0

theorem topoChecks_holds : Rows.TopoChecksSaid :=
  OpenClaim.holds_of_wide 3 Try.f3 rfl rfl rfl rfl rfl rfl rfl ⟨rfl, rfl, rfl, rfl, rfl⟩ rfl rfl rfl rfl rfl (by kernel_rfl) Try.func3 (by kernel_rfl)
    (of_decide_eq_true (by kernel_rfl)) (by unfold Func.isWrapper; rw [if_neg (of_decide_eq_false (by kernel_rfl))]; exact ⟨rfl, rfl⟩)
    (fun os started H enc _ => topoChecks_lifted os started H enc)

#print axioms topoChecks_holds

end Go.Proofs.Ytkgfpppbpjinaaa
