/- FlatLays: everything is laid as the document says: whatever things, numbers and texts, the law returns true and leaves its arguments as they were. Conditions: none. -/
import Derived.Test.YtjojjpfjennnoaaGe
namespace Go.Proofs.Ytjojjpfjennnoaa
open Go.ChangeShapes Go.WideShapes Go.ChangeAt Go.RowKit Go.Joins Go.Deep

set_option maxRecDepth 100000 in
theorem flatLays_lifted (os : Os) (started : os.Started) (H : Type) (enc : TypeId × Value → H) :
    ReturnsInHanded {} Try.checked os 3 .any (Rows.flatLaysSpec.pre6 enc Try.prog Try.f3 Rows.flatLaysRow.domain false) (Rows.flatLaysSpec.post enc Try.prog Try.f3 false true false false) := by
  refine law_lift_sized (C := Try.checked) own0 started (by kernel_rfl) Try.func3 laid0 rfl (by kernel_rfl) (fun _ _ _ _ => trodAll_mk1 (shut_bool Try.underlying4 true)) (fun ds h => match ds, h with | [_, _, _], _ => ⟨rfl, rfl, rfl⟩)
    (ChangeSpec.witness6 (enc := enc) (C := Try.checked) false ⟨#[], #[.slice none 0 0, .slice none 0 0, .slice none 0 0], []⟩ 8 (by kernel_rfl) (by kernel_rfl) (by kernel_rfl) (by kernel_rfl)) ?_
  intro W base args ds before hval0 hA0 hlt hsz
  have hval : ∀ (j : Nat) t v, Try.f3.params[j]? = some t → args[j]? = some v → Value.okWide Try.prog W .any base t v := hval0
  have hA : DataW.TrodAll enc Try.prog W 0 (fun _ => true) true Try.f3.params.toList args.toList ds before := hA0
  rw [Try.params3] at hA hval
  obtain ⟨v0, v1, v2, d0, d1, d2, p0, p1, p2, rfl, rfl, rfl, h0, h1, h2⟩ := trodAll_three hA
  obtain ⟨a0, l, c0, g0, rfl, hm0, hl0⟩ := open_things (hval 0 22 v0 rfl rfl) h0 hsz (j := 0) (by kernel_rfl) rfl
  obtain ⟨a1, ns, c1, g1, rfl, hm1, hw1, hi1, hg1⟩ := open_i64s Try.underlying23 Try.underlying2 cells_i64 (hval 1 23 v1 rfl rfl) h1
  obtain ⟨a2, ss, c2, g2, rfl, hm2, hz2, ht2, hg2⟩ := open_texts_r (hval 2 24 v2 rfl rfl) h2 hsz (j := 2) (by kernel_rfl) rfl
  exact flatLays_walk g0 a0 c0 l a1 c1 g1 ns a2 c2 g2 ss W hm0 hm1 hm2 hl0 hi1 hg1 ht2 hg2 hz2

theorem flatLays_holds : Rows.FlatLaysSaid :=
  OpenClaim.holds_of_wide 3 Try.f3 rfl rfl rfl rfl rfl rfl rfl ⟨rfl, rfl, rfl, rfl, rfl⟩ rfl rfl rfl rfl rfl (by kernel_rfl) Try.func3 (by kernel_rfl)
    (of_decide_eq_true (by kernel_rfl)) (by unfold Func.isWrapper; rw [if_neg (of_decide_eq_false (by kernel_rfl))]; exact ⟨rfl, rfl⟩)
    (fun os started H enc _ => flatLays_lifted os started H enc)

#print axioms flatLays_holds

end Go.Proofs.Ytjojjpfjennnoaa
