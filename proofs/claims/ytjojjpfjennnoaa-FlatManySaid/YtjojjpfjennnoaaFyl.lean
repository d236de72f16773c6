/- FlatMany: many at once are as one by one; Bytes take nothing away: whatever is laid, the law returns true and leaves its arguments as they were. Conditions: none. -/
import Derived.Test.YtjojjpfjennnoaaFy
namespace Go.Proofs.Ytjojjpfjennnoaa
open Go.ChangeShapes Go.WideShapes Go.ChangeAt Go.RowKit Go.Joins Go.Deep

set_option maxRecDepth 100000 in
theorem flatMany_lifted (os : Os) (started : os.Started) (H : Type) (enc : TypeId × Value → H) :
    ReturnsInHanded {} Try.checked os 9 .any (Rows.flatManySpec.pre6 enc Try.prog Try.f9 Rows.flatManyRow.domain false) (Rows.flatManySpec.post enc Try.prog Try.f9 false true false false) := by
  refine law_lift_sized (C := Try.checked) own0 started (by kernel_rfl) Try.func9 laid0 rfl (by kernel_rfl) (fun _ _ _ _ => trodAll_mk1 (shut_bool Try.underlying4 true)) (fun ds h => match ds, h with | [_, _, _], _ => ⟨rfl, rfl, rfl⟩)
    (ChangeSpec.witness6 (enc := enc) (C := Try.checked) false ⟨#[], #[.slice none 0 0, .slice none 0 0, .slice none 0 0], []⟩ 8 (by kernel_rfl) (by kernel_rfl) (by kernel_rfl) (by kernel_rfl)) ?_
  intro W base args ds before hval0 hA0 hlt hsz
  have hval : ∀ (j : Nat) t v, Try.f9.params[j]? = some t → args[j]? = some v → Value.okWide Try.prog W .any base t v := hval0
  have hA : DataW.TrodAll enc Try.prog W 0 (fun _ => true) true Try.f9.params.toList args.toList ds before := hA0
  rw [Try.params9] at hA hval
  obtain ⟨v0, v1, v2, d0, d1, d2, p0, p1, p2, rfl, rfl, rfl, h0, h1, h2⟩ := trodAll_three hA
  obtain ⟨a1, ns, c1, g1, rfl, hm0, hw0, hi0, hg0⟩ := open_i64s Try.underlying23 Try.underlying2 cells_i64 (hval 0 23 v0 rfl rfl) h0
  obtain ⟨a2, ss, c2, g2, rfl, hm1, hz1, ht1, hg1⟩ := open_texts_r (hval 1 24 v1 rfl rfl) h1 hsz (j := 1) (by kernel_rfl) rfl
  obtain ⟨a3, l, c3, g3, rfl, hsl2, hm2, hg2, hw2⟩ := open_stamps (hval 2 52 v2 rfl rfl) h2
  exact flatMany_walk a1 c1 g1 ns a2 c2 g2 ss a3 c3 g3 l W hm0 hm1 hm2 hi0 hg0 ht1 hg1 hz1 hsl2 hg2

theorem flatMany_holds : Rows.FlatManySaid :=
  OpenClaim.holds_of_wide 9 Try.f9 rfl rfl rfl rfl rfl rfl rfl ⟨rfl, rfl, rfl, rfl, rfl⟩ rfl rfl rfl rfl rfl (by kernel_rfl) Try.func9 (by kernel_rfl)
    (of_decide_eq_true (by kernel_rfl)) (by unfold Func.isWrapper; rw [if_neg (of_decide_eq_false (by kernel_rfl))]; exact ⟨rfl, rfl⟩)
    (fun os started H enc _ => flatMany_lifted os started H enc)

#print axioms flatMany_holds

end Go.Proofs.Ytjojjpfjennnoaa
