/- TxnWrites. Conditions: none. -/
import Derived.WalkSpells
import Derived.Test.YtfdkkgjkhamoeaaGreatMg39
/- TxnWrites. Conditions: none. -/
set_option linter.unusedVariables false
set_option linter.unusedSimpArgs false
namespace Go.Proofs.YtfdkkgjkhamoeaaGreat
open S3 SN
namespace SP
open Go.ChangeShapes Go.WideShapes Go.ChangeAt Go.RowKit Go.Joins Go.Deep


set_option maxRecDepth 100000 in
theorem txnWrites_lifted (os : Os) (started : os.Started) (H : Type) (enc : TypeId × Value → H) :
    ReturnsInHanded {} Tryz.checked os 12 .any (Rows.txnWritesSpec.pre6 enc Tryz.prog Tryz.f12 Rows.txnWritesRow.domain false) (Rows.txnWritesSpec.post enc Tryz.prog Tryz.f12 false true false false) := by
  refine law_lift_sized (C := Tryz.checked) own0 started (by kernel_rfl) Tryz.func12 laid0 rfl (by kernel_rfl) (fun _ _ _ _ => trodAll_mk1 (shut_bool Tryz.underlying4 true)) (fun ds h => match ds, h with | [_, _, _], _ => ⟨rfl, rfl, rfl⟩)
    (ChangeSpec.witness6 (enc := enc) (C := Tryz.checked) false ⟨#[], #[.slice none 0 0, .agg #[.string ⟨#[]⟩, .int .u64 0, .bool false], .agg #[.string ⟨#[]⟩, .int .u64 0, .bool false]], []⟩ 8 (by kernel_rfl) (by kernel_rfl) (by kernel_rfl) (by kernel_rfl)) ?_
  intro W base args ds before hval0 hA0 hlt hsz
  have hval : ∀ (j : Nat) t v, Tryz.f12.params[j]? = some t → args[j]? = some v → Value.okWide Tryz.prog W .any base t v := hval0
  have hA : DataW.TrodAll enc Tryz.prog W 0 (fun _ => true) true Tryz.f12.params.toList args.toList ds before := hA0
  rw [Tryz.params12] at hA hval
  obtain ⟨v0, v1, v2, d0, d1, d2, p0, p1, p2, rfl, rfl, rfl, h0, h1, h2⟩ := trodAll_three hA
  obtain ⟨d, od, md, rd⟩ := open_pairs (hval 0 42 v0 rfl rfl) h0
  obtain ⟨ka, na, ga, rfl, _, _⟩ := open_write (hval 1 61 v1 rfl rfl) h1
  obtain ⟨kb, nb, gb, rfl, _, _⟩ := open_write (hval 2 61 v2 rfl rfl) h2
  exact txnWrites_walk v0 d ka kb na nb ga gb W md (fun o ho => inW_le8 (rd o ho).2 hsz (j := 0) (by kernel_rfl) rfl) (fun o ho => (rd o ho).1) od

theorem txnWrites_holds : Rows.TxnWritesSaid :=
  OpenClaim.holds_of_wide 12 Tryz.f12 rfl rfl rfl rfl rfl rfl rfl ⟨rfl, rfl, rfl, rfl, rfl⟩ rfl rfl rfl rfl rfl (by kernel_rfl) Tryz.func12 (by kernel_rfl)
    (of_decide_eq_true (by kernel_rfl)) (by unfold Func.isWrapper; rw [if_neg (of_decide_eq_false (by kernel_rfl))]; exact ⟨rfl, rfl⟩)
    (fun os started H enc _ => txnWrites_lifted os started H enc)

#print axioms txnWrites_holds

end SP
end Go.Proofs.YtfdkkgjkhamoeaaGreat
