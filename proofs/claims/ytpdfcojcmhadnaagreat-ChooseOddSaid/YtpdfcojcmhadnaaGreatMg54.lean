/- ChooseOdd: with one that differs nobody finds the fast value. Conditions: none. -/
import Derived.SizedLaws
import Derived.WalkSpells
import Derived.Test.YtpdfcojcmhadnaaGreatMg53
import Derived.Test.YtpdfcojcmhadnaaGreatMg11
import Derived.Test.YtpdfcojcmhadnaaGreatMg18
import Derived.Test.YtpdfcojcmhadnaaGreatMg35
import Derived.Test.YtpdfcojcmhadnaaGreatMg12
set_option maxRecDepth 100000
set_option maxHeartbeats 16000000
set_option linter.unusedVariables false
set_option linter.unusedSimpArgs false
namespace Go.Proofs.YtpdfcojcmhadnaaGreat
open S3 SC SN SP
namespace SB
open Go.ChangeShapes Go.WideShapes Go.ChangeAt Go.RowKit Go.Joins Go.Deep
theorem chooseOdd_lifted (os : Os) (started : os.Started) (H : Type) (enc : TypeId × Value → H) :
  ReturnsInHanded {} Tryz.checked os 3 .any (Rows.chooseOddSpec.pre6 enc Tryz.prog Tryz.f3 Rows.chooseOddRow.domain false) (Rows.chooseOddSpec.post enc Tryz.prog Tryz.f3 false true false false) := by
 refine law_lift (C := Tryz.checked) S3.own0 started (by kernel_rfl) Tryz.func3 S3.laid0 rfl (by kernel_rfl) (fun _ _ _ _ => trodAll_mk1 (shut_bool Tryz.underlying4 true)) (fun ds h => match ds, h with | [_, _, _, _, _, _], _ => ⟨rfl, rfl, rfl⟩)
  (ChangeSpec.witness6 (enc := enc) (C := Tryz.checked) false ⟨#[], #[.slice none 0 0, .agg #[.int .i64 0, .int .i64 0], .slice none 0 0, .agg #[.int .i64 0, .int .i64 0], .int .i64 0, .int .i64 0], []⟩ 8 (by kernel_rfl) (by kernel_rfl) (by kernel_rfl) (by kernel_rfl)) ?_
 intro W base args ds before hval0 hA0 hlt
 have hval : ∀ (j : Nat) t v, Tryz.f3.params[j]? = some t → args[j]? = some v → Value.okWide Tryz.prog W .any base t v := hval0
 have hA : DataW.TrodAll enc Tryz.prog W 0 (fun _ => true) true Tryz.f3.params.toList args.toList ds before := hA0
 rw [Tryz.params3] at hA hval
 obtain ⟨v0, vs0, d0, ds0, p0, q0, hargs, rfl, rfl, h0, r0⟩ := trodAll_cons hA
 obtain ⟨v1, vs1, d1, ds1, p1, q1, rfl, rfl, rfl, h1, r1⟩ := trodAll_cons r0
 obtain ⟨v2, vs2, d2, ds2, p2, q2, rfl, rfl, rfl, h2, r2⟩ := trodAll_cons r1
 obtain ⟨v3, vs3, d3, ds3, p3, q3, rfl, rfl, rfl, h3, r3⟩ := trodAll_cons r2
 obtain ⟨v4, vs4, d4, ds4, p4, q4, rfl, rfl, rfl, h4, r4⟩ := trodAll_cons r3
 obtain ⟨v5, vs5, d5, ds5, p5, q5, rfl, rfl, rfl, h5, r5⟩ := trodAll_cons r4
 obtain ⟨rfl, rfl, rfl⟩ := trodAll_nil r5
 obtain rfl : args = #[v0, v1, v2, v3, v4, v5] := by cases args; simp_all
 obtain ⟨a0, l0, c0, rfl, hh0, _⟩ := S4.open_shards (hval 0 22 v0 rfl rfl) h0
 obtain ⟨i1, i2, rfl, _, _⟩ := S1.open_stamp (hval 1 24 v1 rfl rfl) h1
 obtain ⟨l2, hh2, _, wo2⟩ := open_ops (hval 2 25 v2 rfl rfl) h2
 obtain ⟨t1, t2, rfl, _, _⟩ := S1.open_stamp (hval 3 24 v3 rfl rfl) h3
 obtain ⟨n4, rfl, rfl, rfl, _⟩ := open_int Tryz.underlying3 (hval 4 3 v4 rfl rfl) h4
 obtain ⟨n5, rfl, rfl, rfl, _⟩ := open_int Tryz.underlying3 (hval 5 3 v5 rfl rfl) h5
 exact odd_walk a0 c0 l0 i1 i2 v2 l2 t1 t2 n4 n5 W hh0 hh2 (fun o ho => (wo2 o ho).2.1)
theorem chooseOdd_holds : Rows.ChooseOddSaid :=
 OpenClaim.holds_of_wide 3 Tryz.f3 rfl rfl rfl rfl rfl rfl rfl ⟨rfl, rfl, rfl, rfl, rfl⟩ rfl rfl rfl rfl rfl (by kernel_rfl) Tryz.func3 (by kernel_rfl)
  (of_decide_eq_true (by kernel_rfl)) (by unfold Func.isWrapper; rw [if_neg (of_decide_eq_false (by kernel_rfl))]; exact ⟨rfl, rfl⟩)
  (fun os started H enc _ => chooseOdd_lifted os started H enc)
#print axioms chooseOdd_holds
end SB
end Go.Proofs.YtpdfcojcmhadnaaGreat
