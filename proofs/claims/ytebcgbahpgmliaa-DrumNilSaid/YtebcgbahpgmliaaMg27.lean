/- DrumNil: a nil drum answers everything. Conditions: none. -/
import Derived.Test.YtebcgbahpgmliaaMg26
import Derived.Test.YtebcgbahpgmliaaMg08
import Derived.Test.YtebcgbahpgmliaaMg00
set_option maxRecDepth 100000
set_option maxHeartbeats 16000000
set_option linter.unusedVariables false
namespace Go.Proofs.Ytebcgbahpgmliaa
open S2
namespace SZ
open Go.ChangeShapes Go.WideShapes Go.ChangeAt Go.RowKit
theorem drumNil_walk (n : Int) (a : Option Addr) (l c : Nat) (w : World) : Calls Try.prog 5 #[.int .i64 n, .slice a l c] w fun e w' => e = .returned (.bool true) ∧ Below w.heap.size w w' := by
 by_cases h : (20000 : Int) < (l : Int)
 ·go_enter Try.func5, Try.ntmps5
  go_wp2_with (go_at_call 9; refine (live14_any _).mono ?_; rintro e w1 ⟨rfl, hb⟩; have HB := Lib.hid hb; clear hb)
  go_ret
  exact ⟨rfl, HB.out⟩
 ·go_enter Try.func5, Try.ntmps5
  go_wp2_with (first
   | (go_at_call 11; refine (num14_any _ _).mono ?_; rintro e w' ⟨rfl, rfl⟩)
   | (go_at_call 21; refine (arm_nil _ _).mono ?_; rintro e w' ⟨rfl, rfl⟩)
   | (go_at_call 22; refine (crash_nil _ _).mono ?_; rintro e w' ⟨rfl, rfl⟩)
   | (go_at_call 25; refine (read_nil _ _).mono ?_; rintro e w' ⟨rfl, rfl⟩)
   | (go_at_call 14; refine (append_nil14 _ _ _ _ _).mono ?_; rintro e w1 ⟨rfl, hb1⟩; have HB1 := Lib.hid (((Below.refl _ _).alloc (Nat.le_refl _) _).trans (hb1.mono (by simp))); clear hb1)
   | (go_at_call 17; refine (sync_nil _ _).mono ?_; rintro e w2 ⟨rfl, hb2⟩; have HB2 := Lib.hid (HB1.out.trans (hb2.mono HB1.out.size)); clear hb2)
   | (go_at_call 19; refine (delete_nil14 _ _).mono ?_; rintro e w3 ⟨rfl, hb3⟩; have HB3 := Lib.hid (HB2.out.trans (hb3.mono HB2.out.size)); clear hb3)
   | (go_at_call 26; refine (files_nil _).mono ?_; rintro e w' ⟨rfl, rfl⟩)
   | (go_at_call 27; refine (free_nil _).mono ?_; rintro e w' ⟨rfl, rfl⟩)
   | (go_at_call 28; refine (dead_nil _).mono ?_; rintro e w' ⟨rfl, rfl⟩)
   | (go_at_call 29; refine (ops_nil _).mono ?_; rintro e w' ⟨rfl, rfl⟩)
   | (go_at_call 9; refine (live14_any _).mono ?_; rintro e w4 ⟨rfl, hb4⟩; have HB4 := Lib.hid (HB3.out.trans (hb4.mono HB3.out.size)); clear hb4))
  go_ret
  exact ⟨rfl, HB4.out⟩
theorem drumNil_lifted (os : Os) (started : os.Started) (H : Type) (enc : TypeId × Value → H) :
  ReturnsInHanded {} Try.checked os 5 .any (Rows.drumNilSpec.pre6 enc Try.prog Try.f5 Rows.drumNilRow.domain false) (Rows.drumNilSpec.post enc Try.prog Try.f5 false true false false) := by
 refine law_lift (C := Try.checked) own0 started (by kernel_rfl) Try.func5 laid0 rfl (by kernel_rfl) (fun _ _ _ _ => trodAll_mk1 (shut_bool Try.underlying4 true)) (fun ds h => match ds, h with | [_, _], _ => ⟨rfl, rfl, rfl⟩)
  (ChangeSpec.witness6 (enc := enc) (C := Try.checked) false ⟨#[], #[.int .i64 0, .slice none 0 0], []⟩ 8 (by kernel_rfl) (by kernel_rfl) (by kernel_rfl) (by kernel_rfl)) ?_
 intro W base args ds before hval0 hA0 hlt
 have hval : ∀ (j : Nat) t v, Try.f5.params[j]? = some t → args[j]? = some v → Value.okWide Try.prog W .any base t v := hval0
 have hA : DataW.TrodAll enc Try.prog W 0 (fun _ => true) true Try.f5.params.toList args.toList ds before := hA0
 rw [Try.params5] at hA hval
 obtain ⟨v0, v1, d0, d1, p0, p1, rfl, rfl, rfl, h0, h1⟩ := trodAll_two hA
 obtain ⟨n, rfl, rfl, rfl, wn⟩ := open_int Try.underlying3 (hval 0 3 v0 rfl rfl) h0
 obtain ⟨g, l, a, cap, rfl, _⟩ := open_bytesv (hval 1 39 v1 rfl rfl) h1
 exact drumNil_walk n a _ cap W
theorem drumNil_holds : Rows.DrumNilSaid :=
 OpenClaim.holds_of_wide 5 Try.f5 rfl rfl rfl rfl rfl rfl rfl ⟨rfl, rfl, rfl, rfl, rfl⟩ rfl rfl rfl rfl rfl (by kernel_rfl) Try.func5 (by kernel_rfl)
  (of_decide_eq_true (by kernel_rfl)) (by unfold Func.isWrapper; rw [if_neg (of_decide_eq_false (by kernel_rfl))]; exact ⟨rfl, rfl⟩)
  (fun os started H enc _ => drumNil_lifted os started H enc)
#print axioms drumNil_holds
end SZ
end Go.Proofs.Ytebcgbahpgmliaa
