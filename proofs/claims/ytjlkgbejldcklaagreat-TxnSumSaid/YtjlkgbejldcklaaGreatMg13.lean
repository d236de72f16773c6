/- Contracts of the reference's calls of package num: they answer what the program's answer. Conditions: the nums are unsigned numbers of 64 bits. -/
import Derived.Test.YtjlkgbejldcklaaGreatProg
import Derived.WalkKit
import Derived.WalkSpells
import Derived.WalkLawsBesides
import Derived.Lib.Hide
import Derived.StillTailTactics
import Derived.Deep.QuietTactic
import Derived.BigQuiet
import Derived.Sort.Grow
import Derived.Deep.Draws
import Derived.Deep.RegionHeld3
import Derived.Laws.FloatArith
import Derived.Laws.BitsAllLaws
import Derived.Laws.Externs
import Derived.Test.YtjlkgbejldcklaaGreatMg12
namespace Go.Proofs.YtjlkgbejldcklaaGreat
namespace SN
open Go.RowKit Go.Sort
theorem frombits_run (n : Int) (w : World) : (callFunc 220 #[.int .u64 n]).run Tryz.prog w = .ok (.value (.float .f64 n.toNat)) w :=
  run_callFunc_extern Tryz.func220 (by kernel_rfl) (by kernel_rfl) (by kernel_rfl) (e := Extern.MathFloatBits.float64frombits) (by kernel_rfl) _ w
theorem bits_run (n : Nat) (w : World) : (callFunc 154 #[.float .f64 n]).run Tryz.prog w = .ok (.value (.int .u64 (n : Int))) w :=
  run_callFunc_extern Tryz.func154 (by kernel_rfl) (by kernel_rfl) (by kernel_rfl) (e := Extern.MathFloatBits.float64bits) (by kernel_rfl) _ w
theorem nan_any (n : Nat) (w : World) : Calls Tryz.prog 311 #[.float .f64 n] w fun e w' => e = .returned (.bool (nanB n)) ∧ w = w' := by
  rw [← isnan_any n]
  go_enter Tryz.func311, Tryz.ntmps311
  go_wp2
  go_ret
  exact ⟨rfl, rfl⟩
set_option maxHeartbeats 400000 in
theorem right_any (n : Nat) (w : World) : Calls Tryz.prog 265 #[.int .u64 (n : Int)] w fun e w' => e = .returned (.int .u64 ((rtN n : Nat) : Int)) ∧ w = w' := by
  have hf := fun w => frombits_run (n : Int) w
  cases hn : nanB n
  · rw [rtN_of n hn]
    go_enter Tryz.func265, Tryz.ntmps265
    go_wp2_with (go_at_call 311; refine (nan_any n _).mono ?_; rw [hn]; rintro e w' ⟨rfl, rfl⟩)
    go_ret
    exact ⟨rfl, rfl⟩
  · rw [rtN_nan n hn]
    go_enter Tryz.func265, Tryz.ntmps265
    go_wp2_with (go_at_call 311; refine (nan_any n _).mono ?_; rw [hn]; rintro e w' ⟨rfl, rfl⟩)
    go_ret
    exact ⟨rfl, rfl⟩
theorem rightn_any (n : Nat) (w : World) : Calls Tryz.prog 208 #[.int .u64 (n : Int)] w fun e w' => e = .returned (.int .u64 ((rtN n : Nat) : Int)) ∧ w = w' := by
  go_enter Tryz.func208, Tryz.ntmps208
  go_wp2_with (go_at_call 265; refine (right_any n _).mono ?_; rintro e w' ⟨rfl, rfl⟩)
  go_ret
  exact ⟨rfl, rfl⟩
theorem fromF_any (n : Nat) (w : World) : Calls Tryz.prog 312 #[.float .f64 n] w fun e w' => e = .returned (.int .u64 ((rtN n : Nat) : Int)) ∧ w = w' := by
  have hf := fun w => bits_run n w
  go_enter Tryz.func312, Tryz.ntmps312
  go_wp2_with (go_at_call 265; refine (right_any n _).mono ?_; rintro e w' ⟨rfl, rfl⟩)
  go_ret
  exact ⟨rfl, rfl⟩
theorem toF_any (n : Nat) (w : World) : Calls Tryz.prog 313 #[.int .u64 (n : Int)] w fun e w' => e = .returned (.float .f64 n) ∧ w = w' := by
  have hf := fun w => frombits_run (n : Int) w
  rw [Int.toNat_natCast] at hf
  go_enter Tryz.func313, Tryz.ntmps313
  go_wp2
  go_ret
  exact ⟨rfl, rfl⟩
theorem floatOf (i : Int) : floatOfInt .f64 i = ofN i := nearest_of i
theorem of_any (i : Int) (w : World) : Calls Tryz.prog 269 #[.int .i64 i] w fun e w' => e = .returned (.int .u64 ((ofN i : Nat) : Int)) ∧ w = w' := by
  have he : rtN (floatOfInt .f64 i) = ofN i := by rw [floatOf, rtN_of _ (nanB_ofN i)]
  rw [← he]
  clear he
  go_enter Tryz.func269, Tryz.ntmps269
  go_wp2_with (go_at_call 312; refine (fromF_any _ _).mono ?_; rintro e w' ⟨rfl, rfl⟩)
  go_ret
  exact ⟨rfl, rfl⟩
def chN (n : Nat) : Int := if rtN n = n then 0 else 70
theorem check_any (n : Nat) (w : World) : Calls Tryz.prog 133 #[.int .u64 (n : Int)] w fun e w' => e = .returned (.int .i64 (chN n)) ∧ w = w' := by
  by_cases h : rtN n = n
  · have e : chN n = 0 := by simp [chN, h]
    have h1 : (((rtN n : Nat) : Int) = (n : Int)) := by omega
    rw [e]
    go_enter Tryz.func133, Tryz.ntmps133
    go_wp2_with (go_at_call 208; refine (rightn_any n _).mono ?_; rintro e w' ⟨rfl, rfl⟩)
    go_ret
    exact ⟨rfl, rfl⟩
  · have e : chN n = 70 := by simp [chN, h]
    have h1 : ¬ (((rtN n : Nat) : Int) = (n : Int)) := by omega
    rw [e]
    go_enter Tryz.func133, Tryz.ntmps133
    go_wp2_with (go_at_call 208; refine (rightn_any n _).mono ?_; rintro e w' ⟨rfl, rfl⟩)
    go_ret
    exact ⟨rfl, rfl⟩
theorem cut_nan (x y t : Nat) : nanB (Question.cut (.nanBits .f64 x y) t) = true := by
  show nanB ((t % 2) * 9223372036854775808 + 9218868437227405312 + 1 + (t / 2) % 4503599627370495) = true
  unfold nanB rg
  simp only [decide_eq_true_eq]
  have hq : (t / 2) % 4503599627370495 < 4503599627370495 := Nat.mod_lt _ (by decide)
  generalize (t / 2) % 4503599627370495 = q at *
  rcases Nat.mod_two_eq_zero_or_one t with h | h <;> rw [h] <;> omega
theorem cut_lt (x y t : Nat) : Question.cut (.nanBits .f64 x y) t < 18446744073709551616 := by
  show (t % 2) * 9223372036854775808 + 9218868437227405312 + 1 + (t / 2) % 4503599627370495 < _
  have hq : (t / 2) % 4503599627370495 < 4503599627370495 := Nat.mod_lt _ (by decide)
  generalize (t / 2) % 4503599627370495 = q at *
  rcases Nat.mod_two_eq_zero_or_one t with h | h <;> rw [h] <;> omega
theorem add_nan_run (x y : Nat) (h : Ieee.double.add x y = none) (w : World) : ∃ b, nanB b = true ∧ b < 18446744073709551616 ∧ ∀ t, (binOp .add t (.float .f64 x) (.float .f64 y)).run Tryz.prog w = .ok (.float .f64 b) w.drew := by
  refine ⟨_, cut_nan x y (w.tape w.drawn (.nanBits .f64 x y)), cut_lt x y _, fun t => ?_⟩
  have h2 : FloatKind.f64.format.add x y = none := h
  simp [binOp, Op.floatArith, h2, Question.forced]
theorem add_run (x y r : Nat) (h : Ieee.double.add x y = some r) (w : World) : ∀ t, (binOp .add t (.float .f64 x) (.float .f64 y)).run Tryz.prog w = .ok (.float .f64 r) w := fun t => run_float_arith w .add t .f64 x y r h
set_option maxHeartbeats 400000 in
theorem add_any (x y : Nat) (w : World) : Calls Tryz.prog 267 #[.int .u64 (x : Int), .int .u64 (y : Int)] w fun e w' => e = .returned (.int .u64 ((adN x y : Nat) : Int)) ∧ Below w.heap.size w w' := by
  cases h : Ieee.double.add x y with
  | none =>
    obtain ⟨b, hb, _, hop⟩ := add_nan_run x y h w
    have he : rtN b = adN x y := by unfold adN; rw [h, rtN_nan b hb]
    rw [← he]
    clear he h hb
    go_enter Tryz.func267, Tryz.ntmps267
    go_wp2_with (first | (go_at_call 312; refine (fromF_any _ _).mono ?_; rintro e w' ⟨rfl, rfl⟩) | (go_at_call 313; refine (toF_any _ _).mono ?_; rintro e w' ⟨rfl, rfl⟩))
    go_ret
    exact ⟨rfl, (Below.refl _ _).drew⟩
  | some r =>
    have hop := add_run x y r h w
    have he : rtN r = adN x y := by unfold adN; rw [h]
    rw [← he]
    clear he h
    go_enter Tryz.func267, Tryz.ntmps267
    go_wp2_with (first | (go_at_call 312; refine (fromF_any _ _).mono ?_; rintro e w' ⟨rfl, rfl⟩) | (go_at_call 313; refine (toF_any _ _).mono ?_; rintro e w' ⟨rfl, rfl⟩))
    go_ret
    exact ⟨rfl, Below.refl _ _⟩
theorem neg_any (n : Nat) (hn : n < 18446744073709551616) (w : World) : Calls Tryz.prog 270 #[.int .u64 (n : Int)] w fun e w' => e = .returned (.int .u64 ((ngN n : Nat) : Int)) ∧ w = w' := by
  have hx : bits .xor .u64 (n : Int) 9223372036854775808 = ((n ^^^ 9223372036854775808 : Nat) : Int) := u64_xor_nat n 9223372036854775808 hn (by decide)
  go_enter Tryz.func270, Tryz.ntmps270
  go_wp2_with (go_at_call 265; refine (right_any (n ^^^ 9223372036854775808) _).mono ?_; rintro e w' ⟨rfl, rfl⟩)
  go_ret
  exact ⟨rfl, rfl⟩
theorem covers_any (x y : Nat) (w : World) : Calls Tryz.prog 268 #[.int .u64 (x : Int), .int .u64 (y : Int)] w fun e w' => e = .returned (.bool (coN x y)) ∧ w = w' := by
  unfold coN
  go_enter Tryz.func268, Tryz.ntmps268
  go_wp2_with (go_at_call 313; refine (toF_any _ _).mono ?_; rintro e w' ⟨rfl, rfl⟩)
  go_ret
  exact ⟨rfl, rfl⟩
end SN
end Go.Proofs.YtjlkgbejldcklaaGreat

namespace Go.Proofs.YtjlkgbejldcklaaGreat
namespace SN
open Go.RowKit Go.Sort
theorem nan_le (n : Nat) : nanB n = false ↔ rg n ≤ 9218868437227405312 := by simp [nanB]
theorem rof_any (i : Int) (w : World) : Calls Tryz.prog 63 #[.int .i64 i] w fun e w' => e = .returned (.int .u64 ((ofN i : Nat) : Int)) ∧ w = w' := by
  have hf := fun n w => bits_run n w
  rw [← floatOf]
  go_enter Tryz.func63, Tryz.ntmps63
  go_wp2
  go_ret
  exact ⟨rfl, rfl⟩
end SN
end Go.Proofs.YtjlkgbejldcklaaGreat
