/- Contracts of package num's calls: Right, Check, Of, Add, Neg, Compare, Covers. Conditions: the nums are unsigned numbers of 64 bits. -/
import Derived.Test.YtmhgjijpilhcdaaProg
import Derived.Test.YtmhgjijpilhcdaaNc
import Derived.WalkKit
import Derived.WalkSpells
import Derived.WalkLawsBesides
import Derived.Lib.Hide
import Derived.StillTailTactics
import Derived.Deep.QuietTactic
import Derived.BigQuiet
import Derived.Sort.Grow
import Derived.Deep.Draws
import Derived.Deep.RegionHeld3
import Derived.Laws.FloatArith
import Derived.Laws.BitsAllLaws
import Derived.Laws.Externs
namespace Go.Proofs.Ytmhgjijpilhcdaa
open Go.RowKit Go.Sort

theorem frombits_run (n : Int) (w : World) : (callFunc 31 #[.int .u64 n]).run Try.prog w = .ok (.value (.float .f64 n.toNat)) w :=
  run_callFunc_extern Try.func31 (by kernel_rfl) (by kernel_rfl) (by kernel_rfl) (e := Extern.MathFloatBits.float64frombits) (by kernel_rfl) _ w
theorem bits_run (n : Nat) (w : World) : (callFunc 34 #[.float .f64 n]).run Try.prog w = .ok (.value (.int .u64 (n : Int))) w :=
  run_callFunc_extern Try.func34 (by kernel_rfl) (by kernel_rfl) (by kernel_rfl) (e := Extern.MathFloatBits.float64bits) (by kernel_rfl) _ w

theorem nan_any (n : Nat) (w : World) : Calls Try.prog 30 #[.float .f64 n] w fun e w' => e = .returned (.bool (nanB n)) ∧ w = w' := by
  rw [← isnan_any n]
  go_enter Try.func30, Try.ntmps30
  go_wp2
  go_ret
  exact ⟨rfl, rfl⟩

set_option maxHeartbeats 400000 in
theorem right_any (n : Nat) (w : World) : Calls Try.prog 12 #[.int .u64 (n : Int)] w fun e w' => e = .returned (.int .u64 ((rtN n : Nat) : Int)) ∧ w = w' := by
  have hf := fun w => frombits_run (n : Int) w
  cases hn : nanB n
  · rw [rtN_of n hn]
    go_enter Try.func12, Try.ntmps12
    go_wp2_with (go_at_call 30; refine (nan_any n _).mono ?_; rw [hn]; rintro e w' ⟨rfl, rfl⟩)
    go_ret
    exact ⟨rfl, rfl⟩
  · rw [rtN_nan n hn]
    go_enter Try.func12, Try.ntmps12
    go_wp2_with (go_at_call 30; refine (nan_any n _).mono ?_; rw [hn]; rintro e w' ⟨rfl, rfl⟩)
    go_ret
    exact ⟨rfl, rfl⟩

theorem rightn_any (n : Nat) (w : World) : Calls Try.prog 29 #[.int .u64 (n : Int)] w fun e w' => e = .returned (.int .u64 ((rtN n : Nat) : Int)) ∧ w = w' := by
  go_enter Try.func29, Try.ntmps29
  go_wp2_with (go_at_call 12; refine (right_any n _).mono ?_; rintro e w' ⟨rfl, rfl⟩)
  go_ret
  exact ⟨rfl, rfl⟩
theorem fromF_any (n : Nat) (w : World) : Calls Try.prog 33 #[.float .f64 n] w fun e w' => e = .returned (.int .u64 ((rtN n : Nat) : Int)) ∧ w = w' := by
  have hf := fun w => bits_run n w
  go_enter Try.func33, Try.ntmps33
  go_wp2_with (go_at_call 12; refine (right_any n _).mono ?_; rintro e w' ⟨rfl, rfl⟩)
  go_ret
  exact ⟨rfl, rfl⟩
theorem toF_any (n : Nat) (w : World) : Calls Try.prog 35 #[.int .u64 (n : Int)] w fun e w' => e = .returned (.float .f64 n) ∧ w = w' := by
  have hf := fun w => frombits_run (n : Int) w
  rw [Int.toNat_natCast] at hf
  go_enter Try.func35, Try.ntmps35
  go_wp2
  go_ret
  exact ⟨rfl, rfl⟩
theorem floatOf (i : Int) : floatOfInt .f64 i = ofN i := nearest_of i
theorem of_any (i : Int) (w : World) : Calls Try.prog 14 #[.int .i64 i] w fun e w' => e = .returned (.int .u64 ((ofN i : Nat) : Int)) ∧ w = w' := by
  have he : rtN (floatOfInt .f64 i) = ofN i := by rw [floatOf, rtN_of _ (nanB_ofN i)]
  rw [← he]
  clear he
  go_enter Try.func14, Try.ntmps14
  go_wp2_with (go_at_call 33; refine (fromF_any _ _).mono ?_; rintro e w' ⟨rfl, rfl⟩)
  go_ret
  exact ⟨rfl, rfl⟩
def chN (n : Nat) : Int := if rtN n = n then 0 else 70
theorem check_any (n : Nat) (w : World) : Calls Try.prog 10 #[.int .u64 (n : Int)] w fun e w' => e = .returned (.int .i64 (chN n)) ∧ w = w' := by
  by_cases h : rtN n = n
  · have e : chN n = 0 := by simp [chN, h]
    have h1 : (((rtN n : Nat) : Int) = (n : Int)) := by omega
    rw [e]
    go_enter Try.func10, Try.ntmps10
    go_wp2_with (go_at_call 29; refine (rightn_any n _).mono ?_; rintro e w' ⟨rfl, rfl⟩)
    go_ret
    exact ⟨rfl, rfl⟩
  · have e : chN n = 70 := by simp [chN, h]
    have h1 : ¬ (((rtN n : Nat) : Int) = (n : Int)) := by omega
    rw [e]
    go_enter Try.func10, Try.ntmps10
    go_wp2_with (go_at_call 29; refine (rightn_any n _).mono ?_; rintro e w' ⟨rfl, rfl⟩)
    go_ret
    exact ⟨rfl, rfl⟩

theorem cut_nan (x y t : Nat) : nanB (Question.cut (.nanBits .f64 x y) t) = true := by
  show nanB ((t % 2) * 9223372036854775808 + 9218868437227405312 + 1 + (t / 2) % 4503599627370495) = true
  unfold nanB rg
  simp only [decide_eq_true_eq]
  have hq : (t / 2) % 4503599627370495 < 4503599627370495 := Nat.mod_lt _ (by decide)
  generalize (t / 2) % 4503599627370495 = q at *
  rcases Nat.mod_two_eq_zero_or_one t with h | h <;> rw [h] <;> omega
theorem cut_lt (x y t : Nat) : Question.cut (.nanBits .f64 x y) t < 18446744073709551616 := by
  show (t % 2) * 9223372036854775808 + 9218868437227405312 + 1 + (t / 2) % 4503599627370495 < _
  have hq : (t / 2) % 4503599627370495 < 4503599627370495 := Nat.mod_lt _ (by decide)
  generalize (t / 2) % 4503599627370495 = q at *
  rcases Nat.mod_two_eq_zero_or_one t with h | h <;> rw [h] <;> omega
theorem add_nan_run (x y : Nat) (h : Ieee.double.add x y = none) (w : World) : ∃ b, nanB b = true ∧ b < 18446744073709551616 ∧ ∀ t, (binOp .add t (.float .f64 x) (.float .f64 y)).run Try.prog w = .ok (.float .f64 b) w.drew := by
  refine ⟨_, cut_nan x y (w.tape w.drawn (.nanBits .f64 x y)), cut_lt x y _, fun t => ?_⟩
  have h2 : FloatKind.f64.format.add x y = none := h
  simp [binOp, Op.floatArith, h2, Question.forced]
theorem add_run (x y r : Nat) (h : Ieee.double.add x y = some r) (w : World) : ∀ t, (binOp .add t (.float .f64 x) (.float .f64 y)).run Try.prog w = .ok (.float .f64 r) w := fun t => run_float_arith w .add t .f64 x y r h

set_option maxHeartbeats 400000 in
theorem add_any (x y : Nat) (w : World) : Calls Try.prog 16 #[.int .u64 (x : Int), .int .u64 (y : Int)] w fun e w' => e = .returned (.int .u64 ((adN x y : Nat) : Int)) ∧ Below w.heap.size w w' := by
  cases h : Ieee.double.add x y with
  | none =>
    obtain ⟨b, hb, _, hop⟩ := add_nan_run x y h w
    have he : rtN b = adN x y := by unfold adN; rw [h, rtN_nan b hb]
    rw [← he]
    clear he h hb
    go_enter Try.func16, Try.ntmps16
    go_wp2_with (first | (go_at_call 33; refine (fromF_any _ _).mono ?_; rintro e w' ⟨rfl, rfl⟩) | (go_at_call 35; refine (toF_any _ _).mono ?_; rintro e w' ⟨rfl, rfl⟩))
    go_ret
    exact ⟨rfl, (Below.refl _ _).drew⟩
  | some r =>
    have hop := add_run x y r h w
    have he : rtN r = adN x y := by unfold adN; rw [h]
    rw [← he]
    clear he h
    go_enter Try.func16, Try.ntmps16
    go_wp2_with (first | (go_at_call 33; refine (fromF_any _ _).mono ?_; rintro e w' ⟨rfl, rfl⟩) | (go_at_call 35; refine (toF_any _ _).mono ?_; rintro e w' ⟨rfl, rfl⟩))
    go_ret
    exact ⟨rfl, Below.refl _ _⟩

theorem neg_any (n : Nat) (hn : n < 18446744073709551616) (w : World) : Calls Try.prog 18 #[.int .u64 (n : Int)] w fun e w' => e = .returned (.int .u64 ((ngN n : Nat) : Int)) ∧ w = w' := by
  have hx : bits .xor .u64 (n : Int) 9223372036854775808 = ((n ^^^ 9223372036854775808 : Nat) : Int) := u64_xor_nat n 9223372036854775808 hn (by decide)
  go_enter Try.func18, Try.ntmps18
  go_wp2_with (go_at_call 12; refine (right_any (n ^^^ 9223372036854775808) _).mono ?_; rintro e w' ⟨rfl, rfl⟩)
  go_ret
  exact ⟨rfl, rfl⟩
theorem covers_any (x y : Nat) (w : World) : Calls Try.prog 22 #[.int .u64 (x : Int), .int .u64 (y : Int)] w fun e w' => e = .returned (.bool (coN x y)) ∧ w = w' := by
  unfold coN
  go_enter Try.func22, Try.ntmps22
  go_wp2_with (go_at_call 35; refine (toF_any _ _).mono ?_; rintro e w' ⟨rfl, rfl⟩)
  go_ret
  exact ⟨rfl, rfl⟩

set_option maxHeartbeats 400000 in
theorem rank_any (n : Nat) (hn : n < 18446744073709551616) (w : World) : Calls Try.prog 37 #[.int .u64 (n : Int)] w fun e w' => e = .returned (.int .u64 ((rkN n : Nat) : Int)) ∧ w = w' := by
  have hr := rtN_lt n hn
  have hx : bits .xor .u64 ((rtN n : Nat) : Int) 9223372036854775808 = ((rtN n ^^^ 9223372036854775808 : Nat) : Int) := u64_xor_nat (rtN n) 9223372036854775808 hr (by decide)
  have ha : bits .and .u64 ((rtN n : Nat) : Int) 9223372036854775808 = ((rtN n &&& 9223372036854775808 : Nat) : Int) := u64_and_nat (rtN n) 9223372036854775808 hr (by decide)
  have hm : IntKind.u64.max = ((18446744073709551615 : Nat) : Int) := by decide
  have hu : bits .xor .u64 IntKind.u64.max ((rtN n : Nat) : Int) = ((18446744073709551615 ^^^ rtN n : Nat) : Int) := by rw [hm]; exact u64_xor_nat 18446744073709551615 (rtN n) (by decide) hr
  clear hm
  rw [xor_top _ hr] at hx
  rw [and_top _ hr] at ha
  rw [xor_all _ hr] at hu
  unfold rkN
  by_cases h : rtN n < 9223372036854775808
  · rw [if_pos h]
    rw [if_pos h] at hx ha
    go_enter Try.func37, Try.ntmps37
    go_wp2_with (go_at_call 29; refine (rightn_any n _).mono ?_; rintro e w' ⟨rfl, rfl⟩)
    go_ret
    exact ⟨rfl, rfl⟩
  · rw [if_neg h]
    rw [if_neg h] at hx ha
    go_enter Try.func37, Try.ntmps37
    go_wp2_with (go_at_call 29; refine (rightn_any n _).mono ?_; rintro e w' ⟨rfl, rfl⟩)
    go_ret
    exact ⟨rfl, rfl⟩

set_option maxHeartbeats 400000 in
theorem cmpU_any (a b : Nat) (w : World) : Calls Try.prog 36 #[.int .u64 (a : Int), .int .u64 (b : Int)] w fun e w' => e = .returned (.int .i64 (cmpU a b)) ∧ w = w' := by
  by_cases h1 : a < b
  · have hv : cmpU a b = -1 := by unfold cmpU; rw [if_pos h1]
    have g1 : (a : Int) < (b : Int) := by omega
    rw [hv]
    go_enter Try.func36, Try.ntmps36
    go_wp2
    go_ret
    exact ⟨rfl, rfl⟩
  · have g1 : ¬ (a : Int) < (b : Int) := by omega
    by_cases h2 : b < a
    · have hv : cmpU a b = 1 := by unfold cmpU; rw [if_neg h1, if_pos h2]
      have g2 : (b : Int) < (a : Int) := by omega
      rw [hv]
      go_enter Try.func36, Try.ntmps36
      go_wp2
      go_ret
      exact ⟨rfl, rfl⟩
    · have hv : cmpU a b = 0 := by unfold cmpU; rw [if_neg h1, if_neg h2]
      have g2 : ¬ (b : Int) < (a : Int) := by omega
      rw [hv]
      go_enter Try.func36, Try.ntmps36
      go_wp2
      go_ret
      exact ⟨rfl, rfl⟩
set_option maxHeartbeats 1000000 in
theorem compare_any (a b : Nat) (ha : a < 18446744073709551616) (hb : b < 18446744073709551616) (w : World) : Calls Try.prog 20 #[.int .u64 (a : Int), .int .u64 (b : Int)] w fun e w' => e = .returned (.int .i64 (cmN a b)) ∧ w = w' := by
  unfold cmN
  have hra := fun w => rank_any a ha w
  have hrb := fun w => rank_any b hb w
  generalize rkN a = x at *
  generalize rkN b = y at *
  go_enter Try.func20, Try.ntmps20
  go_wp2_with fail
  refine (hra _).mono ?_; rintro e w' ⟨rfl, rfl⟩
  go_wp2_with fail
  refine (hrb _).mono ?_; rintro e w' ⟨rfl, rfl⟩
  go_wp2_with fail
  refine (cmpU_any x y _).mono ?_; rintro e w' ⟨rfl, rfl⟩
  go_wp2
  go_ret
  exact ⟨rfl, rfl⟩

end Go.Proofs.Ytmhgjijpilhcdaa
