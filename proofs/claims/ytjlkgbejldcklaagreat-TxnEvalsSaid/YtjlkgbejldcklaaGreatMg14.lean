/- Contracts of the reference's calls of package num: they answer what the program's answer. Conditions: the nums are unsigned numbers of 64 bits. -/
import Derived.Test.YtjlkgbejldcklaaGreatProg
import Derived.WalkKit
import Derived.WalkSpells
import Derived.WalkLawsBesides
import Derived.Lib.Hide
import Derived.StillTailTactics
import Derived.Deep.QuietTactic
import Derived.BigQuiet
import Derived.Sort.Grow
import Derived.Deep.Draws
import Derived.Deep.RegionHeld3
import Derived.Laws.FloatArith
import Derived.Laws.BitsAllLaws
import Derived.Laws.Externs
import Derived.Test.YtjlkgbejldcklaaGreatMg13
namespace Go.Proofs.YtjlkgbejldcklaaGreat
namespace SN
open Go.RowKit Go.Sort
theorem frombits_run (n : Int) (w : World) : (callFunc 220 #[.int .u64 n]).run Tryz.prog w = .ok (.value (.float .f64 n.toNat)) w :=
  run_callFunc_extern Tryz.func220 (by kernel_rfl) (by kernel_rfl) (by kernel_rfl) (e := Extern.MathFloatBits.float64frombits) (by kernel_rfl) _ w
theorem bits_run (n : Nat) (w : World) : (callFunc 154 #[.float .f64 n]).run Tryz.prog w = .ok (.value (.int .u64 (n : Int))) w :=
  run_callFunc_extern Tryz.func154 (by kernel_rfl) (by kernel_rfl) (by kernel_rfl) (e := Extern.MathFloatBits.float64bits) (by kernel_rfl) _ w
theorem nan_any (n : Nat) (w : World) : Calls Tryz.prog 311 #[.float .f64 n] w fun e w' => e = .returned (.bool (nanB n)) ∧ w = w' := by
  rw [← isnan_any n]
  go_enter Tryz.func311, Tryz.ntmps311
  go_wp2
  go_ret
  exact ⟨rfl, rfl⟩
set_option maxHeartbeats 400000 in
theorem right_any (n : Nat) (w : World) : Calls Tryz.prog 265 #[.int .u64 (n : Int)] w fun e w' => e = .returned (.int .u64 ((rtN n : Nat) : Int)) ∧ w = w' := by
  have hf := fun w => frombits_run (n : Int) w
  cases hn : nanB n
  · rw [rtN_of n hn]
    go_enter Tryz.func265, Tryz.ntmps265
    go_wp2_with (go_at_call 311; refine (nan_any n _).mono ?_; rw [hn]; rintro e w' ⟨rfl, rfl⟩)
    go_ret
    exact ⟨rfl, rfl⟩
  · rw [rtN_nan n hn]
    go_enter Tryz.func265, Tryz.ntmps265
    go_wp2_with (go_at_call 311; refine (nan_any n _).mono ?_; rw [hn]; rintro e w' ⟨rfl, rfl⟩)
    go_ret
    exact ⟨rfl, rfl⟩
theorem rightn_any (n : Nat) (w : World) : Calls Tryz.prog 208 #[.int .u64 (n : Int)] w fun e w' => e = .returned (.int .u64 ((rtN n : Nat) : Int)) ∧ w = w' := by
  go_enter Tryz.func208, Tryz.ntmps208
  go_wp2_with (go_at_call 265; refine (right_any n _).mono ?_; rintro e w' ⟨rfl, rfl⟩)
  go_ret
  exact ⟨rfl, rfl⟩
theorem fromF_any (n : Nat) (w : World) : Calls Tryz.prog 312 #[.float .f64 n] w fun e w' => e = .returned (.int .u64 ((rtN n : Nat) : Int)) ∧ w = w' := by
  have hf := fun w => bits_run n w
  go_enter Tryz.func312, Tryz.ntmps312
  go_wp2_with (go_at_call 265; refine (right_any n _).mono ?_; rintro e w' ⟨rfl, rfl⟩)
  go_ret
  exact ⟨rfl, rfl⟩
theorem toF_any (n : Nat) (w : World) : Calls Tryz.prog 313 #[.int .u64 (n : Int)] w fun e w' => e = .returned (.float .f64 n) ∧ w = w' := by
  have hf := fun w => frombits_run (n : Int) w
  rw [Int.toNat_natCast] at hf
  go_enter Tryz.func313, Tryz.ntmps313
  go_wp2
  go_ret
  exact ⟨rfl, rfl⟩
theorem floatOf (i : Int) : floatOfInt .f64 i = ofN i := nearest_of i
theorem of_any (i : Int) (w : World) : Calls Tryz.prog 269 #[.int .i64 i] w fun e w' => e = .returned (.int .u64 ((ofN i : Nat) : Int)) ∧ w = w' := by
  have he : rtN (floatOfInt .f64 i) = ofN i := by rw [floatOf, rtN_of _ (nanB_ofN i)]
  rw [← he]
  clear he
  go_enter Tryz.func269, Tryz.ntmps269
  go_wp2_with (go_at_call 312; refine (fromF_any _ _).mono ?_; rintro e w' ⟨rfl, rfl⟩)
  go_ret
  exact ⟨rfl, rfl⟩
def chN (n : Nat) : Int := if rtN n = n then 0 else 70
theorem check_any (n : Nat) (w : World) : Calls Tryz.prog 133 #[.int .u64 (n : Int)] w fun e w' => e = .returned (.int .i64 (chN n)) ∧ w = w' := by
  by_cases h : rtN n = n
  · have e : chN n = 0 := by simp [chN, h]
    have h1 : (((rtN n : Nat) : Int) = (n : Int)) := by omega
    rw [e]
    go_enter Tryz.func133, Tryz.ntmps133
    go_wp2_with (go_at_call 208; refine (rightn_any n _).mono ?_; rintro e w' ⟨rfl, rfl⟩)
    go_ret
    exact ⟨rfl, rfl⟩
  · have e : chN n = 70 := by simp [chN, h]
    have h1 : ¬ (((rtN n : Nat) : Int) = (n : Int)) := by omega
    rw [e]
    go_enter Tryz.func133, Tryz.ntmps133
    go_wp2_with (go_at_call 208; refine (rightn_any n _).mono ?_; rintro e w' ⟨rfl, rfl⟩)
    go_ret
    exact ⟨rfl, rfl⟩
theorem cut_nan (x y t : Nat) : nanB (Question.cut (.nanBits .f64 x y) t) = true := by
  show nanB ((t % 2) * 9223372036854775808 + 9218868437227405312 + 1 + (t / 2) % 4503599627370495) = true
  unfold nanB rg
  simp only [decide_eq_true_eq]
  have hq : (t / 2) % 4503599627370495 < 4503599627370495 := Nat.mod_lt _ (by decide)
  generalize (t / 2) % 4503599627370495 = q at *
  rcases Nat.mod_two_eq_zero_or_one t with h | h <;> rw [h] <;> omega
theorem cut_lt (x y t : Nat) : Question.cut (.nanBits .f64 x y) t < 18446744073709551616 := by
  show (t % 2) * 9223372036854775808 + 9218868437227405312 + 1 + (t / 2) % 4503599627370495 < _
  have hq : (t / 2) % 4503599627370495 < 4503599627370495 := Nat.mod_lt _ (by decide)
  generalize (t / 2) % 4503599627370495 = q at *
  rcases Nat.mod_two_eq_zero_or_one t with h | h <;> rw [h] <;> omega
theorem add_nan_run (x y : Nat) (h : Ieee.double.add x y = none) (w : World) : ∃ b, nanB b = true ∧ b < 18446744073709551616 ∧ ∀ t, (binOp .add t (.float .f64 x) (.float .f64 y)).run Tryz.prog w = .ok (.float .f64 b) w.drew := by
  refine ⟨_, cut_nan x y (w.tape w.drawn (.nanBits .f64 x y)), cut_lt x y _, fun t => ?_⟩
  have h2 : FloatKind.f64.format.add x y = none := h
  simp [binOp, Op.floatArith, h2, Question.forced]
theorem add_run (x y r : Nat) (h : Ieee.double.add x y = some r) (w : World) : ∀ t, (binOp .add t (.float .f64 x) (.float .f64 y)).run Tryz.prog w = .ok (.float .f64 r) w := fun t => run_float_arith w .add t .f64 x y r h
set_option maxHeartbeats 400000 in
theorem add_any (x y : Nat) (w : World) : Calls Tryz.prog 267 #[.int .u64 (x : Int), .int .u64 (y : Int)] w fun e w' => e = .returned (.int .u64 ((adN x y : Nat) : Int)) ∧ Below w.heap.size w w' := by
  cases h : Ieee.double.add x y with
  | none =>
    obtain ⟨b, hb, _, hop⟩ := add_nan_run x y h w
    have he : rtN b = adN x y := by unfold adN; rw [h, rtN_nan b hb]
    rw [← he]
    clear he h hb
    go_enter Tryz.func267, Tryz.ntmps267
    go_wp2_with (first | (go_at_call 312; refine (fromF_any _ _).mono ?_; rintro e w' ⟨rfl, rfl⟩) | (go_at_call 313; refine (toF_any _ _).mono ?_; rintro e w' ⟨rfl, rfl⟩))
    go_ret
    exact ⟨rfl, (Below.refl _ _).drew⟩
  | some r =>
    have hop := add_run x y r h w
    have he : rtN r = adN x y := by unfold adN; rw [h]
    rw [← he]
    clear he h
    go_enter Tryz.func267, Tryz.ntmps267
    go_wp2_with (first | (go_at_call 312; refine (fromF_any _ _).mono ?_; rintro e w' ⟨rfl, rfl⟩) | (go_at_call 313; refine (toF_any _ _).mono ?_; rintro e w' ⟨rfl, rfl⟩))
    go_ret
    exact ⟨rfl, Below.refl _ _⟩
theorem neg_any (n : Nat) (hn : n < 18446744073709551616) (w : World) : Calls Tryz.prog 270 #[.int .u64 (n : Int)] w fun e w' => e = .returned (.int .u64 ((ngN n : Nat) : Int)) ∧ w = w' := by
  have hx : bits .xor .u64 (n : Int) 9223372036854775808 = ((n ^^^ 9223372036854775808 : Nat) : Int) := u64_xor_nat n 9223372036854775808 hn (by decide)
  go_enter Tryz.func270, Tryz.ntmps270
  go_wp2_with (go_at_call 265; refine (right_any (n ^^^ 9223372036854775808) _).mono ?_; rintro e w' ⟨rfl, rfl⟩)
  go_ret
  exact ⟨rfl, rfl⟩
theorem covers_any (x y : Nat) (w : World) : Calls Tryz.prog 268 #[.int .u64 (x : Int), .int .u64 (y : Int)] w fun e w' => e = .returned (.bool (coN x y)) ∧ w = w' := by
  unfold coN
  go_enter Tryz.func268, Tryz.ntmps268
  go_wp2_with (go_at_call 313; refine (toF_any _ _).mono ?_; rintro e w' ⟨rfl, rfl⟩)
  go_ret
  exact ⟨rfl, rfl⟩
end SN
end Go.Proofs.YtjlkgbejldcklaaGreat

namespace Go.Proofs.YtjlkgbejldcklaaGreat
namespace SN
open Go.RowKit Go.Sort
theorem adN_rt (x y : Nat) : adN (rtN x) (rtN y) = adN x y := by
  have nn : nanB 9221120237041090561 = true := by decide
  have key : ∀ n, nanB n = true → 9218868437227405312 < rg n := fun n h => by simpa [nanB] using h
  cases hx : nanB x
  · rw [rtN_of x hx]
    cases hy : nanB y
    · rw [rtN_of y hy]
    · rw [rtN_nan y hy]
      unfold adN
      rw [add_nan _ _ (.inr (key _ nn)), add_nan _ _ (.inr (key _ hy))]
  · rw [rtN_nan x hx]
    unfold adN
    rw [add_nan _ _ (.inl (key _ nn)), add_nan _ _ (.inl (key _ hx))]
theorem nan_gt (n : Nat) : nanB n = true ↔ 9218868437227405312 < rg n := by simp [nanB]
theorem nan_le (n : Nat) : nanB n = false ↔ rg n ≤ 9218868437227405312 := by simp [nanB]
theorem vl_le (a b : Nat) : vl a ≤ vl b ↔ a ≤ b := by
  have := vl_iff b a
  omega
theorem rg_le (n : Nat) (h : n < 18446744073709551616) (hn : nanB n = false) : rkN n = if negB n = true then 9223372036854775807 - rg n else 9223372036854775808 + rg n := by
  have hw := wd_of n h
  unfold rkN
  rw [rtN_of n hn]
  have hr := (nan_le n).1 hn
  generalize rg n = r at *
  cases hb : negB n <;> rw [hb] at hw <;> simp only [wd, Bool.false_eq_true, if_false, if_true] at hw ⊢
  · rw [if_pos (by omega)]; omega
  · rw [if_neg (by omega)]; omega
theorem coN_eq (a b : Nat) (ha : a < 18446744073709551616) (hb : b < 18446744073709551616) (na : nanB a = false) (nb : nanB b = false) : coN a b = decide (rg a = 0 ∧ rg b = 0 ∨ rkN b ≤ rkN a) := by
  have r1 := (nan_le a).1 na
  have r2 := (nan_le b).1 nb
  have h1 : coN a b = decide (zv b ≤ zv a) := by
    unfold coN
    rw [order_zv a b r1 r2, cmp_int]
    by_cases h : zv a < zv b
    · rw [if_pos h]
      have : ¬ zv b ≤ zv a := by omega
      simp [this]
    · rw [if_neg h]
      have h2 : zv b ≤ zv a := by omega
      by_cases h3 : zv a = zv b
      · rw [if_pos h3]; simp [h2]
      · rw [if_neg h3]; simp [h2]
  rw [h1]
  congr 1
  rw [rg_le a ha na, rg_le b hb nb]
  unfold zv
  have v1 := vl_le (rg a) (rg b)
  have v2 := vl_le (rg b) (rg a)
  have p1 := vl_pos (rg a)
  have p2 := vl_pos (rg b)
  have z1 : rg a = 0 → vl (rg a) = 0 := fun h => by rw [h, vl_zero]
  have z2 : rg b = 0 → vl (rg b) = 0 := fun h => by rw [h, vl_zero]
  generalize vl (rg a) = u at *
  generalize vl (rg b) = v at *
  generalize rg a = r at *
  generalize rg b = s at *
  apply propext
  cases negB a <;> cases negB b <;> simp only [sg, Bool.false_eq_true, if_false, if_true] <;> omega
theorem rnan_any (n : Nat) (hn : n < 18446744073709551616) (w : World) : Calls Tryz.prog 221 #[.int .u64 (n : Int)] w fun e w' => e = .returned (.bool (nanB n)) ∧ w = w' := by
  have hx : bits .andNot .u64 (n : Int) 9223372036854775808 = ((n &&& (18446744073709551615 - 9223372036854775808) : Nat) : Int) := u64_andNot_nat n 9223372036854775808 hn (by decide)
  rw [low_top n] at hx
  have hb : nanB n = decide ((9218868437227405312 : Int) < ((rg n : Nat) : Int)) := by
    unfold nanB
    congr 1
    apply propext
    omega
  rw [hb]
  clear hb
  generalize rg n = r at hx
  go_enter Tryz.func221, Tryz.ntmps221
  go_wp2
  go_ret
  exact ⟨rfl, rfl⟩
set_option maxHeartbeats 400000 in
theorem rright_any (n : Nat) (hn : n < 18446744073709551616) (w : World) : Calls Tryz.prog 209 #[.int .u64 (n : Int)] w fun e w' => e = .returned (.int .u64 ((rtN n : Nat) : Int)) ∧ w = w' := by
  have hc := fun w => rnan_any n hn w
  cases hb : nanB n
  · rw [rtN_of n hb]
    go_enter Tryz.func209, Tryz.ntmps209
    go_wp2_with (go_at_call 221; refine (hc _).mono ?_; rw [hb]; rintro e w' ⟨rfl, rfl⟩)
    go_ret
    exact ⟨rfl, rfl⟩
  · rw [rtN_nan n hb]
    go_enter Tryz.func209, Tryz.ntmps209
    go_wp2_with (go_at_call 221; refine (hc _).mono ?_; rw [hb]; rintro e w' ⟨rfl, rfl⟩)
    go_ret
    exact ⟨rfl, rfl⟩
theorem ris_any (n : Nat) (hn : n < 18446744073709551616) (w : World) : Calls Tryz.prog 136 #[.int .u64 (n : Int)] w fun e w' => e = .returned (.bool (decide (chN n = 0))) ∧ w = w' := by
  have hc := fun w => rright_any n hn w
  have hb : decide (chN n = 0) = decide (((rtN n : Nat) : Int) = (n : Int)) := by
    unfold chN
    by_cases h : rtN n = n
    · rw [h]; simp
    · have : ¬ ((rtN n : Nat) : Int) = (n : Int) := by omega
      simp [h, this]
  rw [hb]
  clear hb
  generalize rtN n = r at hc
  go_enter Tryz.func136, Tryz.ntmps136
  go_wp2_with (go_at_call 209; refine (hc _).mono ?_; rintro e w' ⟨rfl, rfl⟩)
  go_ret
  exact ⟨rfl, rfl⟩
theorem rof_any (i : Int) (w : World) : Calls Tryz.prog 63 #[.int .i64 i] w fun e w' => e = .returned (.int .u64 ((ofN i : Nat) : Int)) ∧ w = w' := by
  have hf := fun n w => bits_run n w
  rw [← floatOf]
  go_enter Tryz.func63, Tryz.ntmps63
  go_wp2
  go_ret
  exact ⟨rfl, rfl⟩
theorem rneg_any (n : Nat) (hn : n < 18446744073709551616) (w : World) : Calls Tryz.prog 146 #[.int .u64 (n : Int)] w fun e w' => e = .returned (.int .u64 ((ngN n : Nat) : Int)) ∧ w = w' := by
  have hx : bits .xor .u64 (n : Int) 9223372036854775808 = ((n ^^^ 9223372036854775808 : Nat) : Int) := u64_xor_nat n 9223372036854775808 hn (by decide)
  have hl : n ^^^ 9223372036854775808 < 18446744073709551616 := by rw [xor_top n hn]; split <;> omega
  have hc := fun w => rright_any _ hl w
  unfold ngN
  clear hl
  generalize n ^^^ 9223372036854775808 = m at *
  go_enter Tryz.func146, Tryz.ntmps146
  go_wp2_with (go_at_call 209; refine (hc _).mono ?_; rintro e w' ⟨rfl, rfl⟩)
  go_ret
  exact ⟨rfl, rfl⟩
set_option maxHeartbeats 800000 in
theorem radd_any (x y : Nat) (hx : x < 18446744073709551616) (hy : y < 18446744073709551616) (w : World) : Calls Tryz.prog 144 #[.int .u64 (x : Int), .int .u64 (y : Int)] w fun e w' => e = .returned (.int .u64 ((adN x y : Nat) : Int)) ∧ Below w.heap.size w w' := by
  rw [← adN_rt x y]
  have hc := fun w => rright_any x hx w
  have hd := fun w => rright_any y hy w
  have lx := rtN_lt x hx
  have ly := rtN_lt y hy
  have hf := fun n w => frombits_run n w
  have hg := fun n w => bits_run n w
  generalize rtN x = p at *
  generalize rtN y = q at *
  cases h : Ieee.double.add p q with
  | none =>
    obtain ⟨b, hb, hl, hop⟩ := add_nan_run p q h w
    have he : rtN b = adN p q := by unfold adN; rw [h, rtN_nan b hb]
    have hr := fun w => rright_any b hl w
    rw [← he]
    clear he h hb
    go_enter Tryz.func144, Tryz.ntmps144
    go_wp2_with fail
    refine (hc _).mono ?_; rintro e w' ⟨rfl, rfl⟩
    go_wp2_with fail
    refine (hd _).mono ?_; rintro e w' ⟨rfl, rfl⟩
    go_wp2_with fail
    refine (hr _).mono ?_; rintro e w' ⟨rfl, rfl⟩
    go_wp2
    go_ret
    exact ⟨rfl, (Below.refl _ _).drew⟩
  | some r =>
    have hop := add_run p q r h w
    have he : rtN r = adN p q := by unfold adN; rw [h]
    have hl : r < 18446744073709551616 := Ieee.double.add_lt h
    have hr := fun w => rright_any r hl w
    rw [← he]
    clear he h
    go_enter Tryz.func144, Tryz.ntmps144
    go_wp2_with fail
    refine (hc _).mono ?_; rintro e w' ⟨rfl, rfl⟩
    go_wp2_with fail
    refine (hd _).mono ?_; rintro e w' ⟨rfl, rfl⟩
    go_wp2_with fail
    refine (hr _).mono ?_; rintro e w' ⟨rfl, rfl⟩
    go_wp2
    go_ret
    exact ⟨rfl, Below.refl _ _⟩
set_option maxHeartbeats 400000 in
theorem rrank_any (n : Nat) (hn : n < 18446744073709551616) (w : World) : Calls Tryz.prog 272 #[.int .u64 (n : Int)] w fun e w' => e = .returned (.int .u64 ((rkN n : Nat) : Int)) ∧ w = w' := by
  have hr := rtN_lt n hn
  have hc := fun w => rright_any n hn w
  have hm : IntKind.u64.max = ((18446744073709551615 : Nat) : Int) := by decide
  unfold rkN
  generalize rtN n = m at *
  have ho : bits .or .u64 (m : Int) 9223372036854775808 = ((m ||| 9223372036854775808 : Nat) : Int) := u64_or_nat m 9223372036854775808 hr (by decide)
  have ha : bits .and .u64 (m : Int) 9223372036854775808 = ((m &&& 9223372036854775808 : Nat) : Int) := u64_and_nat m 9223372036854775808 hr (by decide)
  have hu : bits .xor .u64 IntKind.u64.max (m : Int) = ((18446744073709551615 ^^^ m : Nat) : Int) := by rw [hm]; exact u64_xor_nat 18446744073709551615 m (by decide) hr
  clear hm
  rw [and_top _ hr] at ha
  rw [xor_all _ hr] at hu
  by_cases h : m < 9223372036854775808
  · rw [or_top m h] at ho
    rw [if_pos h] at ha ⊢
    go_enter Tryz.func272, Tryz.ntmps272
    go_wp2_with (go_at_call 209; refine (hc _).mono ?_; rintro e w' ⟨rfl, rfl⟩)
    go_ret
    exact ⟨rfl, rfl⟩
  · clear ho
    rw [if_neg h] at ha ⊢
    go_enter Tryz.func272, Tryz.ntmps272
    go_wp2_with (go_at_call 209; refine (hc _).mono ?_; rintro e w' ⟨rfl, rfl⟩)
    go_ret
    exact ⟨rfl, rfl⟩
set_option maxHeartbeats 800000 in
theorem rcompare_any (a b : Nat) (ha : a < 18446744073709551616) (hb : b < 18446744073709551616) (w : World) : Calls Tryz.prog 222 #[.int .u64 (a : Int), .int .u64 (b : Int)] w fun e w' => e = .returned (.int .i64 (cmN a b)) ∧ w = w' := by
  unfold cmN
  have hra := fun w => rrank_any a ha w
  have hrb := fun w => rrank_any b hb w
  generalize rkN a = x at *
  generalize rkN b = y at *
  by_cases h1 : x < y
  · have hv : cmpU x y = -1 := by unfold cmpU; rw [if_pos h1]
    have g1 : (x : Int) < (y : Int) := by omega
    rw [hv]
    go_enter Tryz.func222, Tryz.ntmps222
    go_wp2_with fail
    refine (hra _).mono ?_; rintro e w' ⟨rfl, rfl⟩
    go_wp2_with fail
    refine (hrb _).mono ?_; rintro e w' ⟨rfl, rfl⟩
    go_wp2
    go_ret
    exact ⟨rfl, rfl⟩
  · have g1 : ¬ (x : Int) < (y : Int) := by omega
    by_cases h2 : y < x
    · have hv : cmpU x y = 1 := by unfold cmpU; rw [if_neg h1, if_pos h2]
      have g2 : (y : Int) < (x : Int) := by omega
      rw [hv]
      go_enter Tryz.func222, Tryz.ntmps222
      go_wp2_with fail
      refine (hra _).mono ?_; rintro e w' ⟨rfl, rfl⟩
      go_wp2_with fail
      refine (hrb _).mono ?_; rintro e w' ⟨rfl, rfl⟩
      go_wp2
      go_ret
      exact ⟨rfl, rfl⟩
    · have hv : cmpU x y = 0 := by unfold cmpU; rw [if_neg h1, if_neg h2]
      have g2 : ¬ (y : Int) < (x : Int) := by omega
      rw [hv]
      go_enter Tryz.func222, Tryz.ntmps222
      go_wp2_with fail
      refine (hra _).mono ?_; rintro e w' ⟨rfl, rfl⟩
      go_wp2_with fail
      refine (hrb _).mono ?_; rintro e w' ⟨rfl, rfl⟩
      go_wp2
      go_ret
      exact ⟨rfl, rfl⟩
theorem cmpU_ge (x y : Nat) : 0 ≤ cmpU x y ↔ y ≤ x := by
  unfold cmpU
  split
  · omega
  · split <;> omega
theorem coN_nan (a b : Nat) (h : nanB a = true ∨ nanB b = true) : coN a b = false := by
  unfold coN
  rw [order_nan a b (by rw [← nan_gt, ← nan_gt]; exact h)]
  rfl
set_option maxHeartbeats 1600000 in
theorem rcovers_any (a b : Nat) (ha : a < 18446744073709551616) (hb : b < 18446744073709551616) (w : World) : Calls Tryz.prog 145 #[.int .u64 (a : Int), .int .u64 (b : Int)] w fun e w' => e = .returned (.bool (coN a b)) ∧ w = w' := by
  have hna := fun w => rnan_any a ha w
  have hnb := fun w => rnan_any b hb w
  have hcm := fun w => rcompare_any a b ha hb w
  have hx : bits .andNot .u64 (a : Int) 9223372036854775808 = ((a &&& (18446744073709551615 - 9223372036854775808) : Nat) : Int) := u64_andNot_nat a 9223372036854775808 ha (by decide)
  have hy : bits .andNot .u64 (b : Int) 9223372036854775808 = ((b &&& (18446744073709551615 - 9223372036854775808) : Nat) : Int) := u64_andNot_nat b 9223372036854775808 hb (by decide)
  rw [low_top] at hx hy
  cases na : nanB a
  · cases nb : nanB b
    · have hge := cmpU_ge (rkN a) (rkN b)
      change 0 ≤ cmN a b ↔ _ at hge
      have he : coN a b = decide (rg a = 0 ∧ rg b = 0 ∨ 0 ≤ cmN a b) := by rw [coN_eq a b ha hb na nb]; simp only [hge]
      rw [he]
      clear hge he
      generalize rg a = r at *
      generalize rg b = s at *
      generalize cmN a b = c at *
      by_cases h1 : r = 0
      · by_cases h2 : s = 0
        · have g1 : ((r : Nat) : Int) = 0 := by omega
          have g2 : ((s : Nat) : Int) = 0 := by omega
          have hv : decide (r = 0 ∧ s = 0 ∨ 0 ≤ c) = true := by simp [h1, h2]
          rw [hv]
          clear hv h1 h2
          rw [g1] at hx
          rw [g2] at hy
          go_enter Tryz.func145, Tryz.ntmps145
          go_wp2_with fail
          refine (hna _).mono ?_; rw [na]; rintro e w' ⟨rfl, rfl⟩
          go_wp2_with fail
          refine (hnb _).mono ?_; rw [nb]; rintro e w' ⟨rfl, rfl⟩
          go_wp2
          go_ret
          exact ⟨rfl, rfl⟩
        · have g1 : ((r : Nat) : Int) = 0 := by omega
          have g2 : ¬ ((s : Nat) : Int) = 0 := by omega
          have hv : decide (r = 0 ∧ s = 0 ∨ 0 ≤ c) = decide (0 ≤ c) := by simp [h2]
          rw [hv]
          clear hv h1 h2
          rw [g1] at hx
          go_enter Tryz.func145, Tryz.ntmps145
          go_wp2_with fail
          refine (hna _).mono ?_; rw [na]; rintro e w' ⟨rfl, rfl⟩
          go_wp2_with fail
          refine (hnb _).mono ?_; rw [nb]; rintro e w' ⟨rfl, rfl⟩
          go_wp2_with fail
          refine (hcm _).mono ?_; rintro e w' ⟨rfl, rfl⟩
          go_wp2
          go_ret
          exact ⟨rfl, rfl⟩
      · have g1 : ¬ ((r : Nat) : Int) = 0 := by omega
        have hv : decide (r = 0 ∧ s = 0 ∨ 0 ≤ c) = decide (0 ≤ c) := by simp [h1]
        rw [hv]
        clear hv h1
        go_enter Tryz.func145, Tryz.ntmps145
        go_wp2_with fail
        refine (hna _).mono ?_; rw [na]; rintro e w' ⟨rfl, rfl⟩
        go_wp2_with fail
        refine (hnb _).mono ?_; rw [nb]; rintro e w' ⟨rfl, rfl⟩
        go_wp2_with fail
        refine (hcm _).mono ?_; rintro e w' ⟨rfl, rfl⟩
        go_wp2
        go_ret
        exact ⟨rfl, rfl⟩
    · rw [coN_nan a b (.inr nb)]
      go_enter Tryz.func145, Tryz.ntmps145
      go_wp2_with fail
      refine (hna _).mono ?_; rw [na]; rintro e w' ⟨rfl, rfl⟩
      go_wp2_with fail
      refine (hnb _).mono ?_; rw [nb]; rintro e w' ⟨rfl, rfl⟩
      go_wp2
      go_ret
      exact ⟨rfl, rfl⟩
  · rw [coN_nan a b (.inl na)]
    go_enter Tryz.func145, Tryz.ntmps145
    go_wp2_with fail
    refine (hna _).mono ?_; rw [na]; rintro e w' ⟨rfl, rfl⟩
    go_wp2
    go_ret
    exact ⟨rfl, rfl⟩
end SN
end Go.Proofs.YtjlkgbejldcklaaGreat
