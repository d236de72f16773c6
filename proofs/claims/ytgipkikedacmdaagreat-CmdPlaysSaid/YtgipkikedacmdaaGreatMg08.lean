/- Contracts of the reference's calls of package num: they answer what the program's answer. Conditions: the nums are unsigned numbers of 64 bits. -/
import Derived.Test.YtgipkikedacmdaaGreatProg
import Derived.WalkKit
import Derived.WalkSpells
import Derived.WalkLawsBesides
import Derived.Lib.Hide
import Derived.StillTailTactics
import Derived.Deep.QuietTactic
import Derived.BigQuiet
import Derived.Sort.Grow
import Derived.Deep.Draws
import Derived.Deep.RegionHeld3
import Derived.Laws.FloatArith
import Derived.Laws.BitsAllLaws
import Derived.Laws.Externs
import Derived.Test.YtgipkikedacmdaaGreatMg07
set_option maxRecDepth 100000
set_option maxHeartbeats 16000000
namespace Go.Proofs.YtgipkikedacmdaaGreat
namespace SN
open Go.RowKit Go.Sort
theorem frombits_run (n : Int) (w : World) : (callFunc 221 #[.int .u64 n]).run Tryz.prog w = .ok (.value (.float .f64 n.toNat)) w :=
 run_callFunc_extern Tryz.func221 (by kernel_rfl) (by kernel_rfl) (by kernel_rfl) (e := Extern.MathFloatBits.float64frombits) (by kernel_rfl) _ w
theorem nan_any (n : Nat) (w : World) : Calls Tryz.prog 220 #[.float .f64 n] w fun e w' => e = .returned (.bool (nanB n)) ∧ w = w' := by
 rw [← isnan_any n]
 go_enter Tryz.func220, Tryz.ntmps220
 go_wp2
 go_ret
 exact ⟨rfl, rfl⟩
theorem right_any (n : Nat) (w : World) : Calls Tryz.prog 217 #[.int .u64 (n : Int)] w fun e w' => e = .returned (.int .u64 ((rtN n : Nat) : Int)) ∧ w = w' := by
 have hf := fun w => frombits_run (n : Int) w
 cases hn : nanB n
 ·rw [rtN_of n hn]
  go_enter Tryz.func217, Tryz.ntmps217
  go_wp2_with (go_at_call 220; refine (nan_any n _).mono ?_; rw [hn]; rintro e w' ⟨rfl, rfl⟩)
  go_ret
  exact ⟨rfl, rfl⟩
 ·rw [rtN_nan n hn]
  go_enter Tryz.func217, Tryz.ntmps217
  go_wp2_with (go_at_call 220; refine (nan_any n _).mono ?_; rw [hn]; rintro e w' ⟨rfl, rfl⟩)
  go_ret
  exact ⟨rfl, rfl⟩
theorem rightn_any (n : Nat) (w : World) : Calls Tryz.prog 206 #[.int .u64 (n : Int)] w fun e w' => e = .returned (.int .u64 ((rtN n : Nat) : Int)) ∧ w = w' := by
 go_enter Tryz.func206, Tryz.ntmps206
 go_wp2_with (go_at_call 217; refine (right_any n _).mono ?_; rintro e w' ⟨rfl, rfl⟩)
 go_ret
 exact ⟨rfl, rfl⟩
def chN (n : Nat) : Int := if rtN n = n then 0 else 70
theorem check_any (n : Nat) (w : World) : Calls Tryz.prog 184 #[.int .u64 (n : Int)] w fun e w' => e = .returned (.int .i64 (chN n)) ∧ w = w' := by
 by_cases h : rtN n = n
 ·have e : chN n = 0 := by simp [chN, h]
  have h1 : (((rtN n : Nat) : Int) = (n : Int)) := by omega
  rw [e]
  go_enter Tryz.func184, Tryz.ntmps184
  go_wp2_with (go_at_call 206; refine (rightn_any n _).mono ?_; rintro e w' ⟨rfl, rfl⟩)
  go_ret
  exact ⟨rfl, rfl⟩
 ·have e : chN n = 70 := by simp [chN, h]
  have h1 : ¬ (((rtN n : Nat) : Int) = (n : Int)) := by omega
  rw [e]
  go_enter Tryz.func184, Tryz.ntmps184
  go_wp2_with (go_at_call 206; refine (rightn_any n _).mono ?_; rintro e w' ⟨rfl, rfl⟩)
  go_ret
  exact ⟨rfl, rfl⟩

theorem rnan_any (n : Nat) (hn : n < 18446744073709551616) (w : World) : Calls Tryz.prog 210 #[.int .u64 (n : Int)] w fun e w' => e = .returned (.bool (nanB n)) ∧ w = w' := by
 have hx : bits .andNot .u64 (n : Int) 9223372036854775808 = ((n &&& (18446744073709551615 - 9223372036854775808) : Nat) : Int) := u64_andNot_nat n 9223372036854775808 hn (by decide)
 rw [low_top n] at hx
 have hb : nanB n = decide ((9218868437227405312 : Int) < ((rg n : Nat) : Int)) := by
  unfold nanB
  congr 1
  apply propext
  omega
 rw [hb]
 clear hb
 generalize rg n = r at hx
 go_enter Tryz.func210, Tryz.ntmps210
 go_wp2
 go_ret
 exact ⟨rfl, rfl⟩
theorem rright_any (n : Nat) (hn : n < 18446744073709551616) (w : World) : Calls Tryz.prog 188 #[.int .u64 (n : Int)] w fun e w' => e = .returned (.int .u64 ((rtN n : Nat) : Int)) ∧ w = w' := by
 have hc := fun w => rnan_any n hn w
 cases hb : nanB n
 ·rw [rtN_of n hb]
  go_enter Tryz.func188, Tryz.ntmps188
  go_wp2_with (go_at_call 210; refine (hc _).mono ?_; rw [hb]; rintro e w' ⟨rfl, rfl⟩)
  go_ret
  exact ⟨rfl, rfl⟩
 ·rw [rtN_nan n hb]
  go_enter Tryz.func188, Tryz.ntmps188
  go_wp2_with (go_at_call 210; refine (hc _).mono ?_; rw [hb]; rintro e w' ⟨rfl, rfl⟩)
  go_ret
  exact ⟨rfl, rfl⟩
theorem ris_any (n : Nat) (hn : n < 18446744073709551616) (w : World) : Calls Tryz.prog 142 #[.int .u64 (n : Int)] w fun e w' => e = .returned (.bool (decide (chN n = 0))) ∧ w = w' := by
 have hc := fun w => rright_any n hn w
 have hb : decide (chN n = 0) = decide (((rtN n : Nat) : Int) = (n : Int)) := by
  unfold chN
  by_cases h : rtN n = n
  ·rw [h]; simp
  ·have : ¬ ((rtN n : Nat) : Int) = (n : Int) := by omega
   simp [h, this]
 rw [hb]
 clear hb
 generalize rtN n = r at hc
 go_enter Tryz.func142, Tryz.ntmps142
 go_wp2_with (go_at_call 188; refine (hc _).mono ?_; rintro e w' ⟨rfl, rfl⟩)
 go_ret
 exact ⟨rfl, rfl⟩
end SN
end Go.Proofs.YtgipkikedacmdaaGreat
