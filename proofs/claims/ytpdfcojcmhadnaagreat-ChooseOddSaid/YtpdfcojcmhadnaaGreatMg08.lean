/- Contracts of the reference's calls of package num: they answer what the program's answer. Conditions: the nums are unsigned numbers of 64 bits. -/
import Derived.Test.YtpdfcojcmhadnaaGreatProg
import Derived.WalkKit
import Derived.WalkSpells
import Derived.WalkLawsBesides
import Derived.Lib.Hide
import Derived.StillTailTactics
import Derived.Deep.QuietTactic
import Derived.BigQuiet
import Derived.Sort.Grow
import Derived.Deep.Draws
import Derived.Deep.RegionHeld3
import Derived.Laws.FloatArith
import Derived.Laws.BitsAllLaws
import Derived.Laws.Externs
import Derived.Test.YtpdfcojcmhadnaaGreatMg07
set_option maxRecDepth 100000
set_option maxHeartbeats 16000000
namespace Go.Proofs.YtpdfcojcmhadnaaGreat
namespace SN
open Go.RowKit Go.Sort
def chN (n : Nat) : Int := if rtN n = n then 0 else 70

theorem rnan_any (n : Nat) (hn : n < 18446744073709551616) (w : World) : Calls Tryz.prog 91 #[.int .u64 (n : Int)] w fun e w' => e = .returned (.bool (nanB n)) ∧ w = w' := by
 have hx : bits .andNot .u64 (n : Int) 9223372036854775808 = ((n &&& (18446744073709551615 - 9223372036854775808) : Nat) : Int) := u64_andNot_nat n 9223372036854775808 hn (by decide)
 rw [low_top n] at hx
 have hb : nanB n = decide ((9218868437227405312 : Int) < ((rg n : Nat) : Int)) := by
  unfold nanB
  congr 1
  apply propext
  omega
 rw [hb]
 clear hb
 generalize rg n = r at hx
 go_enter Tryz.func91, Tryz.ntmps91
 go_wp2
 go_ret
 exact ⟨rfl, rfl⟩
theorem rright_any (n : Nat) (hn : n < 18446744073709551616) (w : World) : Calls Tryz.prog 69 #[.int .u64 (n : Int)] w fun e w' => e = .returned (.int .u64 ((rtN n : Nat) : Int)) ∧ w = w' := by
 have hc := fun w => rnan_any n hn w
 cases hb : nanB n
 ·rw [rtN_of n hb]
  go_enter Tryz.func69, Tryz.ntmps69
  go_wp2_with (go_at_call 91; refine (hc _).mono ?_; rw [hb]; rintro e w' ⟨rfl, rfl⟩)
  go_ret
  exact ⟨rfl, rfl⟩
 ·rw [rtN_nan n hb]
  go_enter Tryz.func69, Tryz.ntmps69
  go_wp2_with (go_at_call 91; refine (hc _).mono ?_; rw [hb]; rintro e w' ⟨rfl, rfl⟩)
  go_ret
  exact ⟨rfl, rfl⟩
theorem ris_any (n : Nat) (hn : n < 18446744073709551616) (w : World) : Calls Tryz.prog 44 #[.int .u64 (n : Int)] w fun e w' => e = .returned (.bool (decide (chN n = 0))) ∧ w = w' := by
 have hc := fun w => rright_any n hn w
 have hb : decide (chN n = 0) = decide (((rtN n : Nat) : Int) = (n : Int)) := by
  unfold chN
  by_cases h : rtN n = n
  ·rw [h]; simp
  ·have : ¬ ((rtN n : Nat) : Int) = (n : Int) := by omega
   simp [h, this]
 rw [hb]
 clear hb
 generalize rtN n = r at hc
 go_enter Tryz.func44, Tryz.ntmps44
 go_wp2_with (go_at_call 69; refine (hc _).mono ?_; rintro e w' ⟨rfl, rfl⟩)
 go_ret
 exact ⟨rfl, rfl⟩
end SN
end Go.Proofs.YtpdfcojcmhadnaaGreat
