/- What package num's calls answer, as plain functions of bits. No program is named. -/
import Ieee.Arith
set_option maxRecDepth 100000
set_option maxHeartbeats 16000000
namespace Go.Proofs.YtpdfcojcmhadnaaGreat
namespace SN
open Ieee
def negB (n : Nat) : Bool := n / 9223372036854775808 % 2 == 1
def rg (n : Nat) : Nat := n % 9223372036854775808
def nanB (n : Nat) : Bool := decide (9218868437227405312 < rg n)
def mg (r : Nat) : Nat := if r < 4503599627370496 then r else 4503599627370496 + r % 4503599627370496
def ex (r : Nat) : Nat := if r < 4503599627370496 then 0 else r / 4503599627370496 - 1
def vl (r : Nat) : Nat := mg r * 2 ^ ex r
def sg (s : Bool) (v : Nat) : Int := if s then -(v : Int) else (v : Int)
def zv (n : Nat) : Int := sg (negB n) (vl (rg n))
def wd (s : Bool) (r : Nat) : Nat := if s then 9223372036854775808 + r else r
theorem pow_pos2 (k : Nat) : 0 < (2 ^ k : Nat) := Nat.two_pow_pos k
theorem vl_zero : vl 0 = 0 := by decide

def rtN (n : Nat) : Nat := if nanB n = true then 9221120237041090561 else n
def adN (x y : Nat) : Nat := match double.add x y with
 | some r => rtN r
 | none => 9221120237041090561
def ngN (n : Nat) : Nat := rtN (n ^^^ 9223372036854775808)
def coN (x y : Nat) : Bool := double.order x y == some .gt || double.order x y == some .eq
def KK : Nat := 2 ^ 1074
theorem KK_eq : KK = 2 ^ 1074 := by delta KK; exact Eq.refl _
theorem rtN_of (n : Nat) (h : nanB n = false) : rtN n = n := by unfold rtN; rw [h]; rfl
theorem rtN_nan (n : Nat) (h : nanB n = true) : rtN n = 9221120237041090561 := by unfold rtN; rw [h]; rfl
theorem low_top (n : Nat) : n &&& (18446744073709551615 - 9223372036854775808) = rg n := by
 show n &&& (2 ^ 63 - 1) = n % 2 ^ 63
 exact Nat.and_two_pow_sub_one_eq_mod n 63
end SN
end Go.Proofs.YtpdfcojcmhadnaaGreat
