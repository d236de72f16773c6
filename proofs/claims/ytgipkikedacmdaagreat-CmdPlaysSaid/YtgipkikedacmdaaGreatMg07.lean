/- What package num's calls answer, as plain functions of bits. No program is named. -/
import Ieee.Arith
set_option maxRecDepth 100000
set_option maxHeartbeats 16000000
namespace Go.Proofs.YtgipkikedacmdaaGreat
namespace SN
open Ieee
def negB (n : Nat) : Bool := n / 9223372036854775808 % 2 == 1
def rg (n : Nat) : Nat := n % 9223372036854775808
def nanB (n : Nat) : Bool := decide (9218868437227405312 < rg n)
def mg (r : Nat) : Nat := if r < 4503599627370496 then r else 4503599627370496 + r % 4503599627370496
def ex (r : Nat) : Nat := if r < 4503599627370496 then 0 else r / 4503599627370496 - 1
def vl (r : Nat) : Nat := mg r * 2 ^ ex r
def sg (s : Bool) (v : Nat) : Int := if s then -(v : Int) else (v : Int)
def zv (n : Nat) : Int := sg (negB n) (vl (rg n))
theorem read_eq (n : Nat) : double.read n = if rg n < 4503599627370496 then .number (negB n) (rg n) (-1074) else if rg n < 9218868437227405312 then .number (negB n) (4503599627370496 + rg n % 4503599627370496) (-1074 + ((rg n / 4503599627370496 - 1 : Nat) : Int)) else if rg n = 9218868437227405312 then .infinity (negB n) else .nan (negB n) (rg n - 9218868437227405312) := rfl
theorem read_fin (n : Nat) (h : rg n < 9218868437227405312) : double.read n = .number (negB n) (mg (rg n)) (-1074 + (ex (rg n) : Int)) := by
 rw [read_eq]
 by_cases h1 : rg n < 4503599627370496
 ·rw [if_pos h1]
  simp only [mg, ex, if_pos h1]
  rfl
 ·rw [if_neg h1, if_pos h]
  simp only [mg, ex, if_neg h1]
theorem read_inf (n : Nat) (h : rg n = 9218868437227405312) : double.read n = .infinity (negB n) := by
 rw [read_eq, if_neg (by omega), if_neg (by omega), if_pos h]
theorem read_nan (n : Nat) (h : 9218868437227405312 < rg n) : double.read n = .nan (negB n) (rg n - 9218868437227405312) := by
 rw [read_eq, if_neg (by omega), if_neg (by omega), if_neg (by omega)]
theorem sg_mul (s : Bool) (a b : Nat) : sg s (a * b) = sg s a * (b : Int) := by
 cases s <;> simp [sg, Int.natCast_mul, Int.neg_mul]
theorem signed_sg (s : Bool) (m k : Nat) : signed s m k = sg s (m * 2 ^ k) := by
 unfold signed sg
 rw [Nat.shiftLeft_eq]
theorem pow_pos2 (k : Nat) : 0 < (2 ^ k : Nat) := Nat.two_pow_pos k
theorem signed_at (s : Bool) (m i mn : Nat) (h : mn ≤ i) : signed s m (i - mn) * ((2 ^ mn : Nat) : Int) = sg s (m * 2 ^ i) := by
 rw [signed_sg, ← sg_mul]
 congr 1
 rw [Nat.mul_assoc, ← Nat.pow_add]
 congr 2
 omega
theorem vl_step (r : Nat) : vl r < vl (r + 1) := by
 unfold vl
 by_cases h1 : r + 1 < 4503599627370496
 ·simp only [mg, ex, if_pos h1, if_pos (show r < 4503599627370496 by omega)]
  omega
 ·by_cases h2 : r < 4503599627370496
  ·obtain rfl : r = 4503599627370495 := by omega
   decide
  ·have e1 : mg r = 4503599627370496 + r % 4503599627370496 := by simp only [mg, if_neg h2]
   have e2 : mg (r + 1) = 4503599627370496 + (r + 1) % 4503599627370496 := by simp only [mg, if_neg h1]
   have e3 : ex r = r / 4503599627370496 - 1 := by simp only [ex, if_neg h2]
   have e4 : ex (r + 1) = (r + 1) / 4503599627370496 - 1 := by simp only [ex, if_neg h1]
   rw [e1, e2, e3, e4]
   have hq := pow_pos2 (r / 4503599627370496 - 1)
   by_cases h3 : r % 4503599627370496 + 1 < 4503599627370496
   ·have : (r + 1) / 4503599627370496 = r / 4503599627370496 := by omega
    rw [this]
    have : (r + 1) % 4503599627370496 = r % 4503599627370496 + 1 := by omega
    rw [this]
    exact Nat.mul_lt_mul_of_pos_right (by omega) hq
   ·have : (r + 1) / 4503599627370496 - 1 = (r / 4503599627370496 - 1) + 1 := by omega
    rw [this, Nat.pow_succ]
    have : (r + 1) % 4503599627370496 = 0 := by omega
    rw [this]
    have : r % 4503599627370496 = 4503599627370495 := by omega
    rw [this]
    generalize 2 ^ (r / 4503599627370496 - 1) = q at *
    omega
theorem vl_lt (a b : Nat) (h : a < b) : vl a < vl b := by
 obtain ⟨d, rfl⟩ : ∃ d, b = a + 1 + d := ⟨b - a - 1, by omega⟩
 clear h
 induction d with
 | zero => exact vl_step a
 | succ d ih => exact Nat.lt_trans ih (vl_step _)
theorem vl_zero : vl 0 = 0 := by decide
theorem cmp_int (a b : Int) : compare a b = if a < b then Ordering.lt else if a = b then .eq else .gt := rfl
theorem cmp_mul (a b : Int) (k : Nat) (h : 0 < k) : compare (a * (k : Int)) (b * (k : Int)) = compare a b := by
 have hk : (0 : Int) < (k : Int) := by omega
 rw [cmp_int, cmp_int]
 have e1 : (a * (k : Int) < b * (k : Int)) ↔ a < b := ⟨fun h => Int.lt_of_mul_lt_mul_right h (by omega), fun h => Int.mul_lt_mul_of_pos_right h hk⟩
 have e2 : (a * (k : Int) = b * (k : Int)) ↔ a = b := ⟨fun h => Int.eq_of_mul_eq_mul_right (by omega) h, fun h => by rw [h]⟩
 by_cases h1 : a < b
 ·rw [if_pos h1, if_pos (e1.2 h1)]
 ·rw [if_neg h1, if_neg (fun h => h1 (e1.1 h))]
  by_cases h2 : a = b
  ·rw [if_pos h2, if_pos (e2.2 h2)]
  ·rw [if_neg h2, if_neg (fun h => h2 (e2.1 h))]
theorem order_zv (x y : Nat) (hx : rg x ≤ 9218868437227405312) (hy : rg y ≤ 9218868437227405312) : double.order x y = some (compare (zv x) (zv y)) := by
 unfold Format.order
 by_cases h1 : rg x < 9218868437227405312
 ·rw [read_fin x h1]
  by_cases h2 : rg y < 9218868437227405312
  ·rw [read_fin y h2]
   simp only [Datum.order]
   congr 1
   rw [← cmp_mul _ _ _ (pow_pos2 (min (ex (rg x)) (ex (rg y))))]
   have b1 : (-1074 + (ex (rg x) : Int) - min (-1074 + (ex (rg x) : Int)) (-1074 + (ex (rg y) : Int))).toNat = ex (rg x) - min (ex (rg x)) (ex (rg y)) := by omega
   have b2 : (-1074 + (ex (rg y) : Int) - min (-1074 + (ex (rg x) : Int)) (-1074 + (ex (rg y) : Int))).toNat = ex (rg y) - min (ex (rg x)) (ex (rg y)) := by omega
   rw [b1, b2, signed_at _ _ _ _ (Nat.min_le_left _ _), signed_at _ _ _ _ (Nat.min_le_right _ _)]
   rfl
  ·have h2 : rg y = 9218868437227405312 := by omega
   rw [read_inf y h2]
   simp only [Datum.order]
   have hv := vl_lt _ _ (show rg x < rg y by omega)
   rw [cmp_int]
   unfold zv
   generalize vl (rg x) = p at *
   generalize vl (rg y) = q at *
   cases negB x <;> cases negB y <;> simp only [sg, Bool.false_eq_true, if_true, if_false] <;> first | (rw [if_pos (by omega)]; done) | (rw [if_neg (by omega), if_neg (by omega)]; done)
 ·have h1 : rg x = 9218868437227405312 := by omega
  rw [read_inf x h1]
  by_cases h2 : rg y < 9218868437227405312
  ·rw [read_fin y h2]
   simp only [Datum.order]
   have hv := vl_lt _ _ (show rg y < rg x by omega)
   rw [cmp_int]
   unfold zv
   generalize vl (rg x) = p at *
   generalize vl (rg y) = q at *
   cases negB x <;> cases negB y <;> simp only [sg, Bool.false_eq_true, if_true, if_false] <;> first | (rw [if_pos (by omega)]; done) | (rw [if_neg (by omega), if_neg (by omega)]; done)
  ·have h2 : rg y = 9218868437227405312 := by omega
   rw [read_inf y h2]
   simp only [Datum.order]
   unfold zv
   rw [h1, h2]
   cases negB x <;> cases negB y <;> decide +kernel
theorem order_nan (x y : Nat) (h : 9218868437227405312 < rg x ∨ 9218868437227405312 < rg y) : double.order x y = none := by
 unfold Format.order
 rcases h with h | h
 ·rw [read_nan x h]; rfl
 ·rw [read_nan y h]
  cases double.read x <;> rfl
theorem isnan_any (n : Nat) : (double.order n n != some .eq) = nanB n := by
 unfold nanB
 by_cases h : 9218868437227405312 < rg n
 ·rw [order_nan n n (.inl h)]; simp [h]
 ·rw [order_zv n n (by omega) (by omega), cmp_int]
  simp [h]

def rtN (n : Nat) : Nat := if nanB n = true then 9221120237041090561 else n
def adN (x y : Nat) : Nat := match double.add x y with
 | some r => rtN r
 | none => 9221120237041090561
def ngN (n : Nat) : Nat := rtN (n ^^^ 9223372036854775808)
def coN (x y : Nat) : Bool := double.order x y == some .gt || double.order x y == some .eq
def KK : Nat := 2 ^ 1074
theorem KK_eq : KK = 2 ^ 1074 := by delta KK; exact Eq.refl _
theorem rtN_of (n : Nat) (h : nanB n = false) : rtN n = n := by unfold rtN; rw [h]; rfl
theorem rtN_nan (n : Nat) (h : nanB n = true) : rtN n = 9221120237041090561 := by unfold rtN; rw [h]; rfl
theorem low_top (n : Nat) : n &&& (18446744073709551615 - 9223372036854775808) = rg n := by
 show n &&& (2 ^ 63 - 1) = n % 2 ^ 63
 exact Nat.and_two_pow_sub_one_eq_mod n 63
end SN
end Go.Proofs.YtgipkikedacmdaaGreat
