/- What package num's calls answer, as plain functions of bits. No program is named. -/
import Ieee.Arith
namespace Go.Proofs.YtjlkgbejldcklaaGreat
namespace SN
open Ieee
def negB (n : Nat) : Bool := n / 9223372036854775808 % 2 == 1
def rg (n : Nat) : Nat := n % 9223372036854775808
def nanB (n : Nat) : Bool := decide (9218868437227405312 < rg n)
def mg (r : Nat) : Nat := if r < 4503599627370496 then r else 4503599627370496 + r % 4503599627370496
def ex (r : Nat) : Nat := if r < 4503599627370496 then 0 else r / 4503599627370496 - 1
def vl (r : Nat) : Nat := mg r * 2 ^ ex r
def sg (s : Bool) (v : Nat) : Int := if s then -(v : Int) else (v : Int)
def zv (n : Nat) : Int := sg (negB n) (vl (rg n))
def wd (s : Bool) (r : Nat) : Nat := if s then 9223372036854775808 + r else r
theorem d_bin : double.binade = 4503599627370496 := rfl
theorem d_inf : double.infRung = 9218868437227405312 := rfl
theorem d_least : double.leastPlace = -1074 := rfl
theorem d_word (s : Bool) (r : Nat) : double.word s r = wd s r := rfl
theorem d_fb : double.fractionBits = 52 := rfl
theorem read_eq (n : Nat) : double.read n = if rg n < 4503599627370496 then .number (negB n) (rg n) (-1074) else if rg n < 9218868437227405312 then .number (negB n) (4503599627370496 + rg n % 4503599627370496) (-1074 + ((rg n / 4503599627370496 - 1 : Nat) : Int)) else if rg n = 9218868437227405312 then .infinity (negB n) else .nan (negB n) (rg n - 9218868437227405312) := rfl
theorem read_fin (n : Nat) (h : rg n < 9218868437227405312) : double.read n = .number (negB n) (mg (rg n)) (-1074 + (ex (rg n) : Int)) := by
  rw [read_eq]
  by_cases h1 : rg n < 4503599627370496
  · rw [if_pos h1]
    simp only [mg, ex, if_pos h1]
    rfl
  · rw [if_neg h1, if_pos h]
    simp only [mg, ex, if_neg h1]
theorem read_inf (n : Nat) (h : rg n = 9218868437227405312) : double.read n = .infinity (negB n) := by
  rw [read_eq, if_neg (by omega), if_neg (by omega), if_pos h]
theorem read_nan (n : Nat) (h : 9218868437227405312 < rg n) : double.read n = .nan (negB n) (rg n - 9218868437227405312) := by
  rw [read_eq, if_neg (by omega), if_neg (by omega), if_neg (by omega)]
theorem sg_mul (s : Bool) (a b : Nat) : sg s (a * b) = sg s a * (b : Int) := by
  cases s <;> simp [sg, Int.natCast_mul, Int.neg_mul]
theorem signed_sg (s : Bool) (m k : Nat) : signed s m k = sg s (m * 2 ^ k) := by
  unfold signed sg
  rw [Nat.shiftLeft_eq]
theorem pow_pos2 (k : Nat) : 0 < (2 ^ k : Nat) := Nat.two_pow_pos k
theorem signed_at (s : Bool) (m i mn : Nat) (h : mn ≤ i) : signed s m (i - mn) * ((2 ^ mn : Nat) : Int) = sg s (m * 2 ^ i) := by
  rw [signed_sg, ← sg_mul]
  congr 1
  rw [Nat.mul_assoc, ← Nat.pow_add]
  congr 2
  omega
theorem vl_step (r : Nat) : vl r < vl (r + 1) := by
  unfold vl
  by_cases h1 : r + 1 < 4503599627370496
  · simp only [mg, ex, if_pos h1, if_pos (show r < 4503599627370496 by omega)]
    omega
  · by_cases h2 : r < 4503599627370496
    · obtain rfl : r = 4503599627370495 := by omega
      decide
    · have e1 : mg r = 4503599627370496 + r % 4503599627370496 := by simp only [mg, if_neg h2]
      have e2 : mg (r + 1) = 4503599627370496 + (r + 1) % 4503599627370496 := by simp only [mg, if_neg h1]
      have e3 : ex r = r / 4503599627370496 - 1 := by simp only [ex, if_neg h2]
      have e4 : ex (r + 1) = (r + 1) / 4503599627370496 - 1 := by simp only [ex, if_neg h1]
      rw [e1, e2, e3, e4]
      have hq := pow_pos2 (r / 4503599627370496 - 1)
      by_cases h3 : r % 4503599627370496 + 1 < 4503599627370496
      · have : (r + 1) / 4503599627370496 = r / 4503599627370496 := by omega
        rw [this]
        have : (r + 1) % 4503599627370496 = r % 4503599627370496 + 1 := by omega
        rw [this]
        exact Nat.mul_lt_mul_of_pos_right (by omega) hq
      · have : (r + 1) / 4503599627370496 - 1 = (r / 4503599627370496 - 1) + 1 := by omega
        rw [this, Nat.pow_succ]
        have : (r + 1) % 4503599627370496 = 0 := by omega
        rw [this]
        have : r % 4503599627370496 = 4503599627370495 := by omega
        rw [this]
        generalize 2 ^ (r / 4503599627370496 - 1) = q at *
        omega
theorem vl_lt (a b : Nat) (h : a < b) : vl a < vl b := by
  obtain ⟨d, rfl⟩ : ∃ d, b = a + 1 + d := ⟨b - a - 1, by omega⟩
  clear h
  induction d with
  | zero => exact vl_step a
  | succ d ih => exact Nat.lt_trans ih (vl_step _)
theorem vl_zero : vl 0 = 0 := by decide
theorem vl_pos (a : Nat) (h : 0 < a) : 0 < vl a := by have := vl_lt 0 a h; rw [vl_zero] at this; exact this
theorem cmp_int (a b : Int) : compare a b = if a < b then Ordering.lt else if a = b then .eq else .gt := rfl
theorem cmp_mul (a b : Int) (k : Nat) (h : 0 < k) : compare (a * (k : Int)) (b * (k : Int)) = compare a b := by
  have hk : (0 : Int) < (k : Int) := by omega
  rw [cmp_int, cmp_int]
  have e1 : (a * (k : Int) < b * (k : Int)) ↔ a < b := ⟨fun h => Int.lt_of_mul_lt_mul_right h (by omega), fun h => Int.mul_lt_mul_of_pos_right h hk⟩
  have e2 : (a * (k : Int) = b * (k : Int)) ↔ a = b := ⟨fun h => Int.eq_of_mul_eq_mul_right (by omega) h, fun h => by rw [h]⟩
  by_cases h1 : a < b
  · rw [if_pos h1, if_pos (e1.2 h1)]
  · rw [if_neg h1, if_neg (fun h => h1 (e1.1 h))]
    by_cases h2 : a = b
    · rw [if_pos h2, if_pos (e2.2 h2)]
    · rw [if_neg h2, if_neg (fun h => h2 (e2.1 h))]
theorem order_zv (x y : Nat) (hx : rg x ≤ 9218868437227405312) (hy : rg y ≤ 9218868437227405312) : double.order x y = some (compare (zv x) (zv y)) := by
  unfold Format.order
  by_cases h1 : rg x < 9218868437227405312
  · rw [read_fin x h1]
    by_cases h2 : rg y < 9218868437227405312
    · rw [read_fin y h2]
      simp only [Datum.order]
      congr 1
      rw [← cmp_mul _ _ _ (pow_pos2 (min (ex (rg x)) (ex (rg y))))]
      have b1 : (-1074 + (ex (rg x) : Int) - min (-1074 + (ex (rg x) : Int)) (-1074 + (ex (rg y) : Int))).toNat = ex (rg x) - min (ex (rg x)) (ex (rg y)) := by omega
      have b2 : (-1074 + (ex (rg y) : Int) - min (-1074 + (ex (rg x) : Int)) (-1074 + (ex (rg y) : Int))).toNat = ex (rg y) - min (ex (rg x)) (ex (rg y)) := by omega
      rw [b1, b2, signed_at _ _ _ _ (Nat.min_le_left _ _), signed_at _ _ _ _ (Nat.min_le_right _ _)]
      rfl
    · have h2 : rg y = 9218868437227405312 := by omega
      rw [read_inf y h2]
      simp only [Datum.order]
      have hv := vl_lt _ _ (show rg x < rg y by omega)
      rw [cmp_int]
      unfold zv
      generalize vl (rg x) = p at *
      generalize vl (rg y) = q at *
      cases negB x <;> cases negB y <;> simp only [sg, Bool.false_eq_true, if_true, if_false] <;> first | (rw [if_pos (by omega)]; done) | (rw [if_neg (by omega), if_neg (by omega)]; done)
  · have h1 : rg x = 9218868437227405312 := by omega
    rw [read_inf x h1]
    by_cases h2 : rg y < 9218868437227405312
    · rw [read_fin y h2]
      simp only [Datum.order]
      have hv := vl_lt _ _ (show rg y < rg x by omega)
      rw [cmp_int]
      unfold zv
      generalize vl (rg x) = p at *
      generalize vl (rg y) = q at *
      cases negB x <;> cases negB y <;> simp only [sg, Bool.false_eq_true, if_true, if_false] <;> first | (rw [if_pos (by omega)]; done) | (rw [if_neg (by omega), if_neg (by omega)]; done)
    · have h2 : rg y = 9218868437227405312 := by omega
      rw [read_inf y h2]
      simp only [Datum.order]
      unfold zv
      rw [h1, h2]
      cases negB x <;> cases negB y <;> decide +kernel
theorem order_nan (x y : Nat) (h : 9218868437227405312 < rg x ∨ 9218868437227405312 < rg y) : double.order x y = none := by
  unfold Format.order
  rcases h with h | h
  · rw [read_nan x h]; rfl
  · rw [read_nan y h]
    cases double.read x <;> rfl
theorem isnan_any (n : Nat) : (double.order n n != some .eq) = nanB n := by
  unfold nanB
  by_cases h : 9218868437227405312 < rg n
  · rw [order_nan n n (.inl h)]; simp [h]
  · rw [order_zv n n (by omega) (by omega), cmp_int]
    simp [h]
end SN
end Go.Proofs.YtjlkgbejldcklaaGreat

namespace Go.Proofs.YtjlkgbejldcklaaGreat
namespace SN
open Ieee
def cutE (v L : Nat) : Nat := v / 2 ^ L + (if 2 ^ L < 2 * (v % 2 ^ L) ∨ 2 ^ L = 2 * (v % 2 ^ L) ∧ v / 2 ^ L % 2 = 1 then 1 else 0)
def rnd (v : Nat) : Nat := if v = 0 then 0 else min ((v.log2 - 52) * 4503599627370496 + cutE v (v.log2 - 52)) 9218868437227405312
theorem cut_eq (neg : Bool) (n drop : Nat) (h : drop ≤ n.log2) : Toward.even.cut neg n drop = cutE n drop := by
  unfold Toward.cut cutE
  have e : min drop (n.log2 + 2) = drop := by omega
  simp only [e, Nat.shiftLeft_eq, Nat.one_mul]
  congr 1
  generalize n % 2 ^ drop = r
  generalize n / 2 ^ drop = q
  generalize 2 ^ drop = g
  by_cases h1 : g < 2 * r
  · simp [h1]
  · by_cases h2 : g = 2 * r <;> by_cases h3 : q % 2 = 1 <;> simp [h1, h2, h3]
theorem cutE_scale (x k d : Nat) : cutE (x * 2 ^ k) (d + k) = cutE x d := by
  unfold cutE
  have hk := pow_pos2 k
  rw [Nat.pow_add, Nat.mul_div_mul_right _ _ hk, Nat.mul_mod_mul_right]
  generalize x % 2 ^ d = r
  generalize x / 2 ^ d = q
  generalize 2 ^ d = g at *
  generalize 2 ^ k = p at *
  have e : 2 * (r * p) = 2 * r * p := by rw [Nat.mul_assoc]
  rw [e]
  have e1 : g * p < 2 * r * p ↔ g < 2 * r := Nat.mul_lt_mul_right hk
  have e2 : g * p = 2 * r * p ↔ g = 2 * r := ⟨fun h => Nat.eq_of_mul_eq_mul_right hk h, fun h => by rw [h]⟩
  simp only [e1, e2]
theorem cutE_zero (x : Nat) : cutE x 0 = x := by
  unfold cutE
  simp [Nat.mod_one]
theorem log2_scale (m e : Nat) (h : m ≠ 0) : (m * 2 ^ e).log2 = m.log2 + e := by
  induction e with
  | zero => simp
  | succ e ih =>
    have : m * 2 ^ (e + 1) = 2 * (m * 2 ^ e) := by rw [Nat.pow_succ, ← Nat.mul_assoc, Nat.mul_comm]
    rw [this, Nat.log2_two_mul (by have := pow_pos2 e; exact Nat.mul_ne_zero h (by omega)), ih]
    omega
theorem rnd_le (v : Nat) : rnd v ≤ 9218868437227405312 := by
  unfold rnd
  split
  · omega
  · exact Nat.min_le_right _ _
theorem nearest_eq (neg : Bool) (m e : Nat) : double.nearest neg m (-1074 + (e : Int)) = wd neg (rnd (m * 2 ^ e)) := by
  unfold Format.nearest
  by_cases h0 : m = 0
  · subst h0
    simp [rnd, d_word]
  · rw [if_neg h0]
    have hv : m * 2 ^ e ≠ 0 := Nat.mul_ne_zero h0 (by have := pow_pos2 e; omega)
    simp only [d_word, d_bin, d_inf, d_least, d_fb]
    unfold rnd
    rw [if_neg hv, log2_scale m e h0]
    refine congrArg (wd neg) (congrArg (fun a => min a 9218868437227405312) ?_)
    have a1 : (max (-1074 + (e : Int) + (m.log2 : Int) - (52 : Nat)) (-1074) - -1074).toNat = m.log2 + e - 52 := by omega
    have a2 : (-1074 + (e : Int) - max (-1074 + (e : Int) + (m.log2 : Int) - (52 : Nat)) (-1074)).toNat = e - (m.log2 + e - 52) := by omega
    have a3 : (max (-1074 + (e : Int) + (m.log2 : Int) - (52 : Nat)) (-1074) - (-1074 + (e : Int))).toNat = (m.log2 + e - 52) - e := by omega
    rw [a1, a2, a3]
    congr 1
    generalize hL : m.log2 + e - 52 = L
    have hx : m <<< (e - L) = m * 2 ^ (e - L) := Nat.shiftLeft_eq _ _
    rw [hx, cut_eq _ _ _ (by rw [log2_scale _ _ h0]; omega)]
    have := cutE_scale (m * 2 ^ (e - L)) (min e L) (L - e)
    rw [← this, Nat.mul_assoc, ← Nat.pow_add]
    congr 2 <;> first | omega | (congr 1; omega)
theorem rnd_vl (r : Nat) (h : r ≤ 9218868437227405312) : rnd (vl r) = r := by
  by_cases h0 : r = 0
  · subst h0; rw [vl_zero]; rfl
  have hp := vl_pos r (by omega)
  unfold rnd
  rw [if_neg (by omega)]
  by_cases h1 : r < 4503599627370496
  · have e : vl r = r := by simp [vl, mg, ex, if_pos h1]
    rw [e]
    have hl : r.log2 < 52 := (Nat.log2_lt h0).2 h1
    have : r.log2 - 52 = 0 := by omega
    rw [this, cutE_zero]
    omega
  · have em : mg r = 4503599627370496 + r % 4503599627370496 := by simp only [mg, if_neg h1]
    have ee : ex r = r / 4503599627370496 - 1 := by simp only [ex, if_neg h1]
    have hm : mg r ≠ 0 := by omega
    have hl : (mg r).log2 = 52 := (Nat.log2_eq_iff hm).2 ⟨by show 4503599627370496 ≤ _; omega, by show _ < 9007199254740992; omega⟩
    have e : (vl r).log2 - 52 = ex r := by unfold vl; rw [log2_scale _ _ hm, hl]; omega
    rw [e]
    have c := cutE_scale (mg r) (ex r) 0
    rw [Nat.zero_add] at c
    unfold vl
    rw [c, cutE_zero, em, ee]
    have hd := Nat.div_add_mod r 4503599627370496
    have hq : 1 ≤ r / 4503599627370496 := (Nat.one_le_div_iff (by decide)).2 (by omega)
    generalize r / 4503599627370496 = q at *
    generalize r % 4503599627370496 = f at *
    obtain ⟨p, rfl⟩ : ∃ p, q = p + 1 := ⟨q - 1, by omega⟩
    have e2 : (p + 1 - 1) * 4503599627370496 + (4503599627370496 + f) = r := by
      rw [← hd, Nat.add_sub_cancel, Nat.mul_comm 4503599627370496, Nat.succ_mul, Nat.add_assoc]
    rw [e2]
    exact Nat.min_eq_left h
theorem negB_wd (s : Bool) (r : Nat) (h : r < 9223372036854775808) : negB (wd s r) = s := by
  unfold negB wd
  cases s
  · simp only [Bool.false_eq_true, if_false]
    have : r / 9223372036854775808 = 0 := by omega
    rw [this]; rfl
  · simp only [if_true]
    have : (9223372036854775808 + r) / 9223372036854775808 = 1 := by omega
    rw [this]; rfl
theorem rg_wd (s : Bool) (r : Nat) (h : r < 9223372036854775808) : rg (wd s r) = r := by
  unfold rg wd
  cases s <;> simp <;> omega
theorem zv_wd (s : Bool) (r : Nat) (h : r < 9223372036854775808) : zv (wd s r) = sg s (vl r) := by
  unfold zv
  rw [negB_wd s r h, rg_wd s r h]
theorem nanB_wd (s : Bool) (r : Nat) (h : r ≤ 9218868437227405312) : nanB (wd s r) = false := by
  unfold nanB
  rw [rg_wd s r (by omega)]
  simp
  omega
theorem add_fin (x y : Nat) (hx : rg x < 9218868437227405312) (hy : rg y < 9218868437227405312) :
    double.add x y = some (wd (if zv x + zv y = 0 then negB x && negB y else decide (zv x + zv y < 0)) (rnd (zv x + zv y).natAbs)) := by
  unfold Format.add
  rw [read_fin x hx, read_fin y hy]
  simp only [Datum.sum, Option.map_some]
  congr 1
  have b0 : min (-1074 + (ex (rg x) : Int)) (-1074 + (ex (rg y) : Int)) = -1074 + ((min (ex (rg x)) (ex (rg y)) : Nat) : Int) := by omega
  rw [b0]
  have b1 : (-1074 + (ex (rg x) : Int) - (-1074 + ((min (ex (rg x)) (ex (rg y)) : Nat) : Int))).toNat = ex (rg x) - min (ex (rg x)) (ex (rg y)) := by omega
  have b2 : (-1074 + (ex (rg y) : Int) - (-1074 + ((min (ex (rg x)) (ex (rg y)) : Nat) : Int))).toNat = ex (rg y) - min (ex (rg x)) (ex (rg y)) := by omega
  rw [b1, b2]
  have s1 := signed_at (negB x) (mg (rg x)) (ex (rg x)) (min (ex (rg x)) (ex (rg y))) (Nat.min_le_left _ _)
  have s2 := signed_at (negB y) (mg (rg y)) (ex (rg y)) (min (ex (rg x)) (ex (rg y))) (Nat.min_le_right _ _)
  have hz : zv x + zv y = (signed (negB x) (mg (rg x)) (ex (rg x) - min (ex (rg x)) (ex (rg y))) + signed (negB y) (mg (rg y)) (ex (rg y) - min (ex (rg x)) (ex (rg y)))) * ((2 ^ min (ex (rg x)) (ex (rg y)) : Nat) : Int) := by
    rw [Int.add_mul, s1, s2]
    rfl
  rw [hz]
  generalize signed (negB x) (mg (rg x)) (ex (rg x) - min (ex (rg x)) (ex (rg y))) + signed (negB y) (mg (rg y)) (ex (rg y) - min (ex (rg x)) (ex (rg y))) = t
  have hp := pow_pos2 (min (ex (rg x)) (ex (rg y)))
  have e1 : t * ((2 ^ min (ex (rg x)) (ex (rg y)) : Nat) : Int) = 0 ↔ t = 0 := by
    rw [Int.mul_eq_zero]
    omega
  have e2 : t * ((2 ^ min (ex (rg x)) (ex (rg y)) : Nat) : Int) < 0 ↔ t < 0 := by
    refine ⟨fun h => ?_, fun h => ?_⟩
    · rcases Int.lt_or_le t 0 with h1 | h1
      · exact h1
      · have := Int.mul_nonneg h1 (show (0 : Int) ≤ ((2 ^ min (ex (rg x)) (ex (rg y)) : Nat) : Int) by omega)
        omega
    · exact Int.mul_neg_of_neg_of_pos h (by omega)
  have e3 : (t * ((2 ^ min (ex (rg x)) (ex (rg y)) : Nat) : Int)).natAbs = t.natAbs * 2 ^ min (ex (rg x)) (ex (rg y)) := by
    rw [Int.natAbs_mul, Int.natAbs_natCast]
  rw [e3]
  simp only [e1, e2]
  show double.nearest _ _ _ = _
  rw [nearest_eq]
end SN
end Go.Proofs.YtjlkgbejldcklaaGreat

namespace Go.Proofs.YtjlkgbejldcklaaGreat
namespace SN
open Ieee
def rtN (n : Nat) : Nat := if nanB n = true then 9221120237041090561 else n
def adN (x y : Nat) : Nat := match double.add x y with
  | some r => rtN r
  | none => 9221120237041090561
def ngN (n : Nat) : Nat := rtN (n ^^^ 9223372036854775808)
def coN (x y : Nat) : Bool := double.order x y == some .gt || double.order x y == some .eq
def KK : Nat := 2 ^ 1074
def ofN (i : Int) : Nat := wd (decide (i < 0)) (rnd (i.natAbs * KK))
theorem KK_eq : KK = 2 ^ 1074 := by delta KK; exact Eq.refl _
theorem nearest_of (i : Int) : double.nearest (decide (i < 0)) i.natAbs 0 = ofN i := by
  have h := nearest_eq (decide (i < 0)) i.natAbs 1074
  rw [← KK_eq] at h
  exact h
theorem nanB_ofN (i : Int) : nanB (ofN i) = false := nanB_wd _ _ (rnd_le _)
theorem rtN_of (n : Nat) (h : nanB n = false) : rtN n = n := by unfold rtN; rw [h]; rfl
theorem rtN_nan (n : Nat) (h : nanB n = true) : rtN n = 9221120237041090561 := by unfold rtN; rw [h]; rfl
theorem wd_lt (s : Bool) (r : Nat) (h : r < 9223372036854775808) : wd s r < 18446744073709551616 := by
  unfold wd
  split <;> omega
theorem ofN_lt (i : Int) : ofN i < 18446744073709551616 := wd_lt _ _ (by exact Nat.lt_of_le_of_lt (rnd_le (i.natAbs * KK)) (by decide))
theorem xor_top (n : Nat) (h : n < 18446744073709551616) : n ^^^ 9223372036854775808 = if n < 9223372036854775808 then n + 9223372036854775808 else n - 9223372036854775808 := by
  by_cases h1 : n < 9223372036854775808
  · rw [if_pos h1]
    have := Nat.two_pow_add_eq_or_of_lt (i := 63) (b := n) h1 1
    have hx : n ^^^ 2 ^ 63 = 2 ^ 63 + n := by
      rw [Nat.mul_one] at this
      rw [this]
      apply Nat.eq_of_testBit_eq
      intro i
      rw [Nat.testBit_xor, Nat.testBit_or, Nat.testBit_two_pow]
      by_cases hi : i = 63
      · subst hi; rw [Nat.testBit_lt_two_pow h1]; rfl
      · have : ¬ 63 = i := fun e => hi e.symm
        simp [this]
    show n ^^^ 2 ^ 63 = _
    rw [hx]
    omega
  · rw [if_neg h1]
    obtain ⟨m, rfl⟩ : ∃ m, n = 9223372036854775808 + m := ⟨n - 9223372036854775808, by omega⟩
    have hm : m < 2 ^ 63 := by show m < 9223372036854775808; omega
    have := Nat.two_pow_add_eq_or_of_lt (i := 63) (b := m) hm 1
    rw [Nat.mul_one] at this
    have e : 9223372036854775808 + m - 9223372036854775808 = m := by omega
    rw [e]
    show (2 ^ 63 + m) ^^^ 2 ^ 63 = _
    rw [this]
    apply Nat.eq_of_testBit_eq
    intro i
    rw [Nat.testBit_xor, Nat.testBit_or, Nat.testBit_two_pow]
    by_cases hi : i = 63
    · subst hi; rw [Nat.testBit_lt_two_pow hm]; rfl
    · have : ¬ 63 = i := fun e => hi e.symm
      simp [this]
theorem xor_wd (n : Nat) (h : n < 18446744073709551616) : n ^^^ 9223372036854775808 = wd (!negB n) (rg n) := by
  rw [xor_top n h]
  unfold wd negB rg
  by_cases h1 : n < 9223372036854775808
  · have e : n / 9223372036854775808 = 0 := by omega
    rw [if_pos h1, e]
    simp
    omega
  · have e : n / 9223372036854775808 = 1 := by omega
    rw [if_neg h1, e]
    simp
    omega
end SN
end Go.Proofs.YtjlkgbejldcklaaGreat
