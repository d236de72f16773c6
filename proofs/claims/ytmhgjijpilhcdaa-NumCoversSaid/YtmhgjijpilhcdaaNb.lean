/- Plain facts about sums of float64s and whole numbers as float64s: rounding in units of the least number. No program is named. -/
import Derived.Test.YtmhgjijpilhcdaaNa
namespace Go.Proofs.Ytmhgjijpilhcdaa
open Ieee

/-- v / 2^L, to the nearest, and between two to the even one. -/
def cutE (v L : Nat) : Nat := v / 2 ^ L + (if 2 ^ L < 2 * (v % 2 ^ L) ∨ 2 ^ L = 2 * (v % 2 ^ L) ∧ v / 2 ^ L % 2 = 1 then 1 else 0)
/-- The rung nearest to v units of the least number. -/
def rnd (v : Nat) : Nat := if v = 0 then 0 else min ((v.log2 - 52) * 4503599627370496 + cutE v (v.log2 - 52)) 9218868437227405312

theorem cut_eq (neg : Bool) (n drop : Nat) (h : drop ≤ n.log2) : Toward.even.cut neg n drop = cutE n drop := by
  unfold Toward.cut cutE
  have e : min drop (n.log2 + 2) = drop := by omega
  simp only [e, Nat.shiftLeft_eq, Nat.one_mul]
  congr 1
  generalize n % 2 ^ drop = r
  generalize n / 2 ^ drop = q
  generalize 2 ^ drop = g
  by_cases h1 : g < 2 * r
  · simp [h1]
  · by_cases h2 : g = 2 * r <;> by_cases h3 : q % 2 = 1 <;> simp [h1, h2, h3]
theorem cutE_scale (x k d : Nat) : cutE (x * 2 ^ k) (d + k) = cutE x d := by
  unfold cutE
  have hk := pow_pos2 k
  rw [Nat.pow_add, Nat.mul_div_mul_right _ _ hk, Nat.mul_mod_mul_right]
  generalize x % 2 ^ d = r
  generalize x / 2 ^ d = q
  generalize 2 ^ d = g at *
  generalize 2 ^ k = p at *
  have e : 2 * (r * p) = 2 * r * p := by rw [Nat.mul_assoc]
  rw [e]
  have e1 : g * p < 2 * r * p ↔ g < 2 * r := Nat.mul_lt_mul_right hk
  have e2 : g * p = 2 * r * p ↔ g = 2 * r := ⟨fun h => Nat.eq_of_mul_eq_mul_right hk h, fun h => by rw [h]⟩
  simp only [e1, e2]
theorem cutE_zero (x : Nat) : cutE x 0 = x := by
  unfold cutE
  simp [Nat.mod_one]
theorem log2_scale (m e : Nat) (h : m ≠ 0) : (m * 2 ^ e).log2 = m.log2 + e := by
  induction e with
  | zero => simp
  | succ e ih =>
    have : m * 2 ^ (e + 1) = 2 * (m * 2 ^ e) := by rw [Nat.pow_succ, ← Nat.mul_assoc, Nat.mul_comm]
    rw [this, Nat.log2_two_mul (by have := pow_pos2 e; exact Nat.mul_ne_zero h (by omega)), ih]
    omega
theorem rnd_le (v : Nat) : rnd v ≤ 9218868437227405312 := by
  unfold rnd
  split
  · omega
  · exact Nat.min_le_right _ _

theorem nearest_eq (neg : Bool) (m e : Nat) : double.nearest neg m (-1074 + (e : Int)) = wd neg (rnd (m * 2 ^ e)) := by
  unfold Format.nearest
  by_cases h0 : m = 0
  · subst h0
    simp [rnd, d_word]
  · rw [if_neg h0]
    have hv : m * 2 ^ e ≠ 0 := Nat.mul_ne_zero h0 (by have := pow_pos2 e; omega)
    simp only [d_word, d_bin, d_inf, d_least, d_fb]
    unfold rnd
    rw [if_neg hv, log2_scale m e h0]
    refine congrArg (wd neg) (congrArg (fun a => min a 9218868437227405312) ?_)
    have a1 : (max (-1074 + (e : Int) + (m.log2 : Int) - (52 : Nat)) (-1074) - -1074).toNat = m.log2 + e - 52 := by omega
    have a2 : (-1074 + (e : Int) - max (-1074 + (e : Int) + (m.log2 : Int) - (52 : Nat)) (-1074)).toNat = e - (m.log2 + e - 52) := by omega
    have a3 : (max (-1074 + (e : Int) + (m.log2 : Int) - (52 : Nat)) (-1074) - (-1074 + (e : Int))).toNat = (m.log2 + e - 52) - e := by omega
    rw [a1, a2, a3]
    congr 1
    generalize hL : m.log2 + e - 52 = L
    have hx : m <<< (e - L) = m * 2 ^ (e - L) := Nat.shiftLeft_eq _ _
    rw [hx, cut_eq _ _ _ (by rw [log2_scale _ _ h0]; omega)]
    have := cutE_scale (m * 2 ^ (e - L)) (min e L) (L - e)
    rw [← this, Nat.mul_assoc, ← Nat.pow_add]
    congr 2 <;> first | omega | (congr 1; omega)

theorem rnd_vl (r : Nat) (h : r ≤ 9218868437227405312) : rnd (vl r) = r := by
  by_cases h0 : r = 0
  · subst h0; rw [vl_zero]; rfl
  have hp := vl_pos r (by omega)
  unfold rnd
  rw [if_neg (by omega)]
  by_cases h1 : r < 4503599627370496
  · have e : vl r = r := by simp [vl, mg, ex, if_pos h1]
    rw [e]
    have hl : r.log2 < 52 := (Nat.log2_lt h0).2 h1
    have : r.log2 - 52 = 0 := by omega
    rw [this, cutE_zero]
    omega
  · have em : mg r = 4503599627370496 + r % 4503599627370496 := by simp only [mg, if_neg h1]
    have ee : ex r = r / 4503599627370496 - 1 := by simp only [ex, if_neg h1]
    have hm : mg r ≠ 0 := by omega
    have hl : (mg r).log2 = 52 := (Nat.log2_eq_iff hm).2 ⟨by show 4503599627370496 ≤ _; omega, by show _ < 9007199254740992; omega⟩
    have e : (vl r).log2 - 52 = ex r := by unfold vl; rw [log2_scale _ _ hm, hl]; omega
    rw [e]
    have c := cutE_scale (mg r) (ex r) 0
    rw [Nat.zero_add] at c
    unfold vl
    rw [c, cutE_zero, em, ee]
    have hd := Nat.div_add_mod r 4503599627370496
    have hq : 1 ≤ r / 4503599627370496 := (Nat.one_le_div_iff (by decide)).2 (by omega)
    generalize r / 4503599627370496 = q at *
    generalize r % 4503599627370496 = f at *
    obtain ⟨p, rfl⟩ : ∃ p, q = p + 1 := ⟨q - 1, by omega⟩
    have e2 : (p + 1 - 1) * 4503599627370496 + (4503599627370496 + f) = r := by
      rw [← hd, Nat.add_sub_cancel, Nat.mul_comm 4503599627370496, Nat.succ_mul, Nat.add_assoc]
    rw [e2]
    exact Nat.min_eq_left h

theorem negB_wd (s : Bool) (r : Nat) (h : r < 9223372036854775808) : negB (wd s r) = s := by
  unfold negB wd
  cases s
  · simp only [Bool.false_eq_true, if_false]
    have : r / 9223372036854775808 = 0 := by omega
    rw [this]; rfl
  · simp only [if_true]
    have : (9223372036854775808 + r) / 9223372036854775808 = 1 := by omega
    rw [this]; rfl
theorem rg_wd (s : Bool) (r : Nat) (h : r < 9223372036854775808) : rg (wd s r) = r := by
  unfold rg wd
  cases s <;> simp <;> omega
theorem wd_of (n : Nat) (h : n < 18446744073709551616) : n = wd (negB n) (rg n) := by
  unfold wd negB rg
  by_cases h1 : n < 9223372036854775808
  · have : n / 9223372036854775808 = 0 := by omega
    rw [this]
    simp
    omega
  · have : n / 9223372036854775808 = 1 := by omega
    rw [this]
    simp
    omega
theorem zv_wd (s : Bool) (r : Nat) (h : r < 9223372036854775808) : zv (wd s r) = sg s (vl r) := by
  unfold zv
  rw [negB_wd s r h, rg_wd s r h]
theorem nanB_wd (s : Bool) (r : Nat) (h : r ≤ 9218868437227405312) : nanB (wd s r) = false := by
  unfold nanB
  rw [rg_wd s r (by omega)]
  simp
  omega

/-- The sum of two numbers. -/
theorem add_fin (x y : Nat) (hx : rg x < 9218868437227405312) (hy : rg y < 9218868437227405312) :
    double.add x y = some (wd (if zv x + zv y = 0 then negB x && negB y else decide (zv x + zv y < 0)) (rnd (zv x + zv y).natAbs)) := by
  unfold Format.add
  rw [read_fin x hx, read_fin y hy]
  simp only [Datum.sum, Option.map_some]
  congr 1
  have b0 : min (-1074 + (ex (rg x) : Int)) (-1074 + (ex (rg y) : Int)) = -1074 + ((min (ex (rg x)) (ex (rg y)) : Nat) : Int) := by omega
  rw [b0]
  have b1 : (-1074 + (ex (rg x) : Int) - (-1074 + ((min (ex (rg x)) (ex (rg y)) : Nat) : Int))).toNat = ex (rg x) - min (ex (rg x)) (ex (rg y)) := by omega
  have b2 : (-1074 + (ex (rg y) : Int) - (-1074 + ((min (ex (rg x)) (ex (rg y)) : Nat) : Int))).toNat = ex (rg y) - min (ex (rg x)) (ex (rg y)) := by omega
  rw [b1, b2]
  have s1 := signed_at (negB x) (mg (rg x)) (ex (rg x)) (min (ex (rg x)) (ex (rg y))) (Nat.min_le_left _ _)
  have s2 := signed_at (negB y) (mg (rg y)) (ex (rg y)) (min (ex (rg x)) (ex (rg y))) (Nat.min_le_right _ _)
  have hz : zv x + zv y = (signed (negB x) (mg (rg x)) (ex (rg x) - min (ex (rg x)) (ex (rg y))) + signed (negB y) (mg (rg y)) (ex (rg y) - min (ex (rg x)) (ex (rg y)))) * ((2 ^ min (ex (rg x)) (ex (rg y)) : Nat) : Int) := by
    rw [Int.add_mul, s1, s2]
    rfl
  rw [hz]
  generalize signed (negB x) (mg (rg x)) (ex (rg x) - min (ex (rg x)) (ex (rg y))) + signed (negB y) (mg (rg y)) (ex (rg y) - min (ex (rg x)) (ex (rg y))) = t
  have hp := pow_pos2 (min (ex (rg x)) (ex (rg y)))
  have e1 : t * ((2 ^ min (ex (rg x)) (ex (rg y)) : Nat) : Int) = 0 ↔ t = 0 := by
    rw [Int.mul_eq_zero]
    omega
  have e2 : t * ((2 ^ min (ex (rg x)) (ex (rg y)) : Nat) : Int) < 0 ↔ t < 0 := by
    refine ⟨fun h => ?_, fun h => ?_⟩
    · rcases Int.lt_or_le t 0 with h1 | h1
      · exact h1
      · have := Int.mul_nonneg h1 (show (0 : Int) ≤ ((2 ^ min (ex (rg x)) (ex (rg y)) : Nat) : Int) by omega)
        omega
    · exact Int.mul_neg_of_neg_of_pos h (by omega)
  have e3 : (t * ((2 ^ min (ex (rg x)) (ex (rg y)) : Nat) : Int)).natAbs = t.natAbs * 2 ^ min (ex (rg x)) (ex (rg y)) := by
    rw [Int.natAbs_mul, Int.natAbs_natCast]
  rw [e3]
  simp only [e1, e2]
  show double.nearest _ _ _ = _
  rw [nearest_eq]
theorem add_nan (x y : Nat) (h : 9218868437227405312 < rg x ∨ 9218868437227405312 < rg y) : double.add x y = none := by
  unfold Format.add
  rcases h with h | h
  · rw [read_nan x h]; rfl
  · rw [read_nan y h]
    cases double.read x <;> rfl
theorem add_inf_l (x y : Nat) (hx : rg x = 9218868437227405312) (hy : rg y < 9218868437227405312) : double.add x y = some (wd (negB x) 9218868437227405312) := by
  unfold Format.add
  rw [read_inf x hx, read_fin y hy]
  rfl
theorem add_inf_r (x y : Nat) (hx : rg x < 9218868437227405312) (hy : rg y = 9218868437227405312) : double.add x y = some (wd (negB y) 9218868437227405312) := by
  unfold Format.add
  rw [read_fin x hx, read_inf y hy]
  rfl
theorem add_inf (x y : Nat) (hx : rg x = 9218868437227405312) (hy : rg y = 9218868437227405312) : double.add x y = if negB x = negB y then some (wd (negB x) 9218868437227405312) else none := by
  unfold Format.add
  rw [read_inf x hx, read_inf y hy]
  simp only [Datum.sum]
  split <;> rfl

end Go.Proofs.Ytmhgjijpilhcdaa
