/- Plain facts on nums that the laws of this stage ask: places in the order, keys, sums, the other sign. No program is named. -/
import Derived.Test.YtmhgjijpilhcdaaNm
namespace Go.Proofs.Ytmhgjijpilhcdaa
open Ieee

theorem chN_iff (n : Nat) : chN n = 0 ↔ rtN n = n := by unfold chN; split <;> simp_all
theorem chN_two (n : Nat) : chN n = 0 ∨ chN n = 70 := by unfold chN; split <;> simp
theorem rtN_rtN (n : Nat) : rtN (rtN n) = rtN n := by
  have nn : nanB 9221120237041090561 = true := by decide
  cases h : nanB n
  · rw [rtN_of n h, rtN_of n h]
  · rw [rtN_nan n h, rtN_nan _ nn]
theorem num_cases (n : Nat) (h : rtN n = n) : n = 9221120237041090561 ∨ nanB n = false := by
  cases hn : nanB n
  · exact .inr rfl
  · rw [rtN_nan n hn] at h; exact .inl h.symm
theorem rkN_rtN (n : Nat) : rkN (rtN n) = rkN n := by unfold rkN; rw [rtN_rtN]
theorem unN_rkN (n : Nat) (h : n < 18446744073709551616) : unN (rkN n) = rtN n := by
  have := rtN_lt n h
  unfold unN rkN
  generalize rtN n = m at *
  by_cases h1 : m < 9223372036854775808
  · rw [if_pos h1, if_neg (by omega)]; omega
  · rw [if_neg h1, if_pos (by omega)]; omega
theorem be8_len (x : Nat) : (be8 x).length = 8 := by simp [be8]
theorem be8_eq (x : Nat) : be8 x = [UInt8.ofNat (x >>> 56), UInt8.ofNat (x >>> 48), UInt8.ofNat (x >>> 40), UInt8.ofNat (x >>> 32), UInt8.ofNat (x >>> 24), UInt8.ofNat (x >>> 16), UInt8.ofNat (x >>> 8), UInt8.ofNat (x >>> 0)] := rfl
theorem byte_up (x k : Nat) : x >>> (k + 8) * 256 + (UInt8.ofNat (x >>> k)).toNat = x >>> k := by
  rw [Nat.shiftRight_add, Nat.shiftRight_eq_div_pow _ 8]
  have : (UInt8.ofNat (x >>> k)).toNat = x >>> k % 256 := by simp
  rw [this]
  omega
theorem beV_be8 (x : Nat) (h : x < 18446744073709551616) : beV (be8 x) = x := by
  rw [be8_eq]
  show ((((((((0 * 256 + (UInt8.ofNat (x >>> 56)).toNat) * 256 + (UInt8.ofNat (x >>> 48)).toNat) * 256 + (UInt8.ofNat (x >>> 40)).toNat) * 256 + (UInt8.ofNat (x >>> 32)).toNat) * 256 + (UInt8.ofNat (x >>> 24)).toNat) * 256 + (UInt8.ofNat (x >>> 16)).toNat) * 256 + (UInt8.ofNat (x >>> 8)).toNat) * 256 + (UInt8.ofNat (x >>> 0)).toNat) = x
  have h0 : x >>> (56 + 8) = 0 := by
    rw [Nat.shiftRight_eq_div_pow]
    exact Nat.div_eq_of_lt h
  have e := byte_up x 56
  rw [h0] at e
  rw [e, byte_up x 48, byte_up x 40, byte_up x 32, byte_up x 24, byte_up x 16, byte_up x 8, byte_up x 0]
  rfl
theorem fk_key (n : Nat) (h : n < 18446744073709551616) : fkN (be8 (rkN n)) = rtN n ∧ fkE (be8 (rkN n)) = 0 := by
  have e : unN (beV (be8 (rkN n))) = rtN n := by rw [beV_be8 _ (rkN_lt n h), unN_rkN n h]
  have hc : chN (rtN n) = 0 := (chN_iff _).2 (rtN_rtN n)
  unfold fkN fkE
  rw [e, be8_len, hc]
  simp

theorem rk_inj (a b : Nat) (ha : a < 18446744073709551616) (hb : b < 18446744073709551616) (na : rtN a = a) (nb : rtN b = b) : rkN a = rkN b ↔ a = b := by
  refine ⟨fun h => ?_, fun h => by rw [h]⟩
  have := congrArg unN h
  rw [unN_rkN a ha, unN_rkN b hb, na, nb] at this
  exact this
theorem cmU_lt (x y : Nat) : cmpU x y < 0 ↔ x < y := by unfold cmpU; split <;> (try split) <;> omega
theorem cmU_eq (x y : Nat) : cmpU x y = 0 ↔ x = y := by unfold cmpU; split <;> (try split) <;> omega
theorem cmU_neg (x y : Nat) : cmpU x y = -cmpU y x := by unfold cmpU; split <;> split <;> (try split) <;> omega
theorem byteLt (l m : List UInt8) (b c : UInt8) : Op.bytesLess (b :: l) (c :: m) = (decide (b < c) || (b == c && Op.bytesLess l m)) := rfl
theorem key (u v x y p : Nat) (h1 : x < p) (h2 : y < p) : (decide (u < v) || (decide (u = v) && decide (x < y))) = decide (u * p + x < v * p + y) := by
  rcases Nat.lt_trichotomy u v with h3 | h3 | h3
  · have : u * p + p ≤ v * p := by rw [← Nat.succ_mul]; exact Nat.mul_le_mul_right _ h3
    have e : u * p + x < v * p + y := by omega
    simp [h3, e]
  · subst h3; simp
  · have : v * p + p ≤ u * p := by rw [← Nat.succ_mul]; exact Nat.mul_le_mul_right _ h3
    have e1 : ¬ u < v := by omega
    have e2 : ¬ u = v := by omega
    have e : ¬ u * p + x < v * p + y := by omega
    simp [e1, e2, e]
theorem less_be (l : List UInt8) : ∀ m : List UInt8, l.length = m.length → Op.bytesLess l m = decide (beV l < beV m) := by
  have fold : ∀ (l : List UInt8) (r : Nat), l.foldl (fun r b => r * 256 + b.toNat) r = r * 256 ^ l.length + beV l := by
    intro l
    induction l with
    | nil => intro r; simp [beV]
    | cons b l ih =>
      intro r
      unfold beV
      rw [List.foldl_cons, List.foldl_cons, ih, ih (0 * 256 + b.toNat), List.length_cons, Nat.pow_succ, Nat.add_mul, Nat.zero_mul, Nat.zero_add, Nat.mul_assoc, Nat.mul_comm 256, Nat.add_assoc]
  have cons : ∀ (b : UInt8) (l : List UInt8), beV (b :: l) = b.toNat * 256 ^ l.length + beV l := by
    intro b l
    show List.foldl (fun r b => r * 256 + b.toNat) (0 * 256 + b.toNat) l = _
    rw [fold l (0 * 256 + b.toNat), Nat.zero_mul, Nat.zero_add]
  induction l with
  | nil => intro m h; cases m with
    | nil => rfl
    | cons => simp at h
  | cons b l ih =>
    intro m h
    cases m with
    | nil => simp at h
    | cons c m =>
      have hl : l.length = m.length := by simpa using h
      rw [byteLt, ih m hl, cons, cons, ← hl]
      have h1 := beV_lt l
      have h2 := beV_lt m
      rw [← hl] at h2
      generalize 256 ^ l.length = p at *
      generalize beV l = x at *
      generalize beV m = y at *
      have hbc : (b < c) ↔ b.toNat < c.toNat := UInt8.lt_iff_toNat_lt
      have hbe : (b = c) ↔ b.toNat = c.toNat := UInt8.toNat_inj.symm
      have hbe' : (b == c) = decide (b.toNat = c.toNat) := by
        rw [Bool.eq_iff_iff]; simp [hbe]
      have e1 : decide (b < c) = decide (b.toNat < c.toNat) := decide_eq_decide.2 hbc
      rw [hbe', e1]
      exact key _ _ _ _ _ h1 h2
theorem less_key (x y : Nat) (hx : x < 18446744073709551616) (hy : y < 18446744073709551616) : Op.bytesLess (be8 x) (be8 y) = decide (x < y) := by
  rw [less_be _ _ (by rw [be8_len, be8_len]), beV_be8 x hx, beV_be8 y hy]

theorem add_comm7 (x y : Nat) : double.add x y = double.add y x := by
  rcases Nat.lt_trichotomy (rg x) 9218868437227405312 with h1 | h1 | h1
  · rcases Nat.lt_trichotomy (rg y) 9218868437227405312 with h2 | h2 | h2
    · rw [add_fin x y h1 h2, add_fin y x h2 h1, Int.add_comm, Bool.and_comm]
    · rw [add_inf_r x y h1 h2, add_inf_l y x h2 h1]
    · rw [add_nan x y (.inr h2), add_nan y x (.inl h2)]
  · rcases Nat.lt_trichotomy (rg y) 9218868437227405312 with h2 | h2 | h2
    · rw [add_inf_l x y h1 h2, add_inf_r y x h2 h1]
    · rw [add_inf x y h1 h2, add_inf y x h2 h1]
      by_cases h : negB x = negB y
      · rw [if_pos h, if_pos h.symm, h]
      · rw [if_neg h, if_neg (fun e => h e.symm)]
    · rw [add_nan x y (.inr h2), add_nan y x (.inl h2)]
  · rw [add_nan x y (.inl h1), add_nan y x (.inr h1)]
theorem adN_comm (x y : Nat) : adN x y = adN y x := by unfold adN; rw [add_comm7]
theorem rtN_adN (x y : Nat) : rtN (adN x y) = adN x y := by
  unfold adN
  split
  · exact rtN_rtN _
  · decide
theorem rtN_wd (s : Bool) (r : Nat) (h : r ≤ 9218868437227405312) : rtN (wd s r) = wd s r := rtN_of _ (nanB_wd s r h)
theorem adN_fin (x y : Nat) (hx : rg x < 9218868437227405312) (hy : rg y < 9218868437227405312) :
    adN x y = wd (if zv x + zv y = 0 then negB x && negB y else decide (zv x + zv y < 0)) (rnd (zv x + zv y).natAbs) := by
  unfold adN
  rw [add_fin x y hx hy]
  exact rtN_wd _ _ (rnd_le _)
theorem ngN_wd (a : Nat) (h : a < 18446744073709551616) (na : nanB a = false) : ngN a = wd (!negB a) (rg a) := by
  unfold ngN
  rw [xor_wd a h]
  exact rtN_wd _ _ ((nan_le a).1 na)
theorem ngN_nan : ngN 9221120237041090561 = 9221120237041090561 := by decide +kernel
theorem ngN_lt (a : Nat) (h : a < 18446744073709551616) : ngN a < 18446744073709551616 := by
  unfold ngN
  refine rtN_lt _ ?_
  rw [xor_top a h]
  split <;> omega
theorem nanB_ngN (a : Nat) (h : a < 18446744073709551616) (na : nanB a = false) : nanB (ngN a) = false := by
  rw [ngN_wd a h na]
  exact nanB_wd _ _ ((nan_le a).1 na)
theorem ngN_ngN (a : Nat) (h : a < 18446744073709551616) (na : rtN a = a) : ngN (ngN a) = a := by
  rcases num_cases a na with rfl | hn
  · rw [ngN_nan, ngN_nan]
  · have hr := (nan_le a).1 hn
    rw [ngN_wd (ngN a) (ngN_lt a h) (nanB_ngN a h hn), ngN_wd a h hn, negB_wd _ _ (by omega), rg_wd _ _ (by omega), Bool.not_not]
    exact (wd_of a h).symm
theorem adN_lt (x y : Nat) : adN x y < 18446744073709551616 := by
  unfold adN
  split
  · rename_i r h
    refine rtN_lt _ ?_
    rcases Nat.lt_trichotomy (rg x) 9218868437227405312 with h1 | h1 | h1
    · rcases Nat.lt_trichotomy (rg y) 9218868437227405312 with h2 | h2 | h2
      · rw [add_fin x y h1 h2] at h; cases h; exact wd_lt _ _ (Nat.lt_of_le_of_lt (rnd_le _) (by decide))
      · rw [add_inf_r x y h1 h2] at h; cases h; exact wd_lt _ _ (by decide)
      · rw [add_nan x y (.inr h2)] at h; cases h
    · rcases Nat.lt_trichotomy (rg y) 9218868437227405312 with h2 | h2 | h2
      · rw [add_inf_l x y h1 h2] at h; cases h; exact wd_lt _ _ (by decide)
      · rw [add_inf x y h1 h2] at h
        split at h <;> cases h
        exact wd_lt _ _ (by decide)
      · rw [add_nan x y (.inr h2)] at h; cases h
    · rw [add_nan x y (.inl h1)] at h; cases h
  · decide
/-- a + 0 is a, but -0 + 0 is 0. -/
theorem adN_zero (a : Nat) (h : a < 18446744073709551616) (na : rtN a = a) : adN a 0 = if a = 9223372036854775808 then 0 else a := by
  rcases num_cases a na with rfl | hn
  · decide +kernel
  · have hr := (nan_le a).1 hn
    have hw := wd_of a h
    by_cases hi : rg a = 9218868437227405312
    · have e : adN a 0 = wd (negB a) 9218868437227405312 := by
        unfold adN
        rw [add_inf_l a 0 hi (by decide)]
        exact rtN_wd _ _ (Nat.le_refl _)
      rw [e, ← hi, ← hw, if_neg]
      intro e2
      rw [e2] at hi
      exact absurd hi (by decide)
    · have hf : rg a < 9218868437227405312 := by omega
      rw [adN_fin a 0 hf (by decide)]
      have z0 : zv 0 = 0 := by decide
      have n0 : negB 0 = false := by decide
      rw [z0, n0, Bool.and_false, Int.add_zero]
      have hz : (zv a).natAbs = vl (rg a) := by unfold zv sg; split <;> simp
      rw [hz, rnd_vl _ hr]
      have hv := vl_pos (rg a)
      have hsg : zv a = sg (negB a) (vl (rg a)) := rfl
      by_cases h0 : rg a = 0
      · rw [h0, vl_zero] at hsg
        have : zv a = 0 := by rw [hsg]; cases negB a <;> rfl
        rw [if_pos this, h0]
        rw [h0] at hw
        cases hb : negB a <;> rw [hb] at hw
        · have e0 : a = 0 := hw
          rw [e0]; rfl
        · have e0 : a = 9223372036854775808 := hw
          rw [e0]; rfl
      · have hp := hv (by omega)
        generalize vl (rg a) = v at *
        have e1 : ¬ zv a = 0 := by rw [hsg]; cases negB a <;> simp [sg] <;> omega
        have e2 : decide (zv a < 0) = negB a := by rw [hsg]; cases negB a <;> simp [sg] <;> omega
        rw [if_neg e1, e2, ← hw, if_neg]
        intro e3
        rw [e3] at h0
        exact h0 (by decide)

end Go.Proofs.Ytmhgjijpilhcdaa
