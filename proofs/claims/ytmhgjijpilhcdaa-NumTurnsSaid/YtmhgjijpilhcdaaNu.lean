/- Plain facts on nums: whole numbers, what is beyond numbers, the other sign. No program is named. -/
import Derived.Test.YtmhgjijpilhcdaaNp
namespace Go.Proofs.Ytmhgjijpilhcdaa
open Ieee

theorem coN_zv (a b : Nat) (na : nanB a = false) (nb : nanB b = false) : coN a b = decide (zv b ≤ zv a) := by
  unfold coN
  rw [order_zv a b ((nan_le a).1 na) ((nan_le b).1 nb), cmp_int]
  by_cases h : zv a < zv b
  · rw [if_pos h]
    have : ¬ zv b ≤ zv a := by omega
    simp [this]
  · rw [if_neg h]
    have h2 : zv b ≤ zv a := by omega
    by_cases h3 : zv a = zv b
    · rw [if_pos h3]; simp [h2]
    · rw [if_neg h3]; simp [h2]

theorem KK_pos : 0 < KK := by
  have h := pow_pos2 1074
  rw [← KK_eq] at h
  exact h
/- whole numbers -/
theorem whole (m : Nat) (h : m ≤ 4503599627370496) : ∃ r, r < 9218868437227405312 ∧ vl r = m * KK := by
  by_cases h0 : m = 0
  · subst h0; exact ⟨0, by decide, vl_zero.trans (Nat.zero_mul _).symm⟩
  · have hl1 := Nat.log2_self_le h0
    have hl2 : m < 2 ^ (m.log2 + 1) := Nat.lt_log2_self
    have hl : m.log2 ≤ 52 := by
      have : m.log2 < 53 := (Nat.log2_lt h0).2 (by omega)
      omega
    generalize m.log2 = l at *
    have e1 : 2 ^ l * 2 ^ (52 - l) = 4503599627370496 := by
      rw [← Nat.pow_add]
      have : l + (52 - l) = 52 := by omega
      rw [this]
    have e2 : 2 ^ (l + 1) * 2 ^ (52 - l) = 9007199254740992 := by
      rw [← Nat.pow_add]
      have : l + 1 + (52 - l) = 53 := by omega
      rw [this]
    have p := pow_pos2 (52 - l)
    have M1 : 4503599627370496 ≤ m * 2 ^ (52 - l) := by rw [← e1]; exact Nat.mul_le_mul_right _ hl1
    have M2 : m * 2 ^ (52 - l) < 9007199254740992 := by rw [← e2]; exact Nat.mul_lt_mul_of_pos_right hl2 p
    have hE : m * 2 ^ (52 - l) * 2 ^ (1022 + l) = m * KK := by
      rw [Nat.mul_assoc, ← Nat.pow_add]
      have : 1074 = 52 - l + (1022 + l) := by omega
      have e : KK = 2 ^ (52 - l + (1022 + l)) := by rw [← this, KK_eq]
      rw [e]
    generalize m * 2 ^ (52 - l) = M at *
    have q1 : ((1022 + l + 1) * 4503599627370496 + (M - 4503599627370496)) / 4503599627370496 = 1022 + l + 1 := by
      rw [Nat.add_comm, Nat.add_mul_div_right _ _ (by decide), Nat.div_eq_of_lt (by omega), Nat.zero_add]
    have q2 : ((1022 + l + 1) * 4503599627370496 + (M - 4503599627370496)) % 4503599627370496 = M - 4503599627370496 := by
      rw [Nat.add_comm, Nat.add_mul_mod_self_right, Nat.mod_eq_of_lt (by omega)]
    have q0 : ¬ (1022 + l + 1) * 4503599627370496 + (M - 4503599627370496) < 4503599627370496 := by omega
    refine ⟨(1022 + l + 1) * 4503599627370496 + (M - 4503599627370496), by omega, ?_⟩
    unfold vl mg ex
    have e : 4503599627370496 + (M - 4503599627370496) = M := by omega
    rw [if_neg q0, if_neg q0, q1, q2, Nat.add_sub_cancel, ← hE, e]
theorem ofN_form (i : Int) (h : i.natAbs ≤ 4503599627370496) : ∃ r, r < 9218868437227405312 ∧ vl r = i.natAbs * KK ∧ ofN i = wd (decide (i < 0)) r := by
  obtain ⟨r, h1, h2⟩ := whole i.natAbs h
  refine ⟨r, h1, h2, ?_⟩
  unfold ofN
  rw [← h2, rnd_vl r (Nat.le_of_lt h1)]
theorem zv_ofN (i : Int) (h : i.natAbs ≤ 4503599627370496) : zv (ofN i) = i * (KK : Int) ∧ rg (ofN i) < 9218868437227405312 := by
  obtain ⟨r, h1, h2, h3⟩ := ofN_form i h
  rw [h3, rg_wd _ _ (by omega), zv_wd _ _ (by omega), h2]
  refine ⟨?_, h1⟩
  rw [sg_mul]
  have e : sg (decide (i < 0)) i.natAbs = i := by
    unfold sg
    by_cases hi : i < 0
    · simp [hi]; omega
    · simp [hi]; omega
  rw [e]
theorem K_pos : (0 : Int) < (KK : Int) := by
  have := KK_pos
  omega
theorem mulK_lt (a b : Int) : a * (KK : Int) < b * (KK : Int) ↔ a < b :=
  ⟨fun h => Int.lt_of_mul_lt_mul_right h (Int.le_of_lt K_pos), fun h => Int.mul_lt_mul_of_pos_right h K_pos⟩
theorem mulK_zero (a : Int) : a * (KK : Int) = 0 ↔ a = 0 := by
  have := K_pos
  rw [Int.mul_eq_zero]
  omega
theorem add_whole (a b : Int) (ha : a.natAbs ≤ 2251799813685248) (hb : b.natAbs ≤ 2251799813685248) : adN (ofN a) (ofN b) = ofN (a + b) := by
  obtain ⟨za, ra⟩ := zv_ofN a (by omega)
  obtain ⟨zb, rb⟩ := zv_ofN b (by omega)
  rw [adN_fin _ _ ra rb, za, zb, ← Int.add_mul]
  obtain ⟨r, h1, h2, h3⟩ := ofN_form a (by omega)
  obtain ⟨s, g1, g2, g3⟩ := ofN_form b (by omega)
  have n1 : negB (ofN a) = decide (a < 0) := by rw [h3, negB_wd _ _ (by omega)]
  have n2 : negB (ofN b) = decide (b < 0) := by rw [g3, negB_wd _ _ (by omega)]
  rw [n1, n2]
  have e : ofN (a + b) = wd (decide (a + b < 0)) (rnd ((a + b).natAbs * KK)) := rfl
  rw [e]
  have e1 : ((a + b) * (KK : Int)).natAbs = (a + b).natAbs * KK := by rw [Int.natAbs_mul, Int.natAbs_natCast]
  rw [e1]
  congr 1
  by_cases h0 : a + b = 0
  · rw [if_pos ((mulK_zero _).2 h0)]
    by_cases p1 : a < 0 <;> by_cases p2 : b < 0 <;> simp [p1, p2, h0] <;> omega
  · rw [if_neg (fun h => h0 ((mulK_zero _).1 h))]
    have := mulK_lt (a + b) 0
    rw [Int.zero_mul] at this
    rw [decide_eq_decide]
    exact this
theorem cov_whole (a b : Int) (ha : a.natAbs ≤ 2251799813685248) (hb : b.natAbs ≤ 2251799813685248) : coN (ofN a) (ofN b) = decide (b ≤ a) := by
  obtain ⟨za, ra⟩ := zv_ofN a (by omega)
  obtain ⟨zb, rb⟩ := zv_ofN b (by omega)
  rw [coN_zv _ _ (nanB_ofN a) (nanB_ofN b), za, zb, decide_eq_decide]
  have := mulK_lt a b
  generalize a * (KK : Int) = x at *
  generalize b * (KK : Int) = y at *
  omega
theorem rk_wd (s : Bool) (r : Nat) (h : r ≤ 9218868437227405312) : rkN (wd s r) = if s = true then 9223372036854775807 - r else 9223372036854775808 + r := by
  rw [rg_le _ (wd_lt _ _ (by omega)) (nanB_wd s r h), negB_wd _ _ (by omega), rg_wd _ _ (by omega)]
theorem cmp_whole (a b : Int) (ha : a.natAbs ≤ 2251799813685248) (hb : b.natAbs ≤ 2251799813685248) : cmN (ofN a) (ofN b) = if a < b then -1 else if b < a then 1 else 0 := by
  obtain ⟨r, h1, h2, h3⟩ := ofN_form a (by omega)
  obtain ⟨s, g1, g2, g3⟩ := ofN_form b (by omega)
  have v1 := vl_iff r s
  have v2 := vl_iff s r
  have p := KK_pos
  have m1 : a.natAbs * KK < b.natAbs * KK ↔ a.natAbs < b.natAbs := Nat.mul_lt_mul_right p
  have m2 : b.natAbs * KK < a.natAbs * KK ↔ b.natAbs < a.natAbs := Nat.mul_lt_mul_right p
  rw [h2, g2] at v1 v2
  rw [m1] at v1
  rw [m2] at v2
  clear m1 m2 p h2 g2
  rw [h3, g3]
  unfold cmN
  rw [rk_wd _ _ (by omega), rk_wd _ _ (by omega)]
  unfold cmpU
  by_cases p1 : a < 0 <;> by_cases p2 : b < 0 <;> simp only [p1, p2, decide_true, decide_false, if_true, Bool.false_eq_true, if_false]
  · by_cases q : a < b
    · rw [if_pos q, if_pos (by omega)]
    · rw [if_neg q, if_neg (by omega)]
      by_cases q2 : b < a
      · rw [if_pos q2, if_pos (by omega)]
      · rw [if_neg q2, if_neg (by omega)]
  · rw [if_pos (show a < b by omega), if_pos (by omega)]
  · rw [if_neg (show ¬ a < b by omega), if_pos (show b < a by omega), if_neg (by omega), if_pos (by omega)]
  · by_cases q : a < b
    · rw [if_pos q, if_pos (by omega)]
    · rw [if_neg q, if_neg (by omega)]
      by_cases q2 : b < a
      · rw [if_pos q2, if_pos (by omega)]
      · rw [if_neg q2, if_neg (by omega)]
theorem neg_whole (a : Int) (h : a ≠ 0) : ngN (ofN a) = ofN (-a) := by
  rw [ngN_wd _ (ofN_lt a) (nanB_ofN a)]
  unfold ofN
  have hr := rnd_le (a.natAbs * KK)
  rw [negB_wd _ _ (by omega), rg_wd _ _ (by omega), Int.natAbs_neg]
  congr 1
  by_cases h1 : a < 0
  · rw [decide_eq_true h1, decide_eq_false (show ¬ (-a < 0) by omega)]; rfl
  · rw [decide_eq_false h1, decide_eq_true (show -a < 0 by omega)]; rfl

/- the other sign -/
theorem ng_form (a : Nat) (h : a < 18446744073709551616) (na : nanB a = false) : ngN a = wd (!negB a) (rg a) ∧ negB (ngN a) = !negB a ∧ rg (ngN a) = rg a := by
  have hr := (nan_le a).1 na
  have e := ngN_wd a h na
  rw [e, negB_wd _ _ (by omega), rg_wd _ _ (by omega)]
  exact ⟨rfl, rfl, rfl⟩
theorem zv_ng (a : Nat) (h : a < 18446744073709551616) (na : nanB a = false) : zv (ngN a) = -zv a := by
  obtain ⟨_, h1, h2⟩ := ng_form a h na
  unfold zv
  rw [h1, h2]
  cases negB a <;> simp [sg]
theorem rk_ng (a : Nat) (h : a < 18446744073709551616) (na : nanB a = false) : rkN (ngN a) = 18446744073709551615 - rkN a := by
  obtain ⟨h0, _, _⟩ := ng_form a h na
  have hr := (nan_le a).1 na
  rw [h0, rk_wd _ _ hr, rg_le a h na]
  cases negB a <;> simp <;> omega
theorem cm_ng (a b : Nat) (ha : a < 18446744073709551616) (hb : b < 18446744073709551616) (na : nanB a = false) (nb : nanB b = false) : cmN (ngN a) (ngN b) = -cmN a b := by
  have h1 := rkN_lt a ha
  have h2 := rkN_lt b hb
  unfold cmN
  rw [rk_ng a ha na, rk_ng b hb nb]
  unfold cmpU
  split <;> split <;> (try split) <;> omega
theorem co_ng (a b : Nat) (ha : a < 18446744073709551616) (hb : b < 18446744073709551616) (na : nanB a = false) (nb : nanB b = false) : coN (ngN a) (ngN b) = coN b a := by
  rw [coN_zv _ _ (nanB_ngN a ha na) (nanB_ngN b hb nb), coN_zv _ _ nb na, zv_ng a ha na, zv_ng b hb nb, decide_eq_decide]
  omega
theorem ngN_of_wd (s : Bool) (r : Nat) (h : r ≤ 9218868437227405312) : ngN (wd s r) = wd (!s) r := by
  rw [ngN_wd _ (wd_lt _ _ (by omega)) (nanB_wd s r h), negB_wd _ _ (by omega), rg_wd _ _ (by omega)]
/-- The sum of the others with the other signs is the sum with the other sign, but where it is 0. -/
theorem ad_ng (a b : Nat) (ha : a < 18446744073709551616) (hb : b < 18446744073709551616) (na : nanB a = false) (nb : nanB b = false) :
    adN (ngN a) (ngN b) = ngN (adN a b) ∨ adN a b = 0 ∧ adN (ngN a) (ngN b) = 0 := by
  obtain ⟨_, sa, ra⟩ := ng_form a ha na
  obtain ⟨_, sb, rb⟩ := ng_form b hb nb
  have la := (nan_le a).1 na
  have lb := (nan_le b).1 nb
  by_cases ia : rg a = 9218868437227405312
  · by_cases ib : rg b = 9218868437227405312
    · refine .inl ?_
      unfold adN
      rw [add_inf _ _ (by rw [ra]; exact ia) (by rw [rb]; exact ib), add_inf a b ia ib, sa, sb]
      cases negB a <;> cases negB b <;> decide +kernel
    · refine .inl ?_
      unfold adN
      rw [add_inf_l _ _ (by rw [ra]; exact ia) (by rw [rb]; omega), add_inf_l a b ia (by omega), sa]
      cases negB a <;> decide +kernel
  · by_cases ib : rg b = 9218868437227405312
    · refine .inl ?_
      unfold adN
      rw [add_inf_r _ _ (by rw [ra]; omega) (by rw [rb]; exact ib), add_inf_r a b (by omega) ib, sb]
      cases negB b <;> decide +kernel
    · rw [adN_fin _ _ (by rw [ra]; omega) (by rw [rb]; omega), adN_fin a b (by omega) (by omega), zv_ng a ha na, zv_ng b hb nb, sa, sb]
      have e : -zv a + -zv b = -(zv a + zv b) := by omega
      rw [e, Int.natAbs_neg, ngN_of_wd _ _ (rnd_le _)]
      generalize zv a + zv b = t
      by_cases h0 : t = 0
      · subst h0
        simp only [Int.neg_zero, if_true]
        have r0 : rnd (Int.natAbs 0) = 0 := rfl
        rw [r0]
        cases negB a <;> cases negB b <;> decide
      · refine .inl ?_
        rw [if_neg (by omega), if_neg h0]
        congr 1
        by_cases h1 : t < 0
        · rw [decide_eq_true h1, decide_eq_false (show ¬ (-t < 0) by omega)]; rfl
        · rw [decide_eq_false h1, decide_eq_true (show -t < 0 by omega)]; rfl

/- what is beyond numbers -/
theorem ad_nan (a : Nat) : adN a 9221120237041090561 = 9221120237041090561 := by
  unfold adN
  rw [add_nan a _ (.inr (by decide))]
theorem co_nan_l (a : Nat) : coN 9221120237041090561 a = false := coN_nan _ _ (.inl (by decide))
theorem co_nan_r (a : Nat) : coN a 9221120237041090561 = false := coN_nan _ _ (.inr (by decide))
theorem rk_num (a : Nat) (h : a < 18446744073709551616) (na : rtN a = a) : 4503599627370495 ≤ rkN a ∧ rkN a ≤ 18444492273895866369 := by
  rcases num_cases a na with rfl | hn
  · decide +kernel
  · have hr := (nan_le a).1 hn
    rw [rg_le a h hn]
    split <;> omega
theorem cm_nan (a : Nat) (h : a < 18446744073709551616) (na : rtN a = a) : ¬ 0 < cmN a 9221120237041090561 := by
  have h1 := (rk_num a h na).2
  have e : rkN 9221120237041090561 = 18444492273895866369 := by decide +kernel
  unfold cmN
  rw [e]
  unfold cmpU
  split
  · decide
  · split <;> omega
theorem cm_minus (a : Nat) (h : a < 18446744073709551616) (na : rtN a = a) : ¬ 0 < cmN 18442240474082181120 a := by
  have h1 := (rk_num a h na).1
  have e : rkN 18442240474082181120 = 4503599627370495 := by decide +kernel
  unfold cmN
  rw [e]
  unfold cmpU
  split
  · decide
  · split <;> omega
theorem fin_of (a : Nat) (h : a < 18446744073709551616) (hn : nanB a = false) (h1 : a ≠ 9218868437227405312) (h2 : a ≠ 18442240474082181120) : rg a < 9218868437227405312 := by
  have hr := (nan_le a).1 hn
  have hw := wd_of a h
  by_cases e : rg a = 9218868437227405312
  · rw [e] at hw
    cases hb : negB a <;> rw [hb] at hw
    · exact absurd hw h1
    · exact absurd hw h2
  · omega
theorem ad_inf (a : Nat) (h : rg a < 9218868437227405312) : adN a 9218868437227405312 = 9218868437227405312 ∧ adN a 18442240474082181120 = 18442240474082181120 := by
  unfold adN
  rw [add_inf_r a _ h (by decide), add_inf_r a _ h (by decide)]
  decide +kernel
theorem co_inf (a : Nat) (ha : a < 18446744073709551616) (hn : nanB a = false) : coN 9218868437227405312 a = true ∧ coN a 18442240474082181120 = true := by
  have hr := (nan_le a).1 hn
  rw [coN_eq _ a (by decide) ha (by decide) hn, coN_eq a _ ha (by decide) hn (by decide)]
  have e1 : rkN 9218868437227405312 = 18442240474082181120 := by decide +kernel
  have e2 : rkN 18442240474082181120 = 4503599627370495 := by decide +kernel
  rw [e1, e2, rg_le a ha hn]
  simp only [decide_eq_true_eq]
  constructor <;> right <;> split <;> omega
theorem ad_self (a : Nat) (ha : a < 18446744073709551616) (hn : nanB a = false) (h : rg a < 9218868437227405312) : adN a (ngN a) = 0 := by
  obtain ⟨_, s, r⟩ := ng_form a ha hn
  rw [adN_fin a _ h (by rw [r]; exact h), zv_ng a ha hn, s]
  have e : zv a + -zv a = 0 := by omega
  rw [e, if_pos rfl]
  cases negB a <;> rfl

end Go.Proofs.Ytmhgjijpilhcdaa
