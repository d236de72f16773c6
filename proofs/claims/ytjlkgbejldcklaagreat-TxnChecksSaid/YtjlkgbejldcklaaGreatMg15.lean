/- Plain facts on nums: whole numbers, what is beyond numbers, the other sign. No program is named. -/
import Derived.LoopTactic
import Derived.Outline
import Derived.IntWalk
import Derived.Laws.IdiomStrings
import Derived.Test.YtjlkgbejldcklaaGreatMg14
/- Contracts of Key: eight bytes of a num's place in the order. Conditions: the nums are unsigned numbers of 64 bits. -/
namespace Go.Proofs.YtjlkgbejldcklaaGreat
namespace SN
open Go.RowKit Go.Sort

/-- The eight bytes of a number, the highest first. -/
def be8 (x : Nat) : List UInt8 := (List.range 8).map fun k => UInt8.ofNat (x >>> (8 * (7 - k)))
/-- Block b has eight bytes. -/
def HasB (w : World) (b : Nat) (f : Nat → Int) : Prop := ∀ k, k < 8 → w.cell? ⟨b, k, none⟩ = some (.int .u8 (f k)) ∧ w.frozen? ⟨b, k, none⟩ = false
theorem HasB.set {w : World} {b : Nat} {f : Nat → Int} (h : HasB w b f) (k : Nat) (hk : k < 8) (v : Int) : HasB (w.setCell ⟨b, k, none⟩ (.int .u8 v)) b (fun i => if i = k then v else f i) := by
  intro i hi
  refine ⟨?_, by rw [World.frozen?_setCell]; exact (h i hi).2⟩
  by_cases e : i = k
  · subst e
    rw [World.cell?_setCell_same _ _ _ (h i hi).1]
    simp only [if_true]
  · rw [World.cell?_setCell_other _ _ _ _ (by intro hh; injection hh with h1 h2; exact e h2.symm), (h i hi).1]
    simp only [if_neg e]
theorem HasB.congr {w : World} {b : Nat} {f g : Nat → Int} (h : HasB w b f) (e : ∀ k, k < 8 → f k = g k) : HasB w b g := fun k hk => by rw [← e k hk]; exact h k hk
def byteAt (x k : Nat) : Int := ((x >>> (8 * (7 - k)) % 256 : Nat) : Int)
theorem HasB.step {w : World} {b x j : Nat} (hj : j < 8) (h : HasB w b (fun k => if 7 - k < j then byteAt x k else 0)) (v : Int) (hv : v = byteAt x (7 - j)) : HasB (w.setCell ⟨b, 7 - j, none⟩ (.int .u8 v)) b (fun k => if 7 - k < j + 1 then byteAt x k else 0) := by
  refine (h.set (7 - j) (by omega) v).congr fun k hk => ?_
  by_cases e : k = 7 - j
  · subst e
    rw [if_pos rfl, if_pos (by omega), hv]
  · rw [if_neg e]
    by_cases h1 : 7 - k < j
    · rw [if_pos h1, if_pos (by omega)]
    · rw [if_neg h1, if_neg (by omega)]
end SN
end Go.Proofs.YtjlkgbejldcklaaGreat

/- Contracts of the reference's Key. Conditions: the nums are unsigned numbers of 64 bits. -/
namespace Go.Proofs.YtjlkgbejldcklaaGreat
namespace SN
open Go.RowKit Go.Sort

theorem info_u8 : (Tryz.prog.info? 5).map (fun i => (i.zero, i.size, i.bytes)) = some (some (.int .u8 0), 1, 1) := by kernel_rfl
end SN
end Go.Proofs.YtjlkgbejldcklaaGreat

/- Contracts of FromKey, the program's and the reference's: the num whose Key a text is, if there is one. Conditions: none. -/
namespace Go.Proofs.YtjlkgbejldcklaaGreat
namespace SN
open Go.RowKit Go.Sort

/-- Bytes as a number, the highest first. -/
def beV (l : List UInt8) : Nat := l.foldl (fun r b => r * 256 + b.toNat) 0
theorem fold_lt (l : List UInt8) : ∀ r : Nat, l.foldl (fun r b => r * 256 + b.toNat) r < (r + 1) * 256 ^ l.length := by
  induction l with
  | nil => intro r; simp
  | cons b l ih =>
    intro r
    have h := ih (r * 256 + b.toNat)
    have hb := b.toNat_lt
    rw [List.foldl_cons, List.length_cons, Nat.pow_succ]
    refine Nat.lt_of_lt_of_le h ?_
    rw [Nat.mul_comm (256 ^ l.length) 256, ← Nat.mul_assoc]
    exact Nat.mul_le_mul_right _ (by omega)
theorem beV_lt (l : List UInt8) : beV l < 256 ^ l.length := by
  have := fold_lt l 0
  rw [Nat.zero_add, Nat.one_mul] at this
  exact this
/-- The bits whose place in the order that is. -/
def unN (r : Nat) : Nat := if r < 9223372036854775808 then 18446744073709551615 - r else r - 9223372036854775808
def fkN (l : List UInt8) : Nat := if l.length = 8 ∧ chN (unN (beV l)) = 0 then unN (beV l) else 0
def fkE (l : List UInt8) : Int := if l.length = 8 ∧ chN (unN (beV l)) = 0 then 0 else 70
theorem eight (s : ByteArray) (h : s.size = 8) : ∃ b0 b1 b2 b3 b4 b5 b6 b7, s = ⟨#[b0, b1, b2, b3, b4, b5, b6, b7]⟩ := by
  obtain ⟨⟨l⟩⟩ := s
  have hl : l.length = 8 := h
  match l, hl with
  | [b0, b1, b2, b3, b4, b5, b6, b7], _ => exact ⟨b0, b1, b2, b3, b4, b5, b6, b7, rfl⟩

end SN
end Go.Proofs.YtjlkgbejldcklaaGreat

/- Plain facts on nums that the laws of this stage ask: places in the order, keys, sums, the other sign. No program is named. -/
namespace Go.Proofs.YtjlkgbejldcklaaGreat
namespace SN
open Ieee

theorem chN_iff (n : Nat) : chN n = 0 ↔ rtN n = n := by unfold chN; split <;> simp_all
theorem chN_two (n : Nat) : chN n = 0 ∨ chN n = 70 := by unfold chN; split <;> simp
theorem rtN_rtN (n : Nat) : rtN (rtN n) = rtN n := by
  have nn : nanB 9221120237041090561 = true := by decide
  cases h : nanB n
  · rw [rtN_of n h, rtN_of n h]
  · rw [rtN_nan n h, rtN_nan _ nn]
theorem num_cases (n : Nat) (h : rtN n = n) : n = 9221120237041090561 ∨ nanB n = false := by
  cases hn : nanB n
  · exact .inr rfl
  · rw [rtN_nan n hn] at h; exact .inl h.symm
theorem rkN_rtN (n : Nat) : rkN (rtN n) = rkN n := by unfold rkN; rw [rtN_rtN]
theorem unN_rkN (n : Nat) (h : n < 18446744073709551616) : unN (rkN n) = rtN n := by
  have := rtN_lt n h
  unfold unN rkN
  generalize rtN n = m at *
  by_cases h1 : m < 9223372036854775808
  · rw [if_pos h1, if_neg (by omega)]; omega
  · rw [if_neg h1, if_pos (by omega)]; omega
theorem be8_len (x : Nat) : (be8 x).length = 8 := by simp [be8]
theorem be8_eq (x : Nat) : be8 x = [UInt8.ofNat (x >>> 56), UInt8.ofNat (x >>> 48), UInt8.ofNat (x >>> 40), UInt8.ofNat (x >>> 32), UInt8.ofNat (x >>> 24), UInt8.ofNat (x >>> 16), UInt8.ofNat (x >>> 8), UInt8.ofNat (x >>> 0)] := rfl
theorem byte_up (x k : Nat) : x >>> (k + 8) * 256 + (UInt8.ofNat (x >>> k)).toNat = x >>> k := by
  rw [Nat.shiftRight_add, Nat.shiftRight_eq_div_pow _ 8]
  have : (UInt8.ofNat (x >>> k)).toNat = x >>> k % 256 := by simp
  rw [this]
  omega
theorem beV_be8 (x : Nat) (h : x < 18446744073709551616) : beV (be8 x) = x := by
  rw [be8_eq]
  show ((((((((0 * 256 + (UInt8.ofNat (x >>> 56)).toNat) * 256 + (UInt8.ofNat (x >>> 48)).toNat) * 256 + (UInt8.ofNat (x >>> 40)).toNat) * 256 + (UInt8.ofNat (x >>> 32)).toNat) * 256 + (UInt8.ofNat (x >>> 24)).toNat) * 256 + (UInt8.ofNat (x >>> 16)).toNat) * 256 + (UInt8.ofNat (x >>> 8)).toNat) * 256 + (UInt8.ofNat (x >>> 0)).toNat) = x
  have h0 : x >>> (56 + 8) = 0 := by
    rw [Nat.shiftRight_eq_div_pow]
    exact Nat.div_eq_of_lt h
  have e := byte_up x 56
  rw [h0] at e
  rw [e, byte_up x 48, byte_up x 40, byte_up x 32, byte_up x 24, byte_up x 16, byte_up x 8, byte_up x 0]
  rfl
theorem fk_key (n : Nat) (h : n < 18446744073709551616) : fkN (be8 (rkN n)) = rtN n ∧ fkE (be8 (rkN n)) = 0 := by
  have e : unN (beV (be8 (rkN n))) = rtN n := by rw [beV_be8 _ (rkN_lt n h), unN_rkN n h]
  have hc : chN (rtN n) = 0 := (chN_iff _).2 (rtN_rtN n)
  unfold fkN fkE
  rw [e, be8_len, hc]
  simp

theorem rk_inj (a b : Nat) (ha : a < 18446744073709551616) (hb : b < 18446744073709551616) (na : rtN a = a) (nb : rtN b = b) : rkN a = rkN b ↔ a = b := by
  refine ⟨fun h => ?_, fun h => by rw [h]⟩
  have := congrArg unN h
  rw [unN_rkN a ha, unN_rkN b hb, na, nb] at this
  exact this
theorem cmU_lt (x y : Nat) : cmpU x y < 0 ↔ x < y := by unfold cmpU; split <;> (try split) <;> omega
theorem cmU_eq (x y : Nat) : cmpU x y = 0 ↔ x = y := by unfold cmpU; split <;> (try split) <;> omega
theorem cmU_neg (x y : Nat) : cmpU x y = -cmpU y x := by unfold cmpU; split <;> split <;> (try split) <;> omega
theorem byteLt (l m : List UInt8) (b c : UInt8) : Op.bytesLess (b :: l) (c :: m) = (decide (b < c) || (b == c && Op.bytesLess l m)) := rfl
theorem key (u v x y p : Nat) (h1 : x < p) (h2 : y < p) : (decide (u < v) || (decide (u = v) && decide (x < y))) = decide (u * p + x < v * p + y) := by
  rcases Nat.lt_trichotomy u v with h3 | h3 | h3
  · have : u * p + p ≤ v * p := by rw [← Nat.succ_mul]; exact Nat.mul_le_mul_right _ h3
    have e : u * p + x < v * p + y := by omega
    simp [h3, e]
  · subst h3; simp
  · have : v * p + p ≤ u * p := by rw [← Nat.succ_mul]; exact Nat.mul_le_mul_right _ h3
    have e1 : ¬ u < v := by omega
    have e2 : ¬ u = v := by omega
    have e : ¬ u * p + x < v * p + y := by omega
    simp [e1, e2, e]
theorem less_be (l : List UInt8) : ∀ m : List UInt8, l.length = m.length → Op.bytesLess l m = decide (beV l < beV m) := by
  have fold : ∀ (l : List UInt8) (r : Nat), l.foldl (fun r b => r * 256 + b.toNat) r = r * 256 ^ l.length + beV l := by
    intro l
    induction l with
    | nil => intro r; simp [beV]
    | cons b l ih =>
      intro r
      unfold beV
      rw [List.foldl_cons, List.foldl_cons, ih, ih (0 * 256 + b.toNat), List.length_cons, Nat.pow_succ, Nat.add_mul, Nat.zero_mul, Nat.zero_add, Nat.mul_assoc, Nat.mul_comm 256, Nat.add_assoc]
  have cons : ∀ (b : UInt8) (l : List UInt8), beV (b :: l) = b.toNat * 256 ^ l.length + beV l := by
    intro b l
    show List.foldl (fun r b => r * 256 + b.toNat) (0 * 256 + b.toNat) l = _
    rw [fold l (0 * 256 + b.toNat), Nat.zero_mul, Nat.zero_add]
  induction l with
  | nil => intro m h; cases m with
    | nil => rfl
    | cons => simp at h
  | cons b l ih =>
    intro m h
    cases m with
    | nil => simp at h
    | cons c m =>
      have hl : l.length = m.length := by simpa using h
      rw [byteLt, ih m hl, cons, cons, ← hl]
      have h1 := beV_lt l
      have h2 := beV_lt m
      rw [← hl] at h2
      generalize 256 ^ l.length = p at *
      generalize beV l = x at *
      generalize beV m = y at *
      have hbc : (b < c) ↔ b.toNat < c.toNat := UInt8.lt_iff_toNat_lt
      have hbe : (b = c) ↔ b.toNat = c.toNat := UInt8.toNat_inj.symm
      have hbe' : (b == c) = decide (b.toNat = c.toNat) := by
        rw [Bool.eq_iff_iff]; simp [hbe]
      have e1 : decide (b < c) = decide (b.toNat < c.toNat) := decide_eq_decide.2 hbc
      rw [hbe', e1]
      exact key _ _ _ _ _ h1 h2
theorem less_key (x y : Nat) (hx : x < 18446744073709551616) (hy : y < 18446744073709551616) : Op.bytesLess (be8 x) (be8 y) = decide (x < y) := by
  rw [less_be _ _ (by rw [be8_len, be8_len]), beV_be8 x hx, beV_be8 y hy]

theorem add_comm7 (x y : Nat) : double.add x y = double.add y x := by
  rcases Nat.lt_trichotomy (rg x) 9218868437227405312 with h1 | h1 | h1
  · rcases Nat.lt_trichotomy (rg y) 9218868437227405312 with h2 | h2 | h2
    · rw [add_fin x y h1 h2, add_fin y x h2 h1, Int.add_comm, Bool.and_comm]
    · rw [add_inf_r x y h1 h2, add_inf_l y x h2 h1]
    · rw [add_nan x y (.inr h2), add_nan y x (.inl h2)]
  · rcases Nat.lt_trichotomy (rg y) 9218868437227405312 with h2 | h2 | h2
    · rw [add_inf_l x y h1 h2, add_inf_r y x h2 h1]
    · rw [add_inf x y h1 h2, add_inf y x h2 h1]
      by_cases h : negB x = negB y
      · rw [if_pos h, if_pos h.symm, h]
      · rw [if_neg h, if_neg (fun e => h e.symm)]
    · rw [add_nan x y (.inr h2), add_nan y x (.inl h2)]
  · rw [add_nan x y (.inl h1), add_nan y x (.inr h1)]
theorem adN_comm (x y : Nat) : adN x y = adN y x := by unfold adN; rw [add_comm7]
theorem rtN_adN (x y : Nat) : rtN (adN x y) = adN x y := by
  unfold adN
  split
  · exact rtN_rtN _
  · decide
theorem rtN_wd (s : Bool) (r : Nat) (h : r ≤ 9218868437227405312) : rtN (wd s r) = wd s r := rtN_of _ (nanB_wd s r h)
theorem adN_fin (x y : Nat) (hx : rg x < 9218868437227405312) (hy : rg y < 9218868437227405312) :
    adN x y = wd (if zv x + zv y = 0 then negB x && negB y else decide (zv x + zv y < 0)) (rnd (zv x + zv y).natAbs) := by
  unfold adN
  rw [add_fin x y hx hy]
  exact rtN_wd _ _ (rnd_le _)
theorem ngN_wd (a : Nat) (h : a < 18446744073709551616) (na : nanB a = false) : ngN a = wd (!negB a) (rg a) := by
  unfold ngN
  rw [xor_wd a h]
  exact rtN_wd _ _ ((nan_le a).1 na)
theorem ngN_nan : ngN 9221120237041090561 = 9221120237041090561 := by decide +kernel
theorem ngN_lt (a : Nat) (h : a < 18446744073709551616) : ngN a < 18446744073709551616 := by
  unfold ngN
  refine rtN_lt _ ?_
  rw [xor_top a h]
  split <;> omega
theorem nanB_ngN (a : Nat) (h : a < 18446744073709551616) (na : nanB a = false) : nanB (ngN a) = false := by
  rw [ngN_wd a h na]
  exact nanB_wd _ _ ((nan_le a).1 na)
theorem ngN_ngN (a : Nat) (h : a < 18446744073709551616) (na : rtN a = a) : ngN (ngN a) = a := by
  rcases num_cases a na with rfl | hn
  · rw [ngN_nan, ngN_nan]
  · have hr := (nan_le a).1 hn
    rw [ngN_wd (ngN a) (ngN_lt a h) (nanB_ngN a h hn), ngN_wd a h hn, negB_wd _ _ (by omega), rg_wd _ _ (by omega), Bool.not_not]
    exact (wd_of a h).symm
theorem adN_lt (x y : Nat) : adN x y < 18446744073709551616 := by
  unfold adN
  split
  · rename_i r h
    refine rtN_lt _ ?_
    rcases Nat.lt_trichotomy (rg x) 9218868437227405312 with h1 | h1 | h1
    · rcases Nat.lt_trichotomy (rg y) 9218868437227405312 with h2 | h2 | h2
      · rw [add_fin x y h1 h2] at h; cases h; exact wd_lt _ _ (Nat.lt_of_le_of_lt (rnd_le _) (by decide))
      · rw [add_inf_r x y h1 h2] at h; cases h; exact wd_lt _ _ (by decide)
      · rw [add_nan x y (.inr h2)] at h; cases h
    · rcases Nat.lt_trichotomy (rg y) 9218868437227405312 with h2 | h2 | h2
      · rw [add_inf_l x y h1 h2] at h; cases h; exact wd_lt _ _ (by decide)
      · rw [add_inf x y h1 h2] at h
        split at h <;> cases h
        exact wd_lt _ _ (by decide)
      · rw [add_nan x y (.inr h2)] at h; cases h
    · rw [add_nan x y (.inl h1)] at h; cases h
  · decide
/-- a + 0 is a, but -0 + 0 is 0. -/
theorem adN_zero (a : Nat) (h : a < 18446744073709551616) (na : rtN a = a) : adN a 0 = if a = 9223372036854775808 then 0 else a := by
  rcases num_cases a na with rfl | hn
  · decide +kernel
  · have hr := (nan_le a).1 hn
    have hw := wd_of a h
    by_cases hi : rg a = 9218868437227405312
    · have e : adN a 0 = wd (negB a) 9218868437227405312 := by
        unfold adN
        rw [add_inf_l a 0 hi (by decide)]
        exact rtN_wd _ _ (Nat.le_refl _)
      rw [e, ← hi, ← hw, if_neg]
      intro e2
      rw [e2] at hi
      exact absurd hi (by decide)
    · have hf : rg a < 9218868437227405312 := by omega
      rw [adN_fin a 0 hf (by decide)]
      have z0 : zv 0 = 0 := by decide
      have n0 : negB 0 = false := by decide
      rw [z0, n0, Bool.and_false, Int.add_zero]
      have hz : (zv a).natAbs = vl (rg a) := by unfold zv sg; split <;> simp
      rw [hz, rnd_vl _ hr]
      have hv := vl_pos (rg a)
      have hsg : zv a = sg (negB a) (vl (rg a)) := rfl
      by_cases h0 : rg a = 0
      · rw [h0, vl_zero] at hsg
        have : zv a = 0 := by rw [hsg]; cases negB a <;> rfl
        rw [if_pos this, h0]
        rw [h0] at hw
        cases hb : negB a <;> rw [hb] at hw
        · have e0 : a = 0 := hw
          rw [e0]; rfl
        · have e0 : a = 9223372036854775808 := hw
          rw [e0]; rfl
      · have hp := hv (by omega)
        generalize vl (rg a) = v at *
        have e1 : ¬ zv a = 0 := by rw [hsg]; cases negB a <;> simp [sg] <;> omega
        have e2 : decide (zv a < 0) = negB a := by rw [hsg]; cases negB a <;> simp [sg] <;> omega
        rw [if_neg e1, e2, ← hw, if_neg]
        intro e3
        rw [e3] at h0
        exact h0 (by decide)

end SN
end Go.Proofs.YtjlkgbejldcklaaGreat

/- Plain facts on nums: whole numbers, what is beyond numbers, the other sign. No program is named. -/
namespace Go.Proofs.YtjlkgbejldcklaaGreat
namespace SN
open Ieee

theorem coN_zv (a b : Nat) (na : nanB a = false) (nb : nanB b = false) : coN a b = decide (zv b ≤ zv a) := by
  unfold coN
  rw [order_zv a b ((nan_le a).1 na) ((nan_le b).1 nb), cmp_int]
  by_cases h : zv a < zv b
  · rw [if_pos h]
    have : ¬ zv b ≤ zv a := by omega
    simp [this]
  · rw [if_neg h]
    have h2 : zv b ≤ zv a := by omega
    by_cases h3 : zv a = zv b
    · rw [if_pos h3]; simp [h2]
    · rw [if_neg h3]; simp [h2]

theorem KK_pos : 0 < KK := by
  have h := pow_pos2 1074
  rw [← KK_eq] at h
  exact h
/- whole numbers -/
theorem whole (m : Nat) (h : m ≤ 4503599627370496) : ∃ r, r < 9218868437227405312 ∧ vl r = m * KK := by
  by_cases h0 : m = 0
  · subst h0; exact ⟨0, by decide, vl_zero.trans (Nat.zero_mul _).symm⟩
  · have hl1 := Nat.log2_self_le h0
    have hl2 : m < 2 ^ (m.log2 + 1) := Nat.lt_log2_self
    have hl : m.log2 ≤ 52 := by
      have : m.log2 < 53 := (Nat.log2_lt h0).2 (by omega)
      omega
    generalize m.log2 = l at *
    have e1 : 2 ^ l * 2 ^ (52 - l) = 4503599627370496 := by
      rw [← Nat.pow_add]
      have : l + (52 - l) = 52 := by omega
      rw [this]
    have e2 : 2 ^ (l + 1) * 2 ^ (52 - l) = 9007199254740992 := by
      rw [← Nat.pow_add]
      have : l + 1 + (52 - l) = 53 := by omega
      rw [this]
    have p := pow_pos2 (52 - l)
    have M1 : 4503599627370496 ≤ m * 2 ^ (52 - l) := by rw [← e1]; exact Nat.mul_le_mul_right _ hl1
    have M2 : m * 2 ^ (52 - l) < 9007199254740992 := by rw [← e2]; exact Nat.mul_lt_mul_of_pos_right hl2 p
    have hE : m * 2 ^ (52 - l) * 2 ^ (1022 + l) = m * KK := by
      rw [Nat.mul_assoc, ← Nat.pow_add]
      have : 1074 = 52 - l + (1022 + l) := by omega
      have e : KK = 2 ^ (52 - l + (1022 + l)) := by rw [← this, KK_eq]
      rw [e]
    generalize m * 2 ^ (52 - l) = M at *
    have q1 : ((1022 + l + 1) * 4503599627370496 + (M - 4503599627370496)) / 4503599627370496 = 1022 + l + 1 := by
      rw [Nat.add_comm, Nat.add_mul_div_right _ _ (by decide), Nat.div_eq_of_lt (by omega), Nat.zero_add]
    have q2 : ((1022 + l + 1) * 4503599627370496 + (M - 4503599627370496)) % 4503599627370496 = M - 4503599627370496 := by
      rw [Nat.add_comm, Nat.add_mul_mod_self_right, Nat.mod_eq_of_lt (by omega)]
    have q0 : ¬ (1022 + l + 1) * 4503599627370496 + (M - 4503599627370496) < 4503599627370496 := by omega
    refine ⟨(1022 + l + 1) * 4503599627370496 + (M - 4503599627370496), by omega, ?_⟩
    unfold vl mg ex
    have e : 4503599627370496 + (M - 4503599627370496) = M := by omega
    rw [if_neg q0, if_neg q0, q1, q2, Nat.add_sub_cancel, ← hE, e]
theorem ofN_form (i : Int) (h : i.natAbs ≤ 4503599627370496) : ∃ r, r < 9218868437227405312 ∧ vl r = i.natAbs * KK ∧ ofN i = wd (decide (i < 0)) r := by
  obtain ⟨r, h1, h2⟩ := whole i.natAbs h
  refine ⟨r, h1, h2, ?_⟩
  unfold ofN
  rw [← h2, rnd_vl r (Nat.le_of_lt h1)]
theorem zv_ofN (i : Int) (h : i.natAbs ≤ 4503599627370496) : zv (ofN i) = i * (KK : Int) ∧ rg (ofN i) < 9218868437227405312 := by
  obtain ⟨r, h1, h2, h3⟩ := ofN_form i h
  rw [h3, rg_wd _ _ (by omega), zv_wd _ _ (by omega), h2]
  refine ⟨?_, h1⟩
  rw [sg_mul]
  have e : sg (decide (i < 0)) i.natAbs = i := by
    unfold sg
    by_cases hi : i < 0
    · simp [hi]; omega
    · simp [hi]; omega
  rw [e]
theorem K_pos : (0 : Int) < (KK : Int) := by
  have := KK_pos
  omega
theorem mulK_lt (a b : Int) : a * (KK : Int) < b * (KK : Int) ↔ a < b :=
  ⟨fun h => Int.lt_of_mul_lt_mul_right h (Int.le_of_lt K_pos), fun h => Int.mul_lt_mul_of_pos_right h K_pos⟩
theorem mulK_zero (a : Int) : a * (KK : Int) = 0 ↔ a = 0 := by
  have := K_pos
  rw [Int.mul_eq_zero]
  omega
theorem add_whole (a b : Int) (ha : a.natAbs ≤ 2251799813685248) (hb : b.natAbs ≤ 2251799813685248) : adN (ofN a) (ofN b) = ofN (a + b) := by
  obtain ⟨za, ra⟩ := zv_ofN a (by omega)
  obtain ⟨zb, rb⟩ := zv_ofN b (by omega)
  rw [adN_fin _ _ ra rb, za, zb, ← Int.add_mul]
  obtain ⟨r, h1, h2, h3⟩ := ofN_form a (by omega)
  obtain ⟨s, g1, g2, g3⟩ := ofN_form b (by omega)
  have n1 : negB (ofN a) = decide (a < 0) := by rw [h3, negB_wd _ _ (by omega)]
  have n2 : negB (ofN b) = decide (b < 0) := by rw [g3, negB_wd _ _ (by omega)]
  rw [n1, n2]
  have e : ofN (a + b) = wd (decide (a + b < 0)) (rnd ((a + b).natAbs * KK)) := rfl
  rw [e]
  have e1 : ((a + b) * (KK : Int)).natAbs = (a + b).natAbs * KK := by rw [Int.natAbs_mul, Int.natAbs_natCast]
  rw [e1]
  congr 1
  by_cases h0 : a + b = 0
  · rw [if_pos ((mulK_zero _).2 h0)]
    by_cases p1 : a < 0 <;> by_cases p2 : b < 0 <;> simp [p1, p2, h0] <;> omega
  · rw [if_neg (fun h => h0 ((mulK_zero _).1 h))]
    have := mulK_lt (a + b) 0
    rw [Int.zero_mul] at this
    rw [decide_eq_decide]
    exact this
theorem cov_whole (a b : Int) (ha : a.natAbs ≤ 2251799813685248) (hb : b.natAbs ≤ 2251799813685248) : coN (ofN a) (ofN b) = decide (b ≤ a) := by
  obtain ⟨za, ra⟩ := zv_ofN a (by omega)
  obtain ⟨zb, rb⟩ := zv_ofN b (by omega)
  rw [coN_zv _ _ (nanB_ofN a) (nanB_ofN b), za, zb, decide_eq_decide]
  have := mulK_lt a b
  generalize a * (KK : Int) = x at *
  generalize b * (KK : Int) = y at *
  omega
theorem rk_wd (s : Bool) (r : Nat) (h : r ≤ 9218868437227405312) : rkN (wd s r) = if s = true then 9223372036854775807 - r else 9223372036854775808 + r := by
  rw [rg_le _ (wd_lt _ _ (by omega)) (nanB_wd s r h), negB_wd _ _ (by omega), rg_wd _ _ (by omega)]
theorem cmp_whole (a b : Int) (ha : a.natAbs ≤ 2251799813685248) (hb : b.natAbs ≤ 2251799813685248) : cmN (ofN a) (ofN b) = if a < b then -1 else if b < a then 1 else 0 := by
  obtain ⟨r, h1, h2, h3⟩ := ofN_form a (by omega)
  obtain ⟨s, g1, g2, g3⟩ := ofN_form b (by omega)
  have v1 := vl_iff r s
  have v2 := vl_iff s r
  have p := KK_pos
  have m1 : a.natAbs * KK < b.natAbs * KK ↔ a.natAbs < b.natAbs := Nat.mul_lt_mul_right p
  have m2 : b.natAbs * KK < a.natAbs * KK ↔ b.natAbs < a.natAbs := Nat.mul_lt_mul_right p
  rw [h2, g2] at v1 v2
  rw [m1] at v1
  rw [m2] at v2
  clear m1 m2 p h2 g2
  rw [h3, g3]
  unfold cmN
  rw [rk_wd _ _ (by omega), rk_wd _ _ (by omega)]
  unfold cmpU
  by_cases p1 : a < 0 <;> by_cases p2 : b < 0 <;> simp only [p1, p2, decide_true, decide_false, if_true, Bool.false_eq_true, if_false]
  · by_cases q : a < b
    · rw [if_pos q, if_pos (by omega)]
    · rw [if_neg q, if_neg (by omega)]
      by_cases q2 : b < a
      · rw [if_pos q2, if_pos (by omega)]
      · rw [if_neg q2, if_neg (by omega)]
  · rw [if_pos (show a < b by omega), if_pos (by omega)]
  · rw [if_neg (show ¬ a < b by omega), if_pos (show b < a by omega), if_neg (by omega), if_pos (by omega)]
  · by_cases q : a < b
    · rw [if_pos q, if_pos (by omega)]
    · rw [if_neg q, if_neg (by omega)]
      by_cases q2 : b < a
      · rw [if_pos q2, if_pos (by omega)]
      · rw [if_neg q2, if_neg (by omega)]
theorem neg_whole (a : Int) (h : a ≠ 0) : ngN (ofN a) = ofN (-a) := by
  rw [ngN_wd _ (ofN_lt a) (nanB_ofN a)]
  unfold ofN
  have hr := rnd_le (a.natAbs * KK)
  rw [negB_wd _ _ (by omega), rg_wd _ _ (by omega), Int.natAbs_neg]
  congr 1
  by_cases h1 : a < 0
  · rw [decide_eq_true h1, decide_eq_false (show ¬ (-a < 0) by omega)]; rfl
  · rw [decide_eq_false h1, decide_eq_true (show -a < 0 by omega)]; rfl

/- the other sign -/
theorem ng_form (a : Nat) (h : a < 18446744073709551616) (na : nanB a = false) : ngN a = wd (!negB a) (rg a) ∧ negB (ngN a) = !negB a ∧ rg (ngN a) = rg a := by
  have hr := (nan_le a).1 na
  have e := ngN_wd a h na
  rw [e, negB_wd _ _ (by omega), rg_wd _ _ (by omega)]
  exact ⟨rfl, rfl, rfl⟩
theorem zv_ng (a : Nat) (h : a < 18446744073709551616) (na : nanB a = false) : zv (ngN a) = -zv a := by
  obtain ⟨_, h1, h2⟩ := ng_form a h na
  unfold zv
  rw [h1, h2]
  cases negB a <;> simp [sg]
theorem rk_ng (a : Nat) (h : a < 18446744073709551616) (na : nanB a = false) : rkN (ngN a) = 18446744073709551615 - rkN a := by
  obtain ⟨h0, _, _⟩ := ng_form a h na
  have hr := (nan_le a).1 na
  rw [h0, rk_wd _ _ hr, rg_le a h na]
  cases negB a <;> simp <;> omega
theorem cm_ng (a b : Nat) (ha : a < 18446744073709551616) (hb : b < 18446744073709551616) (na : nanB a = false) (nb : nanB b = false) : cmN (ngN a) (ngN b) = -cmN a b := by
  have h1 := rkN_lt a ha
  have h2 := rkN_lt b hb
  unfold cmN
  rw [rk_ng a ha na, rk_ng b hb nb]
  unfold cmpU
  split <;> split <;> (try split) <;> omega
theorem co_ng (a b : Nat) (ha : a < 18446744073709551616) (hb : b < 18446744073709551616) (na : nanB a = false) (nb : nanB b = false) : coN (ngN a) (ngN b) = coN b a := by
  rw [coN_zv _ _ (nanB_ngN a ha na) (nanB_ngN b hb nb), coN_zv _ _ nb na, zv_ng a ha na, zv_ng b hb nb, decide_eq_decide]
  omega
theorem ngN_of_wd (s : Bool) (r : Nat) (h : r ≤ 9218868437227405312) : ngN (wd s r) = wd (!s) r := by
  rw [ngN_wd _ (wd_lt _ _ (by omega)) (nanB_wd s r h), negB_wd _ _ (by omega), rg_wd _ _ (by omega)]
/-- The sum of the others with the other signs is the sum with the other sign, but where it is 0. -/
theorem ad_ng (a b : Nat) (ha : a < 18446744073709551616) (hb : b < 18446744073709551616) (na : nanB a = false) (nb : nanB b = false) :
    adN (ngN a) (ngN b) = ngN (adN a b) ∨ adN a b = 0 ∧ adN (ngN a) (ngN b) = 0 := by
  obtain ⟨_, sa, ra⟩ := ng_form a ha na
  obtain ⟨_, sb, rb⟩ := ng_form b hb nb
  have la := (nan_le a).1 na
  have lb := (nan_le b).1 nb
  by_cases ia : rg a = 9218868437227405312
  · by_cases ib : rg b = 9218868437227405312
    · refine .inl ?_
      unfold adN
      rw [add_inf _ _ (by rw [ra]; exact ia) (by rw [rb]; exact ib), add_inf a b ia ib, sa, sb]
      cases negB a <;> cases negB b <;> decide +kernel
    · refine .inl ?_
      unfold adN
      rw [add_inf_l _ _ (by rw [ra]; exact ia) (by rw [rb]; omega), add_inf_l a b ia (by omega), sa]
      cases negB a <;> decide +kernel
  · by_cases ib : rg b = 9218868437227405312
    · refine .inl ?_
      unfold adN
      rw [add_inf_r _ _ (by rw [ra]; omega) (by rw [rb]; exact ib), add_inf_r a b (by omega) ib, sb]
      cases negB b <;> decide +kernel
    · rw [adN_fin _ _ (by rw [ra]; omega) (by rw [rb]; omega), adN_fin a b (by omega) (by omega), zv_ng a ha na, zv_ng b hb nb, sa, sb]
      have e : -zv a + -zv b = -(zv a + zv b) := by omega
      rw [e, Int.natAbs_neg, ngN_of_wd _ _ (rnd_le _)]
      generalize zv a + zv b = t
      by_cases h0 : t = 0
      · subst h0
        simp only [Int.neg_zero, if_true]
        have r0 : rnd (Int.natAbs 0) = 0 := rfl
        rw [r0]
        cases negB a <;> cases negB b <;> decide
      · refine .inl ?_
        rw [if_neg (by omega), if_neg h0]
        congr 1
        by_cases h1 : t < 0
        · rw [decide_eq_true h1, decide_eq_false (show ¬ (-t < 0) by omega)]; rfl
        · rw [decide_eq_false h1, decide_eq_true (show -t < 0 by omega)]; rfl

/- what is beyond numbers -/
theorem ad_nan (a : Nat) : adN a 9221120237041090561 = 9221120237041090561 := by
  unfold adN
  rw [add_nan a _ (.inr (by decide))]
theorem co_nan_l (a : Nat) : coN 9221120237041090561 a = false := coN_nan _ _ (.inl (by decide))
theorem co_nan_r (a : Nat) : coN a 9221120237041090561 = false := coN_nan _ _ (.inr (by decide))
theorem rk_num (a : Nat) (h : a < 18446744073709551616) (na : rtN a = a) : 4503599627370495 ≤ rkN a ∧ rkN a ≤ 18444492273895866369 := by
  rcases num_cases a na with rfl | hn
  · decide +kernel
  · have hr := (nan_le a).1 hn
    rw [rg_le a h hn]
    split <;> omega
theorem cm_nan (a : Nat) (h : a < 18446744073709551616) (na : rtN a = a) : ¬ 0 < cmN a 9221120237041090561 := by
  have h1 := (rk_num a h na).2
  have e : rkN 9221120237041090561 = 18444492273895866369 := by decide +kernel
  unfold cmN
  rw [e]
  unfold cmpU
  split
  · decide
  · split <;> omega
theorem cm_minus (a : Nat) (h : a < 18446744073709551616) (na : rtN a = a) : ¬ 0 < cmN 18442240474082181120 a := by
  have h1 := (rk_num a h na).1
  have e : rkN 18442240474082181120 = 4503599627370495 := by decide +kernel
  unfold cmN
  rw [e]
  unfold cmpU
  split
  · decide
  · split <;> omega
theorem fin_of (a : Nat) (h : a < 18446744073709551616) (hn : nanB a = false) (h1 : a ≠ 9218868437227405312) (h2 : a ≠ 18442240474082181120) : rg a < 9218868437227405312 := by
  have hr := (nan_le a).1 hn
  have hw := wd_of a h
  by_cases e : rg a = 9218868437227405312
  · rw [e] at hw
    cases hb : negB a <;> rw [hb] at hw
    · exact absurd hw h1
    · exact absurd hw h2
  · omega
theorem ad_inf (a : Nat) (h : rg a < 9218868437227405312) : adN a 9218868437227405312 = 9218868437227405312 ∧ adN a 18442240474082181120 = 18442240474082181120 := by
  unfold adN
  rw [add_inf_r a _ h (by decide), add_inf_r a _ h (by decide)]
  decide +kernel
theorem co_inf (a : Nat) (ha : a < 18446744073709551616) (hn : nanB a = false) : coN 9218868437227405312 a = true ∧ coN a 18442240474082181120 = true := by
  have hr := (nan_le a).1 hn
  rw [coN_eq _ a (by decide) ha (by decide) hn, coN_eq a _ ha (by decide) hn (by decide)]
  have e1 : rkN 9218868437227405312 = 18442240474082181120 := by decide +kernel
  have e2 : rkN 18442240474082181120 = 4503599627370495 := by decide +kernel
  rw [e1, e2, rg_le a ha hn]
  simp only [decide_eq_true_eq]
  constructor <;> right <;> split <;> omega
theorem ad_self (a : Nat) (ha : a < 18446744073709551616) (hn : nanB a = false) (h : rg a < 9218868437227405312) : adN a (ngN a) = 0 := by
  obtain ⟨_, s, r⟩ := ng_form a ha hn
  rw [adN_fin a _ h (by rw [r]; exact h), zv_ng a ha hn, s]
  have e : zv a + -zv a = 0 := by omega
  rw [e, if_pos rfl]
  cases negB a <;> rfl

end SN
end Go.Proofs.YtjlkgbejldcklaaGreat
