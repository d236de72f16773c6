/- Plain facts on nums: whole numbers, what is beyond numbers, the other sign. No program is named. -/
import Derived.LoopTactic
import Derived.Outline
import Derived.IntWalk
import Derived.Laws.IdiomStrings
import Derived.Test.YtjlkgbejldcklaaGreatMg13
namespace Go.Proofs.YtjlkgbejldcklaaGreat
namespace SN
open Go.RowKit Go.Sort
def HasB (w : World) (b : Nat) (f : Nat → Int) : Prop := ∀ k, k < 8 → w.cell? ⟨b, k, none⟩ = some (.int .u8 (f k)) ∧ w.frozen? ⟨b, k, none⟩ = false
theorem HasB.set {w : World} {b : Nat} {f : Nat → Int} (h : HasB w b f) (k : Nat) (hk : k < 8) (v : Int) : HasB (w.setCell ⟨b, k, none⟩ (.int .u8 v)) b (fun i => if i = k then v else f i) := by
  intro i hi
  refine ⟨?_, by rw [World.frozen?_setCell]; exact (h i hi).2⟩
  by_cases e : i = k
  · subst e
    rw [World.cell?_setCell_same _ _ _ (h i hi).1]
    simp only [if_true]
  · rw [World.cell?_setCell_other _ _ _ _ (by intro hh; injection hh with h1 h2; exact e h2.symm), (h i hi).1]
    simp only [if_neg e]
theorem HasB.congr {w : World} {b : Nat} {f g : Nat → Int} (h : HasB w b f) (e : ∀ k, k < 8 → f k = g k) : HasB w b g := fun k hk => by rw [← e k hk]; exact h k hk
def byteAt (x k : Nat) : Int := ((x >>> (8 * (7 - k)) % 256 : Nat) : Int)
theorem HasB.step {w : World} {b x j : Nat} (hj : j < 8) (h : HasB w b (fun k => if 7 - k < j then byteAt x k else 0)) (v : Int) (hv : v = byteAt x (7 - j)) : HasB (w.setCell ⟨b, 7 - j, none⟩ (.int .u8 v)) b (fun k => if 7 - k < j + 1 then byteAt x k else 0) := by
  refine (h.set (7 - j) (by omega) v).congr fun k hk => ?_
  by_cases e : k = 7 - j
  · subst e
    rw [if_pos rfl, if_pos (by omega), hv]
  · rw [if_neg e]
    by_cases h1 : 7 - k < j
    · rw [if_pos h1, if_pos (by omega)]
    · rw [if_neg h1, if_neg (by omega)]
end SN
end Go.Proofs.YtjlkgbejldcklaaGreat

namespace Go.Proofs.YtjlkgbejldcklaaGreat
namespace SN
open Go.RowKit Go.Sort
theorem info_u8 : (Tryz.prog.info? 5).map (fun i => (i.zero, i.size, i.bytes)) = some (some (.int .u8 0), 1, 1) := by kernel_rfl
end SN
end Go.Proofs.YtjlkgbejldcklaaGreat

namespace Go.Proofs.YtjlkgbejldcklaaGreat
namespace SN
open Go.RowKit Go.Sort
theorem eight (s : ByteArray) (h : s.size = 8) : ∃ b0 b1 b2 b3 b4 b5 b6 b7, s = ⟨#[b0, b1, b2, b3, b4, b5, b6, b7]⟩ := by
  obtain ⟨⟨l⟩⟩ := s
  have hl : l.length = 8 := h
  match l, hl with
  | [b0, b1, b2, b3, b4, b5, b6, b7], _ => exact ⟨b0, b1, b2, b3, b4, b5, b6, b7, rfl⟩
end SN
end Go.Proofs.YtjlkgbejldcklaaGreat

namespace Go.Proofs.YtjlkgbejldcklaaGreat
namespace SN
open Ieee
theorem key (u v x y p : Nat) (h1 : x < p) (h2 : y < p) : (decide (u < v) || (decide (u = v) && decide (x < y))) = decide (u * p + x < v * p + y) := by
  rcases Nat.lt_trichotomy u v with h3 | h3 | h3
  · have : u * p + p ≤ v * p := by rw [← Nat.succ_mul]; exact Nat.mul_le_mul_right _ h3
    have e : u * p + x < v * p + y := by omega
    simp [h3, e]
  · subst h3; simp
  · have : v * p + p ≤ u * p := by rw [← Nat.succ_mul]; exact Nat.mul_le_mul_right _ h3
    have e1 : ¬ u < v := by omega
    have e2 : ¬ u = v := by omega
    have e : ¬ u * p + x < v * p + y := by omega
    simp [e1, e2, e]
theorem rtN_wd (s : Bool) (r : Nat) (h : r ≤ 9218868437227405312) : rtN (wd s r) = wd s r := rtN_of _ (nanB_wd s r h)
theorem adN_fin (x y : Nat) (hx : rg x < 9218868437227405312) (hy : rg y < 9218868437227405312) :
    adN x y = wd (if zv x + zv y = 0 then negB x && negB y else decide (zv x + zv y < 0)) (rnd (zv x + zv y).natAbs) := by
  unfold adN
  rw [add_fin x y hx hy]
  exact rtN_wd _ _ (rnd_le _)
theorem ngN_wd (a : Nat) (h : a < 18446744073709551616) (na : nanB a = false) : ngN a = wd (!negB a) (rg a) := by
  unfold ngN
  rw [xor_wd a h]
  exact rtN_wd _ _ ((nan_le a).1 na)
end SN
end Go.Proofs.YtjlkgbejldcklaaGreat

namespace Go.Proofs.YtjlkgbejldcklaaGreat
namespace SN
open Ieee
theorem coN_zv (a b : Nat) (na : nanB a = false) (nb : nanB b = false) : coN a b = decide (zv b ≤ zv a) := by
  unfold coN
  rw [order_zv a b ((nan_le a).1 na) ((nan_le b).1 nb), cmp_int]
  by_cases h : zv a < zv b
  · rw [if_pos h]
    have : ¬ zv b ≤ zv a := by omega
    simp [this]
  · rw [if_neg h]
    have h2 : zv b ≤ zv a := by omega
    by_cases h3 : zv a = zv b
    · rw [if_pos h3]; simp [h2]
    · rw [if_neg h3]; simp [h2]
theorem KK_pos : 0 < KK := by
  have h := pow_pos2 1074
  rw [← KK_eq] at h
  exact h
theorem whole (m : Nat) (h : m ≤ 4503599627370496) : ∃ r, r < 9218868437227405312 ∧ vl r = m * KK := by
  by_cases h0 : m = 0
  · subst h0; exact ⟨0, by decide, vl_zero.trans (Nat.zero_mul _).symm⟩
  · have hl1 := Nat.log2_self_le h0
    have hl2 : m < 2 ^ (m.log2 + 1) := Nat.lt_log2_self
    have hl : m.log2 ≤ 52 := by
      have : m.log2 < 53 := (Nat.log2_lt h0).2 (by omega)
      omega
    generalize m.log2 = l at *
    have e1 : 2 ^ l * 2 ^ (52 - l) = 4503599627370496 := by
      rw [← Nat.pow_add]
      have : l + (52 - l) = 52 := by omega
      rw [this]
    have e2 : 2 ^ (l + 1) * 2 ^ (52 - l) = 9007199254740992 := by
      rw [← Nat.pow_add]
      have : l + 1 + (52 - l) = 53 := by omega
      rw [this]
    have p := pow_pos2 (52 - l)
    have M1 : 4503599627370496 ≤ m * 2 ^ (52 - l) := by rw [← e1]; exact Nat.mul_le_mul_right _ hl1
    have M2 : m * 2 ^ (52 - l) < 9007199254740992 := by rw [← e2]; exact Nat.mul_lt_mul_of_pos_right hl2 p
    have hE : m * 2 ^ (52 - l) * 2 ^ (1022 + l) = m * KK := by
      rw [Nat.mul_assoc, ← Nat.pow_add]
      have : 1074 = 52 - l + (1022 + l) := by omega
      have e : KK = 2 ^ (52 - l + (1022 + l)) := by rw [← this, KK_eq]
      rw [e]
    generalize m * 2 ^ (52 - l) = M at *
    have q1 : ((1022 + l + 1) * 4503599627370496 + (M - 4503599627370496)) / 4503599627370496 = 1022 + l + 1 := by
      rw [Nat.add_comm, Nat.add_mul_div_right _ _ (by decide), Nat.div_eq_of_lt (by omega), Nat.zero_add]
    have q2 : ((1022 + l + 1) * 4503599627370496 + (M - 4503599627370496)) % 4503599627370496 = M - 4503599627370496 := by
      rw [Nat.add_comm, Nat.add_mul_mod_self_right, Nat.mod_eq_of_lt (by omega)]
    have q0 : ¬ (1022 + l + 1) * 4503599627370496 + (M - 4503599627370496) < 4503599627370496 := by omega
    refine ⟨(1022 + l + 1) * 4503599627370496 + (M - 4503599627370496), by omega, ?_⟩
    unfold vl mg ex
    have e : 4503599627370496 + (M - 4503599627370496) = M := by omega
    rw [if_neg q0, if_neg q0, q1, q2, Nat.add_sub_cancel, ← hE, e]
theorem ofN_form (i : Int) (h : i.natAbs ≤ 4503599627370496) : ∃ r, r < 9218868437227405312 ∧ vl r = i.natAbs * KK ∧ ofN i = wd (decide (i < 0)) r := by
  obtain ⟨r, h1, h2⟩ := whole i.natAbs h
  refine ⟨r, h1, h2, ?_⟩
  unfold ofN
  rw [← h2, rnd_vl r (Nat.le_of_lt h1)]
theorem zv_ofN (i : Int) (h : i.natAbs ≤ 4503599627370496) : zv (ofN i) = i * (KK : Int) ∧ rg (ofN i) < 9218868437227405312 := by
  obtain ⟨r, h1, h2, h3⟩ := ofN_form i h
  rw [h3, rg_wd _ _ (by omega), zv_wd _ _ (by omega), h2]
  refine ⟨?_, h1⟩
  rw [sg_mul]
  have e : sg (decide (i < 0)) i.natAbs = i := by
    unfold sg
    by_cases hi : i < 0
    · simp [hi]; omega
    · simp [hi]; omega
  rw [e]
theorem K_pos : (0 : Int) < (KK : Int) := by
  have := KK_pos
  omega
theorem mulK_lt (a b : Int) : a * (KK : Int) < b * (KK : Int) ↔ a < b :=
  ⟨fun h => Int.lt_of_mul_lt_mul_right h (Int.le_of_lt K_pos), fun h => Int.mul_lt_mul_of_pos_right h K_pos⟩
theorem mulK_zero (a : Int) : a * (KK : Int) = 0 ↔ a = 0 := by
  have := K_pos
  rw [Int.mul_eq_zero]
  omega
theorem add_whole (a b : Int) (ha : a.natAbs ≤ 2251799813685248) (hb : b.natAbs ≤ 2251799813685248) : adN (ofN a) (ofN b) = ofN (a + b) := by
  obtain ⟨za, ra⟩ := zv_ofN a (by omega)
  obtain ⟨zb, rb⟩ := zv_ofN b (by omega)
  rw [adN_fin _ _ ra rb, za, zb, ← Int.add_mul]
  obtain ⟨r, h1, h2, h3⟩ := ofN_form a (by omega)
  obtain ⟨s, g1, g2, g3⟩ := ofN_form b (by omega)
  have n1 : negB (ofN a) = decide (a < 0) := by rw [h3, negB_wd _ _ (by omega)]
  have n2 : negB (ofN b) = decide (b < 0) := by rw [g3, negB_wd _ _ (by omega)]
  rw [n1, n2]
  have e : ofN (a + b) = wd (decide (a + b < 0)) (rnd ((a + b).natAbs * KK)) := rfl
  rw [e]
  have e1 : ((a + b) * (KK : Int)).natAbs = (a + b).natAbs * KK := by rw [Int.natAbs_mul, Int.natAbs_natCast]
  rw [e1]
  congr 1
  by_cases h0 : a + b = 0
  · rw [if_pos ((mulK_zero _).2 h0)]
    by_cases p1 : a < 0 <;> by_cases p2 : b < 0 <;> simp [p1, p2, h0] <;> omega
  · rw [if_neg (fun h => h0 ((mulK_zero _).1 h))]
    have := mulK_lt (a + b) 0
    rw [Int.zero_mul] at this
    rw [decide_eq_decide]
    exact this
theorem cov_whole (a b : Int) (ha : a.natAbs ≤ 2251799813685248) (hb : b.natAbs ≤ 2251799813685248) : coN (ofN a) (ofN b) = decide (b ≤ a) := by
  obtain ⟨za, ra⟩ := zv_ofN a (by omega)
  obtain ⟨zb, rb⟩ := zv_ofN b (by omega)
  rw [coN_zv _ _ (nanB_ofN a) (nanB_ofN b), za, zb, decide_eq_decide]
  have := mulK_lt a b
  generalize a * (KK : Int) = x at *
  generalize b * (KK : Int) = y at *
  omega
theorem ng_form (a : Nat) (h : a < 18446744073709551616) (na : nanB a = false) : ngN a = wd (!negB a) (rg a) ∧ negB (ngN a) = !negB a ∧ rg (ngN a) = rg a := by
  have hr := (nan_le a).1 na
  have e := ngN_wd a h na
  rw [e, negB_wd _ _ (by omega), rg_wd _ _ (by omega)]
  exact ⟨rfl, rfl, rfl⟩
theorem zv_ng (a : Nat) (h : a < 18446744073709551616) (na : nanB a = false) : zv (ngN a) = -zv a := by
  obtain ⟨_, h1, h2⟩ := ng_form a h na
  unfold zv
  rw [h1, h2]
  cases negB a <;> simp [sg]
end SN
end Go.Proofs.YtjlkgbejldcklaaGreat
