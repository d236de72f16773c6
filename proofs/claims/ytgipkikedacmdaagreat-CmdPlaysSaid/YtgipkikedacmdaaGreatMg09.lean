/- Plain facts on nums: whole numbers, what is beyond numbers, the other sign. No program is named. -/
import Derived.LoopTactic
import Derived.Outline
import Derived.IntWalk
import Derived.Laws.IdiomStrings
import Derived.Test.YtgipkikedacmdaaGreatMg08
set_option maxRecDepth 100000
set_option maxHeartbeats 16000000
namespace Go.Proofs.YtgipkikedacmdaaGreat
namespace SN
open Go.RowKit Go.Sort
def HasB (w : World) (b : Nat) (f : Nat → Int) : Prop := ∀ k, k < 8 → w.cell? ⟨b, k, none⟩ = some (.int .u8 (f k)) ∧ w.frozen? ⟨b, k, none⟩ = false
theorem HasB.set {w : World} {b : Nat} {f : Nat → Int} (h : HasB w b f) (k : Nat) (hk : k < 8) (v : Int) : HasB (w.setCell ⟨b, k, none⟩ (.int .u8 v)) b (fun i => if i = k then v else f i) := by
 intro i hi
 refine ⟨?_, by rw [World.frozen?_setCell]; exact (h i hi).2⟩
 by_cases e : i = k
 ·subst e
  rw [World.cell?_setCell_same _ _ _ (h i hi).1]
  simp only [if_true]
 ·rw [World.cell?_setCell_other _ _ _ _ (by intro hh; injection hh with h1 h2; exact e h2.symm), (h i hi).1]
  simp only [if_neg e]
theorem HasB.congr {w : World} {b : Nat} {f g : Nat → Int} (h : HasB w b f) (e : ∀ k, k < 8 → f k = g k) : HasB w b g := fun k hk => by rw [← e k hk]; exact h k hk
def byteAt (x k : Nat) : Int := ((x >>> (8 * (7 - k)) % 256 : Nat) : Int)
theorem HasB.step {w : World} {b x j : Nat} (hj : j < 8) (h : HasB w b (fun k => if 7 - k < j then byteAt x k else 0)) (v : Int) (hv : v = byteAt x (7 - j)) : HasB (w.setCell ⟨b, 7 - j, none⟩ (.int .u8 v)) b (fun k => if 7 - k < j + 1 then byteAt x k else 0) := by
 refine (h.set (7 - j) (by omega) v).congr fun k hk => ?_
 by_cases e : k = 7 - j
 ·subst e
  rw [if_pos rfl, if_pos (by omega), hv]
 ·rw [if_neg e]
  by_cases h1 : 7 - k < j
  ·rw [if_pos h1, if_pos (by omega)]
  ·rw [if_neg h1, if_neg (by omega)]

theorem HasB.up {w : World} {b x j : Nat} (hj : j < 8) (h : HasB w b (fun k => if k < j then byteAt x k else 0)) (v : Int) (hv : v = byteAt x j) : HasB (w.setCell ⟨b, j, none⟩ (.int .u8 v)) b (fun k => if k < j + 1 then byteAt x k else 0) := by
 refine (h.set j hj v).congr fun k hk => ?_
 by_cases e : k = j
 ·subst e
  rw [if_pos rfl, if_pos (by omega), hv]
 ·rw [if_neg e]
  by_cases h1 : k < j
  ·rw [if_pos h1, if_pos (by omega)]
  ·rw [if_neg h1, if_neg (by omega)]
theorem info_u8 : (Tryz.prog.info? 5).map (fun i => (i.zero, i.size, i.bytes)) = some (some (.int .u8 0), 1, 1) := by kernel_rfl

theorem eight (s : ByteArray) (h : s.size = 8) : ∃ b0 b1 b2 b3 b4 b5 b6 b7, s = ⟨#[b0, b1, b2, b3, b4, b5, b6, b7]⟩ := by
 obtain ⟨⟨l⟩⟩ := s
 have hl : l.length = 8 := h
 match l, hl with
 | [b0, b1, b2, b3, b4, b5, b6, b7], _ => exact ⟨b0, b1, b2, b3, b4, b5, b6, b7, rfl⟩
end SN
end Go.Proofs.YtgipkikedacmdaaGreat

namespace Go.Proofs.YtgipkikedacmdaaGreat
namespace SN
open Ieee
theorem key (u v x y p : Nat) (h1 : x < p) (h2 : y < p) : (decide (u < v) || (decide (u = v) && decide (x < y))) = decide (u * p + x < v * p + y) := by
 rcases Nat.lt_trichotomy u v with h3 | h3 | h3
 ·have : u * p + p ≤ v * p := by rw [← Nat.succ_mul]; exact Nat.mul_le_mul_right _ h3
  have e : u * p + x < v * p + y := by omega
  simp [h3, e]
 ·subst h3; simp
 ·have : v * p + p ≤ u * p := by rw [← Nat.succ_mul]; exact Nat.mul_le_mul_right _ h3
  have e1 : ¬ u < v := by omega
  have e2 : ¬ u = v := by omega
  have e : ¬ u * p + x < v * p + y := by omega
  simp [e1, e2, e]

theorem whole (m : Nat) (h : m ≤ 4503599627370496) : ∃ r, r < 9218868437227405312 ∧ vl r = m * KK := by
 by_cases h0 : m = 0
 ·subst h0; exact ⟨0, by decide, vl_zero.trans (Nat.zero_mul _).symm⟩
 ·have hl1 := Nat.log2_self_le h0
  have hl2 : m < 2 ^ (m.log2 + 1) := Nat.lt_log2_self
  have hl : m.log2 ≤ 52 := by
   have : m.log2 < 53 := (Nat.log2_lt h0).2 (by omega)
   omega
  generalize m.log2 = l at *
  have e1 : 2 ^ l * 2 ^ (52 - l) = 4503599627370496 := by
   rw [← Nat.pow_add]
   have : l + (52 - l) = 52 := by omega
   rw [this]
  have e2 : 2 ^ (l + 1) * 2 ^ (52 - l) = 9007199254740992 := by
   rw [← Nat.pow_add]
   have : l + 1 + (52 - l) = 53 := by omega
   rw [this]
  have p := pow_pos2 (52 - l)
  have M1 : 4503599627370496 ≤ m * 2 ^ (52 - l) := by rw [← e1]; exact Nat.mul_le_mul_right _ hl1
  have M2 : m * 2 ^ (52 - l) < 9007199254740992 := by rw [← e2]; exact Nat.mul_lt_mul_of_pos_right hl2 p
  have hE : m * 2 ^ (52 - l) * 2 ^ (1022 + l) = m * KK := by
   rw [Nat.mul_assoc, ← Nat.pow_add]
   have : 1074 = 52 - l + (1022 + l) := by omega
   have e : KK = 2 ^ (52 - l + (1022 + l)) := by rw [← this, KK_eq]
   rw [e]
  generalize m * 2 ^ (52 - l) = M at *
  have q1 : ((1022 + l + 1) * 4503599627370496 + (M - 4503599627370496)) / 4503599627370496 = 1022 + l + 1 := by
   rw [Nat.add_comm, Nat.add_mul_div_right _ _ (by decide), Nat.div_eq_of_lt (by omega), Nat.zero_add]
  have q2 : ((1022 + l + 1) * 4503599627370496 + (M - 4503599627370496)) % 4503599627370496 = M - 4503599627370496 := by
   rw [Nat.add_comm, Nat.add_mul_mod_self_right, Nat.mod_eq_of_lt (by omega)]
  have q0 : ¬ (1022 + l + 1) * 4503599627370496 + (M - 4503599627370496) < 4503599627370496 := by omega
  refine ⟨(1022 + l + 1) * 4503599627370496 + (M - 4503599627370496), by omega, ?_⟩
  unfold vl mg ex
  have e : 4503599627370496 + (M - 4503599627370496) = M := by omega
  rw [if_neg q0, if_neg q0, q1, q2, Nat.add_sub_cancel, ← hE, e]
end SN
end Go.Proofs.YtgipkikedacmdaaGreat
