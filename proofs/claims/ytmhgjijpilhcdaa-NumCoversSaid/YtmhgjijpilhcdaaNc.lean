/- What package num's calls answer, as plain functions of bits. No program is named. -/
import Derived.Test.YtmhgjijpilhcdaaNb
namespace Go.Proofs.Ytmhgjijpilhcdaa
open Ieee

def rtN (n : Nat) : Nat := if nanB n = true then 9221120237041090561 else n
def adN (x y : Nat) : Nat := match double.add x y with
  | some r => rtN r
  | none => 9221120237041090561
def ngN (n : Nat) : Nat := rtN (n ^^^ 9223372036854775808)
def rkN (n : Nat) : Nat := if rtN n < 9223372036854775808 then rtN n + 9223372036854775808 else 18446744073709551615 - rtN n
def coN (x y : Nat) : Bool := double.order x y == some .gt || double.order x y == some .eq
def KK : Nat := 2 ^ 1074
def ofN (i : Int) : Nat := wd (decide (i < 0)) (rnd (i.natAbs * KK))
def cmpU (a b : Nat) : Int := if a < b then -1 else if b < a then 1 else 0
def cmN (a b : Nat) : Int := cmpU (rkN a) (rkN b)

theorem KK_eq : KK = 2 ^ 1074 := by delta KK; exact Eq.refl _
theorem nearest_of (i : Int) : double.nearest (decide (i < 0)) i.natAbs 0 = ofN i := by
  have h := nearest_eq (decide (i < 0)) i.natAbs 1074
  rw [← KK_eq] at h
  exact h
theorem nanB_ofN (i : Int) : nanB (ofN i) = false := nanB_wd _ _ (rnd_le _)
theorem rtN_of (n : Nat) (h : nanB n = false) : rtN n = n := by unfold rtN; rw [h]; rfl
theorem rtN_nan (n : Nat) (h : nanB n = true) : rtN n = 9221120237041090561 := by unfold rtN; rw [h]; rfl
theorem wd_lt (s : Bool) (r : Nat) (h : r < 9223372036854775808) : wd s r < 18446744073709551616 := by
  unfold wd
  split <;> omega
theorem ofN_lt (i : Int) : ofN i < 18446744073709551616 := wd_lt _ _ (by exact Nat.lt_of_le_of_lt (rnd_le (i.natAbs * KK)) (by decide))
theorem rtN_lt (n : Nat) (h : n < 18446744073709551616) : rtN n < 18446744073709551616 := by
  unfold rtN
  split
  · decide
  · exact h
theorem rkN_lt (n : Nat) (h : n < 18446744073709551616) : rkN n < 18446744073709551616 := by
  unfold rkN
  have := rtN_lt n h
  split <;> omega
theorem xor_top (n : Nat) (h : n < 18446744073709551616) : n ^^^ 9223372036854775808 = if n < 9223372036854775808 then n + 9223372036854775808 else n - 9223372036854775808 := by
  by_cases h1 : n < 9223372036854775808
  · rw [if_pos h1]
    have := Nat.two_pow_add_eq_or_of_lt (i := 63) (b := n) h1 1
    have hx : n ^^^ 2 ^ 63 = 2 ^ 63 + n := by
      rw [Nat.mul_one] at this
      rw [this]
      apply Nat.eq_of_testBit_eq
      intro i
      rw [Nat.testBit_xor, Nat.testBit_or, Nat.testBit_two_pow]
      by_cases hi : i = 63
      · subst hi; rw [Nat.testBit_lt_two_pow h1]; rfl
      · have : ¬ 63 = i := fun e => hi e.symm
        simp [this]
    show n ^^^ 2 ^ 63 = _
    rw [hx]
    omega
  · rw [if_neg h1]
    obtain ⟨m, rfl⟩ : ∃ m, n = 9223372036854775808 + m := ⟨n - 9223372036854775808, by omega⟩
    have hm : m < 2 ^ 63 := by show m < 9223372036854775808; omega
    have := Nat.two_pow_add_eq_or_of_lt (i := 63) (b := m) hm 1
    rw [Nat.mul_one] at this
    have e : 9223372036854775808 + m - 9223372036854775808 = m := by omega
    rw [e]
    show (2 ^ 63 + m) ^^^ 2 ^ 63 = _
    rw [this]
    apply Nat.eq_of_testBit_eq
    intro i
    rw [Nat.testBit_xor, Nat.testBit_or, Nat.testBit_two_pow]
    by_cases hi : i = 63
    · subst hi; rw [Nat.testBit_lt_two_pow hm]; rfl
    · have : ¬ 63 = i := fun e => hi e.symm
      simp [this]
theorem xor_wd (n : Nat) (h : n < 18446744073709551616) : n ^^^ 9223372036854775808 = wd (!negB n) (rg n) := by
  rw [xor_top n h]
  unfold wd negB rg
  by_cases h1 : n < 9223372036854775808
  · have e : n / 9223372036854775808 = 0 := by omega
    rw [if_pos h1, e]
    simp
    omega
  · have e : n / 9223372036854775808 = 1 := by omega
    rw [if_neg h1, e]
    simp
    omega
theorem and_top (n : Nat) (h : n < 18446744073709551616) : n &&& 9223372036854775808 = if n < 9223372036854775808 then 0 else 9223372036854775808 := by
  have hb : n.testBit 63 = decide (¬ n < 9223372036854775808) := by
    by_cases h1 : n < 9223372036854775808
    · rw [Nat.testBit_lt_two_pow (show n < 2 ^ 63 from h1)]; simp [h1]
    · rw [Nat.testBit_eq_decide_div_mod_eq]
      have : n / 2 ^ 63 % 2 = 1 := by show n / 9223372036854775808 % 2 = 1; omega
      rw [this]; simp [h1]
  have : n &&& 9223372036854775808 = if n < 9223372036854775808 then 0 else 2 ^ 63 := by
    show n &&& 2 ^ 63 = _
    apply Nat.eq_of_testBit_eq
    intro i
    rw [Nat.testBit_and, Nat.testBit_two_pow]
    by_cases hi : i = 63
    · subst hi
      rw [hb]
      by_cases h1 : n < 9223372036854775808
      · simp [h1]
      · rw [if_neg h1, Nat.testBit_two_pow]; simp [h1]
    · have hi2 : ¬ 63 = i := fun e => hi e.symm
      by_cases h1 : n < 9223372036854775808
      · simp [h1, hi2]
      · rw [if_neg h1, Nat.testBit_two_pow]; simp [hi2]
  exact this
theorem or_top (n : Nat) (h : n < 9223372036854775808) : n ||| 9223372036854775808 = n + 9223372036854775808 := by
  have := Nat.two_pow_add_eq_or_of_lt (i := 63) (b := n) h 1
  rw [Nat.mul_one] at this
  show n ||| 2 ^ 63 = _
  rw [Nat.or_comm, ← this]
  omega
theorem low_top (n : Nat) : n &&& (18446744073709551615 - 9223372036854775808) = rg n := by
  show n &&& (2 ^ 63 - 1) = n % 2 ^ 63
  exact Nat.and_two_pow_sub_one_eq_mod n 63
theorem xor_all (n : Nat) (h : n < 18446744073709551616) : 18446744073709551615 ^^^ n = 18446744073709551615 - n := by
  have := @BitVec.allOnes_xor 64 (BitVec.ofNat 64 n)
  have e := congrArg BitVec.toNat this
  rw [BitVec.toNat_xor, BitVec.toNat_not, BitVec.toNat_allOnes, BitVec.toNat_ofNat, Nat.mod_eq_of_lt (show n < 2 ^ 64 from h)] at e
  exact e

end Go.Proofs.Ytmhgjijpilhcdaa
