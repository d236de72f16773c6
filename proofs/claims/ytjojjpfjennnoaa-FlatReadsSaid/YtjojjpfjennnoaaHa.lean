/- What is laid is read: numbers, texts, truths, stamps, lists at the front of bytes; and of bytes that end within, nothing. Conditions: as each theorem states. -/
import Derived.Test.YtjojjpfjennnoaaGd
namespace Go.Proofs.Ytjojjpfjennnoaa
open Go.RowKit

theorem leN_low (n k : Nat) : leN (low n k) = n % 2 ^ (8 * k) := by
  induction k with
  | zero => rw [low_zero]; simp [leN, Nat.mod_one]
  | succ k ih =>
    rw [low_succ, leN_snoc, ih, low_length]
    have e : 2 ^ (8 * (k + 1)) = 2 ^ (8 * k) * 256 := by rw [Nat.mul_add, Nat.pow_add]
    have e2 : (UInt8.ofNat (n >>> (8 * k))).toNat = n / 2 ^ (8 * k) % 256 := by rw [Nat.shiftRight_eq_div_pow]; simp
    rw [e, e2, Nat.mod_mul, Nat.mul_comm (2 ^ (8 * k))]
theorem wrap_back (n : Int) (h1 : -9223372036854775808 ≤ n) (h2 : n ≤ 9223372036854775807) : wrap64 ((IntKind.u64.wrap n).toNat : Int) = n := by
  have e : IntKind.u64.wrap n = n % 18446744073709551616 := rfl
  rw [e]
  unfold wrap64
  omega
theorem wf_i64 {n : Int} (h : (Lit.int .i64 n).wf = true) : -9223372036854775808 ≤ n ∧ n ≤ 9223372036854775807 := by
  simp only [Lit.wf, Bool.and_eq_true, decide_eq_true_eq] at h
  have e1 : IntKind.i64.min = -9223372036854775808 := rfl
  have e2 : IntKind.i64.max = 9223372036854775807 := rfl
  rw [e1, e2] at h
  exact h
theorem u64_lt (n : Int) : (IntKind.u64.wrap n).toNat < 18446744073709551616 := by
  have e : IntKind.u64.wrap n = n % 18446744073709551616 := rfl
  rw [e]
  omega
theorem take_app {α : Type} (a b : List α) (n : Nat) (h : a.length = n) : (a ++ b).take n = a := by subst h; exact List.take_left
theorem drop_app {α : Type} (a b : List α) (n : Nat) (h : a.length = n) : (a ++ b).drop n = b := by subst h; exact List.drop_left
theorem rd_i8 (n : Int) (h : (Lit.int .i64 n).wf = true) (r : List UInt8) : rd (i8 n ++ r) = n := by
  obtain ⟨h1, h2⟩ := wf_i64 h
  unfold rd
  rw [take_app _ _ 8 (i8_length n)]
  unfold i8
  rw [leN_low, Nat.mod_eq_of_lt (u64_lt n)]
  exact wrap_back n h1 h2

theorem read_i (n : Int) (h : (Lit.int .i64 n).wf = true) (r : List UInt8) : okI (i8 n ++ r) false = true ∧ valI (i8 n ++ r) false = n ∧ behind true 8 (i8 n ++ r) = r := by
  have hok : okI (i8 n ++ r) false = true := by
    have := i8_length n
    simp [okI, this]
  exact ⟨hok, by unfold valI; rw [if_pos hok]; exact rd_i8 n h r, by rw [behind_yes]; exact drop_app _ _ 8 (i8_length n)⟩
theorem tx_take (s : ByteArray) (hs : s.size ≤ 1048576) (r : List UInt8) : leN ((tx s ++ r).take 4) = s.size := by
  have e : tx s ++ r = low s.size 4 ++ (s.data.toList ++ r) := by unfold tx; rw [List.append_assoc]
  rw [e, take_app _ _ 4 (low_length _ _), leN_low]
  exact Nat.mod_eq_of_lt (by omega)
theorem read_t (s : ByteArray) (hs : s.size ≤ 1048576) (r : List UInt8) : okT (tx s ++ r) false = true ∧ valT (tx s ++ r) false = s ∧ behind true (4 + leN ((tx s ++ r).take 4)) (tx s ++ r) = r := by
  have h1 := tx_take s hs r
  have hl := tx_length s
  have hok : okT (tx s ++ r) false = true := by
    unfold okT
    rw [h1]
    simp only [Bool.not_false, Bool.true_and, decide_eq_true_eq, List.length_drop, List.length_append]
    omega
  refine ⟨hok, ?_, ?_⟩
  · unfold valT
    rw [if_pos hok]
    unfold atT
    rw [h1]
    have e : tx s ++ r = low s.size 4 ++ (s.data.toList ++ r) := by unfold tx; rw [List.append_assoc]
    rw [e, drop_app _ _ 4 (low_length _ _), take_app _ _ _ (ba_len s)]
  · rw [behind_yes, h1]
    exact drop_app _ _ _ hl
theorem read_b (b : Bool) (r : List UInt8) : okB (tb b ++ r) false = true ∧ valB (tb b ++ r) false = b ∧ behind true 1 (tb b ++ r) = r := by
  cases b
  · exact ⟨by simp [okB, tb, low, leN], by simp [valB, okB, tb, low, leN], by rw [behind_yes]; rfl⟩
  · exact ⟨by simp [okB, tb, low, leN], by simp [valB, okB, tb, low, leN], by rw [behind_yes]; rfl⟩
theorem rdS_st (t : Int × Int) (h1 : (Lit.int .i64 t.1).wf = true) (h2 : (Lit.int .i64 t.2).wf = true) (r : List UInt8) : rdS (st t ++ r) = t := by
  unfold rdS st
  rw [List.append_assoc, rd_i8 _ h1, drop_app _ _ 8 (i8_length _), rd_i8 _ h2]
theorem read_s (t : Int × Int) (h1 : (Lit.int .i64 t.1).wf = true) (h2 : (Lit.int .i64 t.2).wf = true) (r : List UInt8) : okS (st t ++ r) false = true ∧ valS (st t ++ r) false = t ∧ behind true 16 (st t ++ r) = r := by
  have hl := st_length t
  have hok : okS (st t ++ r) false = true := by simp [okS, hl]
  exact ⟨hok, by unfold valS; rw [if_pos hok]; exact rdS_st t h1 h2 r, by rw [behind_yes]; exact drop_app _ _ _ hl⟩
theorem rdL_at (l : List (Int × Int)) (h : ∀ s ∈ l, (Lit.int .i64 s.1).wf = true ∧ (Lit.int .i64 s.2).wf = true) (p r : List UInt8) (hp : p.length = 8) : rdL (p ++ (l.flatMap st ++ r)) l.length = l := by
  apply List.ext_getElem?
  intro j
  by_cases hj : j < l.length
  · have e1 : (rdL (p ++ (l.flatMap st ++ r)) l.length)[j]? = some (rdS ((p ++ (l.flatMap st ++ r)).drop (8 + 16 * j))) := by simp [rdL, hj]
    have e2 : l.flatMap st = (l.take j).flatMap st ++ (st l[j] ++ (l.drop (j + 1)).flatMap st) := by
      rw [← List.flatMap_cons, ← List.flatMap_append, List.getElem_cons_drop, List.take_append_drop]
    have e3 : ((l.take j).flatMap st).length = 16 * j := by rw [flat_length st 16 st_length, List.length_take]; congr 1; omega
    rw [e1, ← List.drop_drop, drop_app _ _ 8 hp, e2, List.append_assoc, drop_app _ _ _ e3, List.append_assoc]
    obtain ⟨w1, w2⟩ := h l[j] (List.getElem_mem hj)
    rw [rdS_st _ w1 w2, List.getElem?_eq_getElem hj]
  · rw [List.getElem?_eq_none (by rw [rdL_length]; omega), List.getElem?_eq_none (by omega)]
theorem len_wf {n : Nat} (h : n ≤ 1250) : (Lit.int .i64 (n : Int)).wf = true := by
  simp only [Lit.wf, Bool.and_eq_true, decide_eq_true_eq]
  have e1 : IntKind.i64.min = -9223372036854775808 := rfl
  have e2 : IntKind.i64.max = 9223372036854775807 := rfl
  rw [e1, e2]
  omega
theorem rd_sts (l : List (Int × Int)) (hl : l.length ≤ 1250) (r : List UInt8) : rd (sts l ++ r) = l.length := by
  unfold sts
  rw [List.append_assoc]
  exact rd_i8 _ (len_wf hl) _
theorem read_l (l : List (Int × Int)) (h : ∀ s ∈ l, (Lit.int .i64 s.1).wf = true ∧ (Lit.int .i64 s.2).wf = true) (hl : l.length ≤ 1250) (r : List UInt8) :
    okL (sts l ++ r) false = true ∧ valL (sts l ++ r) false = l ∧ behind true (8 + 16 * (rd (sts l ++ r)).toNat) (sts l ++ r) = r := by
  have h1 := rd_sts l hl r
  have h2 := sts_len l
  have hok : okL (sts l ++ r) false = true := by
    have hh : hasL (sts l ++ r) := by
      unfold hasL
      rw [h1]
      simp only [List.length_append, Int.toNat_natCast]
      omega
    simp [okL, hh]
  refine ⟨hok, ?_, ?_⟩
  · unfold valL
    rw [if_pos hok, h1, Int.toNat_natCast]
    unfold sts
    rw [List.append_assoc]
    exact rdL_at l h _ r (i8_length _)
  · rw [behind_yes, h1, Int.toNat_natCast]
    exact drop_app _ _ _ h2

end Go.Proofs.Ytjojjpfjennnoaa
