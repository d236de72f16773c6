/- Contracts of FromKey, the program's and the reference's: the num whose Key a text is, if there is one. Conditions: none. -/
import Derived.Test.YtmhgjijpilhcdaaNl
namespace Go.Proofs.Ytmhgjijpilhcdaa
open Go.RowKit Go.Sort

/-- Bytes as a number, the highest first. -/
def beV (l : List UInt8) : Nat := l.foldl (fun r b => r * 256 + b.toNat) 0
theorem beV_snoc (l : List UInt8) (b : UInt8) : beV (l ++ [b]) = beV l * 256 + b.toNat := by simp [beV, List.foldl_append]
theorem fold_lt (l : List UInt8) : ∀ r : Nat, l.foldl (fun r b => r * 256 + b.toNat) r < (r + 1) * 256 ^ l.length := by
  induction l with
  | nil => intro r; simp
  | cons b l ih =>
    intro r
    have h := ih (r * 256 + b.toNat)
    have hb := b.toNat_lt
    rw [List.foldl_cons, List.length_cons, Nat.pow_succ]
    refine Nat.lt_of_lt_of_le h ?_
    rw [Nat.mul_comm (256 ^ l.length) 256, ← Nat.mul_assoc]
    exact Nat.mul_le_mul_right _ (by omega)
theorem beV_lt (l : List UInt8) : beV l < 256 ^ l.length := by
  have := fold_lt l 0
  rw [Nat.zero_add, Nat.one_mul] at this
  exact this
theorem beV_eight (l : List UInt8) (h : l.length = 8) : beV l < 18446744073709551616 := by
  have := beV_lt l
  rw [h] at this
  exact this
theorem beV_nil : beV [] = 0 := rfl
theorem or_low (r : Nat) (b : UInt8) : r * 256 ||| b.toNat = r * 256 + b.toNat := by
  have h := Nat.shiftLeft_add_eq_or_of_lt (i := 8) (b := b.toNat) b.toNat_lt r
  rw [Nat.shiftLeft_eq] at h
  exact h.symm
theorem step_eq (l m : List UInt8) (b : UInt8) (hl : l.length ≤ 7) (h : m = l ++ [b]) :
    Value.int .u64 (bits .or .u64 (IntKind.u64.wrap (((beV l : Nat) : Int) * 256)) (IntKind.u64.wrap ((b.toNat : Nat) : Int))) = .int .u64 ((beV m : Nat) : Int) := by
  subst h
  rw [beV_snoc]
  have h1 := beV_lt l
  have h2 : 256 ^ l.length ≤ 256 ^ 7 := Nat.pow_le_pow_right (by decide) hl
  have h3 : beV l < 72057594037927936 := Nat.lt_of_lt_of_le h1 h2
  have hb := b.toNat_lt
  generalize beV l = r at *
  have w1 : IntKind.u64.wrap ((r : Int) * 256) = ((r * 256 : Nat) : Int) := by rw [IntKind.wrap_u64]; omega
  have w2 : IntKind.u64.wrap ((b.toNat : Nat) : Int) = ((b.toNat : Nat) : Int) := by rw [IntKind.wrap_u64]; omega
  rw [w1, w2, u64_or_nat _ _ (by omega) (by omega), or_low]
/-- The bits whose place in the order that is. -/
def unN (r : Nat) : Nat := if r < 9223372036854775808 then 18446744073709551615 - r else r - 9223372036854775808
def fkN (l : List UInt8) : Nat := if l.length = 8 ∧ chN (unN (beV l)) = 0 then unN (beV l) else 0
def fkE (l : List UInt8) : Int := if l.length = 8 ∧ chN (unN (beV l)) = 0 then 0 else 70
theorem unN_lt (r : Nat) (h : r < 18446744073709551616) : unN r < 18446744073709551616 := by
  unfold unN
  split <;> omega
theorem eight (s : ByteArray) (h : s.size = 8) : ∃ b0 b1 b2 b3 b4 b5 b6 b7, s = ⟨#[b0, b1, b2, b3, b4, b5, b6, b7]⟩ := by
  obtain ⟨⟨l⟩⟩ := s
  have hl : l.length = 8 := h
  match l, hl with
  | [b0, b1, b2, b3, b4, b5, b6, b7], _ => exact ⟨b0, b1, b2, b3, b4, b5, b6, b7, rfl⟩

theorem ranked_any (r : Nat) (hr : r < 18446744073709551616) (w : World) : Calls Try.prog 39 #[.int .u64 (r : Int)] w fun e w' => e = .returned (.int .u64 ((unN r : Nat) : Int)) ∧ w = w' := by
  have hm : IntKind.u64.max = ((18446744073709551615 : Nat) : Int) := by decide
  have ho : bits .xor .u64 (r : Int) 9223372036854775808 = ((r ^^^ 9223372036854775808 : Nat) : Int) := u64_xor_nat r 9223372036854775808 hr (by decide)
  have ha : bits .and .u64 (r : Int) 9223372036854775808 = ((r &&& 9223372036854775808 : Nat) : Int) := u64_and_nat r 9223372036854775808 hr (by decide)
  have hu : bits .xor .u64 IntKind.u64.max (r : Int) = ((18446744073709551615 ^^^ r : Nat) : Int) := by rw [hm]; exact u64_xor_nat 18446744073709551615 r (by decide) hr
  clear hm
  rw [and_top _ hr] at ha
  rw [xor_top _ hr] at ho
  rw [xor_all _ hr] at hu
  unfold unN
  by_cases h : r < 9223372036854775808
  · rw [if_pos h] at ha ho ⊢
    go_enter Try.func39, Try.ntmps39
    go_wp2
    go_ret
    exact ⟨rfl, rfl⟩
  · rw [if_neg h] at ha ho ⊢
    go_enter Try.func39, Try.ntmps39
    go_wp2
    go_ret
    exact ⟨rfl, rfl⟩

set_option maxRecDepth 100000 in
set_option maxHeartbeats 2000000 in
theorem fromKey_any (s : ByteArray) (w : World) : Calls Try.prog 25 #[.string s] w fun e w' => e = .returned (.tuple #[.int .u64 ((fkN s.data.toList : Nat) : Int), .int .i64 (fkE s.data.toList)]) ∧ w = w' := by
  by_cases hs : s.size = 8
  · obtain ⟨b0, b1, b2, b3, b4, b5, b6, b7, rfl⟩ := eight s hs
    clear hs
    have hv := beV_eight [b0, b1, b2, b3, b4, b5, b6, b7] rfl
    have hk : fkN [b0, b1, b2, b3, b4, b5, b6, b7] = (if chN (unN (beV [b0, b1, b2, b3, b4, b5, b6, b7])) = 0 then unN (beV [b0, b1, b2, b3, b4, b5, b6, b7]) else 0) := by simp [fkN]
    have he : fkE [b0, b1, b2, b3, b4, b5, b6, b7] = (if chN (unN (beV [b0, b1, b2, b3, b4, b5, b6, b7])) = 0 then 0 else 70) := by simp [fkE]
    have HV := Lib.hid hv
    have HK := Lib.hid hk
    have HE := Lib.hid he
    clear hv hk he
    go_enter Try.func25, Try.ntmps25
    go_wp2
    go_loopw [4, 11] (fun r i wr => ∃ j : Nat, j ≤ 8 ∧ i = .int .i64 j ∧ r = .int .u64 ((beV ([b0, b1, b2, b3, b4, b5, b6, b7].take j) : Nat) : Int) ∧ wr = w) (fun _ i _ => 8 - (intOf i).toNat)
    case atStart => exact ⟨0, Nat.zero_le _, rfl, by rw [List.take_zero, beV_nil]; rfl, rfl⟩
    case round =>
      obtain ⟨j, hj, rfl, rfl, rfl⟩ := hrel
      by_cases hlt : j < 8
      · have hj' : j = 0 ∨ j = 1 ∨ j = 2 ∨ j = 3 ∨ j = 4 ∨ j = 5 ∨ j = 6 ∨ j = 7 := by omega
        rcases hj' with rfl | rfl | rfl | rfl | rfl | rfl | rfl | rfl
        · have HS := Lib.hid (step_eq [] [b0] b0 (Nat.zero_le _) rfl)
          have e1 : [b0, b1, b2, b3, b4, b5, b6, b7].take 0 = [] := rfl
          rw [e1]
          clear e1
          generalize beV [] = r at *
          go_wp2
          exact ⟨⟨1, by decide, rfl, HS.out, trivial⟩, by simp [intOf]⟩
        · have HS := Lib.hid (step_eq [b0] [b0, b1] b1 (by simp) rfl)
          have e1 : [b0, b1, b2, b3, b4, b5, b6, b7].take 1 = [b0] := rfl
          rw [e1]
          clear e1
          generalize beV [b0] = r at *
          go_wp2
          exact ⟨⟨2, by decide, rfl, HS.out, trivial⟩, by simp [intOf]⟩
        · have HS := Lib.hid (step_eq [b0, b1] [b0, b1, b2] b2 (by simp) rfl)
          have e1 : [b0, b1, b2, b3, b4, b5, b6, b7].take 2 = [b0, b1] := rfl
          rw [e1]
          clear e1
          generalize beV [b0, b1] = r at *
          go_wp2
          exact ⟨⟨3, by decide, rfl, HS.out, trivial⟩, by simp [intOf]⟩
        · have HS := Lib.hid (step_eq [b0, b1, b2] [b0, b1, b2, b3] b3 (by simp) rfl)
          have e1 : [b0, b1, b2, b3, b4, b5, b6, b7].take 3 = [b0, b1, b2] := rfl
          rw [e1]
          clear e1
          generalize beV [b0, b1, b2] = r at *
          go_wp2
          exact ⟨⟨4, by decide, rfl, HS.out, trivial⟩, by simp [intOf]⟩
        · have HS := Lib.hid (step_eq [b0, b1, b2, b3] [b0, b1, b2, b3, b4] b4 (by simp) rfl)
          have e1 : [b0, b1, b2, b3, b4, b5, b6, b7].take 4 = [b0, b1, b2, b3] := rfl
          rw [e1]
          clear e1
          generalize beV [b0, b1, b2, b3] = r at *
          go_wp2
          exact ⟨⟨5, by decide, rfl, HS.out, trivial⟩, by simp [intOf]⟩
        · have HS := Lib.hid (step_eq [b0, b1, b2, b3, b4] [b0, b1, b2, b3, b4, b5] b5 (by simp) rfl)
          have e1 : [b0, b1, b2, b3, b4, b5, b6, b7].take 5 = [b0, b1, b2, b3, b4] := rfl
          rw [e1]
          clear e1
          generalize beV [b0, b1, b2, b3, b4] = r at *
          go_wp2
          exact ⟨⟨6, by decide, rfl, HS.out, trivial⟩, by simp [intOf]⟩
        · have HS := Lib.hid (step_eq [b0, b1, b2, b3, b4, b5] [b0, b1, b2, b3, b4, b5, b6] b6 (by simp) rfl)
          have e1 : [b0, b1, b2, b3, b4, b5, b6, b7].take 6 = [b0, b1, b2, b3, b4, b5] := rfl
          rw [e1]
          clear e1
          generalize beV [b0, b1, b2, b3, b4, b5] = r at *
          go_wp2
          exact ⟨⟨7, by decide, rfl, HS.out, trivial⟩, by simp [intOf]⟩
        · have HS := Lib.hid (step_eq [b0, b1, b2, b3, b4, b5, b6] [b0, b1, b2, b3, b4, b5, b6, b7] b7 (by simp) rfl)
          have e1 : [b0, b1, b2, b3, b4, b5, b6, b7].take 7 = [b0, b1, b2, b3, b4, b5, b6] := rfl
          rw [e1]
          clear e1
          generalize beV [b0, b1, b2, b3, b4, b5, b6] = r at *
          go_wp2
          exact ⟨⟨8, by decide, rfl, HS.out, trivial⟩, by simp [intOf]⟩
      · obtain rfl : j = 8 := by omega
        have e1 : [b0, b1, b2, b3, b4, b5, b6, b7].take 8 = [b0, b1, b2, b3, b4, b5, b6, b7] := rfl
        rw [e1]
        clear e1
        have hr := fun w => ranked_any _ HV.out w
        have hc := fun w => check_any (unN (beV [b0, b1, b2, b3, b4, b5, b6, b7])) w
        generalize beV [b0, b1, b2, b3, b4, b5, b6, b7] = x at *
        by_cases h0 : chN (unN x) = 0
        · have K1 : Hid (fkN [b0, b1, b2, b3, b4, b5, b6, b7] = unN x) := by show _ = _; rw [HK.out, if_pos h0]
          have E1 : Hid (fkE [b0, b1, b2, b3, b4, b5, b6, b7] = 0) := by show _ = _; rw [HE.out, if_pos h0]
          clear HK HE
          generalize unN x = m at *
          go_wp2_with fail
          refine (hr _).mono ?_; rintro e w' ⟨rfl, rfl⟩
          go_wp2_with fail
          refine (hc _).mono ?_; rw [h0]; rintro e w' ⟨rfl, rfl⟩
          go_wp2
          go_ret2
          refine ⟨?_, rfl⟩
          show Ending.returned (.tuple #[.int .u64 ((m : Nat) : Int), .int .i64 0]) = .returned (.tuple #[.int .u64 ((fkN [b0, b1, b2, b3, b4, b5, b6, b7] : Nat) : Int), .int .i64 (fkE [b0, b1, b2, b3, b4, b5, b6, b7])])
          rw [K1.out, E1.out]
        · have K1 : Hid (fkN [b0, b1, b2, b3, b4, b5, b6, b7] = 0) := by show _ = _; rw [HK.out, if_neg h0]
          have E1 : Hid (fkE [b0, b1, b2, b3, b4, b5, b6, b7] = 70) := by show _ = _; rw [HE.out, if_neg h0]
          clear HK HE
          generalize unN x = m at *
          have h7 : chN m = 70 := by unfold chN at h0 ⊢; split at h0 <;> simp_all
          go_wp2_with fail
          refine (hr _).mono ?_; rintro e w' ⟨rfl, rfl⟩
          go_wp2_with fail
          refine (hc _).mono ?_; rw [h7]; rintro e w' ⟨rfl, rfl⟩
          go_wp2
          go_ret2
          refine ⟨?_, rfl⟩
          show Ending.returned (.tuple #[.int .u64 0, .int .i64 70]) = .returned (.tuple #[.int .u64 ((fkN [b0, b1, b2, b3, b4, b5, b6, b7] : Nat) : Int), .int .i64 (fkE [b0, b1, b2, b3, b4, b5, b6, b7])])
          rw [K1.out, E1.out]
          rfl
  · have hk : fkN s.data.toList = 0 := by
      unfold fkN
      rw [if_neg (fun h => hs h.1)]
    have he : fkE s.data.toList = 70 := by
      unfold fkE
      rw [if_neg (fun h => hs h.1)]
    rw [hk, he]
    clear hk he
    have hi : ¬ (s.size : Int) = 8 := by omega
    go_enter Try.func25, Try.ntmps25
    go_wp2
    go_ret2
    exact ⟨rfl, rfl⟩

end Go.Proofs.Ytmhgjijpilhcdaa
