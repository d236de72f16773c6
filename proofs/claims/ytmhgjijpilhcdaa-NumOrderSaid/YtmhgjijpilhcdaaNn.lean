/- The contract of the reference's FromKey. Conditions: none. -/
import Derived.Test.YtmhgjijpilhcdaaNm
namespace Go.Proofs.Ytmhgjijpilhcdaa
open Go.RowKit Go.Sort

theorem rg_top (n : Nat) (h : n < 18446744073709551616) (h1 : ¬ n < 9223372036854775808) : rg n = n - 9223372036854775808 := by
  unfold rg
  omega

set_option maxRecDepth 100000 in
set_option maxHeartbeats 2000000 in
theorem rfromKey_any (s : ByteArray) (w : World) : Calls Try.prog 26 #[.string s] w fun e w' => e = .returned (.tuple #[.int .u64 ((fkN s.data.toList : Nat) : Int), .int .i64 (fkE s.data.toList)]) ∧ w = w' := by
  by_cases hs : s.size = 8
  · obtain ⟨b0, b1, b2, b3, b4, b5, b6, b7, rfl⟩ := eight s hs
    clear hs
    have hv := beV_eight [b0, b1, b2, b3, b4, b5, b6, b7] rfl
    have hk : fkN [b0, b1, b2, b3, b4, b5, b6, b7] = (if chN (unN (beV [b0, b1, b2, b3, b4, b5, b6, b7])) = 0 then unN (beV [b0, b1, b2, b3, b4, b5, b6, b7]) else 0) := by simp [fkN]
    have he : fkE [b0, b1, b2, b3, b4, b5, b6, b7] = (if chN (unN (beV [b0, b1, b2, b3, b4, b5, b6, b7])) = 0 then 0 else 70) := by simp [fkE]
    have HV := Lib.hid hv
    have HK := Lib.hid hk
    have HE := Lib.hid he
    clear hv hk he
    go_enter Try.func26, Try.ntmps26
    go_wp2
    go_loopw [4, 5] (fun r i wr => ∃ j : Nat, j ≤ 8 ∧ i = .int .i64 j ∧ r = .int .u64 ((beV ([b0, b1, b2, b3, b4, b5, b6, b7].take j) : Nat) : Int) ∧ wr = w) (fun _ i _ => 8 - (intOf i).toNat)
    case atStart => exact ⟨0, Nat.zero_le _, rfl, by rw [List.take_zero, beV_nil]; rfl, rfl⟩
    case round =>
      obtain ⟨j, hj, rfl, rfl, rfl⟩ := hrel
      by_cases hlt : j < 8
      · have hj' : j = 0 ∨ j = 1 ∨ j = 2 ∨ j = 3 ∨ j = 4 ∨ j = 5 ∨ j = 6 ∨ j = 7 := by omega
        rcases hj' with rfl | rfl | rfl | rfl | rfl | rfl | rfl | rfl
        · have HS := Lib.hid (step_eq [] [b0] b0 (Nat.zero_le _) rfl)
          have e1 : [b0, b1, b2, b3, b4, b5, b6, b7].take 0 = [] := rfl
          rw [e1]
          clear e1
          generalize beV [] = r at *
          go_wp2
          exact ⟨⟨1, by decide, rfl, HS.out, trivial⟩, by simp [intOf]⟩
        · have HS := Lib.hid (step_eq [b0] [b0, b1] b1 (by simp) rfl)
          have e1 : [b0, b1, b2, b3, b4, b5, b6, b7].take 1 = [b0] := rfl
          rw [e1]
          clear e1
          generalize beV [b0] = r at *
          go_wp2
          exact ⟨⟨2, by decide, rfl, HS.out, trivial⟩, by simp [intOf]⟩
        · have HS := Lib.hid (step_eq [b0, b1] [b0, b1, b2] b2 (by simp) rfl)
          have e1 : [b0, b1, b2, b3, b4, b5, b6, b7].take 2 = [b0, b1] := rfl
          rw [e1]
          clear e1
          generalize beV [b0, b1] = r at *
          go_wp2
          exact ⟨⟨3, by decide, rfl, HS.out, trivial⟩, by simp [intOf]⟩
        · have HS := Lib.hid (step_eq [b0, b1, b2] [b0, b1, b2, b3] b3 (by simp) rfl)
          have e1 : [b0, b1, b2, b3, b4, b5, b6, b7].take 3 = [b0, b1, b2] := rfl
          rw [e1]
          clear e1
          generalize beV [b0, b1, b2] = r at *
          go_wp2
          exact ⟨⟨4, by decide, rfl, HS.out, trivial⟩, by simp [intOf]⟩
        · have HS := Lib.hid (step_eq [b0, b1, b2, b3] [b0, b1, b2, b3, b4] b4 (by simp) rfl)
          have e1 : [b0, b1, b2, b3, b4, b5, b6, b7].take 4 = [b0, b1, b2, b3] := rfl
          rw [e1]
          clear e1
          generalize beV [b0, b1, b2, b3] = r at *
          go_wp2
          exact ⟨⟨5, by decide, rfl, HS.out, trivial⟩, by simp [intOf]⟩
        · have HS := Lib.hid (step_eq [b0, b1, b2, b3, b4] [b0, b1, b2, b3, b4, b5] b5 (by simp) rfl)
          have e1 : [b0, b1, b2, b3, b4, b5, b6, b7].take 5 = [b0, b1, b2, b3, b4] := rfl
          rw [e1]
          clear e1
          generalize beV [b0, b1, b2, b3, b4] = r at *
          go_wp2
          exact ⟨⟨6, by decide, rfl, HS.out, trivial⟩, by simp [intOf]⟩
        · have HS := Lib.hid (step_eq [b0, b1, b2, b3, b4, b5] [b0, b1, b2, b3, b4, b5, b6] b6 (by simp) rfl)
          have e1 : [b0, b1, b2, b3, b4, b5, b6, b7].take 6 = [b0, b1, b2, b3, b4, b5] := rfl
          rw [e1]
          clear e1
          generalize beV [b0, b1, b2, b3, b4, b5] = r at *
          go_wp2
          exact ⟨⟨7, by decide, rfl, HS.out, trivial⟩, by simp [intOf]⟩
        · have HS := Lib.hid (step_eq [b0, b1, b2, b3, b4, b5, b6] [b0, b1, b2, b3, b4, b5, b6, b7] b7 (by simp) rfl)
          have e1 : [b0, b1, b2, b3, b4, b5, b6, b7].take 7 = [b0, b1, b2, b3, b4, b5, b6] := rfl
          rw [e1]
          clear e1
          generalize beV [b0, b1, b2, b3, b4, b5, b6] = r at *
          go_wp2
          exact ⟨⟨8, by decide, rfl, HS.out, trivial⟩, by simp [intOf]⟩
      · obtain rfl : j = 8 := by omega
        have e1 : [b0, b1, b2, b3, b4, b5, b6, b7].take 8 = [b0, b1, b2, b3, b4, b5, b6, b7] := rfl
        rw [e1]
        clear e1
        have hx := HV.out
        clear HV
        generalize beV [b0, b1, b2, b3, b4, b5, b6, b7] = x at *
        have hm : IntKind.u64.max = ((18446744073709551615 : Nat) : Int) := by decide
        have ho : bits .andNot .u64 (x : Int) 9223372036854775808 = ((x &&& (18446744073709551615 - 9223372036854775808) : Nat) : Int) := u64_andNot_nat x 9223372036854775808 hx (by decide)
        have ha : bits .and .u64 (x : Int) 9223372036854775808 = ((x &&& 9223372036854775808 : Nat) : Int) := u64_and_nat x 9223372036854775808 hx (by decide)
        have hu : bits .xor .u64 IntKind.u64.max (x : Int) = ((18446744073709551615 ^^^ x : Nat) : Int) := by rw [hm]; exact u64_xor_nat 18446744073709551615 x (by decide) hx
        clear hm
        rw [and_top _ hx] at ha
        rw [low_top] at ho
        rw [xor_all _ hx] at hu
        have hl := unN_lt x hx
        have hc := fun w => ris_any (unN x) hl w
        by_cases h0 : chN (unN x) = 0
        · have K1 : Hid (fkN [b0, b1, b2, b3, b4, b5, b6, b7] = unN x) := by show _ = _; rw [HK.out, if_pos h0]
          have E1 : Hid (fkE [b0, b1, b2, b3, b4, b5, b6, b7] = 0) := by show _ = _; rw [HE.out, if_pos h0]
          have hd : decide (chN (unN x) = 0) = true := decide_eq_true h0
          clear HK HE h0 hl
          by_cases h : x < 9223372036854775808
          · have hun : unN x = 18446744073709551615 - x := by unfold unN; rw [if_pos h]
            rw [hd] at hc
            rw [hun] at hc K1
            rw [if_pos h] at ha
            clear ho hd hun
            generalize 18446744073709551615 - x = m at *
            go_wp2_with fail
            refine (hc _).mono ?_; rintro e w' ⟨rfl, rfl⟩
            go_wp2
            go_ret2
            refine ⟨?_, rfl⟩
            show Ending.returned (.tuple #[.int .u64 ((m : Nat) : Int), .int .i64 0]) = .returned (.tuple #[.int .u64 ((fkN [b0, b1, b2, b3, b4, b5, b6, b7] : Nat) : Int), .int .i64 (fkE [b0, b1, b2, b3, b4, b5, b6, b7])])
            rw [K1.out, E1.out]
          · have hun : unN x = rg x := by unfold unN; rw [if_neg h, rg_top x hx h]
            rw [hd] at hc
            rw [hun] at hc K1
            rw [if_neg h] at ha
            clear hu hd hun
            generalize rg x = m at *
            go_wp2_with fail
            refine (hc _).mono ?_; rintro e w' ⟨rfl, rfl⟩
            go_wp2
            go_ret2
            refine ⟨?_, rfl⟩
            show Ending.returned (.tuple #[.int .u64 ((m : Nat) : Int), .int .i64 0]) = .returned (.tuple #[.int .u64 ((fkN [b0, b1, b2, b3, b4, b5, b6, b7] : Nat) : Int), .int .i64 (fkE [b0, b1, b2, b3, b4, b5, b6, b7])])
            rw [K1.out, E1.out]
        · have K1 : Hid (fkN [b0, b1, b2, b3, b4, b5, b6, b7] = 0) := by show _ = _; rw [HK.out, if_neg h0]
          have E1 : Hid (fkE [b0, b1, b2, b3, b4, b5, b6, b7] = 70) := by show _ = _; rw [HE.out, if_neg h0]
          have hd : decide (chN (unN x) = 0) = false := decide_eq_false h0
          clear HK HE h0 hl
          by_cases h : x < 9223372036854775808
          · have hun : unN x = 18446744073709551615 - x := by unfold unN; rw [if_pos h]
            rw [hd] at hc
            rw [hun] at hc
            rw [if_pos h] at ha
            clear ho hd hun
            generalize 18446744073709551615 - x = m at *
            go_wp2_with fail
            refine (hc _).mono ?_; rintro e w' ⟨rfl, rfl⟩
            go_wp2
            go_ret2
            refine ⟨?_, rfl⟩
            show Ending.returned (.tuple #[.int .u64 0, .int .i64 70]) = .returned (.tuple #[.int .u64 ((fkN [b0, b1, b2, b3, b4, b5, b6, b7] : Nat) : Int), .int .i64 (fkE [b0, b1, b2, b3, b4, b5, b6, b7])])
            rw [K1.out, E1.out]
            rfl
          · have hun : unN x = rg x := by unfold unN; rw [if_neg h, rg_top x hx h]
            rw [hd] at hc
            rw [hun] at hc
            rw [if_neg h] at ha
            clear hu hd hun
            generalize rg x = m at *
            go_wp2_with fail
            refine (hc _).mono ?_; rintro e w' ⟨rfl, rfl⟩
            go_wp2
            go_ret2
            refine ⟨?_, rfl⟩
            show Ending.returned (.tuple #[.int .u64 0, .int .i64 70]) = .returned (.tuple #[.int .u64 ((fkN [b0, b1, b2, b3, b4, b5, b6, b7] : Nat) : Int), .int .i64 (fkE [b0, b1, b2, b3, b4, b5, b6, b7])])
            rw [K1.out, E1.out]
            rfl
  · have hk : fkN s.data.toList = 0 := by
      unfold fkN
      rw [if_neg (fun h => hs h.1)]
    have he : fkE s.data.toList = 70 := by
      unfold fkE
      rw [if_neg (fun h => hs h.1)]
    rw [hk, he]
    clear hk he
    have hi : ¬ (s.size : Int) = 8 := by omega
    go_enter Try.func26, Try.ntmps26
    go_wp2
    go_ret2
    exact ⟨rfl, rfl⟩

end Go.Proofs.Ytmhgjijpilhcdaa
