/- Check of ops: the reference's. Conditions: lists of at most a million ops. -/
import Derived.Deep.CutBlock
import Derived.Deep.DeepCutAuto
import Derived.Test.YtgipkikedacmdaaGreatMg38
set_option maxRecDepth 100000
set_option maxHeartbeats 16000000
set_option linter.unusedVariables false
set_option linter.unusedSimpArgs false
namespace Go.Proofs.YtgipkikedacmdaaGreat
open Go.Lib renaming hid → hI
open S3 SN
namespace SP
open Go.ChangeShapes Go.WideShapes Go.ChangeAt Go.RowKit Go.Joins Go.Deep
theorem refcheck8_any (va : Value) (l : List Opr) (w : World) (hlen : l.length ≤ 1000000) (h : SlG eO w va l) (hn64 : ∀ o ∈ l, o.2.2.2 < 18446744073709551616) : Calls Tryz.prog 56 #[va] w fun e w' => e = .returned (.int .i64 (checkP l)) ∧ Below w.heap.size w w' := by
 obtain ⟨a, cap, rfl⟩ := h.form
 have HL := hI h
 have HN64 := hI hn64
 clear h hn64
 by_cases h8 : 8 < l.length
 ·have HV : Hid (checkP l = 6) := by unfold checkP; exact if_pos h8
  have h8I : (8 : Int) < (l.length : Int) := by omega
  go_enter Tryz.func56, Tryz.ntmps56
  go_wp2
  go_ret
  exact ⟨ret_i HV.out.symm, Below.refl _ _⟩
 ·have h8I : ¬ (8 : Int) < (l.length : Int) := by omega
  go_enter Tryz.func56, Tryz.ntmps56
  go_wp2_with fail
  go_loopw [3] (fun i wr => ∃ k : Nat, k ≤ l.length ∧ i = .int .i64 k ∧ (∀ x ∈ l.take k, okB x = true) ∧ Below w.heap.size w wr) (fun i _ => l.length - (RowKit.intOf i).toNat)
  case atStart => exact ⟨0, Nat.zero_le _, rfl, fun x hx => by simp at hx, Below.refl _ _⟩
  case round =>
   obtain ⟨k, hk, rfl, hok, hb⟩ := hrel
   have HB := hI hb
   have HOK := hI hok
   clear hb hok
   by_cases hlt : k < l.length
   ·obtain ⟨⟨kd, key, tz, n⟩, hx⟩ := at_lt hlt
    have HX := hI hx
    have hn64 : n < 18446744073709551616 := HN64.out _ (List.mem_of_getElem? hx)
    have HLr := HL.out.later HB.out
    obtain ⟨g, o, hA, hg, c0, c1, c2, c3⟩ := ops_at HLr hx
    simp only at c0 c1 c2 c3
    have hk1 : (k : Int) < (l.length : Int) := by omega
    have hdk : decide ((k : Int) < (l.length : Int)) = true := decide_eq_true hk1
    have hdn : decide (k < l.length) = true := decide_eq_true hlt
    clear hx HLr
    subst hA
    ·skip
     have hnB : ((n : Int) == 0) = decide (n = 0) := by
      by_cases hz : n = 0
      ·subst hz; rfl
      ·rw [decide_eq_false hz]; simpa using hz
     by_cases hkd : kd = 1 ∨ kd = 5 ∨ kd = 2 ∨ kd = 3 ∨ kd = 4 ∨ kd = 6
     ·
      go_upto_block 2 with fail
      go_cut [5, 6] from 20 to 60 (fun s5 s6 wx => ∃ b5 b6 : Bool, s5 = .bool b5 ∧ s6 = .bool b6 ∧ suitB (kd, key, tz, n) = (b5 && b6) ∧ wx = wr.alloc (.cells #[.int .i64 kd, .string key, .string tz, .int .u64 (n : Int)] 79))
      case first =>
       rcases hkd with rfl | rfl | rfl | rfl | rfl | rfl
       ·
        go_wp2_with (first | (go_at_call 141; refine (refkey_any tz _).mono ?_; rw [hKT]; rintro e w' ⟨rfl, rfl⟩) | fail)
        go_meet
        exact ⟨_, _, rfl, rfl, by simp [suitB, noT, *], rfl⟩
       ·
        go_wp2_with (first | (go_at_call 141; refine (refkey_any tz _).mono ?_; rw [hKT]; rintro e w' ⟨rfl, rfl⟩) | fail)
        go_meet
        exact ⟨_, _, rfl, rfl, by simp [suitB, noT, *], rfl⟩
       ·cases hT : noT tz
        ·have t2 : tz.toList.isEmpty = false := hT
         cases hKT : keyB tz
         ·
          go_wp2_with (first | (go_at_call 141; refine (refkey_any tz _).mono ?_; rw [hKT]; rintro e w' ⟨rfl, rfl⟩) | fail)
          go_meet
          exact ⟨_, _, rfl, rfl, by simp [suitB, noT, *], rfl⟩
         ·cases hL : ltT key tz
          ·have t3 : Op.bytesLess key.toList tz.toList = false := hL
           cases hM : ltT tz key
           ·have t4 : Op.bytesLess tz.toList key.toList = false := hM
            have t5 : (tz.toList == key.toList) = true := by rw [lt_total hM hL]; exact beq_self_eq_true _
            go_wp2_with (first | (go_at_call 141; refine (refkey_any tz _).mono ?_; rw [hKT]; rintro e w' ⟨rfl, rfl⟩) | fail)
            go_meet
            exact ⟨_, _, rfl, rfl, by simp [suitB, noT, *], rfl⟩
           ·have t4 : Op.bytesLess tz.toList key.toList = true := hM
            go_wp2_with (first | (go_at_call 141; refine (refkey_any tz _).mono ?_; rw [hKT]; rintro e w' ⟨rfl, rfl⟩) | fail)
            go_meet
            exact ⟨_, _, rfl, rfl, by simp [suitB, noT, *], rfl⟩
          ·have t3 : Op.bytesLess key.toList tz.toList = true := hL
           have t4 : Op.bytesLess tz.toList key.toList = false := lt_asymm hL
           have t5 : (tz.toList == key.toList) = false := by
            rw [beq_eq_false_iff_ne]
            intro e
            exact lt_ne hL (text_ext e).symm
           go_wp2_with (first | (go_at_call 141; refine (refkey_any tz _).mono ?_; rw [hKT]; rintro e w' ⟨rfl, rfl⟩) | fail)
           go_meet
           exact ⟨_, _, rfl, rfl, by simp [suitB, noT, *], rfl⟩
        ·have t2 : tz.toList.isEmpty = true := hT
         go_wp2_with (first | (go_at_call 141; refine (refkey_any tz _).mono ?_; rw [hKT]; rintro e w' ⟨rfl, rfl⟩) | fail)
         go_meet
         exact ⟨_, _, rfl, rfl, by simp [suitB, noT, *], rfl⟩
       ·
        go_wp2_with (first | (go_at_call 141; refine (refkey_any tz _).mono ?_; rw [hKT]; rintro e w' ⟨rfl, rfl⟩) | fail)
        go_meet
        exact ⟨_, _, rfl, rfl, by simp [suitB, noT, *], rfl⟩
       ·
        go_wp2_with (first | (go_at_call 141; refine (refkey_any tz _).mono ?_; rw [hKT]; rintro e w' ⟨rfl, rfl⟩) | fail)
        go_meet
        exact ⟨_, _, rfl, rfl, by simp [suitB, noT, *], rfl⟩
       ·cases hKT : keyB tz
        ·
         go_wp2_with (first | (go_at_call 141; refine (refkey_any tz _).mono ?_; rw [hKT]; rintro e w' ⟨rfl, rfl⟩) | fail)
         go_meet
         exact ⟨_, _, rfl, rfl, by simp [suitB, noT, *], rfl⟩
        ·
         go_wp2_with (first | (go_at_call 141; refine (refkey_any tz _).mono ?_; rw [hKT]; rintro e w' ⟨rfl, rfl⟩) | fail)
         go_meet
         exact ⟨_, _, rfl, rfl, by simp [suitB, noT, *], rfl⟩
      case rest =>
       obtain ⟨b5, b6, rfl, rfl, hs, rfl⟩ := hcut
       cases hk : keyB key
       ·
        have HV := hI (check_bad h8 HX.out (by simp [okB, hs, *]))
        go_wp2_with (first | (go_at_call 141; refine (refkey_any key _).mono ?_; rw [hk]; rintro e w' ⟨rfl, rfl⟩) | (go_at_call 142; refine (ris_any n hn64 _).mono ?_; rw [hn]; rintro e w' ⟨rfl, rfl⟩))
        go_ret
        exact ⟨ret_i HV.out.symm, blAlloc HB.out _⟩
       ·cases b5
        ·
         have HV := hI (check_bad h8 HX.out (by simp [okB, hs, *]))
         go_wp2_with (first | (go_at_call 141; refine (refkey_any key _).mono ?_; rw [hk]; rintro e w' ⟨rfl, rfl⟩) | (go_at_call 142; refine (ris_any n hn64 _).mono ?_; rw [hn]; rintro e w' ⟨rfl, rfl⟩))
         go_ret
         exact ⟨ret_i HV.out.symm, blAlloc HB.out _⟩
        ·cases b6
         ·
          have HV := hI (check_bad h8 HX.out (by simp [okB, hs, *]))
          go_wp2_with (first | (go_at_call 141; refine (refkey_any key _).mono ?_; rw [hk]; rintro e w' ⟨rfl, rfl⟩) | (go_at_call 142; refine (ris_any n hn64 _).mono ?_; rw [hn]; rintro e w' ⟨rfl, rfl⟩))
          go_ret
          exact ⟨ret_i HV.out.symm, blAlloc HB.out _⟩
         ·by_cases hr : rtN n = n
          ·have hn : decide (chN n = 0) = true := by unfold chN; rw [if_pos hr]; rfl
           have HT := hI (take_ok HX.out HOK.out (by simp [okB, hs, *]))
           go_wp2_with (first | (go_at_call 141; refine (refkey_any key _).mono ?_; rw [hk]; rintro e w' ⟨rfl, rfl⟩) | (go_at_call 142; refine (ris_any n hn64 _).mono ?_; rw [hn]; rintro e w' ⟨rfl, rfl⟩))
           go_roundw
           case rel => exact ⟨k + 1, hlt, by go_num, HT.out, blAlloc HB.out _⟩
           case measure => simp [RowKit.intOf]; omega
          ·have hn : decide (chN n = 0) = false := by unfold chN; rw [if_neg hr]; rfl
           have HV := hI (check_bad h8 HX.out (by simp [okB, hs, *]))
           go_wp2_with (first | (go_at_call 141; refine (refkey_any key _).mono ?_; rw [hk]; rintro e w' ⟨rfl, rfl⟩) | (go_at_call 142; refine (ris_any n hn64 _).mono ?_; rw [hn]; rintro e w' ⟨rfl, rfl⟩))
           go_ret
           exact ⟨ret_i HV.out.symm, blAlloc HB.out _⟩
     ·simp only [not_or] at hkd
      obtain ⟨k1, k5, k2, k3, k4, k6⟩ := hkd
      have HV := hI (check_bad h8 HX.out (by simp [okB, suitB, *]))
      go_wp2_with fail
      go_ret
      exact ⟨ret_i HV.out.symm, blAlloc HB.out _⟩
   ·have hge : ¬ (k : Int) < (l.length : Int) := by omega
    have hdk : decide ((k : Int) < (l.length : Int)) = false := decide_eq_false hge
    have hdn : decide (k < l.length) = false := decide_eq_false hlt
    by_cases h0 : l = []
    ·subst h0
     go_wp2
     go_ret
     exact ⟨rfl, HB.out⟩
    ·have h0n : ¬ l.length = 0 := fun e => h0 (List.eq_nil_of_length_eq_zero e)
     have h0I : ¬ (l.length : Int) = 0 := by omega
     have HV := hI (check_good h8 h0 (by omega) HOK.out)
     go_wp2
     go_ret
     exact ⟨ret_i HV.out.symm, HB.out⟩
end SP
end Go.Proofs.YtgipkikedacmdaaGreat
