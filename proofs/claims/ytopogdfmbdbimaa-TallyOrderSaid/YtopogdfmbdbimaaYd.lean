/- TallyOrder: the order of answers has no part; none is taken back: the law returns true. Conditions: none. -/
import Derived.Test.YtopogdfmbdbimaaWm
set_option linter.unusedVariables false
set_option linter.unusedSimpArgs false
namespace Go.Proofs.Ytopogdfmbdbimaa
open Go.ChangeShapes Go.WideShapes Go.ChangeAt Go.RowKit Go.Joins Go.Deep

theorem has_reverse (l : List Int) (n : Int) : hasN l.reverse n = hasN l n := by simp [hasN]
theorem sameI_refl (l : List Int) : sameI l l = true := by simp [sameI]

set_option maxRecDepth 100000 in
set_option maxHeartbeats 8000000 in
theorem tallyOrder_walk (a : Option Addr) (c : Nat) (l : List Sh) (aS : Option Addr) (cS : Nat) (S : List Int) (aX : Option Addr) (cX : Nat) (X : List Int) (w : World) (hh : Hl w a l) (hm : l.length ≤ 9223372036854775807) (hS : Il w aS cS S) (hS9 : S.length ≤ 9223372036854775807) (hSw : ∀ n ∈ S, (Lit.int .i64 n).wf = true) (hX : Il w aX cX X) (hX9 : X.length ≤ 9223372036854775807) (hXw : ∀ n ∈ X, (Lit.int .i64 n).wf = true) :
    Calls Try.prog 5 #[.slice a l.length c, .slice aS S.length cS, .slice aX X.length cX] w fun e w' => e = .returned (.bool true) ∧ Below w.heap.size w w' := by
  have HH0 := Lib.hid hh
  have HLM := Lib.hid hm
  have HS := Lib.hid hS
  have HSW := Lib.hid hSw
  have HX := Lib.hid hX
  have HXW := Lib.hid hXw
  have HB := Lib.hid (Below.refl w.heap.size w)
  clear hh hm hS hSw hX hXw
  go_enter Try.func5, Try.ntmps5
  go_wp2_with fail
  refine (tright_any _ _ l _ HH0.out HLM.out).mono ?_
  rintro e _ ⟨b, rfl, htb, hb⟩
  replace HB := Lib.hid (blThen HB.out hb)
  clear hb
  cases b
  · go_wp2_with fail
    refine (tlive5_any TC _).mono ?_
    rintro e _ ⟨rfl, hb⟩
    go_wp2
    go_ret
    exact ⟨rfl, blThen HB.out hb⟩
  have HTP := Lib.hid (topo_of (htb rfl))
  have HN5 := Lib.hid (topo_n5 HTP.out)
  have H8 : Hid (l.length ≤ 1000000) := Nat.le_trans HTP.out.len (by decide)
  clear htb
  by_cases hbigS : 40 < S.length
  · have hbigI : (40 : Int) < (S.length : Int) := by omega
    have hdS : decide ((40 : Int) < (S.length : Int)) = true := decide_eq_true hbigI
    go_wp2_with fail
    refine (tlive5_any TC _).mono ?_
    rintro e _ ⟨rfl, hb⟩
    go_wp2
    go_ret
    exact ⟨rfl, blThen HB.out hb⟩
  have hbigIS : ¬ (40 : Int) < (S.length : Int) := by omega
  have hdS : decide ((40 : Int) < (S.length : Int)) = false := decide_eq_false hbigIS
  have HS40 : Hid (S.length ≤ 40) := by show _ ≤ _; omega
  by_cases hbigX : 40 < X.length
  · have hbigI : (40 : Int) < (X.length : Int) := by omega
    have hdX : decide ((40 : Int) < (X.length : Int)) = true := decide_eq_true hbigI
    go_wp2_with fail
    refine (tlive5_any TC _).mono ?_
    rintro e _ ⟨rfl, hb⟩
    go_wp2
    go_ret
    exact ⟨rfl, blThen HB.out hb⟩
  have hbigIX : ¬ (40 : Int) < (X.length : Int) := by omega
  have hdX : decide ((40 : Int) < (X.length : Int)) = false := decide_eq_false hbigIX
  have HX40 : Hid (X.length ≤ 40) := by show _ ≤ _; omega
  clear hbigS hbigX
  go_wp2_with fail
  refine (TC.new w _ _ _ l _ _ S HTP.out (Nat.le_trans HS40.out (by decide)) HH0.out HB.out (HS.out.later HB.out)).mono ?_
  rintro e _ ⟨bu, Fu, rfl, hp, hb, hf⟩
  replace HB := Lib.hid (blThen HB.out hb)
  clear hb
  have HPu := Lib.hid hp
  clear hp hf
  go_wp2_with fail
  refine (TC.new w _ _ _ l _ _ S HTP.out (Nat.le_trans HS40.out (by decide)) HH0.out HB.out (HS.out.later HB.out)).mono ?_
  rintro e _ ⟨bv, Fv, rfl, hp, hb, hf⟩
  have HDvu : Hid (∀ z, Fv z → ¬ Fu z) := fun z hz hg => Nat.lt_irrefl _ (Nat.lt_of_lt_of_le (TC.sep HPu.out z hg).2 (hf z hz))
  replace HB := Lib.hid (blThen HB.out hb)
  replace HPu := Lib.hid (TC.later HPu.out hb)
  clear hb
  have HPv := Lib.hid hp
  clear hp hf
  generalize placesL l S = P at *
  go_wp2_with fail
  refine (TC.quorum (by decide) HPu.out).mono ?_
  rintro e _ ⟨rfl, hb⟩
  replace HB := Lib.hid (blThen HB.out hb)
  replace HPu := Lib.hid (TC.later HPu.out hb)
  replace HPv := Lib.hid (TC.later HPv.out hb)
  clear hb
  go_wp2_with fail
  refine (TC.all (by decide) HPu.out).mono ?_
  rintro e _ ⟨rfl, hb⟩
  replace HB := Lib.hid (blThen HB.out hb)
  replace HPu := Lib.hid (TC.later HPu.out hb)
  replace HPv := Lib.hid (TC.later HPv.out hb)
  clear hb
  go_wp2
  go_loopw [9, 10, 11] (fun q al i wr => ∃ (k : Nat) (Fu Fv : Nat → Prop), k ≤ X.length ∧ i = .int .i64 k ∧ q = .bool (quoB l P (hasN (addL l P [] (X.take k)))) ∧ al = .bool (doneB l P (hasN (addL l P [] (X.take k)))) ∧ PTo w wr bu l P (addL l P [] (X.take k)) Fu ∧ PTo w wr bv l P (addL l P [] (X.reverse.take k)) Fv ∧ Below w.heap.size w wr ∧ ∀ z, Fv z → ¬ Fu z) (fun _ _ i _ => X.length - (intOf i).toNat)
  case atStart => exact ⟨0, Fu, Fv, Nat.zero_le _, rfl, rfl, rfl, HPu.out, HPv.out, HB.out, HDvu.out⟩
  case round =>
    clear HPu HPv HB HDvu
    obtain ⟨k, Fu, Fv, hk, rfl, rfl, rfl, hpu, hpv, hb, hd⟩ := hrel
    have HPu := Lib.hid hpu
    have HPv := Lib.hid hpv
    have HB := Lib.hid hb
    have HDvu := Lib.hid hd
    clear hpu hpv hb hd
    have hx40 := HX40.out
    have HNu : Hid ((addL l P [] (X.take k)).length ≤ 1000) := Nat.le_trans (addL_len0 _ _ _) (Nat.le_trans (by rw [List.length_take]; omega) (show 40 ≤ 1000 by decide))
    have HNv : Hid ((addL l P [] (X.reverse.take k)).length ≤ 1000) := Nat.le_trans (addL_len0 _ _ _) (Nat.le_trans (by rw [List.length_take, List.length_reverse]; omega) (show 40 ≤ 1000 by decide))
    by_cases hlt : k < X.length
    · obtain ⟨x, hx⟩ := at_lt hlt
      obtain ⟨m, hm⟩ : ∃ m : Nat, X.length = m + 1 + k := ⟨X.length - 1 - k, by omega⟩
      obtain ⟨y, hy⟩ := at_lt (l := X) (k := m) (by omega)
      have hyr : X.reverse[k]? = some y := by
        rw [List.getElem?_reverse hlt, show X.length - 1 - k = m by omega]
        exact hy
      have HWX := Lib.hid (HXW.out x (List.mem_of_getElem? hx))
      have HWY := Lib.hid (HXW.out y (List.mem_of_getElem? hy))
      have hxx := hx
      obtain ⟨g, o, rfl, hg, e0⟩ := HX.out.at hx
      obtain ⟨g2, o2, he2, hg2, d0⟩ := HX.out.at hy
      simp only [Option.some.injEq, Addr.mk.injEq, and_true] at he2
      obtain ⟨rfl, rfl⟩ := he2
      have E1 := Lib.hid (fun (W : World) (hb : Below w.heap.size w W) => (⟨cell_in hb hg e0, cell_in hb hg d0, Nat.lt_of_lt_of_le hg hb.size⟩ : W.cell? ⟨g, o + k, none⟩ = some (.int .i64 x) ∧ W.cell? ⟨g, o + m, none⟩ = some (.int .i64 y) ∧ g < W.heap.size))
      obtain ⟨e1, d1, hgw⟩ := E1.out _ HB.out
      have hk0 : (0 : Int) ≤ (k : Int) := by omega
      have hk1 : (k : Int) < (X.length : Int) := by omega
      have hdk : decide ((k : Int) < (X.length : Int)) = true := decide_eq_true hk1
      have hm0 : (0 : Int) ≤ (m : Int) := by omega
      have hm1 : (m : Int) < (X.length : Int) := by omega
      have hme : (X.length : Int) - 1 - (k : Int) = (m : Int) := by omega
      have HTK := Lib.hid (addL_take (l := l) (P := P) (N := []) hx)
      have HTY := Lib.hid (addL_take (l := l) (P := P) (N := []) hyr)
      have HMO : Hid (∀ n, hasN (addL l P [] (X.take k)) n = true → hasN (addL l P [] (X.take (k + 1))) n = true) := fun n hn => by rw [HTK.out, addS_has, hn]; rfl
      have HQQ := Lib.hid (fun h => quo_mono (l := l) (S := P) HMO.out h)
      have HDD := Lib.hid (fun h => done_mono (l := l) (S := P) HMO.out h)
      have HDQ := Lib.hid (fun h => done_quo HTP.out (S := P) (f := hasN (addL l P [] (X.take (k + 1)))) h)
      have HQE := Lib.hid (fun h => quo_each (l := l) (S := P) (f := hasN (addL l P [] (X.take (k + 1)))) h)
      have HN2 : Hid ((addL l P [] (X.take (k + 1))).length ≤ 1000) := Nat.le_trans (addL_len0 _ _ _) (Nat.le_trans (by rw [List.length_take]; omega) (show 40 ≤ 1000 by decide))
      clear hx hy hyr hxx e0 d0 hg hg2 HMO hm
      go_wp2_with fail
      refine (TC.add (x) HWX.out HNu.out HPu.out).mono ?_
      rintro e _ ⟨F2, rfl, hp, hk, hn⟩
      have hq := add_below HPu.out HB.out hk
      replace HB := Lib.hid hq.1
      clear hq
      have hy := add_other HPv.out hk hn (fun z hz => (TC.sep HPu.out z hz).1) (apart_swap HDvu.out)
      replace HPv := Lib.hid hy.1
      replace HDvu := Lib.hid (apart_swap hy.2)
      clear hy
      replace HPu := Lib.hid hp
      clear hp hk hn
      rw [← HTK.out] at HPu
      clear e1 d1 hgw
      obtain ⟨e1, d1, hgw⟩ := E1.out _ HB.out
      go_wp2_with fail
      refine (TC.add (y) HWY.out HNv.out HPv.out).mono ?_
      rintro e _ ⟨F2, rfl, hp, hk, hn⟩
      have hq := add_below HPv.out HB.out hk
      replace HB := Lib.hid hq.1
      clear hq
      have hy := add_other HPu.out hk hn (fun z hz => (TC.sep HPv.out z hz).1) HDvu.out
      replace HPu := Lib.hid hy.1
      replace HDvu := Lib.hid hy.2
      clear hy
      replace HPv := Lib.hid hp
      clear hp hk hn
      rw [← HTY.out] at HPv
      clear e1 d1 hgw hm1 hme hm0 E1
      generalize (addL l P [] (X.take k)) = N at *
      generalize hN2 : (addL l P [] (X.take (k + 1))) = N2 at *
      have HNE := Lib.hid hN2
      clear hN2
      generalize hq0 : quoB l P (hasN N) = q0 at *
      generalize hd0 : doneB l P (hasN N) = d0 at *
      generalize hq1 : quoB l P (hasN N2) = q1 at *
      generalize hd1 : doneB l P (hasN N2) = d1 at *
      generalize he1 : eachB l P (hasN N2) = e1 at *
      have HQ1 := Lib.hid hq1
      have HD1 := Lib.hid hd1
      have HE1 := Lib.hid he1
      have HCH : Hid ((q0 = true → q1 = true) ∧ (d0 = true → d1 = true) ∧ (d1 = true → q1 = true) ∧ (q1 = true → e1 = true)) := ⟨HQQ.out, HDD.out, HDQ.out, HQE.out⟩
      clear hq0 hd0 hq1 hd1 he1 HQQ HDD HDQ HQE
      cases q1
      · obtain rfl : q0 = false := Bool.eq_false_iff.2 fun h => Bool.false_ne_true (HCH.out.1 h)
        obtain rfl : d1 = false := Bool.eq_false_iff.2 fun h => Bool.false_ne_true (HCH.out.2.2.1 h)
        obtain rfl : d0 = false := Bool.eq_false_iff.2 fun h => Bool.false_ne_true (HCH.out.2.1 h)
        clear HCH
        go_wp2_with (first | (go_at_call 13; refine (TC.quorum HN2.out HPu.out).mono ?_; rintro e wn ⟨rfl, hb⟩; replace HB := Lib.hid (blThen HB.out hb); replace HPu := Lib.hid (TC.later HPu.out hb); replace HPv := Lib.hid (TC.later HPv.out hb); clear hb; rw [HQ1.out]) | (go_at_call 15; refine (TC.all HN2.out HPu.out).mono ?_; rintro e wn ⟨rfl, hb⟩; replace HB := Lib.hid (blThen HB.out hb); replace HPu := Lib.hid (TC.later HPu.out hb); replace HPv := Lib.hid (TC.later HPv.out hb); clear hb; rw [HD1.out]) | (go_at_call 17; refine (TC.each HN2.out HPu.out).mono ?_; rintro e wn ⟨rfl, hb⟩; replace HB := Lib.hid (blThen HB.out hb); replace HPu := Lib.hid (TC.later HPu.out hb); replace HPv := Lib.hid (TC.later HPv.out hb); clear hb; rw [HE1.out]))
        go_roundw
        case rel => exact ⟨k + 1, _, _, hlt, by go_num, by rw [HNE.out, HQ1.out], by rw [HNE.out, HD1.out], by rw [HNE.out]; exact HPu.out, HPv.out, HB.out, HDvu.out⟩
        case measure => simp [intOf]; omega
      obtain rfl : e1 = true := HCH.out.2.2.2 rfl
      cases d1
      · obtain rfl : d0 = false := Bool.eq_false_iff.2 fun h => Bool.false_ne_true (HCH.out.2.1 h)
        clear HCH
        cases q0
        · go_wp2_with (first | (go_at_call 13; refine (TC.quorum HN2.out HPu.out).mono ?_; rintro e wn ⟨rfl, hb⟩; replace HB := Lib.hid (blThen HB.out hb); replace HPu := Lib.hid (TC.later HPu.out hb); replace HPv := Lib.hid (TC.later HPv.out hb); clear hb; rw [HQ1.out]) | (go_at_call 15; refine (TC.all HN2.out HPu.out).mono ?_; rintro e wn ⟨rfl, hb⟩; replace HB := Lib.hid (blThen HB.out hb); replace HPu := Lib.hid (TC.later HPu.out hb); replace HPv := Lib.hid (TC.later HPv.out hb); clear hb; rw [HD1.out]) | (go_at_call 17; refine (TC.each HN2.out HPu.out).mono ?_; rintro e wn ⟨rfl, hb⟩; replace HB := Lib.hid (blThen HB.out hb); replace HPu := Lib.hid (TC.later HPu.out hb); replace HPv := Lib.hid (TC.later HPv.out hb); clear hb; rw [HE1.out]))
          go_roundw
          case rel => exact ⟨k + 1, _, _, hlt, by go_num, by rw [HNE.out, HQ1.out], by rw [HNE.out, HD1.out], by rw [HNE.out]; exact HPu.out, HPv.out, HB.out, HDvu.out⟩
          case measure => simp [intOf]; omega
        · go_wp2_with (first | (go_at_call 13; refine (TC.quorum HN2.out HPu.out).mono ?_; rintro e wn ⟨rfl, hb⟩; replace HB := Lib.hid (blThen HB.out hb); replace HPu := Lib.hid (TC.later HPu.out hb); replace HPv := Lib.hid (TC.later HPv.out hb); clear hb; rw [HQ1.out]) | (go_at_call 15; refine (TC.all HN2.out HPu.out).mono ?_; rintro e wn ⟨rfl, hb⟩; replace HB := Lib.hid (blThen HB.out hb); replace HPu := Lib.hid (TC.later HPu.out hb); replace HPv := Lib.hid (TC.later HPv.out hb); clear hb; rw [HD1.out]) | (go_at_call 17; refine (TC.each HN2.out HPu.out).mono ?_; rintro e wn ⟨rfl, hb⟩; replace HB := Lib.hid (blThen HB.out hb); replace HPu := Lib.hid (TC.later HPu.out hb); replace HPv := Lib.hid (TC.later HPv.out hb); clear hb; rw [HE1.out]))
          go_roundw
          case rel => exact ⟨k + 1, _, _, hlt, by go_num, by rw [HNE.out, HQ1.out], by rw [HNE.out, HD1.out], by rw [HNE.out]; exact HPu.out, HPv.out, HB.out, HDvu.out⟩
          case measure => simp [intOf]; omega
      · clear HCH
        cases q0
        · cases d0
          · go_wp2_with (first | (go_at_call 13; refine (TC.quorum HN2.out HPu.out).mono ?_; rintro e wn ⟨rfl, hb⟩; replace HB := Lib.hid (blThen HB.out hb); replace HPu := Lib.hid (TC.later HPu.out hb); replace HPv := Lib.hid (TC.later HPv.out hb); clear hb; rw [HQ1.out]) | (go_at_call 15; refine (TC.all HN2.out HPu.out).mono ?_; rintro e wn ⟨rfl, hb⟩; replace HB := Lib.hid (blThen HB.out hb); replace HPu := Lib.hid (TC.later HPu.out hb); replace HPv := Lib.hid (TC.later HPv.out hb); clear hb; rw [HD1.out]) | (go_at_call 17; refine (TC.each HN2.out HPu.out).mono ?_; rintro e wn ⟨rfl, hb⟩; replace HB := Lib.hid (blThen HB.out hb); replace HPu := Lib.hid (TC.later HPu.out hb); replace HPv := Lib.hid (TC.later HPv.out hb); clear hb; rw [HE1.out]))
            go_roundw
            case rel => exact ⟨k + 1, _, _, hlt, by go_num, by rw [HNE.out, HQ1.out], by rw [HNE.out, HD1.out], by rw [HNE.out]; exact HPu.out, HPv.out, HB.out, HDvu.out⟩
            case measure => simp [intOf]; omega
          · go_wp2_with (first | (go_at_call 13; refine (TC.quorum HN2.out HPu.out).mono ?_; rintro e wn ⟨rfl, hb⟩; replace HB := Lib.hid (blThen HB.out hb); replace HPu := Lib.hid (TC.later HPu.out hb); replace HPv := Lib.hid (TC.later HPv.out hb); clear hb; rw [HQ1.out]) | (go_at_call 15; refine (TC.all HN2.out HPu.out).mono ?_; rintro e wn ⟨rfl, hb⟩; replace HB := Lib.hid (blThen HB.out hb); replace HPu := Lib.hid (TC.later HPu.out hb); replace HPv := Lib.hid (TC.later HPv.out hb); clear hb; rw [HD1.out]) | (go_at_call 17; refine (TC.each HN2.out HPu.out).mono ?_; rintro e wn ⟨rfl, hb⟩; replace HB := Lib.hid (blThen HB.out hb); replace HPu := Lib.hid (TC.later HPu.out hb); replace HPv := Lib.hid (TC.later HPv.out hb); clear hb; rw [HE1.out]))
            go_roundw
            case rel => exact ⟨k + 1, _, _, hlt, by go_num, by rw [HNE.out, HQ1.out], by rw [HNE.out, HD1.out], by rw [HNE.out]; exact HPu.out, HPv.out, HB.out, HDvu.out⟩
            case measure => simp [intOf]; omega
        · cases d0
          · go_wp2_with (first | (go_at_call 13; refine (TC.quorum HN2.out HPu.out).mono ?_; rintro e wn ⟨rfl, hb⟩; replace HB := Lib.hid (blThen HB.out hb); replace HPu := Lib.hid (TC.later HPu.out hb); replace HPv := Lib.hid (TC.later HPv.out hb); clear hb; rw [HQ1.out]) | (go_at_call 15; refine (TC.all HN2.out HPu.out).mono ?_; rintro e wn ⟨rfl, hb⟩; replace HB := Lib.hid (blThen HB.out hb); replace HPu := Lib.hid (TC.later HPu.out hb); replace HPv := Lib.hid (TC.later HPv.out hb); clear hb; rw [HD1.out]) | (go_at_call 17; refine (TC.each HN2.out HPu.out).mono ?_; rintro e wn ⟨rfl, hb⟩; replace HB := Lib.hid (blThen HB.out hb); replace HPu := Lib.hid (TC.later HPu.out hb); replace HPv := Lib.hid (TC.later HPv.out hb); clear hb; rw [HE1.out]))
            go_roundw
            case rel => exact ⟨k + 1, _, _, hlt, by go_num, by rw [HNE.out, HQ1.out], by rw [HNE.out, HD1.out], by rw [HNE.out]; exact HPu.out, HPv.out, HB.out, HDvu.out⟩
            case measure => simp [intOf]; omega
          · go_wp2_with (first | (go_at_call 13; refine (TC.quorum HN2.out HPu.out).mono ?_; rintro e wn ⟨rfl, hb⟩; replace HB := Lib.hid (blThen HB.out hb); replace HPu := Lib.hid (TC.later HPu.out hb); replace HPv := Lib.hid (TC.later HPv.out hb); clear hb; rw [HQ1.out]) | (go_at_call 15; refine (TC.all HN2.out HPu.out).mono ?_; rintro e wn ⟨rfl, hb⟩; replace HB := Lib.hid (blThen HB.out hb); replace HPu := Lib.hid (TC.later HPu.out hb); replace HPv := Lib.hid (TC.later HPv.out hb); clear hb; rw [HD1.out]) | (go_at_call 17; refine (TC.each HN2.out HPu.out).mono ?_; rintro e wn ⟨rfl, hb⟩; replace HB := Lib.hid (blThen HB.out hb); replace HPu := Lib.hid (TC.later HPu.out hb); replace HPv := Lib.hid (TC.later HPv.out hb); clear hb; rw [HE1.out]))
            go_roundw
            case rel => exact ⟨k + 1, _, _, hlt, by go_num, by rw [HNE.out, HQ1.out], by rw [HNE.out, HD1.out], by rw [HNE.out]; exact HPu.out, HPv.out, HB.out, HDvu.out⟩
            case measure => simp [intOf]; omega
    · have hdk : decide ((k : Int) < (X.length : Int)) = false := decide_eq_false (by omega)
      replace HPu : Hid (PTo w wr bu l P (addL l P [] X) Fu) := by have h := HPu.out; rw [List.take_of_length_le (l := X) (by omega)] at h; exact h
      replace HPv : Hid (PTo w wr bv l P (addL l P [] X.reverse) Fv) := by have h := HPv.out; rw [List.take_of_length_le (l := X.reverse) (by rw [List.length_reverse]; omega)] at h; exact h
      replace HNu : Hid ((addL l P [] X).length ≤ 1000) := by have h := HNu.out; rw [List.take_of_length_le (l := X) (by omega)] at h; exact h
      replace HNv : Hid ((addL l P [] X.reverse).length ≤ 1000) := by have h := HNv.out; rw [List.take_of_length_le (l := X.reverse) (by rw [List.length_reverse]; omega)] at h; exact h
      have HSA : Hid (∀ n, hasN (addL l P [] X) n = hasN (addL l P [] X.reverse) n) := fun n => by rw [addL_has0, addL_has0, has_reverse]
      have hqs := quo_same (l := l) (S := P) HSA.out
      have hds := done_same (l := l) (S := P) HSA.out
      have HPK := Lib.hid (pick_congr (l := l) (P := P) HSA.out true)
      generalize addL l P [] X = N at *
      generalize addL l P [] X.reverse = M at *
      have HQS := Lib.hid hqs
      have HDS := Lib.hid hds
      clear hqs hds HSA hx40
      go_wp2_with fail
      refine (TC.nodes HNu.out HPu.out).mono ?_
      rintro e _ ⟨_, rfl, ho, hb⟩
      obtain ⟨au, cu, rfl⟩ := ho.form
      have HIu := Lib.hid ho.at
      clear ho
      replace HB := Lib.hid (blThen HB.out hb)
      replace HPu := Lib.hid (TC.later HPu.out hb)
      replace HPv := Lib.hid (TC.later HPv.out hb)
      clear hb
      go_wp2_with fail
      refine (TC.nodes HNv.out HPv.out).mono ?_
      rintro e _ ⟨_, rfl, ho, hb⟩
      obtain ⟨av, cv, rfl⟩ := ho.form
      have HIv := Lib.hid ho.at
      clear ho
      replace HB := Lib.hid (blThen HB.out hb)
      replace HIu := Lib.hid (HIu.out.later hb)
      replace HPu := Lib.hid (TC.later HPu.out hb)
      replace HPv := Lib.hid (TC.later HPv.out hb)
      clear hb
      rw [← HPK.out] at HIv ⊢
      go_wp2_with fail
      refine (ints_any _ _ _ _ (pickL l P N true) (pickL l P N true) _ (pick_len l P N true) HIu.out HIv.out).mono ?_
      rintro e _ ⟨rfl, hb⟩
      replace HB := Lib.hid (blThen HB.out hb)
      replace HIu := Lib.hid (HIu.out.later hb)
      replace HIv := Lib.hid (HIv.out.later hb)
      replace HPu := Lib.hid (TC.later HPu.out hb)
      replace HPv := Lib.hid (TC.later HPv.out hb)
      clear hb
      rw [sameI_refl]
      clear HIu
      clear HIv
      go_wp2_with fail
      refine (TC.quorum HNu.out HPu.out).mono ?_
      rintro e _ ⟨rfl, hb⟩
      replace HB := Lib.hid (blThen HB.out hb)
      replace HPu := Lib.hid (TC.later HPu.out hb)
      replace HPv := Lib.hid (TC.later HPv.out hb)
      clear hb
      go_wp2_with fail
      refine (TC.quorum HNv.out HPv.out).mono ?_
      rintro e _ ⟨rfl, hb⟩
      replace HB := Lib.hid (blThen HB.out hb)
      replace HPu := Lib.hid (TC.later HPu.out hb)
      replace HPv := Lib.hid (TC.later HPv.out hb)
      clear hb
      rw [← HQS.out]
      have hbb : (quoB l P (hasN N) == quoB l P (hasN N)) = true := beq_self_eq_true _
      go_wp2_with fail
      refine (TC.all HNu.out HPu.out).mono ?_
      rintro e _ ⟨rfl, hb⟩
      replace HB := Lib.hid (blThen HB.out hb)
      replace HPu := Lib.hid (TC.later HPu.out hb)
      replace HPv := Lib.hid (TC.later HPv.out hb)
      clear hb
      go_wp2_with fail
      refine (TC.all HNv.out HPv.out).mono ?_
      rintro e _ ⟨rfl, hb⟩
      replace HB := Lib.hid (blThen HB.out hb)
      replace HPu := Lib.hid (TC.later HPu.out hb)
      replace HPv := Lib.hid (TC.later HPv.out hb)
      clear hb
      rw [← HDS.out]
      have hbd : (doneB l P (hasN N) == doneB l P (hasN N)) = true := beq_self_eq_true _
      go_wp2_with fail
      refine (tlive5_any TC _).mono ?_
      rintro e _ ⟨rfl, hb⟩
      go_wp2
      go_ret
      exact ⟨rfl, blThen HB.out hb⟩

set_option maxRecDepth 100000 in
theorem tallyOrder_lifted (os : Os) (started : os.Started) (H : Type) (enc : TypeId × Value → H) :
    ReturnsInHanded {} Try.checked os 5 .any (Rows.tallyOrderSpec.pre6 enc Try.prog Try.f5 Rows.tallyOrderRow.domain false) (Rows.tallyOrderSpec.post enc Try.prog Try.f5 false true false false) := by
  refine law_lift (C := Try.checked) own5 started (by kernel_rfl) Try.func5 laid5 rfl (by kernel_rfl) (fun _ _ _ _ => trodAll_mk1 (shut_bool Try.underlying4 true)) (fun ds h => match ds, h with | [_, _, _], _ => ⟨rfl, rfl, rfl⟩)
    (ChangeSpec.witness6 (enc := enc) (C := Try.checked) false ⟨#[], #[.slice none 0 0, .slice none 0 0, .slice none 0 0], []⟩ 8 (by kernel_rfl) (by kernel_rfl) (by kernel_rfl) (by kernel_rfl)) ?_
  intro W base args ds before hval0 hA0 hlt
  have hval : ∀ (j : Nat) t v, Try.f5.params[j]? = some t → args[j]? = some v → Value.okWide Try.prog W .any base t v := hval0
  have hA : DataW.TrodAll enc Try.prog W 0 (fun _ => true) true Try.f5.params.toList args.toList ds before := hA0
  rw [Try.params5] at hA hval
  obtain ⟨v0, v1, v2, d0, d1, d2, p0, p1, p2, rfl, rfl, rfl, h0, h1, h2⟩ := trodAll_three hA
  obtain ⟨a0, l0, c0, rfl, hh0, hm0⟩ := open_shards (hval 0 22 v0 rfl rfl) h0
  obtain ⟨a1, l1, c1, rfl, hh1, hm1, hw1⟩ := open_intw (hval 1 23 v1 rfl rfl) h1
  obtain ⟨a2, l2, c2, rfl, hh2, hm2, hw2⟩ := open_intw (hval 2 23 v2 rfl rfl) h2
  exact tallyOrder_walk _ _ l0 _ _ l1 _ _ l2 W hh0 hm0 hh1 hm1 hw1 hh2 hm2 hw2

theorem tallyOrder_holds : Rows.TallyOrderSaid :=
  OpenClaim.holds_of_wide 5 Try.f5 rfl rfl rfl rfl rfl rfl rfl ⟨rfl, rfl, rfl, rfl, rfl⟩ rfl rfl rfl rfl rfl (by kernel_rfl) Try.func5 (by kernel_rfl)
    (of_decide_eq_true (by kernel_rfl)) (by unfold Func.isWrapper; rw [if_neg (of_decide_eq_false (by kernel_rfl))]; exact ⟨rfl, rfl⟩)
    (fun os started H enc _ => tallyOrder_lifted os started H enc)

#print axioms tallyOrder_holds

end Go.Proofs.Ytopogdfmbdbimaa
