/- TallyMeet: two quorums of the same shards have a node in common in each of them: the law returns true. Conditions: none. -/
import Derived.Test.YtopogdfmbdbimaaWm
set_option linter.unusedVariables false
set_option linter.unusedSimpArgs false
namespace Go.Proofs.Ytopogdfmbdbimaa
open Go.ChangeShapes Go.WideShapes Go.ChangeAt Go.RowKit Go.Joins Go.Deep


set_option maxRecDepth 100000 in
set_option maxHeartbeats 8000000 in
theorem tallyMeet_walk (a : Option Addr) (c : Nat) (l : List Sh) (aS : Option Addr) (cS : Nat) (S : List Int) (aX : Option Addr) (cX : Nat) (X : List Int) (aZ : Option Addr) (cZ : Nat) (Z : List Int) (w : World) (hh : Hl w a l) (hm : l.length ≤ 9223372036854775807) (hS : Il w aS cS S) (hS9 : S.length ≤ 9223372036854775807) (hSw : ∀ n ∈ S, (Lit.int .i64 n).wf = true) (hX : Il w aX cX X) (hX9 : X.length ≤ 9223372036854775807) (hXw : ∀ n ∈ X, (Lit.int .i64 n).wf = true) (hZ : Il w aZ cZ Z) (hZ9 : Z.length ≤ 9223372036854775807) (hZw : ∀ n ∈ Z, (Lit.int .i64 n).wf = true) :
    Calls Try.prog 4 #[.slice a l.length c, .slice aS S.length cS, .slice aX X.length cX, .slice aZ Z.length cZ] w fun e w' => e = .returned (.bool true) ∧ Below w.heap.size w w' := by
  have HH0 := Lib.hid hh
  have HLM := Lib.hid hm
  have HS := Lib.hid hS
  have HSW := Lib.hid hSw
  have HX := Lib.hid hX
  have HXW := Lib.hid hXw
  have HZ := Lib.hid hZ
  have HZW := Lib.hid hZw
  have HB := Lib.hid (Below.refl w.heap.size w)
  clear hh hm hS hSw hX hXw hZ hZw
  go_enter Try.func4, Try.ntmps4
  go_wp2_with fail
  refine (tright_any _ _ l _ HH0.out HLM.out).mono ?_
  rintro e _ ⟨b, rfl, htb, hb⟩
  replace HB := Lib.hid (blThen HB.out hb)
  clear hb
  cases b
  · go_wp2_with fail
    refine (tlive5_any TC _).mono ?_
    rintro e _ ⟨rfl, hb⟩
    go_wp2
    go_ret
    exact ⟨rfl, blThen HB.out hb⟩
  have HTP := Lib.hid (topo_of (htb rfl))
  have HN5 := Lib.hid (topo_n5 HTP.out)
  have H8 : Hid (l.length ≤ 1000000) := Nat.le_trans HTP.out.len (by decide)
  clear htb
  by_cases hbigS : 40 < S.length
  · have hbigI : (40 : Int) < (S.length : Int) := by omega
    have hdS : decide ((40 : Int) < (S.length : Int)) = true := decide_eq_true hbigI
    go_wp2_with fail
    refine (tlive5_any TC _).mono ?_
    rintro e _ ⟨rfl, hb⟩
    go_wp2
    go_ret
    exact ⟨rfl, blThen HB.out hb⟩
  have hbigIS : ¬ (40 : Int) < (S.length : Int) := by omega
  have hdS : decide ((40 : Int) < (S.length : Int)) = false := decide_eq_false hbigIS
  have HS40 : Hid (S.length ≤ 40) := by show _ ≤ _; omega
  by_cases hbigX : 40 < X.length
  · have hbigI : (40 : Int) < (X.length : Int) := by omega
    have hdX : decide ((40 : Int) < (X.length : Int)) = true := decide_eq_true hbigI
    go_wp2_with fail
    refine (tlive5_any TC _).mono ?_
    rintro e _ ⟨rfl, hb⟩
    go_wp2
    go_ret
    exact ⟨rfl, blThen HB.out hb⟩
  have hbigIX : ¬ (40 : Int) < (X.length : Int) := by omega
  have hdX : decide ((40 : Int) < (X.length : Int)) = false := decide_eq_false hbigIX
  have HX40 : Hid (X.length ≤ 40) := by show _ ≤ _; omega
  by_cases hbigZ : 40 < Z.length
  · have hbigI : (40 : Int) < (Z.length : Int) := by omega
    have hdZ : decide ((40 : Int) < (Z.length : Int)) = true := decide_eq_true hbigI
    go_wp2_with fail
    refine (tlive5_any TC _).mono ?_
    rintro e _ ⟨rfl, hb⟩
    go_wp2
    go_ret
    exact ⟨rfl, blThen HB.out hb⟩
  have hbigIZ : ¬ (40 : Int) < (Z.length : Int) := by omega
  have hdZ : decide ((40 : Int) < (Z.length : Int)) = false := decide_eq_false hbigIZ
  have HZ40 : Hid (Z.length ≤ 40) := by show _ ≤ _; omega
  clear hbigS hbigX hbigZ
  go_wp2_with fail
  refine (TC.new w _ _ _ l _ _ S HTP.out (Nat.le_trans HS40.out (by decide)) HH0.out HB.out (HS.out.later HB.out)).mono ?_
  rintro e _ ⟨bu, Fu, rfl, hp, hb, hf⟩
  replace HB := Lib.hid (blThen HB.out hb)
  clear hb
  have HPu := Lib.hid hp
  clear hp hf
  go_wp2_with fail
  refine (TC.new w _ _ _ l _ _ S HTP.out (Nat.le_trans HS40.out (by decide)) HH0.out HB.out (HS.out.later HB.out)).mono ?_
  rintro e _ ⟨bv, Fv, rfl, hp, hb, hf⟩
  have HDvu : Hid (∀ z, Fv z → ¬ Fu z) := fun z hz hg => Nat.lt_irrefl _ (Nat.lt_of_lt_of_le (TC.sep HPu.out z hg).2 (hf z hz))
  replace HB := Lib.hid (blThen HB.out hb)
  replace HPu := Lib.hid (TC.later HPu.out hb)
  clear hb
  have HPv := Lib.hid hp
  clear hp hf
  have HPO := Lib.hid (fun (i : Int) (s : Sh) (hi : i ∈ S) (hs : atSh l i = some s) => ((places_mem l S i).2 ⟨hi, by rw [hs]; rfl⟩ : i ∈ placesL l S))
  generalize placesL l S = P at *
  go_wp2
  go_loopw [11] (fun i wr => ∃ (k : Nat) (Fu Fv : Nat → Prop), k ≤ X.length ∧ i = .int .i64 k ∧ PTo w wr bu l P (addL l P [] (X.take k)) Fu ∧ PTo w wr bv l P [] Fv ∧ Below w.heap.size w wr ∧ (∀ z, Fv z → ¬ Fu z)) (fun i _ => X.length - (intOf i).toNat)
  case atStart => exact ⟨0, Fu, Fv, Nat.zero_le _, rfl, HPu.out, HPv.out, HB.out, HDvu.out⟩
  case round =>
    clear HPu HPv HB HDvu
    obtain ⟨k, Fu, Fv, hk, rfl, hpu, hpv, hb, hdvu⟩ := hrel
    have HPu := Lib.hid hpu
    have HPv := Lib.hid hpv
    have HB := Lib.hid hb
    have HDvu := Lib.hid hdvu
    clear hpu hpv hb hdvu
    have HNL : Hid ((addL l P [] (X.take k)).length ≤ 1000) := Nat.le_trans (addL_len0 _ _ _) (Nat.le_trans (by rw [List.length_take]; have := HX40.out; omega) (show 40 ≤ 1000 by decide))
    by_cases hlt : k < X.length
    · obtain ⟨x, hx⟩ := at_lt hlt
      have HWX := Lib.hid (HXW.out x (List.mem_of_getElem? hx))
      obtain ⟨g, o, rfl, hg, e0⟩ := HX.out.at hx
      have hgw := Nat.lt_of_lt_of_le hg HB.out.size
      have e1 := cell_in HB.out hg e0
      have hk0 : (0 : Int) ≤ (k : Int) := by omega
      have hk1 : (k : Int) < (X.length : Int) := by omega
      have hdk : decide ((k : Int) < (X.length : Int)) = true := decide_eq_true hk1
      have HTK := Lib.hid (addL_take (l := l) (P := P) (N := []) hx)
      have hk40 := HX40.out
      clear hx e0
      go_wp2_with fail
      refine (TC.add (x) HWX.out HNL.out HPu.out).mono ?_
      rintro e _ ⟨F2, rfl, hp, hk, hn⟩
      have hq := add_below HPu.out HB.out hk
      replace HB := Lib.hid hq.1
      clear hq
      have hy := add_other HPv.out hk hn (fun z hz => (TC.sep HPu.out z hz).1) (apart_swap HDvu.out)
      replace HPv := Lib.hid hy.1
      replace HDvu := Lib.hid (apart_swap hy.2)
      clear hy
      replace HPu := Lib.hid hp
      clear hp hk hn
      go_wp2
      go_roundw
      case rel => exact ⟨k + 1, F2, Fv, hlt, by go_num, by rw [HTK.out]; exact HPu.out, HPv.out, HB.out, HDvu.out⟩
      case measure => simp [intOf]; omega
    · have hdk : decide ((k : Int) < (X.length : Int)) = false := decide_eq_false (by omega)
      have HE : Hid (X.take k = X) := List.take_of_length_le (by omega)
      replace HPu := Lib.hid (by have h := HPu.out; rw [HE.out] at h; exact h : PTo w _ bu l P (addL l P [] X) Fu)
      have HNu : Hid ((addL l P [] X).length ≤ 1000) := by have h := HNL.out; rw [HE.out] at h; exact h
      clear HE HNL
      go_wp2
      go_loopw [12] (fun i wr => ∃ (k : Nat) (Fu Fv : Nat → Prop), k ≤ Z.length ∧ i = .int .i64 k ∧ PTo w wr bu l P (addL l P [] X) Fu ∧ PTo w wr bv l P (addL l P [] (Z.take k)) Fv ∧ Below w.heap.size w wr ∧ (∀ z, Fv z → ¬ Fu z)) (fun i _ => Z.length - (intOf i).toNat)
      case atStart => exact ⟨0, Fu, Fv, Nat.zero_le _, rfl, HPu.out, HPv.out, HB.out, HDvu.out⟩
      case round =>
        clear HPu HPv HB HDvu
        obtain ⟨k, Fu, Fv, hk, rfl, hpu, hpv, hb, hdvu⟩ := hrel
        have HPu := Lib.hid hpu
        have HPv := Lib.hid hpv
        have HB := Lib.hid hb
        have HDvu := Lib.hid hdvu
        clear hpu hpv hb hdvu
        have HNL : Hid ((addL l P [] (Z.take k)).length ≤ 1000) := Nat.le_trans (addL_len0 _ _ _) (Nat.le_trans (by rw [List.length_take]; have := HZ40.out; omega) (show 40 ≤ 1000 by decide))
        by_cases hlt : k < Z.length
        · obtain ⟨x, hx⟩ := at_lt hlt
          have HWX := Lib.hid (HZW.out x (List.mem_of_getElem? hx))
          obtain ⟨g, o, rfl, hg, e0⟩ := HZ.out.at hx
          have hgw := Nat.lt_of_lt_of_le hg HB.out.size
          have e1 := cell_in HB.out hg e0
          have hk0 : (0 : Int) ≤ (k : Int) := by omega
          have hk1 : (k : Int) < (Z.length : Int) := by omega
          have hdk : decide ((k : Int) < (Z.length : Int)) = true := decide_eq_true hk1
          have HTK := Lib.hid (addL_take (l := l) (P := P) (N := []) hx)
          have hk40 := HZ40.out
          clear hx e0
          go_wp2_with fail
          refine (TC.add (x) HWX.out HNL.out HPv.out).mono ?_
          rintro e _ ⟨F2, rfl, hp, hk, hn⟩
          have hq := add_below HPv.out HB.out hk
          replace HB := Lib.hid hq.1
          clear hq
          have hy := add_other HPu.out hk hn (fun z hz => (TC.sep HPv.out z hz).1) HDvu.out
          replace HPu := Lib.hid hy.1
          replace HDvu := Lib.hid hy.2
          clear hy
          replace HPv := Lib.hid hp
          clear hp hk hn
          go_wp2
          go_roundw
          case rel => exact ⟨k + 1, Fu, F2, hlt, by go_num, HPu.out, by rw [HTK.out]; exact HPv.out, HB.out, HDvu.out⟩
          case measure => simp [intOf]; omega
        · have hdk : decide ((k : Int) < (Z.length : Int)) = false := decide_eq_false (by omega)
          have HE : Hid (Z.take k = Z) := List.take_of_length_le (by omega)
          replace HPv := Lib.hid (by have h := HPv.out; rw [HE.out] at h; exact h : PTo w _ bv l P (addL l P [] Z) Fv)
          have HNv : Hid ((addL l P [] Z).length ≤ 1000) := by have h := HNL.out; rw [HE.out] at h; exact h
          clear HE HNL
          generalize addL l P [] X = N at *
          generalize addL l P [] Z = M at *
          go_wp2_with fail
          refine (TC.quorum HNu.out HPu.out).mono ?_
          rintro e _ ⟨rfl, hb⟩
          replace HB := Lib.hid (blThen HB.out hb)
          replace HPu := Lib.hid (TC.later HPu.out hb)
          replace HPv := Lib.hid (TC.later HPv.out hb)
          clear hb
          generalize hq1 : quoB l P (hasN N) = q1 at *
          have HQ1 := Lib.hid hq1
          clear hq1
          cases q1
          · go_wp2_with fail
            refine (tlive5_any TC _).mono ?_
            rintro e _ ⟨rfl, hb⟩
            go_wp2
            go_ret
            exact ⟨rfl, blThen HB.out hb⟩
          go_wp2_with fail
          refine (TC.quorum HNv.out HPv.out).mono ?_
          rintro e _ ⟨rfl, hb⟩
          replace HB := Lib.hid (blThen HB.out hb)
          replace HPu := Lib.hid (TC.later HPu.out hb)
          replace HPv := Lib.hid (TC.later HPv.out hb)
          clear hb
          generalize hq2 : quoB l P (hasN M) = q2 at *
          have HQ2 := Lib.hid hq2
          clear hq2
          cases q2
          · go_wp2_with fail
            refine (tlive5_any TC _).mono ?_
            rintro e _ ⟨rfl, hb⟩
            go_wp2
            go_ret
            exact ⟨rfl, blThen HB.out hb⟩
          have HMT := Lib.hid (fun (i : Int) (s : Sh) (hi : i ∈ S) (hs : atSh l i = some s) => quo_meet HQ1.out HQ2.out (HPO.out i s hi hs) hs)
          have HEA := Lib.hid (quo_each HQ1.out)
          have HNL := Lib.hid (addL_len0 l P X)
          clear HPO HQ1 HQ2 HDvu HNL hlt hk
          go_wp2
          go_loopw [13] (fun i wr => ∃ k : Nat, k ≤ S.length ∧ i = .int .i64 k ∧ PTo w wr bu l P N Fu ∧ PTo w wr bv l P M Fv ∧ Below w.heap.size w wr) (fun i _ => S.length - (intOf i).toNat)
          case atStart => exact ⟨0, Nat.zero_le _, rfl, HPu.out, HPv.out, HB.out⟩
          case round =>
            clear HPu HPv HB
            obtain ⟨k, hk, rfl, hpu, hpv, hb⟩ := hrel
            have HPu := Lib.hid hpu
            have HPv := Lib.hid hpv
            have HB := Lib.hid hb
            clear hpu hpv hb
            by_cases hlt : k < S.length
            · obtain ⟨i, hi⟩ := at_lt hlt
              obtain ⟨g, o, rfl, hg, e0⟩ := HS.out.at hi
              have hgw := Nat.lt_of_lt_of_le hg HB.out.size
              have e1 := cell_in HB.out hg e0
              have hk0 : (0 : Int) ≤ (k : Int) := by omega
              have hk1 : (k : Int) < (S.length : Int) := by omega
              have hdk : decide ((k : Int) < (S.length : Int)) = true := decide_eq_true hk1
              have hk40 := HS40.out
              have HI := Lib.hid (List.mem_of_getElem? hi)
              clear hi e0
              by_cases hi0 : i < 0
              · have hd0 : decide (i < (0 : Int)) = true := decide_eq_true hi0
                go_wp2
                go_roundw
                case rel => exact ⟨k + 1, hlt, by go_num, HPu.out, HPv.out, HB.out⟩
                case measure => simp [intOf]; omega
              have hd0 : decide (i < (0 : Int)) = false := decide_eq_false hi0
              by_cases hil : (l.length : Int) ≤ i
              · have hdl : decide ((l.length : Int) ≤ i) = true := decide_eq_true hil
                go_wp2
                go_roundw
                case rel => exact ⟨k + 1, hlt, by go_num, HPu.out, HPv.out, HB.out⟩
                case measure => simp [intOf]; omega
              have hdl : decide ((l.length : Int) ≤ i) = false := decide_eq_false hil
              obtain ⟨q, rfl⟩ := Int.eq_ofNat_of_zero_le (show 0 ≤ i by omega)
              obtain ⟨s, hs⟩ := at_lt (l := l) (k := q) (by omega)
              obtain ⟨gl, ol, rfl, hgl, _, _, d2⟩ := HH0.out.at hs
              have hglw := Nat.lt_of_lt_of_le hgl HB.out.size
              have f2 := cell_in HB.out hgl d2
              have hq0 : (0 : Int) ≤ (q : Int) := by omega
              have hq1 : (q : Int) < (l.length : Int) := by omega
              have hdl2 : decide (l.length ≤ q) = false := decide_eq_false (by omega)
              have HSM := Lib.hid (List.mem_of_getElem? hs)
              have hne : s.nodes ≠ [] := by intro e; have h := (HTP.out.few s HSM.out).1; rw [e] at h; simp at h
              obtain ⟨gn, on, hna, hgn, hrow⟩ := (HH0.out.1 s HSM.out).2 hne
              rw [hna] at f2
              have HROW := Lib.hid hrow
              clear hrow hna hne
              have HAN := Lib.hid (HMT.out (q : Int) s HI.out (by rw [atSh_nat]; exact hs))
              have HSN := Lib.hid (HN5.out s HSM.out)
              clear hs d2 hi0 hil
              go_wp2
              go_loopw [15, 16] (fun both i wr => ∃ j : Nat, j ≤ s.nodes.length ∧ i = .int .i64 j ∧ both = .bool ((s.nodes.take j).any fun n => hasN N n && hasN M n) ∧ PTo w wr bu l P N Fu ∧ PTo w wr bv l P M Fv ∧ Below w.heap.size w wr) (fun _ i _ => s.nodes.length - (intOf i).toNat)
              case atStart => exact ⟨0, Nat.zero_le _, rfl, rfl, HPu.out, HPv.out, HB.out⟩
              case round =>
                clear HPu HPv HB e1 f2 hgw hglw
                obtain ⟨j, hj, rfl, rfl, hpu, hpv, hb⟩ := hrel
                have HPu := Lib.hid hpu
                have HPv := Lib.hid hpv
                have HB := Lib.hid hb
                clear hpu hpv hb
                have hsn := HSN.out
                by_cases hjl : j < s.nodes.length
                · obtain ⟨n, hn⟩ := at_lt hjl
                  have e0 := HROW.out j n hn
                  have hgnw := Nat.lt_of_lt_of_le hgn HB.out.size
                  have e1 := cell_in HB.out hgn e0
                  have hj0 : (0 : Int) ≤ (j : Int) := by omega
                  have hj1 : (j : Int) < (s.nodes.length : Int) := by omega
                  have hdj : decide ((j : Int) < (s.nodes.length : Int)) = true := decide_eq_true hj1
                  have HWF := Lib.hid (node_wf HTP.out HSM.out (List.mem_of_getElem? hn))
                  have HST := Lib.hid (any_step (p := fun n => hasN N n && hasN M n) hn)
                  clear hn e0
                  generalize hbt : (s.nodes.take j).any (fun n => hasN N n && hasN M n) = bt at *
                  cases bt
                  · go_wp2_with fail
                    refine (TC.has n HWF.out HNu.out HPu.out).mono ?_
                    rintro e wn ⟨rfl, hb⟩
                    replace e1 := cell_in hb hgnw e1
                    replace hgnw := Nat.lt_of_lt_of_le hgnw hb.size
                    replace HB := Lib.hid (blThen HB.out hb)
                    replace HPu := Lib.hid (TC.later HPu.out hb)
                    replace HPv := Lib.hid (TC.later HPv.out hb)
                    clear hb
                    generalize hh1 : hasN N n = h1 at *
                    have HH1 := Lib.hid hh1
                    clear hh1
                    cases h1
                    · go_wp2
                      go_roundw
                      case rel => exact ⟨j + 1, hjl, by go_num, by rw [HST.out]; simp [HH1.out], HPu.out, HPv.out, HB.out⟩
                      case measure => simp [intOf]; omega
                    go_wp2_with fail
                    refine (TC.has n HWF.out HNv.out HPv.out).mono ?_
                    rintro e wn ⟨rfl, hb⟩
                    replace e1 := cell_in hb hgnw e1
                    replace hgnw := Nat.lt_of_lt_of_le hgnw hb.size
                    replace HB := Lib.hid (blThen HB.out hb)
                    replace HPu := Lib.hid (TC.later HPu.out hb)
                    replace HPv := Lib.hid (TC.later HPv.out hb)
                    clear hb
                    generalize hh2 : hasN M n = h2 at *
                    have HH2 := Lib.hid hh2
                    clear hh2
                    cases h2
                    · go_wp2
                      go_roundw
                      case rel => exact ⟨j + 1, hjl, by go_num, by rw [HST.out]; simp [HH1.out, HH2.out], HPu.out, HPv.out, HB.out⟩
                      case measure => simp [intOf]; omega
                    · go_wp2
                      go_roundw
                      case rel => exact ⟨j + 1, hjl, by go_num, by rw [HST.out]; simp [HH1.out, HH2.out], HPu.out, HPv.out, HB.out⟩
                      case measure => simp [intOf]; omega
                  · go_wp2
                    go_roundw
                    case rel => exact ⟨j + 1, hjl, by go_num, by rw [HST.out]; simp, HPu.out, HPv.out, HB.out⟩
                    case measure => simp [intOf]; omega
                · have hdj : decide ((j : Int) < (s.nodes.length : Int)) = false := decide_eq_false (by omega)
                  have HE : Hid ((s.nodes.take j).any (fun n => hasN N n && hasN M n) = true) := by show _ = _; rw [List.take_of_length_le (by omega)]; exact HAN.out
                  rw [HE.out]
                  go_wp2
                  go_roundw
                  case rel => exact ⟨k + 1, hlt, by go_num, HPu.out, HPv.out, HB.out⟩
                  case measure => simp [intOf]; omega
            · have hdk : decide ((k : Int) < (S.length : Int)) = false := decide_eq_false (by omega)
              go_wp2_with fail
              refine (TC.each HNu.out HPu.out).mono ?_
              rintro e _ ⟨rfl, hb⟩
              replace HB := Lib.hid (blThen HB.out hb)
              replace HPu := Lib.hid (TC.later HPu.out hb)
              replace HPv := Lib.hid (TC.later HPv.out hb)
              clear hb
              rw [HEA.out]
              go_wp2_with fail
              refine (tlive5_any TC _).mono ?_
              rintro e _ ⟨rfl, hb⟩
              go_wp2
              go_ret
              exact ⟨rfl, blThen HB.out hb⟩

set_option maxRecDepth 100000 in
theorem tallyMeet_lifted (os : Os) (started : os.Started) (H : Type) (enc : TypeId × Value → H) :
    ReturnsInHanded {} Try.checked os 4 .any (Rows.tallyMeetSpec.pre6 enc Try.prog Try.f4 Rows.tallyMeetRow.domain false) (Rows.tallyMeetSpec.post enc Try.prog Try.f4 false true false false) := by
  refine law_lift (C := Try.checked) own5 started (by kernel_rfl) Try.func4 laid5 rfl (by kernel_rfl) (fun _ _ _ _ => trodAll_mk1 (shut_bool Try.underlying4 true)) (fun ds h => match ds, h with | [_, _, _, _], _ => ⟨rfl, rfl, rfl⟩)
    (ChangeSpec.witness6 (enc := enc) (C := Try.checked) false ⟨#[], #[.slice none 0 0, .slice none 0 0, .slice none 0 0, .slice none 0 0], []⟩ 8 (by kernel_rfl) (by kernel_rfl) (by kernel_rfl) (by kernel_rfl)) ?_
  intro W base args ds before hval0 hA0 hlt
  have hval : ∀ (j : Nat) t v, Try.f4.params[j]? = some t → args[j]? = some v → Value.okWide Try.prog W .any base t v := hval0
  have hA : DataW.TrodAll enc Try.prog W 0 (fun _ => true) true Try.f4.params.toList args.toList ds before := hA0
  rw [Try.params4] at hA hval
  obtain ⟨v0, v1, v2, v3, d0, d1, d2, d3, p0, p1, p2, p3, rfl, rfl, rfl, h0, h1, h2, h3⟩ := trodAll_four hA
  obtain ⟨a0, l0, c0, rfl, hh0, hm0⟩ := open_shards (hval 0 22 v0 rfl rfl) h0
  obtain ⟨a1, l1, c1, rfl, hh1, hm1, hw1⟩ := open_intw (hval 1 23 v1 rfl rfl) h1
  obtain ⟨a2, l2, c2, rfl, hh2, hm2, hw2⟩ := open_intw (hval 2 23 v2 rfl rfl) h2
  obtain ⟨a3, l3, c3, rfl, hh3, hm3, hw3⟩ := open_intw (hval 3 23 v3 rfl rfl) h3
  exact tallyMeet_walk _ _ l0 _ _ l1 _ _ l2 _ _ l3 W hh0 hm0 hh1 hm1 hw1 hh2 hm2 hw2 hh3 hm3 hw3

theorem tallyMeet_holds : Rows.TallyMeetSaid :=
  OpenClaim.holds_of_wide 4 Try.f4 rfl rfl rfl rfl rfl rfl rfl ⟨rfl, rfl, rfl, rfl, rfl⟩ rfl rfl rfl rfl rfl (by kernel_rfl) Try.func4 (by kernel_rfl)
    (of_decide_eq_true (by kernel_rfl)) (by unfold Func.isWrapper; rw [if_neg (of_decide_eq_false (by kernel_rfl))]; exact ⟨rfl, rfl⟩)
    (fun os started H enc _ => tallyMeet_lifted os started H enc)

#print axioms tallyMeet_holds

end Go.Proofs.Ytopogdfmbdbimaa
