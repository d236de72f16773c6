/- TallyOthers: who is none of the nodes has no part; who waits and who has answered are all, nobody is both: the law returns true. Conditions: none. -/
import Derived.Test.YtopogdfmbdbimaaWm
set_option linter.unusedVariables false
set_option linter.unusedSimpArgs false
namespace Go.Proofs.Ytopogdfmbdbimaa
open Go.ChangeShapes Go.WideShapes Go.ChangeAt Go.RowKit Go.Joins Go.Deep

theorem sameI_refl (l : List Int) : sameI l l = true := by simp [sameI]
/-- All have answered just if nobody waits. -/
theorem all_wait (l : List Sh) (P N : List Int) : (doneB l P (hasN N) = true → (pickL l P N false).length = 0) ∧ (doneB l P (hasN N) = false → 0 < (pickL l P N false).length) := by
  unfold doneB pickL
  constructor
  · intro h
    rw [List.length_eq_zero_iff, List.filter_eq_nil_iff]
    intro n hn
    have := List.all_eq_true.1 h n hn
    rw [this]
    simp
  · intro h
    rw [List.all_eq_false] at h
    obtain ⟨n, hn, h2⟩ := h
    refine List.length_pos_of_mem (List.mem_filter.2 ⟨hn, ?_⟩)
    cases h3 : hasN N n
    · rfl
    · exact absurd h3 h2

set_option maxRecDepth 100000 in
set_option maxHeartbeats 8000000 in
theorem tallyOthers_walk (a : Option Addr) (c : Nat) (l : List Sh) (aS : Option Addr) (cS : Nat) (S : List Int) (aX : Option Addr) (cX : Nat) (X : List Int) (w : World) (hh : Hl w a l) (hm : l.length ≤ 9223372036854775807) (hS : Il w aS cS S) (hS9 : S.length ≤ 9223372036854775807) (hSw : ∀ n ∈ S, (Lit.int .i64 n).wf = true) (hX : Il w aX cX X) (hX9 : X.length ≤ 9223372036854775807) (hXw : ∀ n ∈ X, (Lit.int .i64 n).wf = true) :
    Calls Try.prog 7 #[.slice a l.length c, .slice aS S.length cS, .slice aX X.length cX] w fun e w' => e = .returned (.bool true) ∧ Below w.heap.size w w' := by
  have HH0 := Lib.hid hh
  have HLM := Lib.hid hm
  have HS := Lib.hid hS
  have HSW := Lib.hid hSw
  have HX := Lib.hid hX
  have HXW := Lib.hid hXw
  have HB := Lib.hid (Below.refl w.heap.size w)
  clear hh hm hS hSw hX hXw
  go_enter Try.func7, Try.ntmps7
  go_wp2_with fail
  refine (tright_any _ _ l _ HH0.out HLM.out).mono ?_
  rintro e _ ⟨b, rfl, htb, hb⟩
  replace HB := Lib.hid (blThen HB.out hb)
  clear hb
  cases b
  · go_wp2_with fail
    refine (tlive5_any TC _).mono ?_
    rintro e _ ⟨rfl, hb⟩
    go_wp2
    go_ret
    exact ⟨rfl, blThen HB.out hb⟩
  have HTP := Lib.hid (topo_of (htb rfl))
  have HN5 := Lib.hid (topo_n5 HTP.out)
  have H8 : Hid (l.length ≤ 1000000) := Nat.le_trans HTP.out.len (by decide)
  clear htb
  by_cases hbigS : 40 < S.length
  · have hbigI : (40 : Int) < (S.length : Int) := by omega
    have hdS : decide ((40 : Int) < (S.length : Int)) = true := decide_eq_true hbigI
    go_wp2_with fail
    refine (tlive5_any TC _).mono ?_
    rintro e _ ⟨rfl, hb⟩
    go_wp2
    go_ret
    exact ⟨rfl, blThen HB.out hb⟩
  have hbigIS : ¬ (40 : Int) < (S.length : Int) := by omega
  have hdS : decide ((40 : Int) < (S.length : Int)) = false := decide_eq_false hbigIS
  have HS40 : Hid (S.length ≤ 40) := by show _ ≤ _; omega
  by_cases hbigX : 40 < X.length
  · have hbigI : (40 : Int) < (X.length : Int) := by omega
    have hdX : decide ((40 : Int) < (X.length : Int)) = true := decide_eq_true hbigI
    go_wp2_with fail
    refine (tlive5_any TC _).mono ?_
    rintro e _ ⟨rfl, hb⟩
    go_wp2
    go_ret
    exact ⟨rfl, blThen HB.out hb⟩
  have hbigIX : ¬ (40 : Int) < (X.length : Int) := by omega
  have hdX : decide ((40 : Int) < (X.length : Int)) = false := decide_eq_false hbigIX
  have HX40 : Hid (X.length ≤ 40) := by show _ ≤ _; omega
  clear hbigS hbigX
  go_wp2_with fail
  refine (TC.new w _ _ _ l _ _ S HTP.out (Nat.le_trans HS40.out (by decide)) HH0.out HB.out (HS.out.later HB.out)).mono ?_
  rintro e _ ⟨bu, Fu, rfl, hp, hb, hf⟩
  replace HB := Lib.hid (blThen HB.out hb)
  clear hb
  have HPu := Lib.hid hp
  clear hp hf
  go_wp2_with fail
  refine (TC.new w _ _ _ l _ _ S HTP.out (Nat.le_trans HS40.out (by decide)) HH0.out HB.out (HS.out.later HB.out)).mono ?_
  rintro e _ ⟨bv, Fv, rfl, hp, hb, hf⟩
  have HDvu : Hid (∀ z, Fv z → ¬ Fu z) := fun z hz hg => Nat.lt_irrefl _ (Nat.lt_of_lt_of_le (TC.sep HPu.out z hg).2 (hf z hz))
  replace HB := Lib.hid (blThen HB.out hb)
  replace HPu := Lib.hid (TC.later HPu.out hb)
  clear hb
  have HPv := Lib.hid hp
  clear hp hf
  have HSP := Lib.hid (nodes_places l S)
  generalize placesL l S = P at *
  go_wp2_with fail
  refine (refnodes_any _ _ l _ _ S _ H8.out (Nat.le_trans HS40.out (by decide)) HN5.out (HH0.out.later HB.out) (HS.out.later HB.out)).mono ?_
  rintro e _ ⟨va, rfl, ho, hb⟩
  rw [← HSP.out] at ho
  obtain ⟨ga, ca, rfl⟩ := ho.form
  have HDua : Hid (∀ z, Fu z → (Value.slice ga (nodesL l P).length ca).ownBlock ≠ some z) := fun z hz e => Nat.lt_irrefl _ (Nat.lt_of_lt_of_le (TC.sep HPu.out z hz).2 (ho.block z e))
  have HDva : Hid (∀ z, Fv z → (Value.slice ga (nodesL l P).length ca).ownBlock ≠ some z) := fun z hz e => Nat.lt_irrefl _ (Nat.lt_of_lt_of_le (TC.sep HPv.out z hz).2 (ho.block z e))
  have HOa := Lib.hid (ho.mono (Nat.zero_le _))
  clear ho
  replace HB := Lib.hid (blThen HB.out hb)
  replace HPu := Lib.hid (TC.later HPu.out hb)
  replace HPv := Lib.hid (TC.later HPv.out hb)
  clear hb
  have HNLA : Hid ((nodesL l P).length ≤ 1000000) := Nat.le_trans (nodesL_len l P) (by decide)
  go_wp2
  go_loopw [10] (fun i wr => ∃ (k : Nat) (Fu Fv : Nat → Prop), k ≤ X.length ∧ i = .int .i64 k ∧ PTo w wr bu l P (addL l P [] (X.take k)) Fu ∧ PTo w wr bv l P (addL l P [] (X.take k)) Fv ∧ OwnI wr 0 (.slice ga (nodesL l P).length ca) (nodesL l P) ∧ Below w.heap.size w wr ∧ (∀ z, Fv z → ¬ Fu z) ∧ (∀ z, Fu z → (Value.slice ga (nodesL l P).length ca).ownBlock ≠ some z) ∧ ∀ z, Fv z → (Value.slice ga (nodesL l P).length ca).ownBlock ≠ some z) (fun i _ => X.length - (intOf i).toNat)
  case atStart => exact ⟨0, Fu, Fv, Nat.zero_le _, rfl, HPu.out, HPv.out, HOa.out, HB.out, HDvu.out, HDua.out, HDva.out⟩
  case round =>
    clear HPu HPv HB HDvu HDua HDva HOa
    obtain ⟨k, Fu, Fv, hk, rfl, hpu, hpv, ho, hb, hd1, hd2, hd3⟩ := hrel
    have HPu := Lib.hid hpu
    have HPv := Lib.hid hpv
    have HOa := Lib.hid ho
    have HB := Lib.hid hb
    have HDvu := Lib.hid hd1
    have HDua := Lib.hid hd2
    have HDva := Lib.hid hd3
    clear hpu hpv ho hb hd1 hd2 hd3
    have HNu : Hid ((addL l P [] (X.take k)).length ≤ 1000) := Nat.le_trans (addL_len0 _ _ _) (Nat.le_trans (by rw [List.length_take]; have := HX40.out; omega) (show 40 ≤ 1000 by decide))
    by_cases hlt : k < X.length
    · obtain ⟨x, hx⟩ := at_lt hlt
      have HWX := Lib.hid (HXW.out x (List.mem_of_getElem? hx))
      obtain ⟨g, o, rfl, hg, e0⟩ := HX.out.at hx
      have E1 := Lib.hid (fun (W : World) (hb : Below w.heap.size w W) => (⟨cell_in hb hg e0, Nat.lt_of_lt_of_le hg hb.size⟩ : W.cell? ⟨g, o + k, none⟩ = some (.int .i64 x) ∧ g < W.heap.size))
      obtain ⟨e1, hgw⟩ := E1.out _ HB.out
      have hk0 : (0 : Int) ≤ (k : Int) := by omega
      have hk1 : (k : Int) < (X.length : Int) := by omega
      have hdk : decide ((k : Int) < (X.length : Int)) = true := decide_eq_true hk1
      have hk40 := HX40.out
      have HTK := Lib.hid (addL_take (l := l) (P := P) (N := []) hx)
      clear hx e0 hg
      go_wp2_with fail
      refine (TC.add (x) HWX.out HNu.out HPu.out).mono ?_
      rintro e _ ⟨F2, rfl, hp, hk, hn⟩
      have hq := add_below HPu.out HB.out hk
      replace HB := Lib.hid hq.1
      clear hq
      have hy := add_other HPv.out hk hn (fun z hz => (TC.sep HPu.out z hz).1) (apart_swap HDvu.out)
      replace HPv := Lib.hid hy.1
      replace HDvu := Lib.hid (apart_swap hy.2)
      clear hy
      have hy := own_add HOa.out hk hn HDua.out
      replace HOa := Lib.hid hy.1
      replace HDua := Lib.hid hy.2
      clear hy
      replace HPu := Lib.hid hp
      clear hp hk hn
      clear e1 hgw
      obtain ⟨e1, hgw⟩ := E1.out _ HB.out
      go_wp2_with fail
      refine (refin_i _ _ (nodesL l P) x _ HNLA.out HOa.out.at).mono ?_
      rintro e _ ⟨rfl, rfl⟩
      generalize hin : hasN (nodesL l P) x = h at *
      have HIN := Lib.hid hin
      clear hin
      cases h
      · go_wp2
        go_roundw
        case rel => exact ⟨k + 1, _, _, hlt, by go_num, by rw [HTK.out]; exact HPu.out, by rw [HTK.out]; exact (by rw [addS_skip HIN.out]; exact HPv.out), HOa.out, HB.out, HDvu.out, HDua.out, HDva.out⟩
        case measure => simp [intOf]; omega
      · go_wp2_with fail
        refine (TC.add (x) HWX.out HNu.out HPv.out).mono ?_
        rintro e _ ⟨F2, rfl, hp, hk, hn⟩
        have hq := add_below HPv.out HB.out hk
        replace HB := Lib.hid hq.1
        clear hq
        have hy := add_other HPu.out hk hn (fun z hz => (TC.sep HPv.out z hz).1) HDvu.out
        replace HPu := Lib.hid hy.1
        replace HDvu := Lib.hid hy.2
        clear hy
        have hy := own_add HOa.out hk hn HDva.out
        replace HOa := Lib.hid hy.1
        replace HDva := Lib.hid hy.2
        clear hy
        replace HPv := Lib.hid hp
        clear hp hk hn
        go_wp2
        go_roundw
        case rel => exact ⟨k + 1, _, _, hlt, by go_num, by rw [HTK.out]; exact HPu.out, by rw [HTK.out]; exact HPv.out, HOa.out, HB.out, HDvu.out, HDua.out, HDva.out⟩
        case measure => simp [intOf]; omega
    · have hdk : decide ((k : Int) < (X.length : Int)) = false := decide_eq_false (by omega)
      have HE : Hid (X.take k = X) := List.take_of_length_le (by omega)
      replace HPu : Hid (PTo w wr bu l P (addL l P [] X) Fu) := by have h := HPu.out; rw [HE.out] at h; exact h
      replace HPv : Hid (PTo w wr bv l P (addL l P [] X) Fv) := by have h := HPv.out; rw [HE.out] at h; exact h
      replace HNu : Hid ((addL l P [] X).length ≤ 1000) := by have h := HNu.out; rw [HE.out] at h; exact h
      have HSB := Lib.hid (fun n => addL_sub (l := l) (P := P) (xs := X) (n := n))
      clear HE HDvu HDua HDva
      generalize addL l P [] X = N at *
      have HIa := Lib.hid HOa.out.at
      clear HOa
      go_wp2_with fail
      refine (TC.nodes HNu.out HPu.out).mono ?_
      rintro e _ ⟨_, rfl, ho, hb⟩
      obtain ⟨ap, cp, rfl⟩ := ho.form
      have HIp := Lib.hid ho.at
      clear ho
      replace HB := Lib.hid (blThen HB.out hb)
      replace HIa := Lib.hid (HIa.out.later hb)
      replace HPu := Lib.hid (TC.later HPu.out hb)
      replace HPv := Lib.hid (TC.later HPv.out hb)
      clear hb
      go_wp2_with fail
      refine (TC.waiting HNu.out HPu.out).mono ?_
      rintro e _ ⟨_, rfl, ho, hb⟩
      obtain ⟨aq, cq, rfl⟩ := ho.form
      have HIq := Lib.hid ho.at
      clear ho
      replace HB := Lib.hid (blThen HB.out hb)
      replace HIa := Lib.hid (HIa.out.later hb)
      replace HIp := Lib.hid (HIp.out.later hb)
      replace HPu := Lib.hid (TC.later HPu.out hb)
      replace HPv := Lib.hid (TC.later HPv.out hb)
      clear hb
      go_wp2
      go_loopw [13] (fun i wr => ∃ n : Nat, n ≤ 9 ∧ i = .int .i64 n ∧ PTo w wr bu l P N Fu ∧ PTo w wr bv l P N Fv ∧ Il wr ga ca (nodesL l P) ∧ Il wr ap cp (pickL l P N true) ∧ Il wr aq cq (pickL l P N false) ∧ Below w.heap.size w wr) (fun i _ => 9 - (intOf i).toNat)
      case atStart => exact ⟨0, Nat.zero_le _, rfl, HPu.out, HPv.out, HIa.out, HIp.out, HIq.out, HB.out⟩
      case round =>
        clear HPu HPv HB HIa HIp HIq hlt hk
        obtain ⟨n, hn, rfl, hpu, hpv, hia, hip, hiq, hb⟩ := hrel
        have HPu := Lib.hid hpu
        have HPv := Lib.hid hpv
        have HIa := Lib.hid hia
        have HIp := Lib.hid hip
        have HIq := Lib.hid hiq
        have HB := Lib.hid hb
        clear hpu hpv hia hip hiq hb
        by_cases hlt : n ≤ 8
        · have hdn : decide ((n : Int) ≤ 8) = true := decide_eq_true (by omega)
          have HWN : Hid ((Lit.int .i64 (n : Int)).wf = true) := WalkArith.wf_i64 (by omega)
          have HVP := Lib.hid (pick_has l P N true (n : Int))
          have HVQ := Lib.hid (pick_has l P N false (n : Int))
          have HSBN := Lib.hid (HSB.out (n : Int))
          generalize hA : hasN (nodesL l P) (n : Int) = A at *
          generalize hB : hasN N (n : Int) = B at *
          have HVA := Lib.hid hA
          have HVB := Lib.hid hB
          clear hA hB
          cases A
          · obtain rfl : B = false := Bool.eq_false_iff.2 fun h => Bool.false_ne_true (HSBN.out h)
            clear HSBN
            go_wp2_with (first | (go_at_call 25; with_reducible refine (refin_i _ _ (pickL l P N true) (n : Int) _ (pick_len l P N true) HIp.out).mono ?_; rintro e w2 ⟨rfl, rfl⟩; rw [HVP.out]) | (go_at_call 25; with_reducible refine (refin_i _ _ (pickL l P N false) (n : Int) _ (pick_len l P N false) HIq.out).mono ?_; rintro e w2 ⟨rfl, rfl⟩; rw [HVQ.out]) | (go_at_call 25; with_reducible refine (refin_i _ _ (nodesL l P) (n : Int) _ HNLA.out HIa.out).mono ?_; rintro e w2 ⟨rfl, rfl⟩; rw [HVA.out]) | (go_at_call 24; refine (TC.has (n : Int) HWN.out HNu.out HPu.out).mono ?_; rintro e w2 ⟨rfl, hb⟩; replace HPu := Lib.hid (TC.later HPu.out hb); replace HPv := Lib.hid (TC.later HPv.out hb); replace HIa := Lib.hid (HIa.out.later hb); replace HIp := Lib.hid (HIp.out.later hb); replace HIq := Lib.hid (HIq.out.later hb); replace HB := Lib.hid (blThen HB.out hb); clear hb; rw [HVB.out]))
            go_roundw
            case rel => exact ⟨n + 1, by omega, by go_num, HPu.out, HPv.out, HIa.out, HIp.out, HIq.out, HB.out⟩
            case measure => simp [intOf]; omega
          · clear HSBN
            cases B
            · go_wp2_with (first | (go_at_call 25; with_reducible refine (refin_i _ _ (pickL l P N true) (n : Int) _ (pick_len l P N true) HIp.out).mono ?_; rintro e w2 ⟨rfl, rfl⟩; rw [HVP.out]) | (go_at_call 25; with_reducible refine (refin_i _ _ (pickL l P N false) (n : Int) _ (pick_len l P N false) HIq.out).mono ?_; rintro e w2 ⟨rfl, rfl⟩; rw [HVQ.out]) | (go_at_call 25; with_reducible refine (refin_i _ _ (nodesL l P) (n : Int) _ HNLA.out HIa.out).mono ?_; rintro e w2 ⟨rfl, rfl⟩; rw [HVA.out]) | (go_at_call 24; refine (TC.has (n : Int) HWN.out HNu.out HPu.out).mono ?_; rintro e w2 ⟨rfl, hb⟩; replace HPu := Lib.hid (TC.later HPu.out hb); replace HPv := Lib.hid (TC.later HPv.out hb); replace HIa := Lib.hid (HIa.out.later hb); replace HIp := Lib.hid (HIp.out.later hb); replace HIq := Lib.hid (HIq.out.later hb); replace HB := Lib.hid (blThen HB.out hb); clear hb; rw [HVB.out]))
              go_roundw
              case rel => exact ⟨n + 1, by omega, by go_num, HPu.out, HPv.out, HIa.out, HIp.out, HIq.out, HB.out⟩
              case measure => simp [intOf]; omega
            · go_wp2_with (first | (go_at_call 25; with_reducible refine (refin_i _ _ (pickL l P N true) (n : Int) _ (pick_len l P N true) HIp.out).mono ?_; rintro e w2 ⟨rfl, rfl⟩; rw [HVP.out]) | (go_at_call 25; with_reducible refine (refin_i _ _ (pickL l P N false) (n : Int) _ (pick_len l P N false) HIq.out).mono ?_; rintro e w2 ⟨rfl, rfl⟩; rw [HVQ.out]) | (go_at_call 25; with_reducible refine (refin_i _ _ (nodesL l P) (n : Int) _ HNLA.out HIa.out).mono ?_; rintro e w2 ⟨rfl, rfl⟩; rw [HVA.out]) | (go_at_call 24; refine (TC.has (n : Int) HWN.out HNu.out HPu.out).mono ?_; rintro e w2 ⟨rfl, hb⟩; replace HPu := Lib.hid (TC.later HPu.out hb); replace HPv := Lib.hid (TC.later HPv.out hb); replace HIa := Lib.hid (HIa.out.later hb); replace HIp := Lib.hid (HIp.out.later hb); replace HIq := Lib.hid (HIq.out.later hb); replace HB := Lib.hid (blThen HB.out hb); clear hb; rw [HVB.out]))
              go_roundw
              case rel => exact ⟨n + 1, by omega, by go_num, HPu.out, HPv.out, HIa.out, HIp.out, HIq.out, HB.out⟩
              case measure => simp [intOf]; omega
        · have hdn : decide ((n : Int) ≤ 8) = false := decide_eq_false (by omega)
          clear hlt
          go_wp2_with fail
          refine (TC.nodes HNu.out HPv.out).mono ?_
          rintro e _ ⟨_, rfl, ho, hb⟩
          obtain ⟨ay, cy, rfl⟩ := ho.form
          have HIy := Lib.hid ho.at
          clear ho
          replace HB := Lib.hid (blThen HB.out hb)
          replace HIp := Lib.hid (HIp.out.later hb)
          replace HIq := Lib.hid (HIq.out.later hb)
          replace HPu := Lib.hid (TC.later HPu.out hb)
          replace HPv := Lib.hid (TC.later HPv.out hb)
          clear hb
          go_wp2_with fail
          refine (ints_any _ _ _ _ (pickL l P N true) (pickL l P N true) _ (pick_len l P N true) HIp.out HIy.out).mono ?_
          rintro e _ ⟨rfl, hb⟩
          replace HB := Lib.hid (blThen HB.out hb)
          replace HIp := Lib.hid (HIp.out.later hb)
          replace HIq := Lib.hid (HIq.out.later hb)
          replace HIy := Lib.hid (HIy.out.later hb)
          replace HPu := Lib.hid (TC.later HPu.out hb)
          replace HPv := Lib.hid (TC.later HPv.out hb)
          clear hb
          rw [sameI_refl]
          clear HIp
          clear HIy
          go_wp2_with fail
          refine (TC.quorum HNu.out HPu.out).mono ?_
          rintro e _ ⟨rfl, hb⟩
          replace HB := Lib.hid (blThen HB.out hb)
          replace HIq := Lib.hid (HIq.out.later hb)
          replace HPu := Lib.hid (TC.later HPu.out hb)
          replace HPv := Lib.hid (TC.later HPv.out hb)
          clear hb
          go_wp2_with fail
          refine (TC.quorum HNu.out HPv.out).mono ?_
          rintro e _ ⟨rfl, hb⟩
          replace HB := Lib.hid (blThen HB.out hb)
          replace HIq := Lib.hid (HIq.out.later hb)
          replace HPu := Lib.hid (TC.later HPu.out hb)
          replace HPv := Lib.hid (TC.later HPv.out hb)
          clear hb
          have hbb : (quoB l P (hasN N) == quoB l P (hasN N)) = true := beq_self_eq_true _
          go_wp2_with fail
          refine (TC.all HNu.out HPu.out).mono ?_
          rintro e _ ⟨rfl, hb⟩
          replace HB := Lib.hid (blThen HB.out hb)
          replace HIq := Lib.hid (HIq.out.later hb)
          replace HPu := Lib.hid (TC.later HPu.out hb)
          replace HPv := Lib.hid (TC.later HPv.out hb)
          clear hb
          have hda := all_wait l P N
          generalize doneB l P (hasN N) = d at *
          cases d
          · obtain ⟨m, hm⟩ : ∃ m : Nat, (pickL l P N false).length = m + 1 := ⟨(pickL l P N false).length - 1, by have := hda.2 rfl; omega⟩
            rw [hm]
            have hmz : (((m + 1 : Nat) : Int) == 0) = false := by simp; omega
            have hmy : ((m : Int) + 1 == 0) = false := by simp; omega
            clear hda hm HIq
            go_wp2_with fail
            refine (tlive5_any TC _).mono ?_
            rintro e _ ⟨rfl, hb⟩
            go_wp2
            go_ret
            exact ⟨rfl, blThen HB.out hb⟩
          · rw [hda.1 rfl]
            clear hda HIq
            go_wp2_with fail
            refine (tlive5_any TC _).mono ?_
            rintro e _ ⟨rfl, hb⟩
            go_wp2
            go_ret
            exact ⟨rfl, blThen HB.out hb⟩

set_option maxRecDepth 100000 in
theorem tallyOthers_lifted (os : Os) (started : os.Started) (H : Type) (enc : TypeId × Value → H) :
    ReturnsInHanded {} Try.checked os 7 .any (Rows.tallyOthersSpec.pre6 enc Try.prog Try.f7 Rows.tallyOthersRow.domain false) (Rows.tallyOthersSpec.post enc Try.prog Try.f7 false true false false) := by
  refine law_lift (C := Try.checked) own5 started (by kernel_rfl) Try.func7 laid5 rfl (by kernel_rfl) (fun _ _ _ _ => trodAll_mk1 (shut_bool Try.underlying4 true)) (fun ds h => match ds, h with | [_, _, _], _ => ⟨rfl, rfl, rfl⟩)
    (ChangeSpec.witness6 (enc := enc) (C := Try.checked) false ⟨#[], #[.slice none 0 0, .slice none 0 0, .slice none 0 0], []⟩ 8 (by kernel_rfl) (by kernel_rfl) (by kernel_rfl) (by kernel_rfl)) ?_
  intro W base args ds before hval0 hA0 hlt
  have hval : ∀ (j : Nat) t v, Try.f7.params[j]? = some t → args[j]? = some v → Value.okWide Try.prog W .any base t v := hval0
  have hA : DataW.TrodAll enc Try.prog W 0 (fun _ => true) true Try.f7.params.toList args.toList ds before := hA0
  rw [Try.params7] at hA hval
  obtain ⟨v0, v1, v2, d0, d1, d2, p0, p1, p2, rfl, rfl, rfl, h0, h1, h2⟩ := trodAll_three hA
  obtain ⟨a0, l0, c0, rfl, hh0, hm0⟩ := open_shards (hval 0 22 v0 rfl rfl) h0
  obtain ⟨a1, l1, c1, rfl, hh1, hm1, hw1⟩ := open_intw (hval 1 23 v1 rfl rfl) h1
  obtain ⟨a2, l2, c2, rfl, hh2, hm2, hw2⟩ := open_intw (hval 2 23 v2 rfl rfl) h2
  exact tallyOthers_walk _ _ l0 _ _ l1 _ _ l2 W hh0 hm0 hh1 hm1 hw1 hh2 hm2 hw2

theorem tallyOthers_holds : Rows.TallyOthersSaid :=
  OpenClaim.holds_of_wide 7 Try.f7 rfl rfl rfl rfl rfl rfl rfl ⟨rfl, rfl, rfl, rfl, rfl⟩ rfl rfl rfl rfl rfl (by kernel_rfl) Try.func7 (by kernel_rfl)
    (of_decide_eq_true (by kernel_rfl)) (by unfold Func.isWrapper; rw [if_neg (of_decide_eq_false (by kernel_rfl))]; exact ⟨rfl, rfl⟩)
    (fun os started H enc _ => tallyOthers_lifted os started H enc)

#print axioms tallyOthers_holds

end Go.Proofs.Ytopogdfmbdbimaa
