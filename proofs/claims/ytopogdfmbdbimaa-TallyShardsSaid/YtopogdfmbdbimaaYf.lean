/- TallyShards: a tally of shards has a quorum just if each one by itself has: the law returns true. Conditions: none. -/
import Derived.Test.YtopogdfmbdbimaaWm
set_option linter.unusedVariables false
set_option linter.unusedSimpArgs false
namespace Go.Proofs.Ytopogdfmbdbimaa
open Go.ChangeShapes Go.WideShapes Go.ChangeAt Go.RowKit Go.Joins Go.Deep

/-- What is told of shards one by one: whether a quorum, all, one of their nodes are among those of X. -/
def qS (l : List Sh) (S X : List Int) : Bool := forAll l S fun s => decide (s.nodes.length < 2 * cntF (hasN X) s.nodes)
def dS (l : List Sh) (S X : List Int) : Bool := forAll l S fun s => decide (s.nodes.length ≤ cntF (hasN X) s.nodes)
def eS (l : List Sh) (S X : List Int) : Bool := forAll l S fun s => decide (0 < cntF (hasN X) s.nodes)
theorem has_here {l : List Sh} (h : Topo l) {S : List Int} (X : List Int) {i : Int} {s : Sh} (hi : i ∈ S) (hs : atSh l i = some s) {n : Int} (hn : n ∈ s.nodes) : hasN (addL l (placesL l S) [] X) n = hasN X n := by
  rw [addL_has0, nodes_places, hasN_mem.2 (at_nodesL h hi hs hn), Bool.and_true]
theorem quo_said {l : List Sh} (h : Topo l) (S X : List Int) : quoB l (placesL l S) (hasN (addL l (placesL l S) [] X)) = qS l S X := by
  rw [quo_places]
  exact quo_on fun i hi s hs n hn => has_here h X hi hs hn
theorem each_said {l : List Sh} (h : Topo l) (S X : List Int) : eachB l (placesL l S) (hasN (addL l (placesL l S) [] X)) = eS l S X := by
  rw [each_places]
  exact each_on fun i hi s hs n hn => has_here h X hi hs hn
theorem done_said {l : List Sh} (h : Topo l) (S X : List Int) : doneB l (placesL l S) (hasN (addL l (placesL l S) [] X)) = dS l S X := by
  rw [done_places, ← enough_done h]
  exact forAll_on fun i hi s hs => by rw [cntF_congr fun n hn => has_here h X hi hs hn]
theorem qS_take {l : List Sh} {S X : List Int} {k : Nat} {i : Int} (h : S[k]? = some i) : qS l (S.take (k + 1)) X = (qS l (S.take k) X && qS l [i] X) := forAll_take h _
theorem dS_take {l : List Sh} {S X : List Int} {k : Nat} {i : Int} (h : S[k]? = some i) : dS l (S.take (k + 1)) X = (dS l (S.take k) X && dS l [i] X) := forAll_take h _
theorem eS_take {l : List Sh} {S X : List Int} {k : Nat} {i : Int} (h : S[k]? = some i) : eS l (S.take (k + 1)) X = (eS l (S.take k) X && eS l [i] X) := forAll_take h _

set_option maxRecDepth 100000 in
set_option maxHeartbeats 8000000 in
theorem tallyShards_walk (a : Option Addr) (c : Nat) (l : List Sh) (aS : Option Addr) (cS : Nat) (S : List Int) (aX : Option Addr) (cX : Nat) (X : List Int) (w : World) (hh : Hl w a l) (hm : l.length ≤ 9223372036854775807) (hS : Il w aS cS S) (hS9 : S.length ≤ 9223372036854775807) (hSw : ∀ n ∈ S, (Lit.int .i64 n).wf = true) (hX : Il w aX cX X) (hX9 : X.length ≤ 9223372036854775807) (hXw : ∀ n ∈ X, (Lit.int .i64 n).wf = true) :
    Calls Try.prog 8 #[.slice a l.length c, .slice aS S.length cS, .slice aX X.length cX] w fun e w' => e = .returned (.bool true) ∧ Below w.heap.size w w' := by
  have HH0 := Lib.hid hh
  have HLM := Lib.hid hm
  have HS := Lib.hid hS
  have HSW := Lib.hid hSw
  have HX := Lib.hid hX
  have HXW := Lib.hid hXw
  have HB := Lib.hid (Below.refl w.heap.size w)
  clear hh hm hS hSw hX hXw
  go_enter Try.func8, Try.ntmps8
  go_wp2_with fail
  refine (tright_any _ _ l _ HH0.out HLM.out).mono ?_
  rintro e _ ⟨b, rfl, htb, hb⟩
  replace HB := Lib.hid (blThen HB.out hb)
  clear hb
  cases b
  · go_wp2_with fail
    refine (tlive5_any TC _).mono ?_
    rintro e _ ⟨rfl, hb⟩
    go_wp2
    go_ret
    exact ⟨rfl, blThen HB.out hb⟩
  have HTP := Lib.hid (topo_of (htb rfl))
  have HN5 := Lib.hid (topo_n5 HTP.out)
  have H8 : Hid (l.length ≤ 1000000) := Nat.le_trans HTP.out.len (by decide)
  clear htb
  by_cases hbigS : 10 < S.length
  · have hbigI : (10 : Int) < (S.length : Int) := by omega
    have hdS : decide ((10 : Int) < (S.length : Int)) = true := decide_eq_true hbigI
    go_wp2_with fail
    refine (tlive5_any TC _).mono ?_
    rintro e _ ⟨rfl, hb⟩
    go_wp2
    go_ret
    exact ⟨rfl, blThen HB.out hb⟩
  have hbigIS : ¬ (10 : Int) < (S.length : Int) := by omega
  have hdS : decide ((10 : Int) < (S.length : Int)) = false := decide_eq_false hbigIS
  have HS40 : Hid (S.length ≤ 10) := by show _ ≤ _; omega
  by_cases hbigX : 40 < X.length
  · have hbigI : (40 : Int) < (X.length : Int) := by omega
    have hdX : decide ((40 : Int) < (X.length : Int)) = true := decide_eq_true hbigI
    go_wp2_with fail
    refine (tlive5_any TC _).mono ?_
    rintro e _ ⟨rfl, hb⟩
    go_wp2
    go_ret
    exact ⟨rfl, blThen HB.out hb⟩
  have hbigIX : ¬ (40 : Int) < (X.length : Int) := by omega
  have hdX : decide ((40 : Int) < (X.length : Int)) = false := decide_eq_false hbigIX
  have HX40 : Hid (X.length ≤ 40) := by show _ ≤ _; omega
  clear hbigS hbigX
  go_wp2_with fail
  refine (TC.new w _ _ _ l _ _ S HTP.out (Nat.le_trans HS40.out (by decide)) HH0.out HB.out (HS.out.later HB.out)).mono ?_
  rintro e _ ⟨bu, Fu, rfl, hp, hb, hf⟩
  replace HB := Lib.hid (blThen HB.out hb)
  clear hb
  have HPu := Lib.hid hp
  clear hp hf
  have HQS := Lib.hid (quo_said HTP.out S X)
  have HDS := Lib.hid (done_said HTP.out S X)
  have HES := Lib.hid (each_said HTP.out S X)
  generalize placesL l S = P at *
  go_wp2
  go_loopw [8] (fun i wr => ∃ (k : Nat) (Fu : Nat → Prop), k ≤ X.length ∧ i = .int .i64 k ∧ PTo w wr bu l P (addL l P [] (X.take k)) Fu ∧ Below w.heap.size w wr) (fun i _ => X.length - (intOf i).toNat)
  case atStart => exact ⟨0, Fu, Nat.zero_le _, rfl, HPu.out, HB.out⟩
  case round =>
    clear HPu HB
    obtain ⟨k, Fu, hk, rfl, hpu, hb⟩ := hrel
    have HPu := Lib.hid hpu
    have HB := Lib.hid hb
    clear hpu hb
    have HNL : Hid ((addL l P [] (X.take k)).length ≤ 1000) := Nat.le_trans (addL_len0 _ _ _) (Nat.le_trans (by rw [List.length_take]; have := HX40.out; omega) (show 40 ≤ 1000 by decide))
    by_cases hlt : k < X.length
    · obtain ⟨x, hx⟩ := at_lt hlt
      have HWX := Lib.hid (HXW.out x (List.mem_of_getElem? hx))
      obtain ⟨g, o, rfl, hg, e0⟩ := HX.out.at hx
      have hgw := Nat.lt_of_lt_of_le hg HB.out.size
      have e1 := cell_in HB.out hg e0
      have hk0 : (0 : Int) ≤ (k : Int) := by omega
      have hk1 : (k : Int) < (X.length : Int) := by omega
      have hdk : decide ((k : Int) < (X.length : Int)) = true := decide_eq_true hk1
      have HTK := Lib.hid (addL_take (l := l) (P := P) (N := []) hx)
      have hk40 := HX40.out
      clear hx e0
      go_wp2_with fail
      refine (TC.add (x) HWX.out HNL.out HPu.out).mono ?_
      rintro e _ ⟨F2, rfl, hp, hk, hn⟩
      have hq := add_below HPu.out HB.out hk
      replace HB := Lib.hid hq.1
      clear hq
      replace HPu := Lib.hid hp
      clear hp hk hn
      go_wp2
      go_roundw
      case rel => exact ⟨k + 1, F2, hlt, by go_num, by rw [HTK.out]; exact HPu.out, HB.out⟩
      case measure => simp [intOf]; omega
    · have hdk : decide ((k : Int) < (X.length : Int)) = false := decide_eq_false (by omega)
      have HE : Hid (X.take k = X) := List.take_of_length_le (by omega)
      replace HPu := Lib.hid (by have h := HPu.out; rw [HE.out] at h; exact h : PTo w _ bu l P (addL l P [] X) Fu)
      have HNu : Hid ((addL l P [] X).length ≤ 1000) := by have h := HNL.out; rw [HE.out] at h; exact h
      clear HE HNL
      generalize addL l P [] X = N at *
      go_wp2
      clear hlt hk
      go_loopw [9, 10, 11, 12] (fun q al ea i wr => ∃ (p : Nat) (Fu : Nat → Prop), p ≤ S.length ∧ i = .int .i64 p ∧ q = .bool (qS l (S.take p) X) ∧ al = .bool (dS l (S.take p) X) ∧ ea = .bool (eS l (S.take p) X) ∧ PTo w wr bu l P N Fu ∧ Below w.heap.size w wr) (fun _ _ _ i _ => S.length - (intOf i).toNat)
      case atStart => exact ⟨0, Fu, Nat.zero_le _, rfl, rfl, rfl, rfl, HPu.out, HB.out⟩
      case round =>
        clear HPu HB
        obtain ⟨p, Fu, hpl, rfl, rfl, rfl, rfl, hpu, hb⟩ := hrel
        have HPu := Lib.hid hpu
        have HB := Lib.hid hb
        clear hpu hb
        have hs40 := HS40.out
        by_cases hps : p < S.length
        · obtain ⟨i, hi⟩ := at_lt hps
          obtain ⟨gs, os, rfl, hgs, s0⟩ := HS.out.at hi
          have hgsw := Nat.lt_of_lt_of_le hgs HB.out.size
          have s1 := cell_in HB.out hgs s0
          have hp0 : (0 : Int) ≤ (p : Int) := by omega
          have hp1 : (p : Int) < (S.length : Int) := by omega
          have hdp : decide ((p : Int) < (S.length : Int)) = true := decide_eq_true hp1
          have HTQ := Lib.hid (qS_take (l := l) (X := X) hi)
          have HTD := Lib.hid (dS_take (l := l) (X := X) hi)
          have HTE := Lib.hid (eS_take (l := l) (X := X) hi)
          have HQI := Lib.hid (quo_said HTP.out [i] X)
          have HDI := Lib.hid (done_said HTP.out [i] X)
          have HEI := Lib.hid (each_said HTP.out [i] X)
          clear hi s0
          go_wp2_with fail
          refine (TC.new w _ _ _ l _ _ [i] HTP.out (by simp) HH0.out (blThen HB.out (blAlloc (Below.refl _ _) _)) (one_newI _ i _ rfl)).mono ?_
          rintro e _ ⟨bv, Fv, rfl, hp, hb, hf⟩
          replace hb := blThen (blAlloc (Below.refl _ _) _) hb
          have HDvu : Hid (∀ z, Fv z → ¬ Fu z) := fun z hz hg => Nat.lt_irrefl _ (Nat.lt_of_lt_of_le (TC.sep HPu.out z hg).2 (Nat.le_trans (by simp) (hf z hz)))
          replace HB := Lib.hid (blThen HB.out hb)
          replace HPu := Lib.hid (TC.later HPu.out hb)
          clear hb
          have HPv := Lib.hid hp
          clear hp hf
          generalize placesL l [i] = Q at *
          generalize hqv : qS l [i] X = qi at *
          generalize hdv : dS l [i] X = di at *
          generalize hev : eS l [i] X = ei at *
          have HQV := Lib.hid hqv
          have HDV := Lib.hid hdv
          have HEV := Lib.hid hev
          clear hqv hdv hev s1 hgsw
          go_wp2
          go_loopw [14] (fun i wr => ∃ (k : Nat) (Fu Fv : Nat → Prop), k ≤ X.length ∧ i = .int .i64 k ∧ PTo w wr bu l P N Fu ∧ PTo w wr bv l Q (addL l Q [] (X.take k)) Fv ∧ Below w.heap.size w wr ∧ (∀ z, Fv z → ¬ Fu z)) (fun i _ => X.length - (intOf i).toNat)
          case atStart => exact ⟨0, Fu, Fv, Nat.zero_le _, rfl, HPu.out, HPv.out, HB.out, HDvu.out⟩
          case round =>
            clear HPu HPv HB HDvu
            obtain ⟨k, Fu, Fv, hk, rfl, hpu, hpv, hb, hdvu⟩ := hrel
            have HPu := Lib.hid hpu
            have HPv := Lib.hid hpv
            have HB := Lib.hid hb
            have HDvu := Lib.hid hdvu
            clear hpu hpv hb hdvu
            have HNL : Hid ((addL l Q [] (X.take k)).length ≤ 1000) := Nat.le_trans (addL_len0 _ _ _) (Nat.le_trans (by rw [List.length_take]; have := HX40.out; omega) (show 40 ≤ 1000 by decide))
            by_cases hlt : k < X.length
            · obtain ⟨x, hx⟩ := at_lt hlt
              have HWX := Lib.hid (HXW.out x (List.mem_of_getElem? hx))
              obtain ⟨g, o, rfl, hg, e0⟩ := HX.out.at hx
              have hgw := Nat.lt_of_lt_of_le hg HB.out.size
              have e1 := cell_in HB.out hg e0
              have hk0 : (0 : Int) ≤ (k : Int) := by omega
              have hk1 : (k : Int) < (X.length : Int) := by omega
              have hdk : decide ((k : Int) < (X.length : Int)) = true := decide_eq_true hk1
              have HTK := Lib.hid (addL_take (l := l) (P := Q) (N := []) hx)
              have hk40 := HX40.out
              clear hx e0
              go_wp2_with fail
              refine (TC.add (x) HWX.out HNL.out HPv.out).mono ?_
              rintro e _ ⟨F2, rfl, hp, hk, hn⟩
              have hq := add_below HPv.out HB.out hk
              replace HB := Lib.hid hq.1
              clear hq
              have hy := add_other HPu.out hk hn (fun z hz => (TC.sep HPv.out z hz).1) HDvu.out
              replace HPu := Lib.hid hy.1
              replace HDvu := Lib.hid hy.2
              clear hy
              replace HPv := Lib.hid hp
              clear hp hk hn
              go_wp2
              go_roundw
              case rel => exact ⟨k + 1, Fu, F2, hlt, by go_num, HPu.out, by rw [HTK.out]; exact HPv.out, HB.out, HDvu.out⟩
              case measure => simp [intOf]; omega
            · have hdk : decide ((k : Int) < (X.length : Int)) = false := decide_eq_false (by omega)
              have HE : Hid (X.take k = X) := List.take_of_length_le (by omega)
              replace HPv := Lib.hid (by have h := HPv.out; rw [HE.out] at h; exact h : PTo w _ bv l Q (addL l Q [] X) Fv)
              have HNv : Hid ((addL l Q [] X).length ≤ 1000) := by have h := HNL.out; rw [HE.out] at h; exact h
              clear HE HNL
              generalize addL l Q [] X = M at *
              clear HDvu
              generalize hq0 : qS l (S.take p) X = q0 at *
              generalize hd0 : dS l (S.take p) X = d0 at *
              generalize he0 : eS l (S.take p) X = e0 at *
              have HQ0 := Lib.hid hq0
              have HD0 := Lib.hid hd0
              have HE0 := Lib.hid he0
              clear hq0 hd0 he0
              cases q0
              · cases d0
                · cases e0
                  · go_wp2_with (first | (go_at_call 13; refine (TC.quorum HNv.out HPv.out).mono ?_; rintro e wn ⟨rfl, hb⟩; replace HB := Lib.hid (blThen HB.out hb); replace HPu := Lib.hid (TC.later HPu.out hb); replace HPv := Lib.hid (TC.later HPv.out hb); clear hb; rw [HQI.out]) | (go_at_call 15; refine (TC.all HNv.out HPv.out).mono ?_; rintro e wn ⟨rfl, hb⟩; replace HB := Lib.hid (blThen HB.out hb); replace HPu := Lib.hid (TC.later HPu.out hb); replace HPv := Lib.hid (TC.later HPv.out hb); clear hb; rw [HDI.out]) | (go_at_call 17; refine (TC.each HNv.out HPv.out).mono ?_; rintro e wn ⟨rfl, hb⟩; replace HB := Lib.hid (blThen HB.out hb); replace HPu := Lib.hid (TC.later HPu.out hb); replace HPv := Lib.hid (TC.later HPv.out hb); clear hb; rw [HEI.out]))
                    go_roundw
                    case rel => exact ⟨p + 1, _, hps, by go_num, by rw [HTQ.out]; rfl, by rw [HTD.out]; rfl, by rw [HTE.out]; rfl, HPu.out, HB.out⟩
                    case measure => simp [intOf]; omega
                  · go_wp2_with (first | (go_at_call 13; refine (TC.quorum HNv.out HPv.out).mono ?_; rintro e wn ⟨rfl, hb⟩; replace HB := Lib.hid (blThen HB.out hb); replace HPu := Lib.hid (TC.later HPu.out hb); replace HPv := Lib.hid (TC.later HPv.out hb); clear hb; rw [HQI.out]) | (go_at_call 15; refine (TC.all HNv.out HPv.out).mono ?_; rintro e wn ⟨rfl, hb⟩; replace HB := Lib.hid (blThen HB.out hb); replace HPu := Lib.hid (TC.later HPu.out hb); replace HPv := Lib.hid (TC.later HPv.out hb); clear hb; rw [HDI.out]) | (go_at_call 17; refine (TC.each HNv.out HPv.out).mono ?_; rintro e wn ⟨rfl, hb⟩; replace HB := Lib.hid (blThen HB.out hb); replace HPu := Lib.hid (TC.later HPu.out hb); replace HPv := Lib.hid (TC.later HPv.out hb); clear hb; rw [HEI.out]))
                    go_roundw
                    case rel => exact ⟨p + 1, _, hps, by go_num, by rw [HTQ.out]; rfl, by rw [HTD.out]; rfl, by rw [HTE.out]; rfl, HPu.out, HB.out⟩
                    case measure => simp [intOf]; omega
                · cases e0
                  · go_wp2_with (first | (go_at_call 13; refine (TC.quorum HNv.out HPv.out).mono ?_; rintro e wn ⟨rfl, hb⟩; replace HB := Lib.hid (blThen HB.out hb); replace HPu := Lib.hid (TC.later HPu.out hb); replace HPv := Lib.hid (TC.later HPv.out hb); clear hb; rw [HQI.out]) | (go_at_call 15; refine (TC.all HNv.out HPv.out).mono ?_; rintro e wn ⟨rfl, hb⟩; replace HB := Lib.hid (blThen HB.out hb); replace HPu := Lib.hid (TC.later HPu.out hb); replace HPv := Lib.hid (TC.later HPv.out hb); clear hb; rw [HDI.out]) | (go_at_call 17; refine (TC.each HNv.out HPv.out).mono ?_; rintro e wn ⟨rfl, hb⟩; replace HB := Lib.hid (blThen HB.out hb); replace HPu := Lib.hid (TC.later HPu.out hb); replace HPv := Lib.hid (TC.later HPv.out hb); clear hb; rw [HEI.out]))
                    go_roundw
                    case rel => exact ⟨p + 1, _, hps, by go_num, by rw [HTQ.out]; rfl, by rw [HTD.out]; rfl, by rw [HTE.out]; rfl, HPu.out, HB.out⟩
                    case measure => simp [intOf]; omega
                  · go_wp2_with (first | (go_at_call 13; refine (TC.quorum HNv.out HPv.out).mono ?_; rintro e wn ⟨rfl, hb⟩; replace HB := Lib.hid (blThen HB.out hb); replace HPu := Lib.hid (TC.later HPu.out hb); replace HPv := Lib.hid (TC.later HPv.out hb); clear hb; rw [HQI.out]) | (go_at_call 15; refine (TC.all HNv.out HPv.out).mono ?_; rintro e wn ⟨rfl, hb⟩; replace HB := Lib.hid (blThen HB.out hb); replace HPu := Lib.hid (TC.later HPu.out hb); replace HPv := Lib.hid (TC.later HPv.out hb); clear hb; rw [HDI.out]) | (go_at_call 17; refine (TC.each HNv.out HPv.out).mono ?_; rintro e wn ⟨rfl, hb⟩; replace HB := Lib.hid (blThen HB.out hb); replace HPu := Lib.hid (TC.later HPu.out hb); replace HPv := Lib.hid (TC.later HPv.out hb); clear hb; rw [HEI.out]))
                    go_roundw
                    case rel => exact ⟨p + 1, _, hps, by go_num, by rw [HTQ.out]; rfl, by rw [HTD.out]; rfl, by rw [HTE.out]; rfl, HPu.out, HB.out⟩
                    case measure => simp [intOf]; omega
              · cases d0
                · cases e0
                  · go_wp2_with (first | (go_at_call 13; refine (TC.quorum HNv.out HPv.out).mono ?_; rintro e wn ⟨rfl, hb⟩; replace HB := Lib.hid (blThen HB.out hb); replace HPu := Lib.hid (TC.later HPu.out hb); replace HPv := Lib.hid (TC.later HPv.out hb); clear hb; rw [HQI.out]) | (go_at_call 15; refine (TC.all HNv.out HPv.out).mono ?_; rintro e wn ⟨rfl, hb⟩; replace HB := Lib.hid (blThen HB.out hb); replace HPu := Lib.hid (TC.later HPu.out hb); replace HPv := Lib.hid (TC.later HPv.out hb); clear hb; rw [HDI.out]) | (go_at_call 17; refine (TC.each HNv.out HPv.out).mono ?_; rintro e wn ⟨rfl, hb⟩; replace HB := Lib.hid (blThen HB.out hb); replace HPu := Lib.hid (TC.later HPu.out hb); replace HPv := Lib.hid (TC.later HPv.out hb); clear hb; rw [HEI.out]))
                    go_roundw
                    case rel => exact ⟨p + 1, _, hps, by go_num, by rw [HTQ.out]; rfl, by rw [HTD.out]; rfl, by rw [HTE.out]; rfl, HPu.out, HB.out⟩
                    case measure => simp [intOf]; omega
                  · go_wp2_with (first | (go_at_call 13; refine (TC.quorum HNv.out HPv.out).mono ?_; rintro e wn ⟨rfl, hb⟩; replace HB := Lib.hid (blThen HB.out hb); replace HPu := Lib.hid (TC.later HPu.out hb); replace HPv := Lib.hid (TC.later HPv.out hb); clear hb; rw [HQI.out]) | (go_at_call 15; refine (TC.all HNv.out HPv.out).mono ?_; rintro e wn ⟨rfl, hb⟩; replace HB := Lib.hid (blThen HB.out hb); replace HPu := Lib.hid (TC.later HPu.out hb); replace HPv := Lib.hid (TC.later HPv.out hb); clear hb; rw [HDI.out]) | (go_at_call 17; refine (TC.each HNv.out HPv.out).mono ?_; rintro e wn ⟨rfl, hb⟩; replace HB := Lib.hid (blThen HB.out hb); replace HPu := Lib.hid (TC.later HPu.out hb); replace HPv := Lib.hid (TC.later HPv.out hb); clear hb; rw [HEI.out]))
                    go_roundw
                    case rel => exact ⟨p + 1, _, hps, by go_num, by rw [HTQ.out]; rfl, by rw [HTD.out]; rfl, by rw [HTE.out]; rfl, HPu.out, HB.out⟩
                    case measure => simp [intOf]; omega
                · cases e0
                  · go_wp2_with (first | (go_at_call 13; refine (TC.quorum HNv.out HPv.out).mono ?_; rintro e wn ⟨rfl, hb⟩; replace HB := Lib.hid (blThen HB.out hb); replace HPu := Lib.hid (TC.later HPu.out hb); replace HPv := Lib.hid (TC.later HPv.out hb); clear hb; rw [HQI.out]) | (go_at_call 15; refine (TC.all HNv.out HPv.out).mono ?_; rintro e wn ⟨rfl, hb⟩; replace HB := Lib.hid (blThen HB.out hb); replace HPu := Lib.hid (TC.later HPu.out hb); replace HPv := Lib.hid (TC.later HPv.out hb); clear hb; rw [HDI.out]) | (go_at_call 17; refine (TC.each HNv.out HPv.out).mono ?_; rintro e wn ⟨rfl, hb⟩; replace HB := Lib.hid (blThen HB.out hb); replace HPu := Lib.hid (TC.later HPu.out hb); replace HPv := Lib.hid (TC.later HPv.out hb); clear hb; rw [HEI.out]))
                    go_roundw
                    case rel => exact ⟨p + 1, _, hps, by go_num, by rw [HTQ.out]; rfl, by rw [HTD.out]; rfl, by rw [HTE.out]; rfl, HPu.out, HB.out⟩
                    case measure => simp [intOf]; omega
                  · go_wp2_with (first | (go_at_call 13; refine (TC.quorum HNv.out HPv.out).mono ?_; rintro e wn ⟨rfl, hb⟩; replace HB := Lib.hid (blThen HB.out hb); replace HPu := Lib.hid (TC.later HPu.out hb); replace HPv := Lib.hid (TC.later HPv.out hb); clear hb; rw [HQI.out]) | (go_at_call 15; refine (TC.all HNv.out HPv.out).mono ?_; rintro e wn ⟨rfl, hb⟩; replace HB := Lib.hid (blThen HB.out hb); replace HPu := Lib.hid (TC.later HPu.out hb); replace HPv := Lib.hid (TC.later HPv.out hb); clear hb; rw [HDI.out]) | (go_at_call 17; refine (TC.each HNv.out HPv.out).mono ?_; rintro e wn ⟨rfl, hb⟩; replace HB := Lib.hid (blThen HB.out hb); replace HPu := Lib.hid (TC.later HPu.out hb); replace HPv := Lib.hid (TC.later HPv.out hb); clear hb; rw [HEI.out]))
                    go_roundw
                    case rel => exact ⟨p + 1, _, hps, by go_num, by rw [HTQ.out]; rfl, by rw [HTD.out]; rfl, by rw [HTE.out]; rfl, HPu.out, HB.out⟩
                    case measure => simp [intOf]; omega
        · have hdp : decide ((p : Int) < (S.length : Int)) = false := decide_eq_false (by omega)
          have HE : Hid (S.take p = S) := List.take_of_length_le (by omega)
          rw [HE.out]
          clear HE
          generalize qS l S X = qs at *
          generalize dS l S X = ds at *
          generalize eS l S X = es at *
          have hbq : (qs == qs) = true := beq_self_eq_true _
          have hbd : (ds == ds) = true := beq_self_eq_true _
          have hbe : (es == es) = true := beq_self_eq_true _
          go_wp2_with fail
          refine (TC.quorum HNu.out HPu.out).mono ?_
          rintro e _ ⟨rfl, hb⟩
          replace HB := Lib.hid (blThen HB.out hb)
          replace HPu := Lib.hid (TC.later HPu.out hb)
          clear hb
          rw [HQS.out]
          go_wp2_with fail
          refine (TC.all HNu.out HPu.out).mono ?_
          rintro e _ ⟨rfl, hb⟩
          replace HB := Lib.hid (blThen HB.out hb)
          replace HPu := Lib.hid (TC.later HPu.out hb)
          clear hb
          rw [HDS.out]
          go_wp2_with fail
          refine (TC.each HNu.out HPu.out).mono ?_
          rintro e _ ⟨rfl, hb⟩
          replace HB := Lib.hid (blThen HB.out hb)
          replace HPu := Lib.hid (TC.later HPu.out hb)
          clear hb
          rw [HES.out]
          go_wp2_with fail
          refine (tlive5_any TC _).mono ?_
          rintro e _ ⟨rfl, hb⟩
          go_wp2
          go_ret
          exact ⟨rfl, blThen HB.out hb⟩

set_option maxRecDepth 100000 in
theorem tallyShards_lifted (os : Os) (started : os.Started) (H : Type) (enc : TypeId × Value → H) :
    ReturnsInHanded {} Try.checked os 8 .any (Rows.tallyShardsSpec.pre6 enc Try.prog Try.f8 Rows.tallyShardsRow.domain false) (Rows.tallyShardsSpec.post enc Try.prog Try.f8 false true false false) := by
  refine law_lift (C := Try.checked) own5 started (by kernel_rfl) Try.func8 laid5 rfl (by kernel_rfl) (fun _ _ _ _ => trodAll_mk1 (shut_bool Try.underlying4 true)) (fun ds h => match ds, h with | [_, _, _], _ => ⟨rfl, rfl, rfl⟩)
    (ChangeSpec.witness6 (enc := enc) (C := Try.checked) false ⟨#[], #[.slice none 0 0, .slice none 0 0, .slice none 0 0], []⟩ 8 (by kernel_rfl) (by kernel_rfl) (by kernel_rfl) (by kernel_rfl)) ?_
  intro W base args ds before hval0 hA0 hlt
  have hval : ∀ (j : Nat) t v, Try.f8.params[j]? = some t → args[j]? = some v → Value.okWide Try.prog W .any base t v := hval0
  have hA : DataW.TrodAll enc Try.prog W 0 (fun _ => true) true Try.f8.params.toList args.toList ds before := hA0
  rw [Try.params8] at hA hval
  obtain ⟨v0, v1, v2, d0, d1, d2, p0, p1, p2, rfl, rfl, rfl, h0, h1, h2⟩ := trodAll_three hA
  obtain ⟨a0, l0, c0, rfl, hh0, hm0⟩ := open_shards (hval 0 22 v0 rfl rfl) h0
  obtain ⟨a1, l1, c1, rfl, hh1, hm1, hw1⟩ := open_intw (hval 1 23 v1 rfl rfl) h1
  obtain ⟨a2, l2, c2, rfl, hh2, hm2, hw2⟩ := open_intw (hval 2 23 v2 rfl rfl) h2
  exact tallyShards_walk _ _ l0 _ _ l1 _ _ l2 W hh0 hm0 hh1 hm1 hw1 hh2 hm2 hw2

theorem tallyShards_holds : Rows.TallyShardsSaid :=
  OpenClaim.holds_of_wide 8 Try.f8 rfl rfl rfl rfl rfl rfl rfl ⟨rfl, rfl, rfl, rfl, rfl⟩ rfl rfl rfl rfl rfl (by kernel_rfl) Try.func8 (by kernel_rfl)
    (of_decide_eq_true (by kernel_rfl)) (by unfold Func.isWrapper; rw [if_neg (of_decide_eq_false (by kernel_rfl))]; exact ⟨rfl, rfl⟩)
    (fun os started H enc _ => tallyShards_lifted os started H enc)

#print axioms tallyShards_holds

end Go.Proofs.Ytopogdfmbdbimaa
