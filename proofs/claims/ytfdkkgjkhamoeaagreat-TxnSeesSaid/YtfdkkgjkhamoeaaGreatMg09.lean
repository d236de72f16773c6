/- Less; Union. Conditions: lists of at most some hundred thousand spans. -/
import Derived.Test.YtfdkkgjkhamoeaaGreatMg07
import Derived.Test.YtfdkkgjkhamoeaaGreatMg08
/- Less; Union. Conditions: lists of at most some hundred thousand spans. -/
set_option linter.unusedVariables false
namespace Go.Proofs.YtfdkkgjkhamoeaaGreat
namespace S3
open Go.RowKit

/-- Of d, by rising From, the first k have been joined to acc. -/
def JoinAt (d : List Sp) (k : Nat) (acc : List Sp) : Prop := acc.length ≤ k ∧ ((k = 0 ∧ acc = []) ∨ ∃ pre cur, acc = pre ++ [cur] ∧ pre ++ joinL cur (d.drop k) = byL d)
theorem joinAt_zero (d : List Sp) : JoinAt d 0 [] := ⟨Nat.le_refl _, .inl ⟨rfl, rfl⟩⟩
theorem joinAt_first {d : List Sp} {k : Nat} {s : Sp} (h : JoinAt d k []) (hs : d[k]? = some s) : JoinAt d (k + 1) [s] := by
  obtain ⟨_, ⟨rfl, _⟩ | ⟨pre, cur, he, _⟩⟩ := h
  · refine ⟨by simp, .inr ⟨[], s, rfl, ?_⟩⟩
    cases d with
    | nil => simp at hs
    | cons t d =>
      simp only [List.getElem?_cons_zero, Option.some.injEq] at hs
      subst hs
      rfl
  · simp at he
theorem joinAt_drop {d : List Sp} {k : Nat} {s : Sp} (hs : d[k]? = some s) : d.drop k = s :: d.drop (k + 1) := by
  obtain ⟨h1, rfl⟩ := List.getElem?_eq_some_iff.1 hs
  exact List.drop_eq_getElem_cons h1
theorem joinAt_last {d : List Sp} {k : Nat} {pre : List Sp} {cur : Sp} (h : JoinAt d k (pre ++ [cur])) : (pre ++ [cur]).length ≤ k ∧ pre ++ joinL cur (d.drop k) = byL d := by
  obtain ⟨h1, ⟨_, h2⟩ | ⟨p, c, he, h2⟩⟩ := h
  · simp at h2
  · obtain ⟨rfl, hc⟩ := List.append_inj' he rfl
    simp only [List.cons.injEq, and_true] at hc
    subst hc
    exact ⟨h1, h2⟩
theorem joinAt_more {d : List Sp} {k : Nat} {pre : List Sp} {cur s : Sp} (h : JoinAt d k (pre ++ [cur])) (hs : d[k]? = some s) (hr : reachT cur.2 s.1 = false) : JoinAt d (k + 1) (pre ++ [cur] ++ [s]) := by
  obtain ⟨h1, h2⟩ := joinAt_last h
  refine ⟨by simp at h1 ⊢; omega, .inr ⟨pre ++ [cur], s, rfl, ?_⟩⟩
  rw [joinAt_drop hs] at h2
  unfold joinL at h2
  rw [hr] at h2
  simpa using h2
theorem joinAt_join {d : List Sp} {k : Nat} {pre : List Sp} {cur s : Sp} (h : JoinAt d k (pre ++ [cur])) (hs : d[k]? = some s) (hr : reachT cur.2 s.1 = true) : JoinAt d (k + 1) (pre ++ [(cur.1, laterT cur.2 s.2)]) := by
  obtain ⟨h1, h2⟩ := joinAt_last h
  refine ⟨by simp at h1 ⊢; omega, .inr ⟨pre, (cur.1, laterT cur.2 s.2), rfl, ?_⟩⟩
  rw [joinAt_drop hs] at h2
  unfold joinL at h2
  rw [hr] at h2
  simpa using h2
theorem joinAt_end {d : List Sp} {k : Nat} {acc : List Sp} (h : JoinAt d k acc) (hk : d.length ≤ k) : acc = byL d := by
  obtain ⟨h1, ⟨h2, rfl⟩ | ⟨p, c, rfl, h2⟩⟩ := h
  · have : d = [] := List.eq_nil_of_length_eq_zero (by omega)
    rw [this]
    rfl
  · rw [List.drop_eq_nil_of_le hk] at h2
    exact h2

theorem OwnL.setTo {w : World} {base g m c : Nat} {pre : List Sp} {cur : Sp} (h : OwnL w base (.slice (some ⟨g, 0, none⟩) (m + 1) c) (pre ++ [cur])) (t : ByteArray) (hm : pre.length = m) :
    OwnL (w.setCell ⟨g, m * 2 + 1, none⟩ (.string t)) base (.slice (some ⟨g, 0, none⟩) (m + 1) c) (pre ++ [(cur.1, t)]) := by
  subst hm
  obtain ⟨h1, ⟨h2, _⟩ | ⟨g', cap, cs, hv, hg, hh, hn, hm, hs, hx⟩⟩ := h
  · cases h2
  · simp only [Value.slice.injEq, Option.some.injEq, Addr.mk.injEq, and_true] at hv
    obtain ⟨rfl, _, rfl⟩ := hv
    refine ⟨cellsL_length _, .inr ⟨g, c, _, by simp, hg, block_setCell hh _, by simpa using hn, hm, by simp [hs], ?_⟩⟩
    have e1 : (pre ++ [(cur.1, t)]).length = (pre ++ [cur]).length := by simp
    rw [e1, Array.toList_setIfInBounds, List.take_set, hx]
    simp only [cellsL_append]
    have e2 : pre.length * 2 + 1 = (cellsL pre).length + 1 := by rw [cellsL_length]
    rw [e2, List.set_append_right _ _ (by omega), show (cellsL pre).length + 1 - (cellsL pre).length = 1 by omega]
    rfl

set_option maxRecDepth 100000 in
set_option maxHeartbeats 4000000 in
theorem union_d (va : Value) (l : List Sp) (w : World) (hlen : l.length ≤ 1000000) (ha : Sl w va l) :
    Calls Tryz.prog 66 #[va] w fun e w' => ∃ u, Uni l u ∧ RetO w u e w' := by
  obtain ⟨aa, ca, rfl⟩ := ha.form
  have HA := Lib.hid ha
  clear ha
  go_enter Tryz.func66, Tryz.ntmps66
  go_wp2_with fail
  refine (byFrom_any _ l w hlen HA.out).mono ?_
  rintro e w1 ⟨v, d, rfl, hperm, hpw, hs, hb⟩
  have hdl : d.length ≤ 1000000 := by rw [hperm.length_eq]; exact Nat.le_trans (List.length_filter_le _ _) hlen
  have HU := Lib.hid (uni_of hperm hpw)
  obtain ⟨ad, cd, rfl⟩ := hs.form
  have HD := Lib.hid hs
  have HB1 := Lib.hid hb
  clear hperm hpw hs hb
  go_wp2
  go_loopw [3, 10] (fun v i wr => ∃ (k : Nat) (acc : List Sp), k ≤ d.length ∧ i = .int .i64 k ∧ JoinAt d k acc ∧ OwnL wr w1.heap.size v acc ∧ Below w1.heap.size w1 wr) (fun _ i _ => d.length - (intOf i).toNat)
  case atStart => exact ⟨0, [], Nat.zero_le _, rfl, joinAt_zero d, OwnL.nil _ _, Below.refl _ _⟩
  case round =>
    obtain ⟨k, acc, hk, rfl, hj, ho, hb⟩ := hrel
    have HJ := Lib.hid hj
    have HO := Lib.hid ho
    have HB := Lib.hid hb
    by_cases hlt : k < d.length
    · obtain ⟨s, hs⟩ := at_lt hlt
      obtain ⟨g, o, rfl, hg, c0, c1⟩ := HD.out.at hs
      replace c0 := cell_in hb hg c0
      replace c1 := cell_in hb hg c1
      have hgw := Nat.lt_of_lt_of_le hg hb.size
      have HS := Lib.hid hs
      have HBW : Hid (Below w.heap.size w wr) := HB1.out.trans (hb.mono HB1.out.size)
      rcases List.eq_nil_or_concat acc with rfl | ⟨pre, cur, rfl⟩
      · obtain ⟨av, cv, rfl⟩ := ho.form
        clear hs hb hj ho
        have hd : decide ((0 : Int) ≤ -1) = false := by decide
        go_wp2
        go_quiet (fail)
        go_wp2_with (at_builtin; refine append_sp rfl (.tmp 41) (.tmp 43) rfl w1.heap.size _ [] rfl (HO.out.later (by repeat (first | exact Below.refl _ _ | refine blAlloc ?_ _ | refine blDrewN ?_ _))) _ [s] rfl (one_new _ s _ (by simp)) (by simp only [List.length_nil, List.length_cons]; omega) (by have := HB.out.size; simp; omega) ?_; intro v' w' h1 h2; have H3 := Lib.hid h1; have H4 := Lib.hid (grown_below (B := w1.heap.size) (base := w1.heap.size) (x := w1) ((by repeat (first | exact HB.out | refine blAlloc ?_ _ | refine blDrewN ?_ _))) (HO.out.later (by repeat (first | exact Below.refl _ _ | refine blAlloc ?_ _ | refine blDrewN ?_ _))) (Nat.le_refl _) (by have := HB.out.size; simp; omega) h2); clear h1 h2)
        go_roundw
        case rel => exact ⟨k + 1, [s], hlt, by go_num, joinAt_first HJ.out HS.out, H3.out, H4.out⟩
        case measure => simp [intOf]; omega
      · rw [List.concat_eq_append] at *
        obtain ⟨gr, cr, rfl, hgr, hgrw, hn, hcm, hrow, hfr⟩ := ho.row (by simp)
        obtain ⟨m, hm⟩ : ∃ m, pre.length = m := ⟨_, rfl⟩
        have hlm : (pre ++ [cur]).length = m + 1 := by simp [hm]
        rw [hlm] at hn hfr ⊢
        obtain ⟨r0, r1⟩ := hrow m cur (by simp [← hm])
        have f1 := hfr (m * 2 + 1) (by omega)
        rw [Nat.zero_add] at r0 r1
        have hml : m + 1 ≤ k := by have := HJ.out.1; omega
        have HLM := Lib.hid hlm
        have HOx : Hid (OwnL wr w1.heap.size (.slice (some ⟨gr, 0, none⟩) (m + 1) cr) (pre ++ [cur])) := by show OwnL _ _ _ _; rw [← hlm]; exact ho
        clear HO
        have HO := HOx
        clear HOx
        have HROW := Lib.hid hrow
        clear hs hb hj ho hlm hm hrow hfr
        cases hr : reachT cur.2 s.1
        · have HR := Lib.hid hr
          clear hr
          go_wp2
          go_quiet ((go_at_call 103; exact Calls.quiet_of_same ((reaches_any _ _ _).mono fun e w' h => ⟨h.1.trans (by rw [HR.out]), h.2.symm⟩)))
          go_wp2_with (at_builtin; refine append_sp rfl (.tmp 41) (.tmp 43) rfl w1.heap.size _ (pre ++ [cur]) rfl (HO.out.later (by repeat (first | exact Below.refl _ _ | refine blAlloc ?_ _ | refine blDrewN ?_ _))) _ [s] rfl (one_new _ s _ (by simp)) (by have := HLM.out; simp only [List.length_nil, List.length_cons]; omega) (by have := HB.out.size; simp; omega) ?_; intro v' w' h1 h2; have H3 := Lib.hid h1; have H4 := Lib.hid (grown_below (B := w1.heap.size) (base := w1.heap.size) (x := w1) ((by repeat (first | exact HB.out | refine blAlloc ?_ _ | refine blDrewN ?_ _))) (HO.out.later (by repeat (first | exact Below.refl _ _ | refine blAlloc ?_ _ | refine blDrewN ?_ _))) (Nat.le_refl _) (by have := HB.out.size; simp; omega) h2); clear h1 h2)
          go_roundw
          case rel => exact ⟨k + 1, pre ++ [cur] ++ [s], hlt, by go_num, joinAt_more HJ.out HS.out HR.out, H3.out, H4.out⟩
          case measure => simp [intOf]; omega
        · have HR := Lib.hid hr
          clear hr
          go_wp2
          go_quiet ((go_at_call 103; exact Calls.quiet_of_same ((reaches_any _ _ _).mono fun e w' h => ⟨h.1.trans (by rw [HR.out]), h.2.symm⟩)))
          go_wp2
          have hm0 : (0 : Int) ≤ (m : Int) := by omega
          have hm1 : (m : Int) < (m : Int) + 1 := by omega
          go_region_with (first | (go_at_call 104; refine (later_any _ _ _).mono ?_; rintro r w2 ⟨rfl, rfl⟩))
          all_goals
            go_wp2
            go_roundw
            case rel => exact ⟨k + 1, pre ++ [(cur.1, laterT cur.2 s.2)], hlt, by go_num, joinAt_join HJ.out HS.out HR.out, OwnL.setTo (HO.out.later (by repeat (first | exact Below.refl _ _ | refine blAlloc ?_ _ | refine blDrewN ?_ _))) _ (by have := HLM.out; simp at this; omega), blSet (blDrewN (blAlloc HB.out _) _) (p := ⟨gr, m * 2 + 1, none⟩) hgr _⟩
            case measure => simp [intOf]; omega
    · have HF := Lib.hid (joinAt_end HJ.out (by omega))
      clear hj ho hb HJ
      go_wp2
      go_ret
      exact ⟨_, HU.out, _, rfl, by rw [← HF.out]; exact HO.out.mono HB1.out.size, HB1.out.trans (HB.out.mono HB1.out.size)⟩

end S3
end Go.Proofs.YtfdkkgjkhamoeaaGreat
