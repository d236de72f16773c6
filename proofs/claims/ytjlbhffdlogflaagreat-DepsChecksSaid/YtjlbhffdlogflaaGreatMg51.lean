/- DepsParts: whatever the dependencies, shards and stamps, the law returns true: parted by shards, and merged, they are the same; what is taken away is in none. Conditions: none. -/
import Derived.BigQuiet
import Derived.WalkSpells
import Derived.Test.YtjlbhffdlogflaaGreatMg44
import Derived.Test.YtjlbhffdlogflaaGreatMg45
import Derived.Test.YtjlbhffdlogflaaGreatMg43
import Derived.Test.YtjlbhffdlogflaaGreatMg39
import Derived.Test.YtjlbhffdlogflaaGreatMg46
import Derived.Test.YtjlbhffdlogflaaGreatMg47
import Derived.Test.YtjlbhffdlogflaaGreatMg50
import Derived.Test.YtjlbhffdlogflaaGreatMg48
import Derived.Test.YtjlbhffdlogflaaGreatMg49
import Derived.Test.YtjlbhffdlogflaaGreatMg02
import Derived.Test.YtjlbhffdlogflaaGreatMg11
import Derived.Test.YtjlbhffdlogflaaGreatMg27
/- DepsParts: whatever the dependencies, shards and stamps, the law returns true: parted by shards, and merged, they are the same; what is taken away is in none. Conditions: none. -/
set_option linter.unusedVariables false
set_option linter.unusedSimpArgs false
namespace Go.Proofs.YtjlbhffdlogflaaGreat
open S1 SP
namespace SD
open Go.ChangeShapes Go.WideShapes Go.ChangeAt Go.RowKit Go.Joins Go.Deep

theorem nl_of {w : World} {a : Option Addr} {c : Nat} {l : List Int} (h : S4.Il w a c l) : Nl w a l := fun hne => by
  obtain ⟨g, o, h1, h2, _⟩ := h.2 hne
  refine ⟨g, o, h1, h2, fun i x hi => ?_⟩
  obtain ⟨g', o', e, _, hc⟩ := h.at hi
  rw [h1] at e
  cases e
  exact hc
theorem rest_take {l : List Dp} {k : Nat} {s : Dp} (P : List Int) (hs : l[k]? = some s) : restD (toD (l.take (k + 1))) P = restD (toD (l.take k)) P ++ (if P.any (· == s.sh) = true then [] else [s.sh]) := by
  have e : toD (l.take (k + 1)) = toD (l.take k) ++ [s.d] := by
    unfold toD
    rw [List.take_add_one, hs]
    simp
  rw [e]
  unfold restD
  rw [List.filter_append, List.map_append]
  congr 1
  cases h : P.any (· == s.sh) <;> simp [Dp.d, h]
theorem info_int6 : (Tryz.prog.info? 3).map (fun i => (i.zero, i.size, i.bytes)) = some (some (.int .i64 0), 1, 8) := by kernel_rfl
/-- append of one number to a list of numbers that is the call's own. -/
theorem append_i1 {w : World} {ops : Array Oper} {rest : List Oper} {o : Oper} {a : Act} {Q : Exit → Act → World → Prop} (hgd : o.guard = none) (s x : Operand)
    (ho : o.op = .call { callee := .builtin .append, args := #[s, x], argTypes := #[43, 43] })
    (base : Nat) (v : Value) (d : List Int) (hs : a.eval s = v) (hown : S4.OwnI w base v d) (ad : Addr) (cap : Nat) (y : Int) (hx : a.eval x = .slice (some ad) 1 cap) (hc : w.cell? ad = some (.int .i64 y)) (hcap : 1 ≤ cap)
    (hlen : d.length + 1 ≤ 4000000) (hbase : base ≤ w.heap.size)
    (h : ∀ v' w', S4.OwnI w' base v' (d ++ [y]) → w.grownBy w' v.ownBlock → wpList Tryz.prog ops Q rest (a.put o.dst v') w') : wpList Tryz.prog ops Q (o :: rest) a w := by
  obtain ⟨i0, hi, hz0, hz1, hz2⟩ := info_parts info_int6
  refine wpList_append_own _ hgd s x 43 ho base 3 i0 (.int .i64 0) 1 8 Tryz.underlying43 hi hz0 hz1 hz2 rfl (by decide) v d.length (S4.cellsI d) hs hown ad 1 cap (S4.cellsI [y]) hx (by simp [S4.cellsI]) (fun j u hj => ?_) (fun u hu => ?_) (by unfold maxLen; omega) (by omega) hbase ?_
  · cases j with
    | zero =>
      simp [S4.cellsI] at hj
      subst hj
      have e : ad.add 0 = ad := by simp [Addr.add]
      rw [e]; exact hc
    | succ j => simp [S4.cellsI] at hj
  · simp [S4.cellsI] at hu
    subst hu
    rfl
  · intro v' w' h2 h3 _
    refine h v' w' ?_ h3
    show w'.ownsRow base _ 1 v' _ _
    rw [List.length_append]
    simpa [S4.cellsI] using h2
theorem sl_at {w : World} {a : Option Addr} {l : List (Int × Int)} (h : SL w a l) {k : Nat} {x : Int × Int} (hx : l[k]? = some x) : ∃ g o, a = some ⟨g, o, none⟩ ∧ g < w.heap.size ∧ w.cell? ⟨g, o + k * 2, none⟩ = some (.int .i64 x.1) ∧ w.cell? ⟨g, o + k * 2 + 1, none⟩ = some (.int .i64 x.2) := by
  obtain ⟨g, o, ha, hg, hl⟩ := h (by rintro rfl; simp at hx)
  exact ⟨g, o, ha, hg, hl k x.1 x.2 hx⟩
theorem without_wf {l m : List Dp} {X : List (Int × Int)} (h : toD m = withoutD (toD l) X) (hw : ∀ s ∈ l, ∀ i ∈ s.ids, WfT i) : ∀ s ∈ m, ∀ i ∈ s.ids, WfT i := by
  intro s hs i hi
  have h1 : s.d ∈ withoutD (toD l) X := by rw [← h]; exact List.mem_map.2 ⟨s, hs, rfl⟩
  obtain ⟨y, hy, e⟩ := List.mem_map.1 h1
  obtain ⟨u, hu, rfl⟩ := List.mem_map.1 hy
  have e2 : s.ids = u.ids.filter fun i => !X.contains i := (congrArg Prod.snd e).symm
  rw [e2] at hi
  exact hw u hu i (List.mem_filter.1 hi).1
theorem any_take {P : List Int} {j : Nat} {x : Int} (t : Int) (hx : P[j]? = some x) : (P.take (j + 1)).any (· == t) = ((P.take j).any (· == t) || x == t) := by
  rw [List.take_add_one, hx]
  simp [List.any_append]

set_option maxRecDepth 100000 in
set_option maxHeartbeats 16000000 in
theorem parts_walk (a : Option Addr) (c : Nat) (l : List Dp) (ap : Option Addr) (cp : Nat) (P : List Int) (ax : Option Addr) (cx : Nat) (X : List (Int × Int)) (w : World)
    (hm : l.length ≤ 9223372036854775807) (hr : ∀ s ∈ l, s.ids.length ≤ 140737488355328) (hl : Dl w a l) (hwl : WfD l)
    (hpm : P.length ≤ 9223372036854775807) (hp : Nl w ap P) (hwp : ∀ n ∈ P, (Lit.int .i64 n).wf = true) (hxm : X.length ≤ 9223372036854775807) (hx : SL w ax X) (hwx : ∀ i ∈ X, WfT i) :
    Calls Tryz.prog 6 #[.slice a l.length c, .slice ap P.length cp, .slice ax X.length cx] w fun e w' => e = .returned (.bool true) ∧ Below w.heap.size w w' := by
  have HL := Lib.hid hl
  have HR := Lib.hid hr
  have HP := Lib.hid hp
  have HX0 := Lib.hid hx
  have HWL := Lib.hid hwl
  have HWP := Lib.hid hwp
  have HWX := Lib.hid hwx
  clear hl hr hp hx hwl hwp hwx
  go_enter Tryz.func6, Tryz.ntmps6
  go_wp2_with fail
  refine (small6_any a c l w hm HR.out HL.out).mono ?_
  rintro e _ ⟨rfl, rfl⟩
  by_cases hsm : l.length ≤ 20 ∧ idsN (toD l) ≤ 100
  · rw [show decide (l.length ≤ 20 ∧ idsN (toD l) ≤ 100) = true from decide_eq_true hsm]
    have HLN := Lib.hid (few_of hsm.1 hsm.2)
    have HSM := Lib.hid hsm
    clear hsm
    go_wp2_with fail
    refine (refcheck_any a c l _ HLN.out.1 HLN.out.2.1 (HL.out.later (by repeat (first | with_reducible exact Below.refl _ _ | with_reducible refine blAlloc ?_ _ | with_reducible refine Below.drew ?_)))).mono ?_
    rintro e w1 ⟨rfl, h5⟩
    have HX : Hid (Below w.heap.size w w1) := blThen (by repeat (first | with_reducible exact Below.refl _ _ | with_reducible refine blAlloc ?_ _ | with_reducible refine Below.drew ?_)) h5
    have HB_w1 := Lib.hid (HX.out)
    have HL := Lib.hid (HL.out.later HX.out)
    have HP := Lib.hid (HP.out.later HX.out)
    have HX0 := Lib.hid (HX0.out.later HX.out)
    clear h5 HX
    by_cases hck : checkD (toD l) = 0
    · rw [hck]
      have HCK := Lib.hid hck
      have HRIS := Lib.hid (depsF_facts (checkD_ok.1 hck).2.2)
      clear hck
      by_cases hp20 : 20 < P.length
      · have hp20I : (20 : Int) < (P.length : Int) := by omega
        go_wp2_with fail
        refine (dlive_any _).mono ?_
        rintro e w2 ⟨rfl, h5⟩
        have HX : Hid (Below w1.heap.size w1 w2) := blThen (by repeat (first | with_reducible exact Below.refl _ _ | with_reducible refine blAlloc ?_ _ | with_reducible refine Below.drew ?_)) h5
        have HB_w2 := Lib.hid (blThen HB_w1.out HX.out)
        clear h5 HX
        go_wp2
        go_ret
        exact ⟨rfl, HB_w2.out⟩
      · have hp20I : ¬ (20 : Int) < (P.length : Int) := by omega
        by_cases hx100 : 100 < X.length
        · have hx100I : (100 : Int) < (X.length : Int) := by omega
          go_wp2_with fail
          refine (dlive_any _).mono ?_
          rintro e w2 ⟨rfl, h5⟩
          have HX : Hid (Below w1.heap.size w1 w2) := blThen (by repeat (first | with_reducible exact Below.refl _ _ | with_reducible refine blAlloc ?_ _ | with_reducible refine Below.drew ?_)) h5
          have HB_w2 := Lib.hid (blThen HB_w1.out HX.out)
          clear h5 HX
          go_wp2
          go_ret
          exact ⟨rfl, HB_w2.out⟩
        · have hx100I : ¬ (100 : Int) < (X.length : Int) := by omega
          go_wp2
          go_loopw [7, 8] (fun v i wr => ∃ k : Nat, k ≤ l.length ∧ i = .int .i64 k ∧ S4.OwnI wr w1.heap.size v (restD (toD (l.take k)) P) ∧ Below w1.heap.size w1 wr) (fun _ i _ => l.length - (intOf i).toNat)
          case atStart => exact ⟨0, Nat.zero_le _, rfl, S4.OwnI.nil _ _, Below.refl _ _⟩
          case round =>
            obtain ⟨k, hk, rfl, ho, hb⟩ := hrel
            obtain ⟨ra, rc, rfl⟩ := ho.form
            have HO := Lib.hid ho
            have HB := Lib.hid hb
            clear ho hb
            by_cases hlt : k < l.length
            · obtain ⟨s, hs⟩ := at_ltD hlt
              obtain ⟨g, o, rfl, hgb, hgx, hgy, _⟩ := (HL.out.later HB.out).at hs
              have hk1 : (k : Int) < (l.length : Int) := by omega
              have hk0 : (0 : Int) ≤ (k : Int) := by omega
              have hdk : decide ((k : Int) < (l.length : Int)) = true := decide_eq_true hk1
              have HS := Lib.hid hs
              have HGX := Lib.hid hgx
              have HGB := Lib.hid hgb
              clear hs hgy hgx hgb
              go_wp2
              go_loopw [9, 10] (fun b i wr2 => ∃ j : Nat, j ≤ P.length ∧ i = .int .i64 j ∧ b = .bool ((P.take j).any (· == s.sh)) ∧ Below wr.heap.size wr wr2) (fun _ i _ => P.length - (intOf i).toNat)
              case atStart => exact ⟨0, Nat.zero_le _, rfl, rfl, Below.refl _ _⟩
              case round =>
                rename_i W1
                obtain ⟨j, hj, rfl, rfl, hb2⟩ := hrel
                have HB2 := Lib.hid hb2
                clear hb2
                by_cases hltj : j < P.length
                · obtain ⟨x, hx⟩ := at_ltD hltj
                  obtain ⟨pg, po, rfl, hpb, hpx⟩ := (HP.out.later (blThen HB.out HB2.out)).at hx
                  have hj1 : (j : Int) < (P.length : Int) := by omega
                  have hj0 : (0 : Int) ≤ (j : Int) := by omega
                  have hdj : decide ((j : Int) < (P.length : Int)) = true := decide_eq_true hj1
                  have hsx := cell_in HB2.out HGB.out HGX.out
                  have HT := Lib.hid (any_take s.sh hx)
                  clear hx
                  generalize hq : (P.take j).any (· == s.sh) = q at *
                  cases q
                  · rw [Bool.false_or] at HT
                    go_wp2_with fail
                    go_quiet (fail)
                    go_wp2
                    go_roundw
                    case rel => exact ⟨j + 1, hltj, by go_num, by rw [HT.out], blDrewN HB2.out _⟩
                    case measure => simp [intOf]; omega
                  · rw [Bool.true_or] at HT
                    go_wp2_with fail
                    go_quiet (fail)
                    go_wp2
                    go_roundw
                    case rel => exact ⟨j + 1, hltj, by go_num, by rw [HT.out], blDrewN HB2.out _⟩
                    case measure => simp [intOf]; omega
                · obtain rfl : j = P.length := by omega
                  have hdj : decide ((P.length : Int) < (P.length : Int)) = false := decide_eq_false (by omega)
                  have hsx := cell_in HB2.out HGB.out HGX.out
                  have HBB := Lib.hid (blThen HB.out HB2.out)
                  have HO2 := Lib.hid (HO.out.later HB2.out)
                  have HSZ : Hid (w1.heap.size ≤ wr.heap.size) := HBB.out.size
                  have HSZ2 : Hid (∀ ob : Obj, w1.heap.size ≤ (wr.alloc ob).heap.size) := fun ob => Nat.le_trans HSZ.out (by simp)
                  have HRL : Hid ((restD (toD (l.take k)) P).length + 1 ≤ 4000000) := by
                    show _ ≤ _
                    have h1 : (restD (toD (l.take k)) P).length ≤ l.length := by
                      unfold restD
                      rw [List.length_map]
                      refine Nat.le_trans (List.length_filter_le _ _) ?_
                      rw [toD_length, List.length_take]
                      omega
                    have h2 := HSM.out.1
                    omega
                  have HRT := Lib.hid (rest_take P HS.out)
                  rw [List.take_length]
                  generalize hq : (P.any fun x => x == s.sh) = q at *
                  cases q
                  · have HRT2 : Hid (restD (toD (l.take (k + 1))) P = restD (toD (l.take k)) P ++ [s.sh]) := HRT.out
                    clear HRT
                    go_wp2_with (at_builtin; go_loud (refine append_i1 rfl (.tmp 62) (.tmp 68) rfl w1.heap.size _ (restD (toD (l.take k)) P) rfl (HO2.out.later (blAlloc (Below.refl _ _) _)) ⟨wr.heap.size, 0, none⟩ 1 s.sh rfl (cell_of_one (heap_alloc_new wr _)) (Nat.le_refl _) HRL.out (HSZ2.out _) ?_; intro v1 w3 h1 h2; have H1 := Lib.hid h1; have H2 : Hid (Below w1.heap.size w1 w3) := S4.grown_belowI (blAlloc HBB.out _) (HO2.out.later (blAlloc (Below.refl _ _) _)) (Nat.le_refl _) (HSZ2.out _) h2; clear h1 h2))
                    go_roundw
                    case rel => exact ⟨k + 1, hlt, by go_num, by rw [HRT2.out]; exact H1.out, H2.out⟩
                    case measure => simp [intOf]; omega
                  · have HRT2 : Hid (restD (toD (l.take (k + 1))) P = restD (toD (l.take k)) P) := HRT.out.trans (by simp)
                    clear HRT
                    go_wp2
                    go_roundw
                    case rel => exact ⟨k + 1, hlt, by go_num, by rw [HRT2.out]; exact HO2.out, HBB.out⟩
                    case measure => simp [intOf]; omega
            · obtain rfl : k = l.length := by omega
              rw [List.take_length] at HO ⊢
              have hkf : decide ((l.length : Int) < (l.length : Int)) = false := decide_eq_false (by omega)
              have HLr := Lib.hid (HL.out.later HB.out)
              have HPr := Lib.hid (HP.out.later HB.out)
              have HXr := Lib.hid (HX0.out.later HB.out)
              have HNR := Lib.hid (nl_of HO.out.at)
              have HB_wr := Lib.hid (blThen HB_w1.out HB.out)
              generalize hR : restD (toD l) P = R at *
              have HRL : Hid (R.length ≤ 1000000 ∧ ∀ x ∈ R, (Lit.int .i64 x).wf = true) := by
                subst hR
                refine ⟨?_, fun x hx => ?_⟩
                · unfold restD
                  rw [List.length_map]
                  refine Nat.le_trans (List.length_filter_le _ _) ?_
                  rw [toD_length]
                  exact Nat.le_trans HSM.out.1 (by decide)
                · unfold restD at hx
                  obtain ⟨y, hy, rfl⟩ := List.mem_map.1 hx
                  obtain ⟨s, hs, rfl⟩ := List.mem_map.1 (List.mem_filter.1 hy).1
                  exact (HWL.out s hs).1
              have HPL : Hid (P.length ≤ 1000000) := by show _ ≤ _; omega
              have HXL : Hid (X.length ≤ 1000000) := by show _ ≤ _; omega
              have HPM : Hid (mergeD [onlyD (toD l) P, onlyD (toD l) R] = toD l) := by
                show _ = _
                rw [← hR]
                exact parts_merge HRIS.out.1 (fun x hx => (HRIS.out.2 x hx).2.1) P
              have HPS : Hid ((onlyD (toD l) P).length + (onlyD (toD l) R).length = l.length) := by
                show _ = _
                rw [← hR, parts_len, toD_length]
              have HWS : Hid (∀ s ∈ l, (Lit.int .i64 s.sh).wf = true) := fun s hs => (HWL.out s hs).1
              have HWI : Hid (∀ s ∈ l, ∀ i ∈ s.ids, WfT i) := fun s hs => (HWL.out s hs).2
              clear HO HB hR HL HP HX0 hkf
              go_wp2_with fail
              refine (ponly_any _ _ l _ _ P _ HLN.out.1 HPL.out HWS.out HWP.out (HLr.out.later (by repeat (first | with_reducible exact Below.refl _ _ | with_reducible refine blAlloc ?_ _ | with_reducible refine Below.drew ?_))) (HPr.out.later (by repeat (first | with_reducible exact Below.refl _ _ | with_reducible refine blAlloc ?_ _ | with_reducible refine Below.drew ?_)))).mono ?_
              rintro e x1 ⟨a1, c1, l1, rfl, h1, h2, _, _, h5⟩
              have HX : Hid (Below wr.heap.size wr x1) := blThen (by repeat (first | with_reducible exact Below.refl _ _ | with_reducible refine blAlloc ?_ _ | with_reducible refine Below.drew ?_)) h5
              have HB_x1 := Lib.hid (blThen HB_wr.out HX.out)
              have HLr := Lib.hid (HLr.out.later HX.out)
              have HPr := Lib.hid (HPr.out.later HX.out)
              have HXr := Lib.hid (HXr.out.later HX.out)
              have HNR := Lib.hid (HNR.out.later HX.out)
              have HD1 := Lib.hid h2
              have HT1 := Lib.hid h1
              clear h5 HX h1 h2
              go_wp2_with fail
              refine (ponly_any _ _ l _ _ R _ HLN.out.1 HRL.out.1 HWS.out HRL.out.2 (HLr.out.later (by repeat (first | with_reducible exact Below.refl _ _ | with_reducible refine blAlloc ?_ _ | with_reducible refine Below.drew ?_))) (HNR.out.later (by repeat (first | with_reducible exact Below.refl _ _ | with_reducible refine blAlloc ?_ _ | with_reducible refine Below.drew ?_)))).mono ?_
              rintro e x2 ⟨a2, c2, l2, rfl, h1, h2, _, _, h5⟩
              have HX : Hid (Below x1.heap.size x1 x2) := blThen (by repeat (first | with_reducible exact Below.refl _ _ | with_reducible refine blAlloc ?_ _ | with_reducible refine Below.drew ?_)) h5
              have HB_x2 := Lib.hid (blThen HB_x1.out HX.out)
              have HLr := Lib.hid (HLr.out.later HX.out)
              have HPr := Lib.hid (HPr.out.later HX.out)
              have HXr := Lib.hid (HXr.out.later HX.out)
              have HNR := Lib.hid (HNR.out.later HX.out)
              have HD1 := Lib.hid (HD1.out.later HX.out)
              have HD2 := Lib.hid h2
              have HT2 := Lib.hid h1
              clear h5 HX h1 h2
              have HLL : Hid (l1.length + l2.length = l.length) := by
                show _ = _
                rw [← toD_length l1, ← toD_length l2, HT1.out, HT2.out]
                exact HPS.out
              have HMM : Hid ((([(a1, l1, c1), (a2, l2, c2)] : List DRow).map fun r => toD r.2.1) = [onlyD (toD l) P, onlyD (toD l) R]) := by
                show [toD l1, toD l2] = _
                rw [HT1.out, HT2.out]
              have HFL : Hid ([onlyD (toD l) P, onlyD (toD l) R].flatten.length ≤ 1000 ∧ idsN [onlyD (toD l) P, onlyD (toD l) R].flatten ≤ 1000000 ∧ ∀ x ∈ [onlyD (toD l) P, onlyD (toD l) R].flatten, x ∈ toD l) := by
                refine ⟨?_, ?_, ?_⟩
                · simp only [List.flatten_cons, List.flatten_nil, List.append_nil, List.length_append]
                  rw [HPS.out]
                  exact HLN.out.2.2
                · simp only [List.flatten_cons, List.flatten_nil, List.append_nil]
                  rw [idsN_append]
                  have e1 := idsN_only (toD l) P
                  have e2 := idsN_only (toD l) R
                  have e3 := HSM.out.2
                  omega
                · simp only [List.flatten_cons, List.flatten_nil, List.append_nil, List.mem_append]
                  rintro x (h | h)
                  · exact (List.mem_filter.1 h).1
                  · exact (List.mem_filter.1 h).1
              have HF4 : Hid (∀ x ∈ [onlyD (toD l) P, onlyD (toD l) R].flatten, -1 < x.1) := fun x hx => HRIS.out.1.1 x (HFL.out.2.2 x hx)
              have HF5 : Hid (∀ x ∈ [onlyD (toD l) P, onlyD (toD l) R].flatten, (Lit.int .i64 x.1).wf = true) := by
                intro x hx
                obtain ⟨s, hs, rfl⟩ := List.mem_map.1 (HFL.out.2.2 x hx)
                exact HWS.out s hs
              have HDS : Hid (∀ r ∈ ([(a1, l1, c1), (a2, l2, c2)] : List DRow), Dl x2 r.1 r.2.1) := by
                intro r hr
                simp only [List.mem_cons, List.mem_nil_iff, or_false] at hr
                rcases hr with rfl | rfl
                · exact HD1.out
                · exact HD2.out
              go_wp2_with fail
              refine (pmergeD_any _ _ [(a1, l1, c1), (a2, l2, c2)] [onlyD (toD l) P, onlyD (toD l) R] (-1) _ HMM.out HFL.out.1 (by simp) HFL.out.2.1 HF4.out HF5.out (dls_new _ _ _ rfl HDS.out)).mono ?_
              rintro e x3 ⟨a3, c3, l3, rfl, h1, h2, _, _, h5⟩
              have HX : Hid (Below x2.heap.size x2 x3) := blThen (by repeat (first | with_reducible exact Below.refl _ _ | with_reducible refine blAlloc ?_ _ | with_reducible refine Below.drew ?_)) h5
              have HB_x3 := Lib.hid (blThen HB_x2.out HX.out)
              have HLr := Lib.hid (HLr.out.later HX.out)
              have HXr := Lib.hid (HXr.out.later HX.out)
              have HD1 := Lib.hid (HD1.out.later HX.out)
              have HD2 := Lib.hid (HD2.out.later HX.out)
              rw [HPM.out] at h1
              have HD3 := Lib.hid h2
              have HT3 := Lib.hid h1
              have hl3 : l3.length = l.length := by rw [← toD_length l3, h1, toD_length]
              have HF3 : Hid (FewD l3) := (few_of (by rw [hl3]; exact HSM.out.1) (by rw [h1]; exact HSM.out.2)).1
              clear h5 HX h1 h2 hl3
              have HQ3 : Hid (decide (toD l3 = toD l) = true) := decide_eq_true HT3.out
              go_wp2_with fail
              refine (refsame6_any _ _ _ _ l3 l _ HF3.out (HD3.out.later (by repeat (first | with_reducible exact Below.refl _ _ | with_reducible refine blAlloc ?_ _ | with_reducible refine Below.drew ?_))) (HLr.out.later (by repeat (first | with_reducible exact Below.refl _ _ | with_reducible refine blAlloc ?_ _ | with_reducible refine Below.drew ?_)))).mono ?_
              rintro e x4 ⟨rfl, h5⟩
              rw [HQ3.out]
              have HX : Hid (Below x3.heap.size x3 x4) := blThen (by repeat (first | with_reducible exact Below.refl _ _ | with_reducible refine blAlloc ?_ _ | with_reducible refine Below.drew ?_)) h5
              have HB_x4 := Lib.hid (blThen HB_x3.out HX.out)
              have HLr := Lib.hid (HLr.out.later HX.out)
              have HXr := Lib.hid (HXr.out.later HX.out)
              have HD1 := Lib.hid (HD1.out.later HX.out)
              have HD2 := Lib.hid (HD2.out.later HX.out)
              have HD3 := Lib.hid (HD3.out.later HX.out)
              clear h5 HX
              have hadd : (l1.length : Int) + (l2.length : Int) = (l.length : Int) := by have := HLL.out; omega
              have hwad : wrap64 (l.length : Int) = (l.length : Int) := by have := HSM.out.1; unfold wrap64; omega
              go_wp2_with fail
              refine (pwithout_any _ _ l _ _ X _ HLN.out.1 (HLr.out.later (by repeat (first | with_reducible exact Below.refl _ _ | with_reducible refine blAlloc ?_ _ | with_reducible refine Below.drew ?_))) HWI.out HXL.out (HXr.out.later (by repeat (first | with_reducible exact Below.refl _ _ | with_reducible refine blAlloc ?_ _ | with_reducible refine Below.drew ?_))) HWX.out).mono ?_
              rintro e x5 ⟨a5, c5, l5, rfl, h1, h2, _, _, h5⟩
              have HX : Hid (Below x4.heap.size x4 x5) := blThen (by repeat (first | with_reducible exact Below.refl _ _ | with_reducible refine blAlloc ?_ _ | with_reducible refine Below.drew ?_)) h5
              have HB_x5 := Lib.hid (blThen HB_x4.out HX.out)
              have HLr := Lib.hid (HLr.out.later HX.out)
              have HXr := Lib.hid (HXr.out.later HX.out)
              have HD5 := Lib.hid h2
              have HT5 := Lib.hid h1
              have hl5 : l5.length = l.length := by rw [← toD_length l5, h1, without_len, toD_length]
              have HF5 := Lib.hid (few_of (l := l5) (by rw [hl5]; exact HSM.out.1) (by rw [h1]; exact Nat.le_trans (idsN_without _ _) HSM.out.2))
              have HL5 := Lib.hid hl5
              clear h5 HX h1 h2 hl5
              go_wp2_with fail
              refine (pall_any _ _ l5 _ HF5.out.2.2 HF5.out.2.1 (HD5.out.later (by repeat (first | with_reducible exact Below.refl _ _ | with_reducible refine blAlloc ?_ _ | with_reducible refine Below.drew ?_)))).mono ?_
              rintro e x6 ⟨a6, c6, rfl, h1, _, _, h5⟩
              have HX : Hid (Below x5.heap.size x5 x6) := blThen (by repeat (first | with_reducible exact Below.refl _ _ | with_reducible refine blAlloc ?_ _ | with_reducible refine Below.drew ?_)) h5
              have HB_x6 := Lib.hid (blThen HB_x5.out HX.out)
              have HLr := Lib.hid (HLr.out.later HX.out)
              have HXr := Lib.hid (HXr.out.later HX.out)
              have HD5 := Lib.hid (HD5.out.later HX.out)
              have HS6 := Lib.hid h1
              clear h5 HX h1
              have HA6 : Hid ((allD (toD l5)).length ≤ 1000000) := Nat.le_trans (allD_len6 _) HF5.out.2.1
              have HNO : Hid (∀ i ∈ X, decide ((i.1, i.2) ∈ allD (toD l5)) = false) := by
                intro i hi
                refine decide_eq_false ?_
                rw [HT5.out]
                exact without_none _ X i hi
              generalize hA : allD (toD l5) = A at *
              clear hA
              go_wp2
              go_loopw [15] (fun i wr2 => ∃ k : Nat, k ≤ X.length ∧ i = .int .i64 k ∧ Below x6.heap.size x6 wr2) (fun i _ => X.length - (intOf i).toNat)
              case atStart => exact ⟨0, Nat.zero_le _, rfl, Below.refl _ _⟩
              case round =>
                obtain ⟨k, hk, rfl, hb⟩ := hrel
                have HBk := Lib.hid hb
                clear hb
                by_cases hlt : k < X.length
                · obtain ⟨x, hx⟩ := at_ltD hlt
                  obtain ⟨xb, xo, rfl, hxb, hx0, hx1⟩ := sl_at (HXr.out.later HBk.out) hx
                  have hk1 : (k : Int) < (X.length : Int) := by omega
                  have hk0 : (0 : Int) ≤ (k : Int) := by omega
                  have hdk : decide ((k : Int) < (X.length : Int)) = true := decide_eq_true hk1
                  have HN := Lib.hid (HNO.out x (List.mem_of_getElem? hx))
                  clear hx
                  go_wp2_with fail
                  refine (refhas_any _ _ A x.1 x.2 _ HA6.out (HS6.out.later (by repeat (first | with_reducible exact HBk.out | with_reducible refine blAlloc ?_ _ | with_reducible refine Below.drew ?_)))).mono ?_
                  rintro e x9 ⟨rfl, h5⟩
                  rw [HN.out]
                  have HB9 : Hid (Below x6.heap.size x6 x9) := blThen (by repeat (first | with_reducible exact HBk.out | with_reducible refine blAlloc ?_ _ | with_reducible refine Below.drew ?_)) h5
                  clear h5
                  go_wp2
                  go_roundw
                  case rel => exact ⟨k + 1, hlt, by go_num, HB9.out⟩
                  case measure => simp [intOf]; omega
                · obtain rfl : k = X.length := by omega
                  have hkf : decide ((X.length : Int) < (X.length : Int)) = false := decide_eq_false (by omega)
                  have HD5 := Lib.hid (HD5.out.later HBk.out)
                  have HXr := Lib.hid (HXr.out.later HBk.out)
                  have HB_wr := Lib.hid (blThen HB_x6.out HBk.out)
                  have HWW : Hid (∀ s ∈ l5, ∀ i ∈ s.ids, WfT i) := without_wf HT5.out HWI.out
                  have hL5 : (l5.length : Int) = (l.length : Int) := by rw [HL5.out]
                  clear HLr HS6 HBk
                  go_wp2_with fail
                  refine (pwithout_any _ _ l5 _ _ X _ HF5.out.1 (HD5.out.later (by repeat (first | with_reducible exact Below.refl _ _ | with_reducible refine blAlloc ?_ _ | with_reducible refine Below.drew ?_))) HWW.out HXL.out (HXr.out.later (by repeat (first | with_reducible exact Below.refl _ _ | with_reducible refine blAlloc ?_ _ | with_reducible refine Below.drew ?_))) HWX.out).mono ?_
                  rintro e x1 ⟨a7, c7, l7, rfl, h1, h2, _, _, h5⟩
                  have HX : Hid (Below wr.heap.size wr x1) := blThen (by repeat (first | with_reducible exact Below.refl _ _ | with_reducible refine blAlloc ?_ _ | with_reducible refine Below.drew ?_)) h5
                  have HB_x1 := Lib.hid (blThen HB_wr.out HX.out)
                  have HD5 := Lib.hid (HD5.out.later HX.out)
                  have HXr := Lib.hid (HXr.out.later HX.out)
                  have HD7 := Lib.hid h2
                  have HQ7 : Hid (decide (toD l7 = toD l5) = true) := decide_eq_true (by rw [h1, HT5.out, without_twice])
                  have HF7 : Hid (FewD l7) := (few_of (l := l7) (by rw [← toD_length l7, h1, without_len, toD_length, HL5.out]; exact HSM.out.1) (by rw [h1, HT5.out, without_twice]; exact Nat.le_trans (idsN_without _ _) HSM.out.2)).1
                  clear h5 HX h1 h2
                  go_wp2_with fail
                  refine (refsame6_any _ _ _ _ l7 l5 _ HF7.out (HD7.out.later (by repeat (first | with_reducible exact Below.refl _ _ | with_reducible refine blAlloc ?_ _ | with_reducible refine Below.drew ?_))) (HD5.out.later (by repeat (first | with_reducible exact Below.refl _ _ | with_reducible refine blAlloc ?_ _ | with_reducible refine Below.drew ?_)))).mono ?_
                  rintro e x2 ⟨rfl, h5⟩
                  rw [HQ7.out]
                  have HX : Hid (Below x1.heap.size x1 x2) := blThen (by repeat (first | with_reducible exact Below.refl _ _ | with_reducible refine blAlloc ?_ _ | with_reducible refine Below.drew ?_)) h5
                  have HB_x2 := Lib.hid (blThen HB_x1.out HX.out)
                  have HD5 := Lib.hid (HD5.out.later HX.out)
                  have HXr := Lib.hid (HXr.out.later HX.out)
                  have HD7 := Lib.hid (HD7.out.later HX.out)
                  clear h5 HX
                  have HCK5 : Hid (checkD (toD l5) = 0) := by show _ = _; rw [HT5.out]; exact without_check HCK.out X
                  have hbe : ((l5.length : Int) == (l.length : Int)) = true := by simp [hL5]
                  clear hL5
                  go_wp2_with fail
                  refine (pcheck_any _ _ l5 _ HF5.out.1 HF5.out.2.1 (HD5.out.later (by repeat (first | with_reducible exact Below.refl _ _ | with_reducible refine blAlloc ?_ _ | with_reducible refine Below.drew ?_)))).mono ?_
                  rintro e x3 ⟨rfl, h5⟩
                  rw [HCK5.out]
                  have HX : Hid (Below x2.heap.size x2 x3) := blThen (by repeat (first | with_reducible exact Below.refl _ _ | with_reducible refine blAlloc ?_ _ | with_reducible refine Below.drew ?_)) h5
                  have HB_x3 := Lib.hid (blThen HB_x2.out HX.out)
                  have HD5 := Lib.hid (HD5.out.later HX.out)
                  have HXr := Lib.hid (HXr.out.later HX.out)
                  have HD7 := Lib.hid (HD7.out.later HX.out)
                  clear h5 HX
                  go_wp2_with fail
                  refine (num6_any _ _).mono ?_
                  rintro e wq ⟨rfl, rfl⟩
                  go_wp2_with fail
                  refine (dlive_any _).mono ?_
                  rintro e x4 ⟨rfl, h5⟩
                  have HX : Hid (Below x3.heap.size x3 x4) := blThen (by repeat (first | with_reducible exact Below.refl _ _ | with_reducible refine blAlloc ?_ _ | with_reducible refine Below.drew ?_)) h5
                  have HB_x4 := Lib.hid (blThen HB_x3.out HX.out)
                  have HD5 := Lib.hid (HD5.out.later HX.out)
                  have HXr := Lib.hid (HXr.out.later HX.out)
                  have HD7 := Lib.hid (HD7.out.later HX.out)
                  clear h5 HX
                  go_wp2
                  go_ret
                  exact ⟨rfl, HB_x4.out⟩
    · have hckI : ¬ checkD (toD l) = 0 := hck
      go_wp2_with fail
      refine (dlive_any _).mono ?_
      rintro e w2 ⟨rfl, h5⟩
      have HX : Hid (Below w1.heap.size w1 w2) := blThen (by repeat (first | with_reducible exact Below.refl _ _ | with_reducible refine blAlloc ?_ _ | with_reducible refine Below.drew ?_)) h5
      have HB_w2 := Lib.hid (blThen HB_w1.out HX.out)
      clear h5 HX
      go_wp2
      go_ret
      exact ⟨rfl, HB_w2.out⟩
  · rw [show decide (l.length ≤ 20 ∧ idsN (toD l) ≤ 100) = false from decide_eq_false hsm]
    go_wp2_with fail
    refine (dlive_any _).mono ?_
    rintro e w1 ⟨rfl, h5⟩
    have HX : Hid (Below w.heap.size w w1) := blThen (by repeat (first | with_reducible exact Below.refl _ _ | with_reducible refine blAlloc ?_ _ | with_reducible refine Below.drew ?_)) h5
    have HB_w1 := Lib.hid (HX.out)
    clear h5 HX
    go_wp2
    go_ret
    exact ⟨rfl, HB_w1.out⟩

set_option maxRecDepth 100000 in
theorem depsParts_lifted (os : Os) (started : os.Started) (H : Type) (enc : TypeId × Value → H) :
    ReturnsInHanded {} Tryz.checked os 6 .any (Rows.depsPartsSpec.pre6 enc Tryz.prog Tryz.f6 Rows.depsPartsRow.domain false) (Rows.depsPartsSpec.post enc Tryz.prog Tryz.f6 false true false false) := by
  refine law_lift_sized (C := Tryz.checked) own6 started (by kernel_rfl) Tryz.func6 laid6 rfl (by kernel_rfl) (fun _ _ _ _ => trodAll_mk1 (shut_bool Tryz.underlying4 true)) (fun ds h => match ds, h with | [_, _, _], _ => ⟨rfl, rfl, rfl⟩)
    (ChangeSpec.witness6 (enc := enc) (C := Tryz.checked) false ⟨#[], #[.slice none 0 0, .slice none 0 0, .slice none 0 0], []⟩ 8 (by kernel_rfl) (by kernel_rfl) (by kernel_rfl) (by kernel_rfl)) ?_
  intro W base args ds before hval0 hA0 hlt hsz
  have hval : ∀ (j : Nat) t v, Tryz.f6.params[j]? = some t → args[j]? = some v → Value.okWide Tryz.prog W .any base t v := hval0
  have hA : DataW.TrodAll enc Tryz.prog W 0 (fun _ => true) true Tryz.f6.params.toList args.toList ds before := hA0
  rw [Tryz.params6] at hA hval
  obtain ⟨v0, v1, v2, d0, d1, d2, p0, p1, p2, rfl, rfl, rfl, h0, h1, h2⟩ := trodAll_three hA
  obtain ⟨a, l, c, rfl, hl, hm, _, _, hw, hr⟩ := open_deps (hval 0 22 v0 rfl rfl) h0
  obtain ⟨ap, P, cp, rfl, hp, hpm, hwp⟩ := open_nums (hval 1 43 v1 rfl rfl) h1
  obtain ⟨ax, X, cx, rfl, hx, hxm, _, _, hwx⟩ := open_stamps (hval 2 24 v2 rfl rfl) h2
  exact parts_walk a c l ap cp P ax cx X W hm (hr _ _ 0 hsz (by kernel_rfl) rfl) hl hw hpm hp hwp hxm hx hwx

theorem depsParts_holds : Rows.DepsPartsSaid :=
  OpenClaim.holds_of_wide 6 Tryz.f6 rfl rfl rfl rfl rfl rfl rfl ⟨rfl, rfl, rfl, rfl, rfl⟩ rfl rfl rfl rfl rfl (by kernel_rfl) Tryz.func6 (by kernel_rfl)
    (of_decide_eq_true (by kernel_rfl)) (by unfold Func.isWrapper; rw [if_neg (of_decide_eq_false (by kernel_rfl))]; exact ⟨rfl, rfl⟩)
    (fun os started H enc _ => depsParts_lifted os started H enc)

#print axioms depsParts_holds

end SD
end Go.Proofs.YtjlbhffdlogflaaGreat
