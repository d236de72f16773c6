/- DepsBelow: whatever the dependencies and the stamp, the law returns true: those below a time are below it, all that are; of all shards, or of each by itself. Conditions: none. -/
import Derived.Deep.RegionHeld3
import Derived.WalkSpells
import Derived.Test.YtjlbhffdlogflaaGreatMg44
import Derived.Test.YtjlbhffdlogflaaGreatMg45
import Derived.Test.YtjlbhffdlogflaaGreatMg39
import Derived.Test.YtjlbhffdlogflaaGreatMg02
import Derived.Test.YtjlbhffdlogflaaGreatMg11
/- DepsBelow: whatever the dependencies and the stamp, the law returns true: those below a time are below it, all that are; of all shards, or of each by itself. Conditions: none. -/
set_option linter.unusedVariables false
set_option linter.unusedSimpArgs false
namespace Go.Proofs.YtjlbhffdlogflaaGreat
open S1 SP
namespace SD
open Go.ChangeShapes Go.WideShapes Go.ChangeAt Go.RowKit Go.Joins Go.Deep

theorem allD_below (D : Dd) (q : Int × Int) : (allD D).filter (fun x => ltS x q) = allD (belowD D q) := by
  unfold allD
  refine sortL_eq ((sortL_ss _).filter _) fun y => ?_
  rw [List.mem_filter, mem_sortL, List.mem_flatMap, List.mem_flatMap]
  constructor
  · rintro ⟨⟨x, hx, hy⟩, hl⟩
    exact ⟨(x.1, x.2.filter fun i => ltS i q), List.mem_map.2 ⟨x, hx, rfl⟩, List.mem_filter.2 ⟨hy, hl⟩⟩
  · rintro ⟨z, hz, hy⟩
    obtain ⟨x, hx, rfl⟩ := List.mem_map.1 hz
    obtain ⟨h1, h2⟩ := List.mem_filter.1 hy
    exact ⟨⟨x, hx, h1⟩, h2⟩
theorem getD_below (q : Int × Int) (s : Int) : ∀ D : Dd, getD (belowD D q) s = (getD D s).filter fun x => ltS x q := by
  intro D
  induction D with
  | nil => rfl
  | cons x r ih =>
    show getD ((x.1, x.2.filter fun i => ltS i q) :: belowD r q) s = _
    unfold getD
    by_cases h : x.1 = s
    · rw [if_pos h, if_pos h]
    · rw [if_neg h, if_neg h]
      exact ih
theorem below_idem (D : Dd) (q : Int × Int) : belowD (belowD D q) q = belowD D q := by
  unfold belowD
  rw [List.map_map]
  refine List.map_congr_left fun x _ => ?_
  show (x.1, (x.2.filter _).filter _) = _
  rw [List.filter_filter]
  simp
theorem idsN_below (D : Dd) (q : Int × Int) : idsN (belowD D q) ≤ idsN D := by
  induction D with
  | nil => exact Nat.le_refl _
  | cons x r ih =>
    show idsN ((x.1, x.2.filter fun i => ltS i q) :: belowD r q) ≤ _
    rw [idsN_cons, idsN_cons]
    exact Nat.add_le_add (List.length_filter_le _ _) ih
theorem few_of {l : List Dp} (h1 : l.length ≤ 20) (h2 : idsN (toD l) ≤ 100) : FewD l ∧ idsN (toD l) ≤ 1000000 ∧ l.length ≤ 1000 :=
  ⟨⟨by omega, fun s hs => by have := idsN_le hs; omega⟩, by omega, by omega⟩
theorem getD_len (D : Dd) (s : Int) : (getD D s).length ≤ idsN D := by
  induction D with
  | nil => exact Nat.zero_le _
  | cons x r ih =>
    unfold getD
    rw [idsN_cons]
    by_cases h : x.1 = s
    · rw [if_pos h]; omega
    · rw [if_neg h]; omega
theorem allD_len (D : Dd) : (allD D).length ≤ idsN D := by
  unfold allD
  have h := sortL_length (D.flatMap fun x => x.2)
  have e := flatD_len D
  unfold flatD at e
  omega
theorem ris_ne {D : Dd} {p : Int} (h : RisD p D) {k : Nat} {x : Int × List (Int × Int)} (hx : D[k]? = some x) : ∀ y ∈ D.take k, y.1 ≠ x.1 := by
  intro y hy
  obtain ⟨j, hj, rfl⟩ := List.mem_iff_getElem.1 hy
  obtain ⟨hk, rfl⟩ := List.getElem?_eq_some_iff.1 hx
  rw [List.length_take] at hj
  rw [List.getElem_take]
  have := List.pairwise_iff_getElem.1 h.2 j k (by omega) hk (by omega)
  omega

set_option maxRecDepth 100000 in
set_option maxHeartbeats 8000000 in
theorem depsBelow_walk (a : Option Addr) (c : Nat) (l : List Dp) (t n : Int) (w : World) (hm : l.length ≤ 9223372036854775807) (hr : ∀ s ∈ l, s.ids.length ≤ 140737488355328) (hl : Dl w a l) :
    Calls Tryz.prog 7 #[.slice a l.length c, .agg #[.int .i64 t, .int .i64 n]] w fun e w' => e = .returned (.bool true) ∧ Below w.heap.size w w' := by
  have HL := Lib.hid hl
  have HR := Lib.hid hr
  clear hl hr
  go_enter Tryz.func7, Tryz.ntmps7
  go_wp2_with fail
  have HB1 : Hid (Below w.heap.size w (w.alloc (.cells #[.int .i64 t, .int .i64 n] 42))) := blAlloc (Below.refl _ _) _
  have hN : Own2 (w.alloc (.cells #[.int .i64 t, .int .i64 n] 42)) w.heap.size t n := own2_new _ _ _
  generalize w.alloc (.cells #[.int .i64 t, .int .i64 n] 42) = w1 at *
  have HN := Lib.hid hN
  clear hN
  refine (small6_any a c l w1 hm HR.out (HL.out.later HB1.out)).mono ?_
  rintro e _ ⟨rfl, rfl⟩
  by_cases hsm : l.length ≤ 20 ∧ idsN (toD l) ≤ 100
  · rw [show decide (l.length ≤ 20 ∧ idsN (toD l) ≤ 100) = true from decide_eq_true hsm]
    have HLN := Lib.hid (few_of hsm.1 hsm.2)
    have HSM := Lib.hid hsm
    clear hsm
    go_wp2_with fail
    refine (refcheck_any a c l _ HLN.out.1 HLN.out.2.1 (HL.out.later HB1.out)).mono ?_
    rintro e w2 ⟨rfl, hb⟩
    have HB2 := Lib.hid (blThen HB1.out hb)
    have HN2 := Lib.hid (HN.out.later hb HN.out.lt)
    clear hb
    by_cases hck : checkD (toD l) = 0
    · rw [hck]
      have HRIS := Lib.hid (depsF_facts (checkD_ok.1 hck).2.2).1
      clear hck
      have n0 := HN2.out.c0
      have n1 := HN2.out.c1
      have nl := HN2.out.lt
      go_wp2_with fail
      refine (pbelow_any a c l t n _ HLN.out.1 (HL.out.later HB2.out)).mono ?_
      rintro e w3 ⟨fa, fc, F, rfl, hT, hD, hz, hc, hb⟩
      have HT := Lib.hid hT
      have HF3 := Lib.hid hD
      have HB3 := Lib.hid (blThen HB2.out hb)
      have HN3 := Lib.hid (HN2.out.later hb nl)
      have HD3 := Lib.hid (HL.out.later HB3.out)
      have HFE : Hid (F.length = l.length) := by
        have h := congrArg List.length hT
        rw [toD_length] at h
        unfold belowD at h
        rw [List.length_map, toD_length] at h
        exact h
      have HFN : Hid (FewD F ∧ idsN (toD F) ≤ 1000000 ∧ F.length ≤ 1000) := few_of (by rw [HFE.out]; exact HSM.out.1) (by rw [hT]; exact Nat.le_trans (idsN_below _ _) HSM.out.2)
      have HAL : Hid ((allD (toD l)).length ≤ 1000000) := Nat.le_trans (allD_len _) HLN.out.2.1
      have HAF : Hid ((allD (toD F)).length ≤ 1000000) := Nat.le_trans (allD_len _) HFN.out.2.1
      have HQ1 : Hid (decide (allD (toD F) = (allD (toD l)).filter fun x => ltS x (t, n)) = true) := decide_eq_true (by rw [allD_below, HT.out])
      clear hT hD hz hc hb n0 n1 nl
      have n0 := HN3.out.c0
      have n1 := HN3.out.c1
      have nl := HN3.out.lt
      have K2 := Lib.hid (fun (X : World) (h : Below w3.heap.size w3 X) => (⟨cell_in h nl n0, cell_in h nl n1⟩ : X.cell? ⟨w.heap.size, 0, none⟩ = some (.int .i64 t) ∧ X.cell? ⟨w.heap.size, 1, none⟩ = some (.int .i64 n)))
      have hfl : (F.length : Int) = (l.length : Int) := by rw [HFE.out]
      go_wp2_with fail
      go_region_held3 (fun X => X.cell? ⟨w.heap.size, 0, none⟩ = some (.int .i64 t) ∧ X.cell? ⟨w.heap.size, 1, none⟩ = some (.int .i64 n))
        (exact K2.out _ (by repeat (first | with_reducible exact HB25.out | with_reducible exact HB24.out | with_reducible exact HB22.out | with_reducible exact HB20.out | with_reducible exact Below.refl _ _ | with_reducible refine blAlloc ?_ _ | with_reducible refine Below.drew ?_)))
        (first
          | (have _q := HX24.out; clear _q; (try go_simp); go_at_call 22; go_must (refine (refsameS_any _ _ _ _ (allD (toD F)) ((allD (toD l)).filter fun x => ltS x (t, n)) _ HAF.out (SL.later HS20c.out (by repeat (first | with_reducible exact Below.refl _ _ | with_reducible refine blAlloc ?_ _ | with_reducible refine Below.drew ?_))) (SL.later HS24.out (by repeat (first | with_reducible exact Below.refl _ _ | with_reducible refine blAlloc ?_ _ | with_reducible refine Below.drew ?_)))).mono ?_; rintro e w25 ⟨rfl, h5⟩; rw [HQ1.out]; have HB25 : Hid (Below w3.heap.size w3 w25) := blThen (by repeat (first | with_reducible exact HB24.out | with_reducible exact Below.refl _ _ | with_reducible refine blAlloc ?_ _ | with_reducible refine Below.drew ?_)) h5; clear h5))
          | (have _q := HX22.out; clear _q; (try go_simp); go_at_call 35; go_must (refine (refbelow_any _ _ (allD (toD l)) t n _ HAL.out (SL.later HS22.out (by repeat (first | with_reducible exact Below.refl _ _ | with_reducible refine blAlloc ?_ _ | with_reducible refine Below.drew ?_)))).mono ?_; rintro e w24 ⟨a24, c24, rfl, h1, h2, h3, h4, _, h5⟩; have HS24 := Lib.hid h1; have HX24 := Lib.hid h5; have HB24 : Hid (Below w3.heap.size w3 w24) := blThen (by repeat (first | with_reducible exact HB22.out | with_reducible exact Below.refl _ _ | with_reducible refine blAlloc ?_ _ | with_reducible refine Below.drew ?_)) h5; have HS20c := Lib.hid (SL.later (SL.later HS20b.out (by repeat (first | with_reducible exact Below.refl _ _ | with_reducible refine blAlloc ?_ _ | with_reducible refine Below.drew ?_))) h5); clear h1 h2 h3 h4 h5))
          | (have _q := HX20.out; clear _q; (try go_simp); go_at_call 31; go_must (refine (pall_any _ _ l _ HLN.out.2.2 HLN.out.2.1 (Dl.later HD20.out (by repeat (first | with_reducible exact Below.refl _ _ | with_reducible refine blAlloc ?_ _ | with_reducible refine Below.drew ?_)))).mono ?_; rintro e w22 ⟨a22, c22, rfl, h1, h2, h3, h5⟩; have HS22 := Lib.hid h1; have HX22 := Lib.hid h5; have HB22 : Hid (Below w3.heap.size w3 w22) := blThen (by repeat (first | with_reducible exact HB20.out | with_reducible exact Below.refl _ _ | with_reducible refine blAlloc ?_ _ | with_reducible refine Below.drew ?_)) h5; have HS20b := Lib.hid (SL.later (SL.later HS20.out (by repeat (first | with_reducible exact Below.refl _ _ | with_reducible refine blAlloc ?_ _ | with_reducible refine Below.drew ?_))) h5); clear h1 h2 h3 h5))
          | ((try go_simp); go_at_call 31; go_must (refine (pall_any _ _ F _ HFN.out.2.2 HFN.out.2.1 (Dl.later HF3.out (by repeat (first | with_reducible exact Below.refl _ _ | with_reducible refine blAlloc ?_ _ | with_reducible refine Below.drew ?_)))).mono ?_; rintro e w20 ⟨a20, c20, rfl, h1, h2, h3, h5⟩; have HS20 := Lib.hid h1; have HX20 := Lib.hid h5; have HB20 : Hid (Below w3.heap.size w3 w20) := blThen (by repeat (first | with_reducible exact Below.refl _ _ | with_reducible refine blAlloc ?_ _ | with_reducible refine Below.drew ?_)) h5; have HD20 := Lib.hid (Dl.later (Dl.later HD3.out (by repeat (first | with_reducible exact Below.refl _ _ | with_reducible refine blAlloc ?_ _ | with_reducible refine Below.drew ?_))) h5); clear h1 h2 h3 h5)))
      all_goals
        have hbn : ((F.length : Int) != (l.length : Int)) = false := by simp [hfl]
        have hbe : ((F.length : Int) == (l.length : Int)) = true := by simp [hfl]
        go_wp2
        go_loopw [6] (fun i wr => ∃ k : Nat, k ≤ l.length ∧ i = .int .i64 k ∧ Below w3.heap.size w3 wr) (fun i _ => l.length - (intOf i).toNat)
        case atStart => exact ⟨0, Nat.zero_le _, rfl, HB25.out⟩
        case round =>
          obtain ⟨k, hk, rfl, hb⟩ := hrel
          have HB := Lib.hid hb
          clear hb
          have HDR := Lib.hid (HD3.out.later HB.out)
          have HFR := Lib.hid (HF3.out.later HB.out)
          obtain ⟨m0, m1⟩ := K2.out _ HB.out
          have ml := Nat.lt_of_lt_of_le nl HB.out.size
          by_cases hlt : k < l.length
          · obtain ⟨s, hs⟩ := at_ltD hlt
            obtain ⟨b, o, rfl, hbg, hx, hy, hi⟩ := HDR.out.at hs
            have hk1 : (k : Int) < (l.length : Int) := by omega
            have hk0 : (0 : Int) ≤ (k : Int) := by omega
            have hdk : decide ((k : Int) < (l.length : Int)) = true := decide_eq_true hk1
            have HDW := Lib.hid (fun (X : World) (h : Below wr.heap.size wr X) => HDR.out.later h)
            have HSW := Lib.hid (fun (X : World) (h : Below wr.heap.size wr X) => hi.1.later h)
            have HGL : Hid ((getD (toD l) s.sh).length ≤ 1000000) := Nat.le_trans (getD_len _ _) HLN.out.2.1
            have HGF : Hid ((getD (toD F) s.sh).length ≤ 1000000) := Nat.le_trans (getD_len _ _) HFN.out.2.1
            have HGI : Hid (getD (toD l) s.sh = s.ids) := getD_at (toD_at hs) (ris_ne HRIS.out (toD_at hs))
            have HSI : Hid (s.ids.length ≤ 1000000) := HLN.out.1.2 s (List.mem_of_getElem? hs)
            have HQ2 : Hid (decide (getD (toD F) s.sh = (getD (toD l) s.sh).filter fun x => ltS x (t, n)) = true) := decide_eq_true (by rw [HT.out, getD_below])
            unfold ilD at hy
            have K3 := Lib.hid (fun (X : World) (h : Below wr.heap.size wr X) => (⟨cell_in h ml m0, cell_in h ml m1, cell_in h hbg hx, cell_in h hbg hy⟩ : X.cell? ⟨w.heap.size, 0, none⟩ = some (.int .i64 t) ∧ X.cell? ⟨w.heap.size, 1, none⟩ = some (.int .i64 n) ∧ X.cell? ⟨b, o + k * 2, none⟩ = some (.int .i64 s.sh) ∧ X.cell? ⟨b, o + k * 2 + 1, none⟩ = some (.slice s.ia s.ids.length s.ic)))
            clear hs hi
            go_wp2
            go_region_held3 (fun X => X.cell? ⟨w.heap.size, 0, none⟩ = some (.int .i64 t) ∧ X.cell? ⟨w.heap.size, 1, none⟩ = some (.int .i64 n) ∧ X.cell? ⟨b, o + k * 2, none⟩ = some (.int .i64 s.sh) ∧ X.cell? ⟨b, o + k * 2 + 1, none⟩ = some (.slice s.ia s.ids.length s.ic))
              (exact K3.out _ (by repeat (first | with_reducible exact HB71.out | with_reducible exact HB65.out | with_reducible exact HB56.out | with_reducible exact HB55.out | with_reducible exact HB53.out | with_reducible exact HB46.out | with_reducible exact Below.refl _ _ | with_reducible refine blAlloc ?_ _ | with_reducible refine Below.drew ?_)))
              (first
                | (have _q := HX65.out; clear _q; (try go_simp); go_at_call 22; go_must (refine (refsameS_any _ _ _ _ s.ids s.ids _ HSI.out (SL.later HS65.out (by repeat (first | with_reducible exact Below.refl _ _ | with_reducible refine blAlloc ?_ _ | with_reducible refine Below.drew ?_))) (HSW.out _ (by repeat (first | with_reducible exact HB65.out | with_reducible exact Below.refl _ _ | with_reducible refine blAlloc ?_ _ | with_reducible refine Below.drew ?_)))).mono ?_; rintro e w71 ⟨rfl, h5⟩; rw [show decide (s.ids = s.ids) = true from decide_eq_true rfl]; have HB71 : Hid (Below wr.heap.size wr w71) := blThen (by repeat (first | with_reducible exact HB65.out | with_reducible exact Below.refl _ _ | with_reducible refine blAlloc ?_ _ | with_reducible refine Below.drew ?_)) h5; clear h5))
                | (have _q := HX56.out; clear _q; (try go_simp); go_at_call 23; go_must (refine (get_any _ _ l s.sh _ HLN.out.1 (HDW.out _ (by repeat (first | with_reducible exact HB56.out | with_reducible exact Below.refl _ _ | with_reducible refine blAlloc ?_ _ | with_reducible refine Below.drew ?_)))).mono ?_; rintro e w65 ⟨a65, c65, rfl, h1, h2, h3, h5⟩; rw [HGI.out] at h1 ⊢; have HS65 := Lib.hid h1; have HX65 := Lib.hid h5; have HB65 : Hid (Below wr.heap.size wr w65) := blThen (by repeat (first | with_reducible exact HB56.out | with_reducible exact Below.refl _ _ | with_reducible refine blAlloc ?_ _ | with_reducible refine Below.drew ?_)) h5; clear h1 h2 h3 h5))
                | (have _q := HX55.out; clear _q; (try go_simp); go_at_call 22; go_must (refine (refsameS_any _ _ _ _ (getD (toD F) s.sh) ((getD (toD l) s.sh).filter fun x => ltS x (t, n)) _ HGF.out (SL.later HS46c.out (by repeat (first | with_reducible exact Below.refl _ _ | with_reducible refine blAlloc ?_ _ | with_reducible refine Below.drew ?_))) (SL.later HS55.out (by repeat (first | with_reducible exact Below.refl _ _ | with_reducible refine blAlloc ?_ _ | with_reducible refine Below.drew ?_)))).mono ?_; rintro e w56 ⟨rfl, h5⟩; rw [HQ2.out]; have HX56 := Lib.hid h5; have HB56 : Hid (Below wr.heap.size wr w56) := blThen (by repeat (first | with_reducible exact HB55.out | with_reducible exact Below.refl _ _ | with_reducible refine blAlloc ?_ _ | with_reducible refine Below.drew ?_)) h5; clear h5))
                | (have _q := HX53.out; clear _q; (try go_simp); go_at_call 35; go_must (refine (refbelow_any _ _ (getD (toD l) s.sh) t n _ HGL.out (SL.later HS53.out (by repeat (first | with_reducible exact Below.refl _ _ | with_reducible refine blAlloc ?_ _ | with_reducible refine Below.drew ?_)))).mono ?_; rintro e w55 ⟨a55, c55, rfl, h1, h2, h3, h4, _, h5⟩; have HS55 := Lib.hid h1; have HX55 := Lib.hid h5; have HB55 : Hid (Below wr.heap.size wr w55) := blThen (by repeat (first | with_reducible exact HB53.out | with_reducible exact Below.refl _ _ | with_reducible refine blAlloc ?_ _ | with_reducible refine Below.drew ?_)) h5; have HS46c := Lib.hid (SL.later (SL.later HS46b.out (by repeat (first | with_reducible exact Below.refl _ _ | with_reducible refine blAlloc ?_ _ | with_reducible refine Below.drew ?_))) h5); clear h1 h2 h3 h4 h5))
                | (have _q := HX46.out; clear _q; (try go_simp); go_at_call 23; go_must (refine (get_any _ _ l s.sh _ HLN.out.1 (Dl.later (Dl.later (Dl.later HDR.out (by repeat (first | with_reducible exact Below.refl _ _ | with_reducible refine blAlloc ?_ _ | with_reducible refine Below.drew ?_))) HX46.out) (by repeat (first | with_reducible exact Below.refl _ _ | with_reducible refine blAlloc ?_ _ | with_reducible refine Below.drew ?_)))).mono ?_; rintro e w53 ⟨a53, c53, rfl, h1, h2, h3, h5⟩; have HS53 := Lib.hid h1; have HX53 := Lib.hid h5; have HB53 : Hid (Below wr.heap.size wr w53) := blThen (by repeat (first | with_reducible exact HB46.out | with_reducible exact Below.refl _ _ | with_reducible refine blAlloc ?_ _ | with_reducible refine Below.drew ?_)) h5; have HS46b := Lib.hid (SL.later (SL.later HS46.out (by repeat (first | with_reducible exact Below.refl _ _ | with_reducible refine blAlloc ?_ _ | with_reducible refine Below.drew ?_))) h5); clear h1 h2 h3 h5))
                | ((try go_simp); go_at_call 23; go_must (refine (get_any _ _ F s.sh _ HFN.out.1 (Dl.later (HFR.out) (by repeat (first | with_reducible exact Below.refl _ _ | with_reducible refine blAlloc ?_ _ | with_reducible refine Below.drew ?_)))).mono ?_; rintro e w46 ⟨a46, c46, rfl, h1, h2, h3, h5⟩; have HS46 := Lib.hid h1; have HX46 := Lib.hid h5; have HB46 : Hid (Below wr.heap.size wr w46) := blThen (by repeat (first | with_reducible exact Below.refl _ _ | with_reducible refine blAlloc ?_ _ | with_reducible refine Below.drew ?_)) h5; clear h1 h2 h3 h5)))
            all_goals
              go_wp2
              go_roundw
              case rel => exact ⟨k + 1, hlt, by go_num, blThen HB.out HB71.out⟩
              case measure => simp [intOf]; omega
          · have hge : ¬ (k : Int) < (l.length : Int) := by omega
            have hdk : decide ((k : Int) < (l.length : Int)) = false := decide_eq_false hge
            go_wp2_with (first
              | (go_at_call 29; go_must (refine (pbelow_any _ _ F t n _ HFN.out.1 HFR.out).mono ?_; rintro e w76 ⟨ga, gc, G, rfl, h1, h2, h3, h4, h5⟩; have HTG := Lib.hid h1; have HG76 := Lib.hid h2; have HF76 := Lib.hid (HFR.out.later h5); have HB76 := Lib.hid (blThen HB.out h5); have HQ4 : Hid (toD G = toD F) := h1.trans (by rw [HT.out, below_idem]); have HGN : Hid (FewD G) := ⟨by have e := congrArg List.length HQ4.out; rw [toD_length, toD_length] at e; have := HFN.out.1.1; omega, fun s hs => by have e := idsN_le hs; rw [HQ4.out] at e; have := HFN.out.2.1; omega⟩; clear h1 h2 h3 h4 h5))
              | (go_at_call 33; go_must (refine (same_any _ _ _ _ G F _ HGN.out HG76.out HF76.out).mono ?_; rintro e w78 ⟨rfl, h5⟩; rw [show decide (toD G = toD F) = true from decide_eq_true HQ4.out]; have HB78 := Lib.hid (blThen HB76.out h5); clear h5))
              | (go_at_call 8; refine (dlive_any _).mono ?_; rintro e w9 ⟨rfl, h5⟩; have HB9 := Lib.hid h5; clear h5))
            go_ret
            exact ⟨rfl, blThen HB3.out (blThen HB78.out HB9.out)⟩
    · have hck2 : ((checkD (toD l) == 0) = false) := by simpa using hck
      have hck3 : ((checkD (toD l) != 0) = true) := by simpa using hck
      go_wp2_with (go_at_call 8; refine (dlive_any _).mono ?_; rintro e w9 ⟨rfl, h5⟩; have HB9 := Lib.hid h5; clear h5)
      go_ret
      exact ⟨rfl, blThen HB2.out HB9.out⟩
  · rw [show decide (l.length ≤ 20 ∧ idsN (toD l) ≤ 100) = false from decide_eq_false hsm]
    go_wp2_with (go_at_call 8; refine (dlive_any _).mono ?_; rintro e w9 ⟨rfl, h5⟩; have HB9 := Lib.hid h5; clear h5)
    go_ret
    exact ⟨rfl, blThen HB1.out HB9.out⟩

theorem own6 : ownKnob Tryz.prog.godebug = none := by kernel_rfl
theorem laid6 : laidOutB Tryz.prog = true := by kernel_rfl
set_option maxRecDepth 100000 in
theorem depsBelow_lifted (os : Os) (started : os.Started) (H : Type) (enc : TypeId × Value → H) :
    ReturnsInHanded {} Tryz.checked os 7 .any (Rows.depsBelowSpec.pre6 enc Tryz.prog Tryz.f7 Rows.depsBelowRow.domain false) (Rows.depsBelowSpec.post enc Tryz.prog Tryz.f7 false true false false) := by
  refine law_lift_sized (C := Tryz.checked) own6 started (by kernel_rfl) Tryz.func7 laid6 rfl (by kernel_rfl) (fun _ _ _ _ => trodAll_mk1 (shut_bool Tryz.underlying4 true)) (fun ds h => match ds, h with | [_, _], _ => ⟨rfl, rfl, rfl⟩)
    (ChangeSpec.witness6 (enc := enc) (C := Tryz.checked) false ⟨#[], #[.slice none 0 0, .agg #[.int .i64 0, .int .i64 0]], []⟩ 8 (by kernel_rfl) (by kernel_rfl) (by kernel_rfl) (by kernel_rfl)) ?_
  intro W base args ds before hval0 hA0 hlt hsz
  have hval : ∀ (j : Nat) t v, Tryz.f7.params[j]? = some t → args[j]? = some v → Value.okWide Tryz.prog W .any base t v := hval0
  have hA : DataW.TrodAll enc Tryz.prog W 0 (fun _ => true) true Tryz.f7.params.toList args.toList ds before := hA0
  rw [Tryz.params7] at hA hval
  obtain ⟨v0, v1, d0, d1, p0, p1, rfl, rfl, rfl, h0, h1⟩ := trodAll_two hA
  obtain ⟨a, l, c, rfl, hl, hm, _, _, _, hr⟩ := open_deps (hval 0 22 v0 rfl rfl) h0
  obtain ⟨t, n, rfl, _, _⟩ := open_stamp (hval 1 42 v1 rfl rfl) h1
  exact depsBelow_walk a c l t n W hm (hr _ _ 0 hsz (by kernel_rfl) rfl) hl

theorem depsBelow_holds : Rows.DepsBelowSaid :=
  OpenClaim.holds_of_wide 7 Tryz.f7 rfl rfl rfl rfl rfl rfl rfl ⟨rfl, rfl, rfl, rfl, rfl⟩ rfl rfl rfl rfl rfl (by kernel_rfl) Tryz.func7 (by kernel_rfl)
    (of_decide_eq_true (by kernel_rfl)) (by unfold Func.isWrapper; rw [if_neg (of_decide_eq_false (by kernel_rfl))]; exact ⟨rfl, rfl⟩)
    (fun os started H enc _ => depsBelow_lifted os started H enc)

#print axioms depsBelow_holds

end SD
end Go.Proofs.YtjlbhffdlogflaaGreat
