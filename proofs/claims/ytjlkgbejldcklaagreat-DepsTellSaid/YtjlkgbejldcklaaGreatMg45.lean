/- The program's Only of Deps. Conditions: lists of at most a million; numbers of 64 bits. -/
import Derived.Maps.OwnSet
import Derived.Maps.OwnOps
import Derived.WalkSpells
import Derived.Test.YtjlkgbejldcklaaGreatMg39
import Derived.Test.YtjlkgbejldcklaaGreatMg38
/- A set of numbers of the program's: setOf, has. Conditions: at most a million numbers. -/
set_option linter.unusedVariables false
namespace Go.Proofs.YtjlkgbejldcklaaGreat
open S1
namespace SD
open Go.RowKit

def MapU (w : World) (b n : Nat) (D : DataW Unit) : Prop := w.ownsMap Tryz.prog 3 unitElem b n D
theorem MapU.lt {w : World} {b n : Nat} {D : DataW Unit} (h : MapU w b n D) : b < w.heap.size := World.ownsMap.lt h
theorem MapU.later {B : Nat} {w wr : World} {b n : Nat} {D : DataW Unit} (h : MapU w b n D) (hw : Below B w wr) (hb : b < B) : MapU wr b n D := by
  obtain ⟨es, clock, hh, r⟩ := h
  exact ⟨es, clock, (hw.block b hb).trans hh, r⟩
theorem zeroU6 (w : World) : (zeroValue 242).run Tryz.prog w = .ok (.agg #[]) w := by kernel_rfl
theorem has_put6 {D : DataW Unit} (hD : Maps.IsMap D) (s t : Int) (d : DataW Unit) : Maps.has (D.put (kS s) d) (kS t) = (Maps.has D (kS t) || t == s) := by
  by_cases h : t = s
  · subst h
    rw [Maps.has_put_same hD (kS_key _)]
    simp
  · rw [Maps.has_put_other (kS_ne h)]
    simp [h]
/-- A new set of the numbers of P. -/
def SetIR (w : World) (P : List Int) (e : Ending) (w' : World) : Prop := ∃ D n, e = .returned (.map (some w.heap.size)) ∧ MapU w' w.heap.size n D ∧ (∀ s, Maps.has D (kS s) = P.any (· == s)) ∧ Below w.heap.size w w'
set_option maxRecDepth 100000 in
set_option maxHeartbeats 1000000 in
theorem setOfI_any (a : Option Addr) (c : Nat) (P : List Int) (w : World) (hlen : P.length ≤ 1000000) (hwf : ∀ x ∈ P, (Lit.int .i64 x).wf = true) (hp : Nl w a P) :
    Calls Tryz.prog 115 #[.slice a P.length c] w (SetIR w P) := by
  have HP := Lib.hid hp
  have HWF := Lib.hid hwf
  have hmm := @run_makeMap Tryz.prog
  have hB0 : Hid (Below w.heap.size w (w.alloc (.map #[] 0))) := (Below.refl _ _).alloc (Nat.le_refl _) _
  have hI0 : Hid (MapU (w.alloc (.map #[] 0)) w.heap.size 0 (.map [])) := World.ownsMap_made w _ _ _
  clear hp hwf
  go_enter Tryz.func115, Tryz.ntmps115
  go_wp2
  generalize w.alloc (.map #[] 0) = w1 at *
  go_loopw [9] (fun i wr => ∃ (k : Nat) (D : DataW Unit), k ≤ P.length ∧ i = .int .i64 k ∧ MapU wr w.heap.size k D ∧ (∀ s, Maps.has D (kS s) = (P.take k).any (· == s)) ∧ Below w.heap.size w wr) (fun i _ => P.length - (intOf i).toNat)
  case atStart => exact ⟨0, _, Nat.zero_le _, rfl, hI0.out, fun s => rfl, hB0.out⟩
  case round =>
    clear hI0 hB0
    obtain ⟨k, D, hk, rfl, hm, hh, hb⟩ := hrel
    have HB := Lib.hid hb
    have HM := Lib.hid hm
    have HH := Lib.hid hh
    clear hb hm hh
    by_cases hlt : k < P.length
    · obtain ⟨x, hx⟩ : ∃ x, P[k]? = some x := ⟨_, List.getElem?_eq_getElem hlt⟩
      obtain ⟨g, o, rfl, hg, hc⟩ := (HP.out.later HB.out).at hx
      have hk1 : (k : Int) < (P.length : Int) := by omega
      have hk0 : (0 : Int) ≤ (k : Int) := by omega
      have hdk : decide ((k : Int) < (P.length : Int)) = true := decide_eq_true hk1
      have HKY := Lib.hid (Maps.keyOf_int_mk Tryz.underlying3 (HWF.out x (List.mem_of_getElem? hx)))
      have HT : Hid (∀ s, (P.take (k + 1)).any (· == s) = ((P.take k).any (· == s) || s == x)) := fun s => by
        rw [List.take_add_one, hx, List.any_append]
        simp [Bool.beq_comm]
      clear hx
      go_wp2_with (at_mapUpdate; go_must (refine wpList_mapUpdate_own _ rfl _ _ _ 166 rfl 3 242 lawI6 Tryz.underlying166 unitElem w.heap.size k D rfl HM.out (by unfold maxLen; omega) _ _ (kS x) rfl rfl HKY.out (.agg []) [] unitElem_mk ?_; intro w9 h1 h2; have HM9 := Lib.hid h1; have HB9 := Lib.hid (HB.out.grown h2 HB.out.size (fun k hk => by cases hk; exact Nat.le_refl _)); clear h1 h2))
      go_roundw
      case rel => exact ⟨k + 1, _, hlt, by go_num, HM9.out, fun s => by rw [has_put6 (World.ownsMap.isMap HM.out), HH.out, HT.out], HB9.out⟩
      case measure => simp [intOf]; omega
    · have hge : ¬ (k : Int) < (P.length : Int) := by omega
      have hdk : decide ((k : Int) < (P.length : Int)) = false := decide_eq_false hge
      have HHE : Hid (∀ s, Maps.has D (kS s) = P.any (· == s)) := fun s => by rw [HH.out, List.take_of_length_le (by omega)]
      go_wp2
      go_ret
      exact ⟨D, k, rfl, HM.out, HHE.out, HB.out⟩
set_option maxHeartbeats 1000000 in
theorem hasI_any (b n : Nat) (D : DataW Unit) (s : Int) (w : World) (hwf : (Lit.int .i64 s).wf = true) (hm : MapU w b n D) :
    Calls Tryz.prog 116 #[.map (some b), .int .i64 s] w fun e w' => e = .returned (.bool (Maps.has D (kS s))) ∧ Below w.heap.size w w' := by
  have HM := Lib.hid hm
  have HK := Lib.hid (Maps.keyOf_int_mk Tryz.underlying3 hwf)
  clear hm hwf
  go_enter Tryz.func116, Tryz.ntmps116
  go_wp2_with (at_lookup; go_must (refine wpList_lookup_own_unit _ rfl _ _ 166 rfl 3 242 lawI6 Tryz.underlying166 (zeroU6 _) b n D rfl HM.out _ (kS s) rfl HK.out ?_))
  go_ret
  exact ⟨rfl, blAlloc (Below.refl _ w) _⟩

end SD
end Go.Proofs.YtjlkgbejldcklaaGreat

/- The program's Only of Deps. Conditions: lists of at most a million; numbers of 64 bits. -/
set_option linter.unusedVariables false
namespace Go.Proofs.YtjlkgbejldcklaaGreat
open S1
namespace SD
open Go.RowKit

theorem onlyD_take {l : List Dp} {k : Nat} {s : Dp} {P : List Int} (h : l[k]? = some s) : onlyD ((toD l).take (k + 1)) P = onlyD ((toD l).take k) P ++ if P.any (· == s.sh) = true then [(s.sh, s.ids)] else [] := by
  unfold onlyD
  rw [List.take_add_one, toD_at h, List.filter_append]
  congr 1
  cases h2 : P.any (· == s.sh) <;> simp [h2]
theorem onlyD_len (d : Dd) (P : List Int) : (onlyD d P).length ≤ d.length := List.length_filter_le _ _

set_option maxRecDepth 100000 in
set_option maxHeartbeats 2000000 in
theorem ponly_any (a : Option Addr) (c : Nat) (l : List Dp) (ap : Option Addr) (cp : Nat) (P : List Int) (w : World) (hf : FewD l) (hlp : P.length ≤ 1000000) (hwl : ∀ s ∈ l, (Lit.int .i64 s.sh).wf = true) (hwp : ∀ x ∈ P, (Lit.int .i64 x).wf = true) (hl : Dl w a l) (hp : Nl w ap P) :
    Calls Tryz.prog 31 #[.slice a l.length c, .slice ap P.length cp] w (RetD w (onlyD (toD l) P)) := by
  have HL := Lib.hid hl
  have HF := Lib.hid hf
  have HWL := Lib.hid hwl
  have HWP := Lib.hid hwp
  have HP := Lib.hid hp
  have hlen := hf.1
  clear hl hf hwl hwp hp
  go_enter Tryz.func31, Tryz.ntmps31
  go_wp2_with (go_at_call 115; go_must (refine (setOfI_any ap cp P _ hlp HWP.out HP.out).mono ?_; rintro e w1 ⟨D, n, rfl, h1, h2, h3⟩; have HM := Lib.hid h1; have HH := Lib.hid h2; have HB1 := Lib.hid h3; clear h1 h2 h3))
  go_loopw [6, 13] (fun v i wr => ∃ (k : Nat) (F : List Dp), k ≤ l.length ∧ i = .int .i64 k ∧ toD F = onlyD ((toD l).take k) P ∧ OwnD wr w1.heap.size v F ∧ HasG wr v F ∧ Below w1.heap.size w1 wr) (fun _ i _ => l.length - (intOf i).toNat)
  case atStart => exact ⟨0, [], Nat.zero_le _, rfl, rfl, OwnD.nil _ _, HasG.nil _ _, Below.refl _ _⟩
  case round =>
    obtain ⟨k, F, hk, rfl, hF, ho, hg, hb⟩ := hrel
    have HB := Lib.hid hb
    have HO := Lib.hid ho
    have HG := Lib.hid hg
    have HFE := Lib.hid hF
    obtain ⟨av, cv, rfl, _⟩ := ho.row
    clear hb ho hg hF
    by_cases hlt : k < l.length
    · obtain ⟨s, hs⟩ := at_ltD hlt
      obtain ⟨b, o, rfl, hbg, hx, hy, hi⟩ := ((HL.out.later HB1.out).later HB.out).at hs
      have hk1 : (k : Int) < (l.length : Int) := by omega
      have hk0 : (0 : Int) ≤ (k : Int) := by omega
      have hdk : decide ((k : Int) < (l.length : Int)) = true := decide_eq_true hk1
      have HFT := Lib.hid (onlyD_take (P := P) hs)
      have HI := Lib.hid hi
      have HSN := Lib.hid (HF.out.2 s (List.mem_of_getElem? hs))
      have HSW := Lib.hid (HWL.out s (List.mem_of_getElem? hs))
      have HFL : Hid (F.length ≤ 1000000) := by
        have h := congrArg List.length HFE.out
        rw [toD_length] at h
        have h2 := onlyD_len ((toD l).take k) P
        rw [List.length_take, toD_length] at h2
        show _ ≤ _
        omega
      have HQ := Lib.hid (HH.out s.sh)
      unfold ilD at hy
      clear hs hi
      generalize P.any (· == s.sh) = q at *
      cases q
      · go_wp2_with (go_at_call 116; go_must (refine (hasI_any w.heap.size n D s.sh _ HSW.out (HM.out.later (HB.out.alloc HB.out.size _) HM.out.lt)).mono ?_; rintro e w5 ⟨h1, h5⟩; rw [HQ.out] at h1; subst h1; have HB5 : Hid (Below wr.heap.size wr w5) := blThen (blAlloc (Below.refl _ _) _) h5; clear h5))
        go_roundw
        case rel => exact ⟨k + 1, F, hlt, by go_num, by rw [HFT.out, HFE.out]; simp, HO.out.later HB5.out, HG.out.later HB5.out, blThen HB.out HB5.out⟩
        case measure => simp [intOf]; omega
      · go_wp2_with (go_at_call 116; go_must (refine (hasI_any w.heap.size n D s.sh _ HSW.out (HM.out.later (HB.out.alloc HB.out.size _) HM.out.lt)).mono ?_; rintro e W ⟨h1, h5⟩; rw [HQ.out] at h1; subst h1; have HB5 : Hid (Below wr.heap.size wr W) := blThen (blAlloc (Below.refl _ _) _) h5; have hNB := dep_new wr (.int .i64 s.sh) (.slice s.ia s.ids.length s.ic); have hx2 := cell_in h5 (by simp) hNB.1; have hy2 := cell_in h5 (by simp) hNB.2; have hsz2 : wr.heap.size < W.heap.size := Nat.lt_of_lt_of_le (by simp) h5.size; clear h5 hNB))
        have HO2 := Lib.hid (HO.out.later HB5.out)
        have HG2 := Lib.hid (HG.out.later HB5.out)
        have HI2 := Lib.hid (HI.out.later HB5.out)
        have HBW := Lib.hid (blThen HB.out HB5.out)
        clear hx hy
        go_region_law (first
          | ((refine step_dp rfl (.tmp 21) (.tmp 28) rfl w1.heap.size (v := .slice av F.length cv) (d := F) (ad := ⟨w6.heap.size, 0, none⟩) (cap := 1) (m := ⟨s.sh, xa, xc, s.ids⟩) (by simp [Act.eval]) (by simp [Act.eval]) (HO2.out.later (by repeat (first | with_reducible exact HB3.out | with_reducible refine blAlloc ?_ _ | with_reducible refine Below.drew ?_))) (dp_one (w0 := w6) rfl rfl) HFL.out (by have := HBW.out.size; have := HB3.out.size; simp; omega) ?_); intro v' w' h1 h2 h3; have HO7 := Lib.hid h1; have HG7 := Lib.hid ((HG2.out.later (by repeat (first | with_reducible exact HB3.out | with_reducible refine blAlloc ?_ _ | with_reducible refine Below.drew ?_))).push (m := ⟨s.sh, xa, xc, s.ids⟩) (show IdsAt _ _ from ⟨HM1.out.later (by repeat (first | with_reducible exact Below.refl _ _ | with_reducible refine blAlloc ?_ _ | with_reducible refine Below.drew ?_)), HM2.out, HM4.out⟩) HMV.out h2 h3); have HB7 := Lib.hid (grown_belowD (x := w1) (HBW.out.trans ((show Below W.heap.size W _ from (by repeat (first | with_reducible exact HB3.out | with_reducible refine blAlloc ?_ _ | with_reducible refine Below.drew ?_))).mono HBW.out.size)) (HO2.out.later (by repeat (first | with_reducible exact HB3.out | with_reducible refine blAlloc ?_ _ | with_reducible refine Below.drew ?_))) (Nat.le_refl _) (by have := HBW.out.size; have := HB3.out.size; simp; omega) h2); clear h1 h2 h3)
          | ((try go_simp); go_at_call 114; refine (clone_any _ _ s.ids _ HSN.out (HI2.out.1.later (by repeat (first | with_reducible exact Below.refl _ _ | with_reducible refine blAlloc ?_ _ | with_reducible refine Below.drew ?_))) HI2.out.2.1).mono ?_; rintro e w6 ⟨xa, xc, rfl, h1, h2, h3, h4, h5⟩; have HB3 : Hid (Below W.heap.size W w6) := blThen (by repeat (first | with_reducible exact Below.refl _ _ | with_reducible refine blAlloc ?_ _ | with_reducible refine Below.drew ?_)) h5; have HM1 := Lib.hid h1; have HM2 := Lib.hid h2; have HMV := Lib.hid (apart_g HO2.out h1 h3 (Nat.le_refl _)); have HM4 := Lib.hid h4; have x6 := cell_in HB3.out hsz2 hx2; have y6 := cell_in HB3.out hsz2 hy2; have hs6 := Nat.lt_of_lt_of_le hsz2 HB3.out.size; clear h1 h2 h3 h4 h5))
        all_goals
          go_wp2
          go_roundw
          case rel => exact ⟨k + 1, _, hlt, by go_num, by rw [HFT.out, ← HFE.out]; unfold toD; rw [List.map_append]; rfl, HO7.out, HG7.out, HB7.out⟩
          case measure => simp [intOf]; omega
    · have hge : ¬ (k : Int) < (l.length : Int) := by omega
      have hdk : decide ((k : Int) < (l.length : Int)) = false := decide_eq_false hge
      have HFF : Hid (toD F = onlyD (toD l) P) := by
        have h := HFE.out
        rwa [List.take_of_length_le (by rw [toD_length]; omega)] at h
      go_wp2
      go_ret
      obtain ⟨a2, c2, hv, h1, h2, h3⟩ := HO.out.dl fun s hs => (HG.out s hs).1
      exact ⟨a2, c2, F, by rw [← hv]; rfl, HFF.out, h3, h1, h2, blThen HB1.out HB.out⟩

end SD
end Go.Proofs.YtjlkgbejldcklaaGreat
