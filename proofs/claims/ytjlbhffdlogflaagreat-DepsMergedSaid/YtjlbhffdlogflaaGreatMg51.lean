/- DepsMerged: whatever three dependencies and stamp, the law returns true: merged in whatever order, however parted, with a part of themselves, they are the same. Conditions: none. -/
import Derived.Deep.RegionHeld3
import Derived.Test.YtjlbhffdlogflaaGreatMg49
import Derived.Test.YtjlbhffdlogflaaGreatMg50
import Derived.Test.YtjlbhffdlogflaaGreatMg38
/- DepsMerged: whatever three dependencies and stamp, the law returns true: merged in whatever order, however parted, with a part of themselves, they are the same. Conditions: none. -/
set_option linter.unusedVariables false
set_option linter.unusedSimpArgs false
namespace Go.Proofs.YtjlbhffdlogflaaGreat
open S1 SP
namespace SD
open Go.ChangeShapes Go.WideShapes Go.ChangeAt Go.RowKit Go.Joins Go.Deep

/-- Dependencies that may be, but for their number of stamps. -/
def Nice (d : Dd) : Prop := Good d ∧ RisD (-1) d ∧ SSD d ∧ idsN d ≤ 600 ∧ ∀ x ∈ d, ∀ i ∈ x.2, WfT i
theorem wfT_isS {i : Int × Int} (h : isS i = true) : WfT i := by
  have h2 : checkD [(0, [i])] = 0 := by
    refine checkD_ok.2 ⟨by simp, by simp [idsN], ?_⟩
    refine depsF_of (p := -1) ⟨by simp, by simp⟩ fun x hx => ?_
    simp only [List.mem_cons, List.mem_nil_iff, or_false] at hx
    subst hx
    refine ⟨by simp, by simp [SS], fun j hj => ?_⟩
    simp only [List.mem_cons, List.mem_nil_iff, or_false] at hj
    subst hj
    exact h
  exact (check_wf h2 (0, [i]) (by simp)).2.1 i (by simp)
theorem ite_no {b : Bool} [Decidable (b = true)] {p q : Prop} (h : b = false) (hq : q) : if b = true then p else q := by rw [if_neg (by rw [h]; decide)]; exact hq
theorem nice_of {d : Dd} (h : checkD d = 0) : Nice d := by
  obtain ⟨a, b, c, e⟩ := chk_good h
  exact ⟨a, b, c, Nat.le_trans (checkD_ok.1 h).2.1 (by decide), fun x hx i hi => wfT_isS (e x hx i hi)⟩
theorem nice_below {d : Dd} (h : Nice d) (s : Int × Int) : Nice (belowD d s) := by
  obtain ⟨a, b, c, e, f⟩ := h
  refine ⟨good_below a s, risD_map b _ fun _ => rfl, fun x hx => ?_, Nat.le_trans (idsN_below6 d s) e, fun x hx i hi => ?_⟩
  · obtain ⟨y, hy, rfl⟩ := List.mem_map.1 hx
    exact (c y hy).filter _
  · obtain ⟨y, hy, rfl⟩ := List.mem_map.1 hx
    exact f y hy i (List.mem_filter.1 hi).1
theorem nice_without {d : Dd} (h : Nice d) (X : List (Int × Int)) : Nice (withoutD d X) := by
  obtain ⟨a, b, c, e, f⟩ := h
  refine ⟨good_without a X, risD_map b _ fun _ => rfl, fun x hx => ?_, Nat.le_trans (idsN_without d X) e, fun x hx i hi => ?_⟩
  · obtain ⟨y, hy, rfl⟩ := List.mem_map.1 hx
    exact (c y hy).filter _
  · obtain ⟨y, hy, rfl⟩ := List.mem_map.1 hx
    exact f y hy i (List.mem_filter.1 hi).1
theorem nice_len {d : Dd} (h : Nice d) : d.length ≤ 8 := by
  have := ris_len h.2.1 (fun x hx => (h.1 x hx).2) (by omega)
  omega
theorem nice_few {l : List Dp} {d : Dd} (e : toD l = d) (h : Nice d) : FewD l ∧ idsN (toD l) ≤ 1000000 ∧ l.length ≤ 1000 := by
  subst e
  have h1 := nice_len h
  rw [toD_length] at h1
  have h2 := h.2.2.2.1
  refine ⟨⟨by omega, fun s hs => ?_⟩, by omega, by omega⟩
  have := idsN_mem (d := toD l) (x := s.d) (List.mem_map.2 ⟨s, hs, rfl⟩)
  have e : s.d.2.length = s.ids.length := rfl
  omega
theorem nice_wf {l : List Dp} {d : Dd} (e : toD l = d) (h : Nice d) : ∀ s ∈ l, ∀ i ∈ s.ids, WfT i := by
  subst e
  intro s hs i hi
  exact h.2.2.2.2 s.d (List.mem_map.2 ⟨s, hs, rfl⟩) i hi
theorem args2 {a b : Dd} (ha : Nice a) (hb : Nice b) : [a, b].flatten.length ≤ 1000 ∧ idsN [a, b].flatten ≤ 1000000 ∧ (∀ x ∈ [a, b].flatten, -1 < x.1) ∧ ∀ x ∈ [a, b].flatten, (Lit.int .i64 x.1).wf = true := by
  have hg := good_flat (good2 ha.1 hb.1)
  refine ⟨?_, ?_, fun x hx => (hg x hx).1, fun x hx => wf_small (by have := (hg x hx).1; omega) (by have := (hg x hx).2; omega)⟩
  · rw [flat2, List.length_append]
    have := nice_len ha; have := nice_len hb; omega
  · rw [flat2, idsN_append]
    have := ha.2.2.2.1; have := hb.2.2.2.1; omega
theorem args3 {a b c : Dd} (ha : Nice a) (hb : Nice b) (hc : Nice c) : [a, b, c].flatten.length ≤ 1000 ∧ idsN [a, b, c].flatten ≤ 1000000 ∧ (∀ x ∈ [a, b, c].flatten, -1 < x.1) ∧ ∀ x ∈ [a, b, c].flatten, (Lit.int .i64 x.1).wf = true := by
  have hg := good_flat (good3 ha.1 hb.1 hc.1)
  refine ⟨?_, ?_, fun x hx => (hg x hx).1, fun x hx => wf_small (by have := (hg x hx).1; omega) (by have := (hg x hx).2; omega)⟩
  · rw [flat3, List.length_append, List.length_append]
    have := nice_len ha; have := nice_len hb; have := nice_len hc; omega
  · rw [flat3, idsN_append, idsN_append]
    have := ha.2.2.2.1; have := hb.2.2.2.1; have := hc.2.2.2.1; omega
theorem rows2 {X : World} {a b : DRow} (ha : Dl X a.1 a.2.1) (hb : Dl X b.1 b.2.1) : ∀ r ∈ ([a, b] : List DRow), Dl X r.1 r.2.1 := by
  intro r hr
  simp only [List.mem_cons, List.mem_nil_iff, or_false] at hr
  rcases hr with rfl | rfl
  · exact ha
  · exact hb
theorem rows3 {X : World} {a b c : DRow} (ha : Dl X a.1 a.2.1) (hb : Dl X b.1 b.2.1) (hc : Dl X c.1 c.2.1) : ∀ r ∈ ([a, b, c] : List DRow), Dl X r.1 r.2.1 := by
  intro r hr
  simp only [List.mem_cons, List.mem_nil_iff, or_false] at hr
  rcases hr with rfl | rfl | rfl
  · exact ha
  · exact hb
  · exact hc

set_option maxRecDepth 100000 in
set_option maxHeartbeats 16000000 in
theorem merged_walk (a : Option Addr) (ca : Nat) (la : List Dp) (b : Option Addr) (cb : Nat) (lb : List Dp) (c : Option Addr) (cc : Nat) (lc : List Dp) (t n : Int) (w : World)
    (hma : la.length ≤ 9223372036854775807) (hra : ∀ s ∈ la, s.ids.length ≤ 140737488355328) (hla : Dl w a la)
    (hmb : lb.length ≤ 9223372036854775807) (hrb : ∀ s ∈ lb, s.ids.length ≤ 140737488355328) (hlb : Dl w b lb)
    (hmc : lc.length ≤ 9223372036854775807) (hrc : ∀ s ∈ lc, s.ids.length ≤ 140737488355328) (hlc : Dl w c lc) :
    Calls Tryz.prog 5 #[.slice a la.length ca, .slice b lb.length cb, .slice c lc.length cc, .agg #[.int .i64 t, .int .i64 n]] w fun e w' => e = .returned (.bool true) ∧ Below w.heap.size w w' := by
  have HRA := Lib.hid hra
  have HRB := Lib.hid hrb
  have HRC := Lib.hid hrc
  go_enter Tryz.func5, Tryz.ntmps5
  go_wp2_with fail
  have HB_w1 : Hid (Below w.heap.size w (w.alloc (.cells #[.int .i64 t, .int .i64 n] 42))) := blAlloc (Below.refl _ _) _
  have hN : Own2 (w.alloc (.cells #[.int .i64 t, .int .i64 n] 42)) w.heap.size t n := own2_new _ _ _
  have HS := Lib.hid (sl_dir hN.c0 hN.c1 hN.lt)
  have HA := Lib.hid (hla.later HB_w1.out)
  have HB := Lib.hid (hlb.later HB_w1.out)
  have HC := Lib.hid (hlc.later HB_w1.out)
  generalize w.alloc (.cells #[.int .i64 t, .int .i64 n] 42) = w1 at *
  clear hN hla hlb hlc hra hrb hrc
  refine (small6_any a ca la w1 hma HRA.out HA.out).mono ?_
  rintro e _ ⟨rfl, rfl⟩
  by_cases hsa : la.length ≤ 20 ∧ idsN (toD la) ≤ 100
  · rw [show decide (la.length ≤ 20 ∧ idsN (toD la) ≤ 100) = true from decide_eq_true hsa]
    have HLNa := Lib.hid (few_of hsa.1 hsa.2)
    have HSMa := Lib.hid hsa
    clear hsa
    go_wp2_with fail
    refine (small6_any b cb lb _ hmb HRB.out HB.out).mono ?_
    rintro e _ ⟨rfl, rfl⟩
    by_cases hsb : lb.length ≤ 20 ∧ idsN (toD lb) ≤ 100
    · rw [show decide (lb.length ≤ 20 ∧ idsN (toD lb) ≤ 100) = true from decide_eq_true hsb]
      have HLNb := Lib.hid (few_of hsb.1 hsb.2)
      have HSMb := Lib.hid hsb
      clear hsb
      go_wp2_with fail
      refine (small6_any c cc lc _ hmc HRC.out HC.out).mono ?_
      rintro e _ ⟨rfl, rfl⟩
      by_cases hsc : lc.length ≤ 20 ∧ idsN (toD lc) ≤ 100
      · rw [show decide (lc.length ≤ 20 ∧ idsN (toD lc) ≤ 100) = true from decide_eq_true hsc]
        have HLNc := Lib.hid (few_of hsc.1 hsc.2)
        have HSMc := Lib.hid hsc
        clear hsc
        go_wp2_with fail
        refine (refcheck_any a ca la _ HLNa.out.1 HLNa.out.2.1 HA.out).mono ?_
        rintro e w2 ⟨rfl, h5⟩
        have HX : Hid (Below w1.heap.size w1 w2) := blThen (by repeat (first | with_reducible exact Below.refl _ _ | with_reducible refine blAlloc ?_ _ | with_reducible refine Below.drew ?_)) h5
        have HB_w2 := Lib.hid (blThen HB_w1.out HX.out)
        have HA := Lib.hid (HA.out.later HX.out)
        have HB := Lib.hid (HB.out.later HX.out)
        have HC := Lib.hid (HC.out.later HX.out)
        have HS := Lib.hid (HS.out.later HX.out)
        clear h5 HX
        by_cases hca : checkD (toD la) = 0
        · rw [hca]
          have HCKa := Lib.hid hca
          clear hca
          go_wp2_with fail
          refine (refcheck_any b cb lb _ HLNb.out.1 HLNb.out.2.1 HB.out).mono ?_
          rintro e w3 ⟨rfl, h5⟩
          have HX : Hid (Below w2.heap.size w2 w3) := blThen (by repeat (first | with_reducible exact Below.refl _ _ | with_reducible refine blAlloc ?_ _ | with_reducible refine Below.drew ?_)) h5
          have HB_w3 := Lib.hid (blThen HB_w2.out HX.out)
          have HA := Lib.hid (HA.out.later HX.out)
          have HB := Lib.hid (HB.out.later HX.out)
          have HC := Lib.hid (HC.out.later HX.out)
          have HS := Lib.hid (HS.out.later HX.out)
          clear h5 HX
          by_cases hcb : checkD (toD lb) = 0
          · rw [hcb]
            have HCKb := Lib.hid hcb
            clear hcb
            go_wp2_with fail
            refine (refcheck_any c cc lc _ HLNc.out.1 HLNc.out.2.1 HC.out).mono ?_
            rintro e w4 ⟨rfl, h5⟩
            have HX : Hid (Below w3.heap.size w3 w4) := blThen (by repeat (first | with_reducible exact Below.refl _ _ | with_reducible refine blAlloc ?_ _ | with_reducible refine Below.drew ?_)) h5
            have HB_w4 := Lib.hid (blThen HB_w3.out HX.out)
            have HA := Lib.hid (HA.out.later HX.out)
            have HB := Lib.hid (HB.out.later HX.out)
            have HC := Lib.hid (HC.out.later HX.out)
            have HS := Lib.hid (HS.out.later HX.out)
            clear h5 HX
            by_cases hcc : checkD (toD lc) = 0
            · rw [hcc]
              have HCKc := Lib.hid hcc
              clear hcc
              have HNA := Lib.hid (nice_of HCKa.out)
              have HNB := Lib.hid (nice_of HCKb.out)
              have HNC := Lib.hid (nice_of HCKc.out)
              have HCX : Hid (checkD (mergeD [toD la, toD lb, toD lc]) = 0) := by
                refine merge_check (fun d hd => ?_) ?_
                · simp only [List.mem_cons, List.mem_nil_iff, or_false] at hd
                  rcases hd with rfl | rfl | rfl
                  · exact HCKa.out
                  · exact HCKb.out
                  · exact HCKc.out
                · rw [flat3, idsN_append, idsN_append]
                  have := HSMa.out.2; have := HSMb.out.2; have := HSMc.out.2; omega
              have HCI : Hid (checkD (mergeD [toD lb, toD la]) = 0) := by
                refine merge_check (fun d hd => ?_) ?_
                · simp only [List.mem_cons, List.mem_nil_iff, or_false] at hd
                  rcases hd with rfl | rfl
                  · exact HCKb.out
                  · exact HCKa.out
                · rw [flat2, idsN_append]
                  have := HSMa.out.2; have := HSMb.out.2; omega
              have HNX := Lib.hid (nice_of HCX.out)
              have HNI := Lib.hid (nice_of HCI.out)
              have HEY := Lib.hid (merge_orders HNA.out.1 HNB.out.1 HNC.out.1)
              have HEZ := Lib.hid (merge_part HNA.out.1 HNB.out.1 HNC.out.1 (t, n))
              have HALL := Lib.hid (all_of HNA.out.1 HNB.out.1 HNC.out.1)
              have HAB := Lib.hid (args3 HNA.out HNB.out HNC.out)
              have HAI := Lib.hid (args2 HNB.out HNA.out)
              have HAY := Lib.hid (args2 HNC.out HNI.out)
              have HAZ := Lib.hid (args3 HNX.out (nice_below HNX.out (t, n)) HNA.out)
              have HLESS := Lib.hid (fun X => merge_less HNX.out.1 HNX.out.2.1 HNX.out.2.2.1 X)
              have HAW := Lib.hid (fun X => args2 (nice_without HNX.out X) HNX.out)
              generalize hX : mergeD [toD la, toD lb, toD lc] = X at *
              generalize hI : mergeD [toD lb, toD la] = I at *
              clear HCI
              go_wp2_with fail
              refine (pmergeD_any _ _ [(a, la, ca), (b, lb, cb), (c, lc, cc)] [toD la, toD lb, toD lc] (-1) _ rfl HAB.out.1 (by simp) HAB.out.2.1 HAB.out.2.2.1 HAB.out.2.2.2 (dls_new _ _ _ rfl (rows3 HA.out HB.out HC.out))).mono ?_
              rintro e w5 ⟨ax, cx, lx, rfl, h1, h2, _, _, h5⟩
              have HX : Hid (Below w4.heap.size w4 w5) := blThen (by repeat (first | with_reducible exact Below.refl _ _ | with_reducible refine blAlloc ?_ _ | with_reducible refine Below.drew ?_)) h5
              have HB_w5 := Lib.hid (blThen HB_w4.out HX.out)
              have HA := Lib.hid (HA.out.later HX.out)
              have HB := Lib.hid (HB.out.later HX.out)
              have HC := Lib.hid (HC.out.later HX.out)
              have HS := Lib.hid (HS.out.later HX.out)
              rw [hX] at h1
              have HDX := Lib.hid h2
              have HTX := Lib.hid h1
              have HFX := Lib.hid (nice_few h1 HNX.out)
              clear h5 HX h1 h2 hX
              go_wp2_with fail
              refine (pmergeD_any _ _ [(b, lb, cb), (a, la, ca)] [toD lb, toD la] (-1) _ rfl HAI.out.1 (by simp) HAI.out.2.1 HAI.out.2.2.1 HAI.out.2.2.2 (dls_new _ _ _ rfl (rows2 HB.out HA.out))).mono ?_
              rintro e w6 ⟨ai, ci, li, rfl, h1, h2, _, _, h5⟩
              have HX : Hid (Below w5.heap.size w5 w6) := blThen (by repeat (first | with_reducible exact Below.refl _ _ | with_reducible refine blAlloc ?_ _ | with_reducible refine Below.drew ?_)) h5
              have HB_w6 := Lib.hid (blThen HB_w5.out HX.out)
              have HA := Lib.hid (HA.out.later HX.out)
              have HB := Lib.hid (HB.out.later HX.out)
              have HC := Lib.hid (HC.out.later HX.out)
              have HS := Lib.hid (HS.out.later HX.out)
              have HDX := Lib.hid (HDX.out.later HX.out)
              rw [hI] at h1
              have HDI := Lib.hid h2
              have HTI := Lib.hid h1
              clear h5 HX h1 h2 hI
              have HMY : Hid ((([(c, lc, cc), (ai, li, ci)] : List DRow).map fun r => toD r.2.1) = [toD lc, I]) := by
                show [toD lc, toD li] = _
                rw [HTI.out]
              go_wp2_with fail
              refine (pmergeD_any _ _ [(c, lc, cc), (ai, li, ci)] [toD lc, I] (-1) _ HMY.out HAY.out.1 (by simp) HAY.out.2.1 HAY.out.2.2.1 HAY.out.2.2.2 (dls_new _ _ _ rfl (rows2 HC.out HDI.out))).mono ?_
              rintro e w7 ⟨ay, cy, ly, rfl, h1, h2, _, _, h5⟩
              have HX : Hid (Below w6.heap.size w6 w7) := blThen (by repeat (first | with_reducible exact Below.refl _ _ | with_reducible refine blAlloc ?_ _ | with_reducible refine Below.drew ?_)) h5
              have HB_w7 := Lib.hid (blThen HB_w6.out HX.out)
              have HA := Lib.hid (HA.out.later HX.out)
              have HB := Lib.hid (HB.out.later HX.out)
              have HC := Lib.hid (HC.out.later HX.out)
              have HS := Lib.hid (HS.out.later HX.out)
              have HDX := Lib.hid (HDX.out.later HX.out)
              have HDI := Lib.hid (HDI.out.later HX.out)
              rw [HEY.out] at h1
              have HDY := Lib.hid h2
              have HTY := Lib.hid h1
              clear h5 HX h1 h2
              obtain ⟨g0, o0, hg0, _, s0, s1⟩ := sl_at HS.out (k := 0) rfl
              cases hg0
              rw [Nat.zero_mul, Nat.add_zero] at s0 s1
              go_wp2_with fail
              refine (pbelow_any _ _ lx t n _ HFX.out.1 (HDX.out.later (by repeat (first | with_reducible exact Below.refl _ _ | with_reducible refine blAlloc ?_ _ | with_reducible refine Below.drew ?_)))).mono ?_
              rintro e w8 ⟨aw, cw, lw, rfl, h1, h2, _, _, h5⟩
              have HX : Hid (Below w7.heap.size w7 w8) := blThen (by repeat (first | with_reducible exact Below.refl _ _ | with_reducible refine blAlloc ?_ _ | with_reducible refine Below.drew ?_)) h5
              have HB_w8 := Lib.hid (blThen HB_w7.out HX.out)
              have HA := Lib.hid (HA.out.later HX.out)
              have HB := Lib.hid (HB.out.later HX.out)
              have HC := Lib.hid (HC.out.later HX.out)
              have HS := Lib.hid (HS.out.later HX.out)
              have HDX := Lib.hid (HDX.out.later HX.out)
              have HDY := Lib.hid (HDY.out.later HX.out)
              rw [HTX.out] at h1
              have HDW := Lib.hid h2
              have HTW := Lib.hid h1
              clear h5 HX h1 h2 s0 s1
              have HMZ : Hid ((([(ax, lx, cx), (aw, lw, cw), (a, la, ca)] : List DRow).map fun r => toD r.2.1) = [X, belowD X (t, n), toD la]) := by
                show [toD lx, toD lw, toD la] = _
                rw [HTX.out, HTW.out]
              go_wp2_with fail
              refine (pmergeD_any _ _ [(ax, lx, cx), (aw, lw, cw), (a, la, ca)] [X, belowD X (t, n), toD la] (-1) _ HMZ.out HAZ.out.1 (by simp) HAZ.out.2.1 HAZ.out.2.2.1 HAZ.out.2.2.2 (dls_new _ _ _ rfl (rows3 HDX.out HDW.out HA.out))).mono ?_
              rintro e w9 ⟨az, cz, lz, rfl, h1, h2, _, _, h5⟩
              have HX : Hid (Below w8.heap.size w8 w9) := blThen (by repeat (first | with_reducible exact Below.refl _ _ | with_reducible refine blAlloc ?_ _ | with_reducible refine Below.drew ?_)) h5
              have HB_w9 := Lib.hid (blThen HB_w8.out HX.out)
              have HA := Lib.hid (HA.out.later HX.out)
              have HB := Lib.hid (HB.out.later HX.out)
              have HC := Lib.hid (HC.out.later HX.out)
              have HS := Lib.hid (HS.out.later HX.out)
              have HDX := Lib.hid (HDX.out.later HX.out)
              have HDY := Lib.hid (HDY.out.later HX.out)
              have HDW := Lib.hid (HDW.out.later HX.out)
              rw [HEZ.out] at h1
              have HDZ := Lib.hid h2
              have HTZ := Lib.hid h1
              clear h5 HX h1 h2
              go_wp2_with fail
              refine (pall_any _ _ lx _ HFX.out.2.2 HFX.out.2.1 (HDX.out.later (by repeat (first | with_reducible exact Below.refl _ _ | with_reducible refine blAlloc ?_ _ | with_reducible refine Below.drew ?_)))).mono ?_
              rintro e w10 ⟨aq, cq, rfl, h1, _, _, h5⟩
              have HX : Hid (Below w9.heap.size w9 w10) := blThen (by repeat (first | with_reducible exact Below.refl _ _ | with_reducible refine blAlloc ?_ _ | with_reducible refine Below.drew ?_)) h5
              have HB_w10 := Lib.hid (blThen HB_w9.out HX.out)
              have HA := Lib.hid (HA.out.later HX.out)
              have HB := Lib.hid (HB.out.later HX.out)
              have HC := Lib.hid (HC.out.later HX.out)
              have HDX := Lib.hid (HDX.out.later HX.out)
              have HDY := Lib.hid (HDY.out.later HX.out)
              have HDZ := Lib.hid (HDZ.out.later HX.out)
              rw [HTX.out] at h1
              have HSQ := Lib.hid h1
              clear h5 HX h1
              rw [HTX.out]
              have HQL : Hid ((allD X).length ≤ 1000000) := Nat.le_trans (allD_len6 _) (Nat.le_trans HNX.out.2.2.2.1 (by decide))
              have HQW : Hid (∀ i ∈ allD X, WfT i) := by
                intro i hi
                obtain ⟨t, x, hx, _, h⟩ := (mem_all6 _ _).1 hi
                exact HNX.out.2.2.2.2 x hx i h
              generalize hQ : allD X = Q at *
              clear hQ
              go_wp2
              go_loopw [13] (fun i wr => ∃ k : Nat, k ≤ Q.length ∧ i = .int .i64 k ∧ Below w10.heap.size w10 wr) (fun i _ => Q.length - (intOf i).toNat)
              case atStart => exact ⟨0, Nat.zero_le _, rfl, Below.refl _ _⟩
              case round =>
                obtain ⟨k, hk, rfl, hb⟩ := hrel
                have HBk := Lib.hid hb
                clear hb
                by_cases hlt : k < Q.length
                · obtain ⟨x, hx⟩ := at_ltD hlt
                  have HSr := Lib.hid (HSQ.out.later HBk.out)
                  obtain ⟨g, o, rfl, hg, q0, q1⟩ := sl_at HSr.out hx
                  have HAr := Lib.hid (HA.out.later HBk.out)
                  have HBr := Lib.hid (HB.out.later HBk.out)
                  have HCr := Lib.hid (HC.out.later HBk.out)
                  have hk1 : (k : Int) < (Q.length : Int) := by omega
                  have hk0 : (0 : Int) ≤ (k : Int) := by omega
                  have hdk : decide ((k : Int) < (Q.length : Int)) = true := decide_eq_true hk1
                  have hqb : (Q.length : Int) ≤ 1000000 := by have := HQL.out; omega
                  have hor := HALL.out x (List.mem_of_getElem? hx)
                  have K3 := Lib.hid (fun (Y : World) (h : Below wr.heap.size wr Y) => (⟨cell_in h hg q0, cell_in h hg q1⟩ : Y.cell? ⟨g, o + k * 2, none⟩ = some (.int .i64 x.1) ∧ Y.cell? ⟨g, o + k * 2 + 1, none⟩ = some (.int .i64 x.2)))
                  clear hx
                  have HEA : Hid ((allD (toD la)).length ≤ 1000000) := Nat.le_trans (allD_len6 _) HLNa.out.2.1
                  have HEB : Hid ((allD (toD lb)).length ≤ 1000000) := Nat.le_trans (allD_len6 _) HLNb.out.2.1
                  have HEC : Hid ((allD (toD lc)).length ≤ 1000000) := Nat.le_trans (allD_len6 _) HLNc.out.2.1
                  by_cases i1 : x ∈ allD (toD la)
                  · have HI1 : Hid (decide ((x.1, x.2) ∈ allD (toD la)) = true) := decide_eq_true i1
                    clear hor i1
                    go_wp2_with fail
                    refine wp_region_held_drew (S := fun Y => Y.cell? ⟨g, o + k * 2, none⟩ = some (.int .i64 x.1) ∧ Y.cell? ⟨g, o + k * 2 + 1, none⟩ = some (.int .i64 x.2)) (by kernel_rfl) (K3.out _ (Below.refl wr.heap.size wr).drew) (fun hHeld => ?_)
                    refine wpAnyH_take (i := 0) (oi := { dst := some 70, op := Op.move (Operand.tmp 0), type := 22, pos := "law.go:88", after := #[], guard := none }) (v := ?_) rfl (by kernel_rfl) (by kernel_rfl) (by kernel_rfl) (fun _ _ _ h => h) (Or.inl ⟨by rfl, ?_⟩) (by assumption) ?_
                    rotate_left
                    · intro w hSw
                      try dsimp only at hSw
                      go_simp
                      try with_reducible rfl
                    try simp only [Act.put, List.setIfInBounds_toArray, List.set_cons_zero, List.set_cons_succ]
                    refine wpAnyH_take (i := 2) (oi := { dst := some 72, op := Op.move (Operand.tmp 12), type := 24, pos := "law.go:88", after := #[], guard := none }) (v := ?_) rfl (by kernel_rfl) (by kernel_rfl) (by kernel_rfl) (fun _ _ _ h => h) (Or.inl ⟨by rfl, ?_⟩) (by assumption) ?_
                    rotate_left
                    · intro w hSw
                      try dsimp only at hSw
                      go_simp
                      try with_reducible rfl
                    try simp only [Act.put, List.setIfInBounds_toArray, List.set_cons_zero, List.set_cons_succ]
                    refine wpAnyH_take (i := 3) (oi := { dst := some 73, op := Op.move (Operand.tmp 13), type := 3, pos := "law.go:88", after := #[], guard := none }) (v := ?_) rfl (by kernel_rfl) (by kernel_rfl) (by kernel_rfl) (fun _ _ _ h => h) (Or.inl ⟨by rfl, ?_⟩) (by assumption) ?_
                    rotate_left
                    · intro w hSw
                      try dsimp only at hSw
                      go_simp
                      try with_reducible rfl
                    try simp only [Act.put, List.setIfInBounds_toArray, List.set_cons_zero, List.set_cons_succ]
                    refine wpAnyH_take (i := 4) (oi := { dst := some 74, op := Op.indexAddr 24 (Operand.tmp 72) (Operand.tmp 73), type := 0, pos := "law.go:88", after := #[{ on := 2, ground := Ground.data }, { on := 3, ground := Ground.data }], guard := none }) (v := ?_) rfl (by kernel_rfl) (by kernel_rfl) (by kernel_rfl) (fun _ _ _ h => h) (Or.inl ⟨by rfl, ?_⟩) (by assumption) ?_
                    rotate_left
                    · intro w hSw
                      try dsimp only at hSw
                      go_simp
                      try with_reducible rfl
                    try simp only [Act.put, List.setIfInBounds_toArray, List.set_cons_zero, List.set_cons_succ]
                    refine wpAnyH_take (i := 5) (oi := { dst := some 75, op := Op.load 42 (Operand.tmp 74), type := 42, pos := "law.go:88", after := #[{ on := 4, ground := Ground.data }], guard := none }) (v := ?_) rfl (by kernel_rfl) (by kernel_rfl) (by kernel_rfl) (fun _ _ _ h => h) (Or.inl ⟨by rfl, ?_⟩) (by assumption) ?_
                    rotate_left
                    · intro w hSw
                      try dsimp only at hSw
                      go_simp
                      try with_reducible rfl
                    try simp only [Act.put, List.setIfInBounds_toArray, List.set_cons_zero, List.set_cons_succ]
                    refine wpAnyH_ready (rs := [1]) (by kernel_rfl) (by simp) ?_
                    refine AllReadyH.cons (o := { dst := some 71, op := Op.call { callee := Callee.value (Operand.func 31), args := #[Operand.tmp 70], argTypes := #[22] }, type := 24, pos := "law.go:88", after := #[{ on := 0, ground := Ground.data }], guard := none }) rfl (fun K hK => ?_) ?_
                    rotate_left
                    · exact AllReadyH.nil
                    go_simp
                    go_at_call 31
                    refine (pall_any _ _ la _ HLNa.out.2.2 HLNa.out.2.1 (HAr.out.later (by repeat (first | with_reducible exact Below.refl _ _ | with_reducible refine blAlloc ?_ _ | with_reducible refine Below.drew ?_)))).mono ?_
                    rintro e w71 ⟨a71, c71, rfl, h1, h2, h3, h5⟩
                    have HS71 := Lib.hid h1
                    have HB71 : Hid (Below wr.heap.size wr w71) := blThen (by repeat (first | with_reducible exact Below.refl _ _ | with_reducible refine blAlloc ?_ _ | with_reducible refine Below.drew ?_)) h5
                    clear h1 h2 h3 h5
                    refine hK.out _ _ (K3.out _ HB71.out) (fun hHeld => ?_)
                    clear hK K
                    try simp only [Act.put, List.setIfInBounds_toArray, List.set_cons_zero, List.set_cons_succ]
                    refine wpAnyH_ready (rs := [6]) (by kernel_rfl) (by simp) ?_
                    refine AllReadyH.cons (o := { dst := some 76, op := Op.call { callee := Callee.value (Operand.func 34), args := #[Operand.tmp 71, Operand.tmp 75], argTypes := #[24, 42] }, type := 4, pos := "law.go:88", after := #[{ on := 1, ground := Ground.data }, { on := 5, ground := Ground.data }, { on := 1, ground := Ground.chain }], guard := none }) rfl (fun K hK => ?_) ?_
                    rotate_left
                    · exact AllReadyH.nil
                    go_simp
                    go_at_call 34
                    refine (refhas_any _ _ (allD (toD la)) x.1 x.2 _ HEA.out (SL.later HS71.out (by repeat (first | with_reducible exact Below.refl _ _ | with_reducible refine blAlloc ?_ _ | with_reducible refine Below.drew ?_)))).mono ?_
                    rintro e w76 ⟨rfl, h5⟩
                    rw [HI1.out]
                    have HB76 : Hid (Below wr.heap.size wr w76) := blThen (by repeat (first | with_reducible exact HB71.out | with_reducible exact Below.refl _ _ | with_reducible refine blAlloc ?_ _ | with_reducible refine Below.drew ?_)) h5
                    clear h5
                    refine hK.out _ _ (K3.out _ HB76.out) (fun hHeld => ?_)
                    clear hK K
                    try simp only [Act.put, List.setIfInBounds_toArray, List.set_cons_zero, List.set_cons_succ]
                    refine wpAnyH_take (i := 7) (oi := { dst := some 77, op := Op.unOp UnOp.not 4 (Operand.tmp 76), type := 4, pos := "law.go:88", after := #[{ on := 6, ground := Ground.data }], guard := none }) (v := ?_) rfl (by kernel_rfl) (by kernel_rfl) (by kernel_rfl) (fun _ _ _ h => h) (Or.inl ⟨by rfl, ?_⟩) (by assumption) ?_
                    rotate_left
                    · intro w hSw
                      try dsimp only at hSw
                      go_simp
                      try with_reducible rfl
                    try simp only [Act.put, List.setIfInBounds_toArray, List.set_cons_zero, List.set_cons_succ]
                    refine wpAnyH_take (i := 8) (oi := { dst := some 78, op := Op.move (Operand.tmp 77), type := 4, pos := "law.go:88", after := #[{ on := 7, ground := Ground.data }, { on := 6, ground := Ground.chain }], guard := none }) (v := ?_) rfl (by kernel_rfl) (by kernel_rfl) (by kernel_rfl) (fun _ _ _ h => h) (Or.inl ⟨by rfl, ?_⟩) (by assumption) ?_
                    rotate_left
                    · intro w hSw
                      try dsimp only at hSw
                      go_simp
                      try with_reducible rfl
                    try simp only [Act.put, List.setIfInBounds_toArray, List.set_cons_zero, List.set_cons_succ]
                    refine wpAnyH_take (i := 9) (oi := { dst := some 79, op := Op.move (Operand.tmp 1), type := 22, pos := "law.go:88", after := #[{ on := 8, ground := Ground.guard }], guard := some (8, true) }) (v := undef) rfl (by kernel_rfl) (by kernel_rfl) (by kernel_rfl) (fun _ _ _ h => h) (Or.inr ⟨by rfl, rfl⟩) (by assumption) ?_
                    try simp only [Act.put, List.setIfInBounds_toArray, List.set_cons_zero, List.set_cons_succ]
                    refine wpAnyH_take (i := 11) (oi := { dst := some 81, op := Op.move (Operand.tmp 12), type := 24, pos := "law.go:88", after := #[{ on := 8, ground := Ground.guard }], guard := some (8, true) }) (v := undef) rfl (by kernel_rfl) (by kernel_rfl) (by kernel_rfl) (fun _ _ _ h => h) (Or.inr ⟨by rfl, rfl⟩) (by assumption) ?_
                    try simp only [Act.put, List.setIfInBounds_toArray, List.set_cons_zero, List.set_cons_succ]
                    refine wpAnyH_take (i := 12) (oi := { dst := some 82, op := Op.move (Operand.tmp 13), type := 3, pos := "law.go:88", after := #[{ on := 8, ground := Ground.guard }], guard := some (8, true) }) (v := undef) rfl (by kernel_rfl) (by kernel_rfl) (by kernel_rfl) (fun _ _ _ h => h) (Or.inr ⟨by rfl, rfl⟩) (by assumption) ?_
                    try simp only [Act.put, List.setIfInBounds_toArray, List.set_cons_zero, List.set_cons_succ]
                    refine wpAnyH_take (i := 13) (oi := { dst := some 83, op := Op.indexAddr 24 (Operand.tmp 81) (Operand.tmp 82), type := 0, pos := "law.go:88", after := #[{ on := 11, ground := Ground.data }, { on := 12, ground := Ground.data }, { on := 8, ground := Ground.guard }], guard := some (8, true) }) (v := undef) rfl (by kernel_rfl) (by kernel_rfl) (by kernel_rfl) (fun _ _ _ h => h) (Or.inr ⟨by rfl, rfl⟩) (by assumption) ?_
                    try simp only [Act.put, List.setIfInBounds_toArray, List.set_cons_zero, List.set_cons_succ]
                    refine wpAnyH_take (i := 14) (oi := { dst := some 84, op := Op.load 42 (Operand.tmp 83), type := 42, pos := "law.go:88", after := #[{ on := 13, ground := Ground.data }, { on := 8, ground := Ground.guard }], guard := some (8, true) }) (v := undef) rfl (by kernel_rfl) (by kernel_rfl) (by kernel_rfl) (fun _ _ _ h => h) (Or.inr ⟨by rfl, rfl⟩) (by assumption) ?_
                    try simp only [Act.put, List.setIfInBounds_toArray, List.set_cons_zero, List.set_cons_succ]
                    refine wpAnyH_ready (rs := [10]) (by kernel_rfl) (by simp) ?_
                    refine AllReadyH.cons (o := { dst := some 80, op := Op.call { callee := Callee.value (Operand.func 31), args := #[Operand.tmp 79], argTypes := #[22] }, type := 24, pos := "law.go:88", after := #[{ on := 9, ground := Ground.data }, { on := 8, ground := Ground.chain }, { on := 8, ground := Ground.guard }], guard := some (8, true) }) rfl (fun K hK => ?_) ?_
                    rotate_left
                    · exact AllReadyH.nil
                    refine ite_no (by rfl) ?_
                    refine hK.out _ _ hHeld (fun hHeld => ?_)
                    clear hK K
                    try simp only [Act.put, List.setIfInBounds_toArray, List.set_cons_zero, List.set_cons_succ]
                    refine wpAnyH_ready (rs := [15]) (by kernel_rfl) (by simp) ?_
                    refine AllReadyH.cons (o := { dst := some 85, op := Op.call { callee := Callee.value (Operand.func 34), args := #[Operand.tmp 80, Operand.tmp 84], argTypes := #[24, 42] }, type := 4, pos := "law.go:88", after := #[{ on := 10, ground := Ground.data }, { on := 14, ground := Ground.data }, { on := 10, ground := Ground.chain }, { on := 8, ground := Ground.guard }], guard := some (8, true) }) rfl (fun K hK => ?_) ?_
                    rotate_left
                    · exact AllReadyH.nil
                    refine ite_no (by rfl) ?_
                    refine hK.out _ _ hHeld (fun hHeld => ?_)
                    clear hK K
                    try simp only [Act.put, List.setIfInBounds_toArray, List.set_cons_zero, List.set_cons_succ]
                    refine wpAnyH_take (i := 16) (oi := { dst := some 86, op := Op.unOp UnOp.not 4 (Operand.tmp 85), type := 4, pos := "law.go:88", after := #[{ on := 15, ground := Ground.data }, { on := 8, ground := Ground.guard }], guard := some (8, true) }) (v := undef) rfl (by kernel_rfl) (by kernel_rfl) (by kernel_rfl) (fun _ _ _ h => h) (Or.inr ⟨by rfl, rfl⟩) (by assumption) ?_
                    try simp only [Act.put, List.setIfInBounds_toArray, List.set_cons_zero, List.set_cons_succ]
                    refine wpAnyH_take (i := 17) (oi := { dst := some 87, op := Op.pick (Operand.tmp 78) (Operand.tmp 86) (Operand.const (Value.bool false)), type := 4, pos := "law.go:88", after := #[{ on := 8, ground := Ground.data }, { on := 16, ground := Ground.data }], guard := none }) (v := ?_) rfl (by kernel_rfl) (by kernel_rfl) (by kernel_rfl) (fun _ _ _ h => h) (Or.inl ⟨by rfl, ?_⟩) (by assumption) ?_
                    rotate_left
                    · intro w hSw
                      try dsimp only at hSw
                      go_simp
                      try with_reducible rfl
                    try simp only [Act.put, List.setIfInBounds_toArray, List.set_cons_zero, List.set_cons_succ]
                    refine wpAnyH_take (i := 18) (oi := { dst := some 88, op := Op.move (Operand.tmp 87), type := 4, pos := "law.go:88", after := #[{ on := 17, ground := Ground.data }, { on := 15, ground := Ground.chain }], guard := none }) (v := ?_) rfl (by kernel_rfl) (by kernel_rfl) (by kernel_rfl) (fun _ _ _ h => h) (Or.inl ⟨by rfl, ?_⟩) (by assumption) ?_
                    rotate_left
                    · intro w hSw
                      try dsimp only at hSw
                      go_simp
                      try with_reducible rfl
                    try simp only [Act.put, List.setIfInBounds_toArray, List.set_cons_zero, List.set_cons_succ]
                    refine wpAnyH_take (i := 19) (oi := { dst := some 89, op := Op.move (Operand.tmp 2), type := 22, pos := "law.go:88", after := #[{ on := 18, ground := Ground.guard }], guard := some (18, true) }) (v := undef) rfl (by kernel_rfl) (by kernel_rfl) (by kernel_rfl) (fun _ _ _ h => h) (Or.inr ⟨by rfl, rfl⟩) (by assumption) ?_
                    try simp only [Act.put, List.setIfInBounds_toArray, List.set_cons_zero, List.set_cons_succ]
                    refine wpAnyH_take (i := 21) (oi := { dst := some 91, op := Op.move (Operand.tmp 12), type := 24, pos := "law.go:88", after := #[{ on := 18, ground := Ground.guard }], guard := some (18, true) }) (v := undef) rfl (by kernel_rfl) (by kernel_rfl) (by kernel_rfl) (fun _ _ _ h => h) (Or.inr ⟨by rfl, rfl⟩) (by assumption) ?_
                    try simp only [Act.put, List.setIfInBounds_toArray, List.set_cons_zero, List.set_cons_succ]
                    refine wpAnyH_take (i := 22) (oi := { dst := some 92, op := Op.move (Operand.tmp 13), type := 3, pos := "law.go:88", after := #[{ on := 18, ground := Ground.guard }], guard := some (18, true) }) (v := undef) rfl (by kernel_rfl) (by kernel_rfl) (by kernel_rfl) (fun _ _ _ h => h) (Or.inr ⟨by rfl, rfl⟩) (by assumption) ?_
                    try simp only [Act.put, List.setIfInBounds_toArray, List.set_cons_zero, List.set_cons_succ]
                    refine wpAnyH_take (i := 23) (oi := { dst := some 93, op := Op.indexAddr 24 (Operand.tmp 91) (Operand.tmp 92), type := 0, pos := "law.go:88", after := #[{ on := 21, ground := Ground.data }, { on := 22, ground := Ground.data }, { on := 18, ground := Ground.guard }], guard := some (18, true) }) (v := undef) rfl (by kernel_rfl) (by kernel_rfl) (by kernel_rfl) (fun _ _ _ h => h) (Or.inr ⟨by rfl, rfl⟩) (by assumption) ?_
                    try simp only [Act.put, List.setIfInBounds_toArray, List.set_cons_zero, List.set_cons_succ]
                    refine wpAnyH_take (i := 24) (oi := { dst := some 94, op := Op.load 42 (Operand.tmp 93), type := 42, pos := "law.go:88", after := #[{ on := 23, ground := Ground.data }, { on := 18, ground := Ground.guard }], guard := some (18, true) }) (v := undef) rfl (by kernel_rfl) (by kernel_rfl) (by kernel_rfl) (fun _ _ _ h => h) (Or.inr ⟨by rfl, rfl⟩) (by assumption) ?_
                    try simp only [Act.put, List.setIfInBounds_toArray, List.set_cons_zero, List.set_cons_succ]
                    refine wpAnyH_ready (rs := [20]) (by kernel_rfl) (by simp) ?_
                    refine AllReadyH.cons (o := { dst := some 90, op := Op.call { callee := Callee.value (Operand.func 31), args := #[Operand.tmp 89], argTypes := #[22] }, type := 24, pos := "law.go:88", after := #[{ on := 19, ground := Ground.data }, { on := 18, ground := Ground.chain }, { on := 18, ground := Ground.guard }], guard := some (18, true) }) rfl (fun K hK => ?_) ?_
                    rotate_left
                    · exact AllReadyH.nil
                    refine ite_no (by rfl) ?_
                    refine hK.out _ _ hHeld (fun hHeld => ?_)
                    clear hK K
                    try simp only [Act.put, List.setIfInBounds_toArray, List.set_cons_zero, List.set_cons_succ]
                    refine wpAnyH_ready (rs := [25]) (by kernel_rfl) (by simp) ?_
                    refine AllReadyH.cons (o := { dst := some 95, op := Op.call { callee := Callee.value (Operand.func 34), args := #[Operand.tmp 90, Operand.tmp 94], argTypes := #[24, 42] }, type := 4, pos := "law.go:88", after := #[{ on := 20, ground := Ground.data }, { on := 24, ground := Ground.data }, { on := 20, ground := Ground.chain }, { on := 18, ground := Ground.guard }], guard := some (18, true) }) rfl (fun K hK => ?_) ?_
                    rotate_left
                    · exact AllReadyH.nil
                    refine ite_no (by rfl) ?_
                    refine hK.out _ _ hHeld (fun hHeld => ?_)
                    clear hK K
                    try simp only [Act.put, List.setIfInBounds_toArray, List.set_cons_zero, List.set_cons_succ]
                    refine wpAnyH_take (i := 26) (oi := { dst := some 96, op := Op.unOp UnOp.not 4 (Operand.tmp 95), type := 4, pos := "law.go:88", after := #[{ on := 25, ground := Ground.data }, { on := 18, ground := Ground.guard }], guard := some (18, true) }) (v := undef) rfl (by kernel_rfl) (by kernel_rfl) (by kernel_rfl) (fun _ _ _ h => h) (Or.inr ⟨by rfl, rfl⟩) (by assumption) ?_
                    try simp only [Act.put, List.setIfInBounds_toArray, List.set_cons_zero, List.set_cons_succ]
                    refine wpAnyH_take (i := 27) (oi := { dst := some 97, op := Op.pick (Operand.tmp 88) (Operand.tmp 96) (Operand.const (Value.bool false)), type := 4, pos := "law.go:88", after := #[{ on := 18, ground := Ground.data }, { on := 26, ground := Ground.data }], guard := none }) (v := ?_) rfl (by kernel_rfl) (by kernel_rfl) (by kernel_rfl) (fun _ _ _ h => h) (Or.inl ⟨by rfl, ?_⟩) (by assumption) ?_
                    rotate_left
                    · intro w hSw
                      try dsimp only at hSw
                      go_simp
                      try with_reducible rfl
                    try simp only [Act.put, List.setIfInBounds_toArray, List.set_cons_zero, List.set_cons_succ]
                    refine wpAnyH_done (by kernel_rfl) ?_ _
                    all_goals
                      go_wp2
                      go_roundw
                      case rel => exact ⟨k + 1, hlt, by go_num, blThen HBk.out HB76.out⟩
                      case measure => simp [intOf]; omega
                  · have HI1 : Hid (decide ((x.1, x.2) ∈ allD (toD la)) = false) := decide_eq_false i1
                    by_cases i2 : x ∈ allD (toD lb)
                    · have HI2 : Hid (decide ((x.1, x.2) ∈ allD (toD lb)) = true) := decide_eq_true i2
                      clear hor i1 i2
                      go_wp2_with fail
                      refine wp_region_held_drew (S := fun Y => Y.cell? ⟨g, o + k * 2, none⟩ = some (.int .i64 x.1) ∧ Y.cell? ⟨g, o + k * 2 + 1, none⟩ = some (.int .i64 x.2)) (by kernel_rfl) (K3.out _ (Below.refl wr.heap.size wr).drew) (fun hHeld => ?_)
                      refine wpAnyH_take (i := 0) (oi := { dst := some 70, op := Op.move (Operand.tmp 0), type := 22, pos := "law.go:88", after := #[], guard := none }) (v := ?_) rfl (by kernel_rfl) (by kernel_rfl) (by kernel_rfl) (fun _ _ _ h => h) (Or.inl ⟨by rfl, ?_⟩) (by assumption) ?_
                      rotate_left
                      · intro w hSw
                        try dsimp only at hSw
                        go_simp
                        try with_reducible rfl
                      try simp only [Act.put, List.setIfInBounds_toArray, List.set_cons_zero, List.set_cons_succ]
                      refine wpAnyH_take (i := 2) (oi := { dst := some 72, op := Op.move (Operand.tmp 12), type := 24, pos := "law.go:88", after := #[], guard := none }) (v := ?_) rfl (by kernel_rfl) (by kernel_rfl) (by kernel_rfl) (fun _ _ _ h => h) (Or.inl ⟨by rfl, ?_⟩) (by assumption) ?_
                      rotate_left
                      · intro w hSw
                        try dsimp only at hSw
                        go_simp
                        try with_reducible rfl
                      try simp only [Act.put, List.setIfInBounds_toArray, List.set_cons_zero, List.set_cons_succ]
                      refine wpAnyH_take (i := 3) (oi := { dst := some 73, op := Op.move (Operand.tmp 13), type := 3, pos := "law.go:88", after := #[], guard := none }) (v := ?_) rfl (by kernel_rfl) (by kernel_rfl) (by kernel_rfl) (fun _ _ _ h => h) (Or.inl ⟨by rfl, ?_⟩) (by assumption) ?_
                      rotate_left
                      · intro w hSw
                        try dsimp only at hSw
                        go_simp
                        try with_reducible rfl
                      try simp only [Act.put, List.setIfInBounds_toArray, List.set_cons_zero, List.set_cons_succ]
                      refine wpAnyH_take (i := 4) (oi := { dst := some 74, op := Op.indexAddr 24 (Operand.tmp 72) (Operand.tmp 73), type := 0, pos := "law.go:88", after := #[{ on := 2, ground := Ground.data }, { on := 3, ground := Ground.data }], guard := none }) (v := ?_) rfl (by kernel_rfl) (by kernel_rfl) (by kernel_rfl) (fun _ _ _ h => h) (Or.inl ⟨by rfl, ?_⟩) (by assumption) ?_
                      rotate_left
                      · intro w hSw
                        try dsimp only at hSw
                        go_simp
                        try with_reducible rfl
                      try simp only [Act.put, List.setIfInBounds_toArray, List.set_cons_zero, List.set_cons_succ]
                      refine wpAnyH_take (i := 5) (oi := { dst := some 75, op := Op.load 42 (Operand.tmp 74), type := 42, pos := "law.go:88", after := #[{ on := 4, ground := Ground.data }], guard := none }) (v := ?_) rfl (by kernel_rfl) (by kernel_rfl) (by kernel_rfl) (fun _ _ _ h => h) (Or.inl ⟨by rfl, ?_⟩) (by assumption) ?_
                      rotate_left
                      · intro w hSw
                        try dsimp only at hSw
                        go_simp
                        try with_reducible rfl
                      try simp only [Act.put, List.setIfInBounds_toArray, List.set_cons_zero, List.set_cons_succ]
                      refine wpAnyH_ready (rs := [1]) (by kernel_rfl) (by simp) ?_
                      refine AllReadyH.cons (o := { dst := some 71, op := Op.call { callee := Callee.value (Operand.func 31), args := #[Operand.tmp 70], argTypes := #[22] }, type := 24, pos := "law.go:88", after := #[{ on := 0, ground := Ground.data }], guard := none }) rfl (fun K hK => ?_) ?_
                      rotate_left
                      · exact AllReadyH.nil
                      go_simp
                      go_at_call 31
                      refine (pall_any _ _ la _ HLNa.out.2.2 HLNa.out.2.1 (HAr.out.later (by repeat (first | with_reducible exact Below.refl _ _ | with_reducible refine blAlloc ?_ _ | with_reducible refine Below.drew ?_)))).mono ?_
                      rintro e w71 ⟨a71, c71, rfl, h1, h2, h3, h5⟩
                      have HS71 := Lib.hid h1
                      have HB71 : Hid (Below wr.heap.size wr w71) := blThen (by repeat (first | with_reducible exact Below.refl _ _ | with_reducible refine blAlloc ?_ _ | with_reducible refine Below.drew ?_)) h5
                      clear h1 h2 h3 h5
                      refine hK.out _ _ (K3.out _ HB71.out) (fun hHeld => ?_)
                      clear hK K
                      try simp only [Act.put, List.setIfInBounds_toArray, List.set_cons_zero, List.set_cons_succ]
                      refine wpAnyH_ready (rs := [6]) (by kernel_rfl) (by simp) ?_
                      refine AllReadyH.cons (o := { dst := some 76, op := Op.call { callee := Callee.value (Operand.func 34), args := #[Operand.tmp 71, Operand.tmp 75], argTypes := #[24, 42] }, type := 4, pos := "law.go:88", after := #[{ on := 1, ground := Ground.data }, { on := 5, ground := Ground.data }, { on := 1, ground := Ground.chain }], guard := none }) rfl (fun K hK => ?_) ?_
                      rotate_left
                      · exact AllReadyH.nil
                      go_simp
                      go_at_call 34
                      refine (refhas_any _ _ (allD (toD la)) x.1 x.2 _ HEA.out (SL.later HS71.out (by repeat (first | with_reducible exact Below.refl _ _ | with_reducible refine blAlloc ?_ _ | with_reducible refine Below.drew ?_)))).mono ?_
                      rintro e w76 ⟨rfl, h5⟩
                      rw [HI1.out]
                      have HB76 : Hid (Below wr.heap.size wr w76) := blThen (by repeat (first | with_reducible exact HB71.out | with_reducible exact Below.refl _ _ | with_reducible refine blAlloc ?_ _ | with_reducible refine Below.drew ?_)) h5
                      clear h5
                      refine hK.out _ _ (K3.out _ HB76.out) (fun hHeld => ?_)
                      clear hK K
                      try simp only [Act.put, List.setIfInBounds_toArray, List.set_cons_zero, List.set_cons_succ]
                      refine wpAnyH_take (i := 7) (oi := { dst := some 77, op := Op.unOp UnOp.not 4 (Operand.tmp 76), type := 4, pos := "law.go:88", after := #[{ on := 6, ground := Ground.data }], guard := none }) (v := ?_) rfl (by kernel_rfl) (by kernel_rfl) (by kernel_rfl) (fun _ _ _ h => h) (Or.inl ⟨by rfl, ?_⟩) (by assumption) ?_
                      rotate_left
                      · intro w hSw
                        try dsimp only at hSw
                        go_simp
                        try with_reducible rfl
                      try simp only [Act.put, List.setIfInBounds_toArray, List.set_cons_zero, List.set_cons_succ]
                      refine wpAnyH_take (i := 8) (oi := { dst := some 78, op := Op.move (Operand.tmp 77), type := 4, pos := "law.go:88", after := #[{ on := 7, ground := Ground.data }, { on := 6, ground := Ground.chain }], guard := none }) (v := ?_) rfl (by kernel_rfl) (by kernel_rfl) (by kernel_rfl) (fun _ _ _ h => h) (Or.inl ⟨by rfl, ?_⟩) (by assumption) ?_
                      rotate_left
                      · intro w hSw
                        try dsimp only at hSw
                        go_simp
                        try with_reducible rfl
                      try simp only [Act.put, List.setIfInBounds_toArray, List.set_cons_zero, List.set_cons_succ]
                      refine wpAnyH_take (i := 9) (oi := { dst := some 79, op := Op.move (Operand.tmp 1), type := 22, pos := "law.go:88", after := #[{ on := 8, ground := Ground.guard }], guard := some (8, true) }) (v := ?_) rfl (by kernel_rfl) (by kernel_rfl) (by kernel_rfl) (fun _ _ _ h => h) (Or.inl ⟨by rfl, ?_⟩) (by assumption) ?_
                      rotate_left
                      · intro w hSw
                        try dsimp only at hSw
                        go_simp
                        try with_reducible rfl
                      try simp only [Act.put, List.setIfInBounds_toArray, List.set_cons_zero, List.set_cons_succ]
                      refine wpAnyH_take (i := 11) (oi := { dst := some 81, op := Op.move (Operand.tmp 12), type := 24, pos := "law.go:88", after := #[{ on := 8, ground := Ground.guard }], guard := some (8, true) }) (v := ?_) rfl (by kernel_rfl) (by kernel_rfl) (by kernel_rfl) (fun _ _ _ h => h) (Or.inl ⟨by rfl, ?_⟩) (by assumption) ?_
                      rotate_left
                      · intro w hSw
                        try dsimp only at hSw
                        go_simp
                        try with_reducible rfl
                      try simp only [Act.put, List.setIfInBounds_toArray, List.set_cons_zero, List.set_cons_succ]
                      refine wpAnyH_take (i := 12) (oi := { dst := some 82, op := Op.move (Operand.tmp 13), type := 3, pos := "law.go:88", after := #[{ on := 8, ground := Ground.guard }], guard := some (8, true) }) (v := ?_) rfl (by kernel_rfl) (by kernel_rfl) (by kernel_rfl) (fun _ _ _ h => h) (Or.inl ⟨by rfl, ?_⟩) (by assumption) ?_
                      rotate_left
                      · intro w hSw
                        try dsimp only at hSw
                        go_simp
                        try with_reducible rfl
                      try simp only [Act.put, List.setIfInBounds_toArray, List.set_cons_zero, List.set_cons_succ]
                      refine wpAnyH_take (i := 13) (oi := { dst := some 83, op := Op.indexAddr 24 (Operand.tmp 81) (Operand.tmp 82), type := 0, pos := "law.go:88", after := #[{ on := 11, ground := Ground.data }, { on := 12, ground := Ground.data }, { on := 8, ground := Ground.guard }], guard := some (8, true) }) (v := ?_) rfl (by kernel_rfl) (by kernel_rfl) (by kernel_rfl) (fun _ _ _ h => h) (Or.inl ⟨by rfl, ?_⟩) (by assumption) ?_
                      rotate_left
                      · intro w hSw
                        try dsimp only at hSw
                        go_simp
                        try with_reducible rfl
                      try simp only [Act.put, List.setIfInBounds_toArray, List.set_cons_zero, List.set_cons_succ]
                      refine wpAnyH_take (i := 14) (oi := { dst := some 84, op := Op.load 42 (Operand.tmp 83), type := 42, pos := "law.go:88", after := #[{ on := 13, ground := Ground.data }, { on := 8, ground := Ground.guard }], guard := some (8, true) }) (v := ?_) rfl (by kernel_rfl) (by kernel_rfl) (by kernel_rfl) (fun _ _ _ h => h) (Or.inl ⟨by rfl, ?_⟩) (by assumption) ?_
                      rotate_left
                      · intro w hSw
                        try dsimp only at hSw
                        go_simp
                        try with_reducible rfl
                      try simp only [Act.put, List.setIfInBounds_toArray, List.set_cons_zero, List.set_cons_succ]
                      refine wpAnyH_ready (rs := [10]) (by kernel_rfl) (by simp) ?_
                      refine AllReadyH.cons (o := { dst := some 80, op := Op.call { callee := Callee.value (Operand.func 31), args := #[Operand.tmp 79], argTypes := #[22] }, type := 24, pos := "law.go:88", after := #[{ on := 9, ground := Ground.data }, { on := 8, ground := Ground.chain }, { on := 8, ground := Ground.guard }], guard := some (8, true) }) rfl (fun K hK => ?_) ?_
                      rotate_left
                      · exact AllReadyH.nil
                      go_simp
                      go_at_call 31
                      refine (pall_any _ _ lb _ HLNb.out.2.2 HLNb.out.2.1 (HBr.out.later (by repeat (first | with_reducible exact HB76.out | with_reducible exact HB71.out | with_reducible exact Below.refl _ _ | with_reducible refine blAlloc ?_ _ | with_reducible refine Below.drew ?_)))).mono ?_
                      rintro e w80 ⟨a80, c80, rfl, h1, h2, h3, h5⟩
                      have HS80 := Lib.hid h1
                      have HB80 : Hid (Below wr.heap.size wr w80) := blThen (by repeat (first | with_reducible exact HB76.out | with_reducible exact HB71.out | with_reducible exact Below.refl _ _ | with_reducible refine blAlloc ?_ _ | with_reducible refine Below.drew ?_)) h5
                      clear h1 h2 h3 h5
                      refine hK.out _ _ (K3.out _ HB80.out) (fun hHeld => ?_)
                      clear hK K
                      try simp only [Act.put, List.setIfInBounds_toArray, List.set_cons_zero, List.set_cons_succ]
                      refine wpAnyH_ready (rs := [15]) (by kernel_rfl) (by simp) ?_
                      refine AllReadyH.cons (o := { dst := some 85, op := Op.call { callee := Callee.value (Operand.func 34), args := #[Operand.tmp 80, Operand.tmp 84], argTypes := #[24, 42] }, type := 4, pos := "law.go:88", after := #[{ on := 10, ground := Ground.data }, { on := 14, ground := Ground.data }, { on := 10, ground := Ground.chain }, { on := 8, ground := Ground.guard }], guard := some (8, true) }) rfl (fun K hK => ?_) ?_
                      rotate_left
                      · exact AllReadyH.nil
                      go_simp
                      go_at_call 34
                      refine (refhas_any _ _ (allD (toD lb)) x.1 x.2 _ HEB.out (SL.later HS80.out (by repeat (first | with_reducible exact Below.refl _ _ | with_reducible refine blAlloc ?_ _ | with_reducible refine Below.drew ?_)))).mono ?_
                      rintro e w85 ⟨rfl, h5⟩
                      rw [HI2.out]
                      have HB85 : Hid (Below wr.heap.size wr w85) := blThen (by repeat (first | with_reducible exact HB80.out | with_reducible exact HB76.out | with_reducible exact HB71.out | with_reducible exact Below.refl _ _ | with_reducible refine blAlloc ?_ _ | with_reducible refine Below.drew ?_)) h5
                      clear h5
                      refine hK.out _ _ (K3.out _ HB85.out) (fun hHeld => ?_)
                      clear hK K
                      try simp only [Act.put, List.setIfInBounds_toArray, List.set_cons_zero, List.set_cons_succ]
                      refine wpAnyH_take (i := 16) (oi := { dst := some 86, op := Op.unOp UnOp.not 4 (Operand.tmp 85), type := 4, pos := "law.go:88", after := #[{ on := 15, ground := Ground.data }, { on := 8, ground := Ground.guard }], guard := some (8, true) }) (v := ?_) rfl (by kernel_rfl) (by kernel_rfl) (by kernel_rfl) (fun _ _ _ h => h) (Or.inl ⟨by rfl, ?_⟩) (by assumption) ?_
                      rotate_left
                      · intro w hSw
                        try dsimp only at hSw
                        go_simp
                        try with_reducible rfl
                      try simp only [Act.put, List.setIfInBounds_toArray, List.set_cons_zero, List.set_cons_succ]
                      refine wpAnyH_take (i := 17) (oi := { dst := some 87, op := Op.pick (Operand.tmp 78) (Operand.tmp 86) (Operand.const (Value.bool false)), type := 4, pos := "law.go:88", after := #[{ on := 8, ground := Ground.data }, { on := 16, ground := Ground.data }], guard := none }) (v := ?_) rfl (by kernel_rfl) (by kernel_rfl) (by kernel_rfl) (fun _ _ _ h => h) (Or.inl ⟨by rfl, ?_⟩) (by assumption) ?_
                      rotate_left
                      · intro w hSw
                        try dsimp only at hSw
                        go_simp
                        try with_reducible rfl
                      try simp only [Act.put, List.setIfInBounds_toArray, List.set_cons_zero, List.set_cons_succ]
                      refine wpAnyH_take (i := 18) (oi := { dst := some 88, op := Op.move (Operand.tmp 87), type := 4, pos := "law.go:88", after := #[{ on := 17, ground := Ground.data }, { on := 15, ground := Ground.chain }], guard := none }) (v := ?_) rfl (by kernel_rfl) (by kernel_rfl) (by kernel_rfl) (fun _ _ _ h => h) (Or.inl ⟨by rfl, ?_⟩) (by assumption) ?_
                      rotate_left
                      · intro w hSw
                        try dsimp only at hSw
                        go_simp
                        try with_reducible rfl
                      try simp only [Act.put, List.setIfInBounds_toArray, List.set_cons_zero, List.set_cons_succ]
                      refine wpAnyH_take (i := 19) (oi := { dst := some 89, op := Op.move (Operand.tmp 2), type := 22, pos := "law.go:88", after := #[{ on := 18, ground := Ground.guard }], guard := some (18, true) }) (v := undef) rfl (by kernel_rfl) (by kernel_rfl) (by kernel_rfl) (fun _ _ _ h => h) (Or.inr ⟨by rfl, rfl⟩) (by assumption) ?_
                      try simp only [Act.put, List.setIfInBounds_toArray, List.set_cons_zero, List.set_cons_succ]
                      refine wpAnyH_take (i := 21) (oi := { dst := some 91, op := Op.move (Operand.tmp 12), type := 24, pos := "law.go:88", after := #[{ on := 18, ground := Ground.guard }], guard := some (18, true) }) (v := undef) rfl (by kernel_rfl) (by kernel_rfl) (by kernel_rfl) (fun _ _ _ h => h) (Or.inr ⟨by rfl, rfl⟩) (by assumption) ?_
                      try simp only [Act.put, List.setIfInBounds_toArray, List.set_cons_zero, List.set_cons_succ]
                      refine wpAnyH_take (i := 22) (oi := { dst := some 92, op := Op.move (Operand.tmp 13), type := 3, pos := "law.go:88", after := #[{ on := 18, ground := Ground.guard }], guard := some (18, true) }) (v := undef) rfl (by kernel_rfl) (by kernel_rfl) (by kernel_rfl) (fun _ _ _ h => h) (Or.inr ⟨by rfl, rfl⟩) (by assumption) ?_
                      try simp only [Act.put, List.setIfInBounds_toArray, List.set_cons_zero, List.set_cons_succ]
                      refine wpAnyH_take (i := 23) (oi := { dst := some 93, op := Op.indexAddr 24 (Operand.tmp 91) (Operand.tmp 92), type := 0, pos := "law.go:88", after := #[{ on := 21, ground := Ground.data }, { on := 22, ground := Ground.data }, { on := 18, ground := Ground.guard }], guard := some (18, true) }) (v := undef) rfl (by kernel_rfl) (by kernel_rfl) (by kernel_rfl) (fun _ _ _ h => h) (Or.inr ⟨by rfl, rfl⟩) (by assumption) ?_
                      try simp only [Act.put, List.setIfInBounds_toArray, List.set_cons_zero, List.set_cons_succ]
                      refine wpAnyH_take (i := 24) (oi := { dst := some 94, op := Op.load 42 (Operand.tmp 93), type := 42, pos := "law.go:88", after := #[{ on := 23, ground := Ground.data }, { on := 18, ground := Ground.guard }], guard := some (18, true) }) (v := undef) rfl (by kernel_rfl) (by kernel_rfl) (by kernel_rfl) (fun _ _ _ h => h) (Or.inr ⟨by rfl, rfl⟩) (by assumption) ?_
                      try simp only [Act.put, List.setIfInBounds_toArray, List.set_cons_zero, List.set_cons_succ]
                      refine wpAnyH_ready (rs := [20]) (by kernel_rfl) (by simp) ?_
                      refine AllReadyH.cons (o := { dst := some 90, op := Op.call { callee := Callee.value (Operand.func 31), args := #[Operand.tmp 89], argTypes := #[22] }, type := 24, pos := "law.go:88", after := #[{ on := 19, ground := Ground.data }, { on := 18, ground := Ground.chain }, { on := 18, ground := Ground.guard }], guard := some (18, true) }) rfl (fun K hK => ?_) ?_
                      rotate_left
                      · exact AllReadyH.nil
                      refine ite_no (by rfl) ?_
                      refine hK.out _ _ hHeld (fun hHeld => ?_)
                      clear hK K
                      try simp only [Act.put, List.setIfInBounds_toArray, List.set_cons_zero, List.set_cons_succ]
                      refine wpAnyH_ready (rs := [25]) (by kernel_rfl) (by simp) ?_
                      refine AllReadyH.cons (o := { dst := some 95, op := Op.call { callee := Callee.value (Operand.func 34), args := #[Operand.tmp 90, Operand.tmp 94], argTypes := #[24, 42] }, type := 4, pos := "law.go:88", after := #[{ on := 20, ground := Ground.data }, { on := 24, ground := Ground.data }, { on := 20, ground := Ground.chain }, { on := 18, ground := Ground.guard }], guard := some (18, true) }) rfl (fun K hK => ?_) ?_
                      rotate_left
                      · exact AllReadyH.nil
                      refine ite_no (by rfl) ?_
                      refine hK.out _ _ hHeld (fun hHeld => ?_)
                      clear hK K
                      try simp only [Act.put, List.setIfInBounds_toArray, List.set_cons_zero, List.set_cons_succ]
                      refine wpAnyH_take (i := 26) (oi := { dst := some 96, op := Op.unOp UnOp.not 4 (Operand.tmp 95), type := 4, pos := "law.go:88", after := #[{ on := 25, ground := Ground.data }, { on := 18, ground := Ground.guard }], guard := some (18, true) }) (v := undef) rfl (by kernel_rfl) (by kernel_rfl) (by kernel_rfl) (fun _ _ _ h => h) (Or.inr ⟨by rfl, rfl⟩) (by assumption) ?_
                      try simp only [Act.put, List.setIfInBounds_toArray, List.set_cons_zero, List.set_cons_succ]
                      refine wpAnyH_take (i := 27) (oi := { dst := some 97, op := Op.pick (Operand.tmp 88) (Operand.tmp 96) (Operand.const (Value.bool false)), type := 4, pos := "law.go:88", after := #[{ on := 18, ground := Ground.data }, { on := 26, ground := Ground.data }], guard := none }) (v := ?_) rfl (by kernel_rfl) (by kernel_rfl) (by kernel_rfl) (fun _ _ _ h => h) (Or.inl ⟨by rfl, ?_⟩) (by assumption) ?_
                      rotate_left
                      · intro w hSw
                        try dsimp only at hSw
                        go_simp
                        try with_reducible rfl
                      try simp only [Act.put, List.setIfInBounds_toArray, List.set_cons_zero, List.set_cons_succ]
                      refine wpAnyH_done (by kernel_rfl) ?_ _
                      all_goals
                        go_wp2
                        go_roundw
                        case rel => exact ⟨k + 1, hlt, by go_num, blThen HBk.out HB85.out⟩
                        case measure => simp [intOf]; omega
                    · have HI2 : Hid (decide ((x.1, x.2) ∈ allD (toD lb)) = false) := decide_eq_false i2
                      have i3 : x ∈ allD (toD lc) := (hor.resolve_left i1).resolve_left i2
                      have HI3 : Hid (decide ((x.1, x.2) ∈ allD (toD lc)) = true) := decide_eq_true i3
                      clear hor i1 i2 i3
                      go_wp2_with fail
                      go_region_held3 (fun Y => Y.cell? ⟨g, o + k * 2, none⟩ = some (.int .i64 x.1) ∧ Y.cell? ⟨g, o + k * 2 + 1, none⟩ = some (.int .i64 x.2)) (exact K3.out _ (by repeat (first | with_reducible exact HB95.out | with_reducible exact HB90.out | with_reducible exact HB85.out | with_reducible exact HB80.out | with_reducible exact HB76.out | with_reducible exact HB71.out | with_reducible exact Below.refl _ _ | with_reducible refine blAlloc ?_ _ | with_reducible refine Below.drew ?_))) (first
                        | (have _q := HB90.out; clear _q; (try go_simp); go_at_call 34; go_must (refine (refhas_any _ _ (allD (toD lc)) x.1 x.2 _ HEC.out (SL.later HS90.out (by repeat (first | with_reducible exact Below.refl _ _ | with_reducible refine blAlloc ?_ _ | with_reducible refine Below.drew ?_)))).mono ?_; rintro e w95 ⟨rfl, h5⟩; rw [HI3.out]; have HB95 : Hid (Below wr.heap.size wr w95) := blThen (by repeat (first | with_reducible exact HB90.out | with_reducible exact HB85.out | with_reducible exact HB80.out | with_reducible exact HB76.out | with_reducible exact HB71.out | with_reducible exact Below.refl _ _ | with_reducible refine blAlloc ?_ _ | with_reducible refine Below.drew ?_)) h5; clear h5))
                        | (have _q := HB85.out; clear _q; (try go_simp); go_at_call 31; go_must (refine (pall_any _ _ lc _ HLNc.out.2.2 HLNc.out.2.1 (HCr.out.later (by repeat (first | with_reducible exact HB85.out | with_reducible exact HB80.out | with_reducible exact HB76.out | with_reducible exact HB71.out | with_reducible exact Below.refl _ _ | with_reducible refine blAlloc ?_ _ | with_reducible refine Below.drew ?_)))).mono ?_; rintro e w90 ⟨a90, c90, rfl, h1, h2, h3, h5⟩; have HS90 := Lib.hid h1; have HB90 : Hid (Below wr.heap.size wr w90) := blThen (by repeat (first | with_reducible exact HB85.out | with_reducible exact HB80.out | with_reducible exact HB76.out | with_reducible exact HB71.out | with_reducible exact Below.refl _ _ | with_reducible refine blAlloc ?_ _ | with_reducible refine Below.drew ?_)) h5; clear h1 h2 h3 h5))
                        | (have _q := HB80.out; clear _q; (try go_simp); go_at_call 34; go_must (refine (refhas_any _ _ (allD (toD lb)) x.1 x.2 _ HEB.out (SL.later HS80.out (by repeat (first | with_reducible exact Below.refl _ _ | with_reducible refine blAlloc ?_ _ | with_reducible refine Below.drew ?_)))).mono ?_; rintro e w85 ⟨rfl, h5⟩; rw [HI2.out]; have HB85 : Hid (Below wr.heap.size wr w85) := blThen (by repeat (first | with_reducible exact HB80.out | with_reducible exact HB76.out | with_reducible exact HB71.out | with_reducible exact Below.refl _ _ | with_reducible refine blAlloc ?_ _ | with_reducible refine Below.drew ?_)) h5; clear h5))
                        | (have _q := HB76.out; clear _q; (try go_simp); go_at_call 31; go_must (refine (pall_any _ _ lb _ HLNb.out.2.2 HLNb.out.2.1 (HBr.out.later (by repeat (first | with_reducible exact HB76.out | with_reducible exact HB71.out | with_reducible exact Below.refl _ _ | with_reducible refine blAlloc ?_ _ | with_reducible refine Below.drew ?_)))).mono ?_; rintro e w80 ⟨a80, c80, rfl, h1, h2, h3, h5⟩; have HS80 := Lib.hid h1; have HB80 : Hid (Below wr.heap.size wr w80) := blThen (by repeat (first | with_reducible exact HB76.out | with_reducible exact HB71.out | with_reducible exact Below.refl _ _ | with_reducible refine blAlloc ?_ _ | with_reducible refine Below.drew ?_)) h5; clear h1 h2 h3 h5))
                        | (have _q := HB71.out; clear _q; (try go_simp); go_at_call 34; go_must (refine (refhas_any _ _ (allD (toD la)) x.1 x.2 _ HEA.out (SL.later HS71.out (by repeat (first | with_reducible exact Below.refl _ _ | with_reducible refine blAlloc ?_ _ | with_reducible refine Below.drew ?_)))).mono ?_; rintro e w76 ⟨rfl, h5⟩; rw [HI1.out]; have HB76 : Hid (Below wr.heap.size wr w76) := blThen (by repeat (first | with_reducible exact HB71.out | with_reducible exact Below.refl _ _ | with_reducible refine blAlloc ?_ _ | with_reducible refine Below.drew ?_)) h5; clear h5))
                        | ((try go_simp); go_at_call 31; go_must (refine (pall_any _ _ la _ HLNa.out.2.2 HLNa.out.2.1 (HAr.out.later (by repeat (first | with_reducible exact Below.refl _ _ | with_reducible refine blAlloc ?_ _ | with_reducible refine Below.drew ?_)))).mono ?_; rintro e w71 ⟨a71, c71, rfl, h1, h2, h3, h5⟩; have HS71 := Lib.hid h1; have HB71 : Hid (Below wr.heap.size wr w71) := blThen (by repeat (first | with_reducible exact Below.refl _ _ | with_reducible refine blAlloc ?_ _ | with_reducible refine Below.drew ?_)) h5; clear h1 h2 h3 h5)))
                      all_goals
                        go_wp2
                        go_roundw
                        case rel => exact ⟨k + 1, hlt, by go_num, blThen HBk.out HB95.out⟩
                        case measure => simp [intOf]; omega
                · obtain rfl : k = Q.length := by omega
                  have hkf : decide ((Q.length : Int) < (Q.length : Int)) = false := decide_eq_false (by omega)
                  have HB_wr := Lib.hid (blThen HB_w10.out HBk.out)
                  have HDX := Lib.hid (HDX.out.later HBk.out)
                  have HDY := Lib.hid (HDY.out.later HBk.out)
                  have HDZ := Lib.hid (HDZ.out.later HBk.out)
                  have HSQ := Lib.hid (HSQ.out.later HBk.out)
                  have HQY : Hid (decide (toD lx = toD ly) = true) := decide_eq_true (by rw [HTX.out, HTY.out])
                  have HQZ : Hid (decide (toD lx = toD lz) = true) := decide_eq_true (by rw [HTX.out, HTZ.out])
                  have HCKX : Hid (checkD (toD lx) = 0) := by show _ = _; rw [HTX.out]; exact HCX.out
                  clear HBk HA HB HC
                  go_wp2_with fail
                  refine (same_any _ _ _ _ lx ly _ HFX.out.1 (HDX.out.later (by repeat (first | with_reducible exact Below.refl _ _ | with_reducible refine blAlloc ?_ _ | with_reducible refine Below.drew ?_))) (HDY.out.later (by repeat (first | with_reducible exact Below.refl _ _ | with_reducible refine blAlloc ?_ _ | with_reducible refine Below.drew ?_)))).mono ?_
                  rintro e x1 ⟨rfl, h5⟩
                  rw [HQY.out]
                  have HX : Hid (Below wr.heap.size wr x1) := blThen (by repeat (first | with_reducible exact Below.refl _ _ | with_reducible refine blAlloc ?_ _ | with_reducible refine Below.drew ?_)) h5
                  have HB_x1 := Lib.hid (blThen HB_wr.out HX.out)
                  have HDX := Lib.hid (HDX.out.later HX.out)
                  have HDY := Lib.hid (HDY.out.later HX.out)
                  have HDZ := Lib.hid (HDZ.out.later HX.out)
                  have HSQ := Lib.hid (HSQ.out.later HX.out)
                  clear h5 HX
                  go_wp2_with fail
                  refine (same_any _ _ _ _ lx lz _ HFX.out.1 (HDX.out.later (by repeat (first | with_reducible exact Below.refl _ _ | with_reducible refine blAlloc ?_ _ | with_reducible refine Below.drew ?_))) (HDZ.out.later (by repeat (first | with_reducible exact Below.refl _ _ | with_reducible refine blAlloc ?_ _ | with_reducible refine Below.drew ?_)))).mono ?_
                  rintro e x2 ⟨rfl, h5⟩
                  rw [HQZ.out]
                  have HX : Hid (Below x1.heap.size x1 x2) := blThen (by repeat (first | with_reducible exact Below.refl _ _ | with_reducible refine blAlloc ?_ _ | with_reducible refine Below.drew ?_)) h5
                  have HB_x2 := Lib.hid (blThen HB_x1.out HX.out)
                  have HDX := Lib.hid (HDX.out.later HX.out)
                  have HDY := Lib.hid (HDY.out.later HX.out)
                  have HDZ := Lib.hid (HDZ.out.later HX.out)
                  have HSQ := Lib.hid (HSQ.out.later HX.out)
                  clear h5 HX
                  go_wp2_with fail
                  refine (pcheck_any _ _ lx _ HFX.out.1 HFX.out.2.1 (HDX.out.later (by repeat (first | with_reducible exact Below.refl _ _ | with_reducible refine blAlloc ?_ _ | with_reducible refine Below.drew ?_)))).mono ?_
                  rintro e x3 ⟨rfl, h5⟩
                  rw [HCKX.out]
                  have HX : Hid (Below x2.heap.size x2 x3) := blThen (by repeat (first | with_reducible exact Below.refl _ _ | with_reducible refine blAlloc ?_ _ | with_reducible refine Below.drew ?_)) h5
                  have HB_x3 := Lib.hid (blThen HB_x2.out HX.out)
                  have HDX := Lib.hid (HDX.out.later HX.out)
                  have HDY := Lib.hid (HDY.out.later HX.out)
                  have HDZ := Lib.hid (HDZ.out.later HX.out)
                  have HSQ := Lib.hid (HSQ.out.later HX.out)
                  clear h5 HX
                  go_wp2_with fail
                  refine (num6_any _ _).mono ?_
                  rintro e wq ⟨rfl, rfl⟩
                  go_wp2_with fail
                  refine (pwithout_any _ _ lx _ _ Q _ HFX.out.1 (HDX.out.later (by repeat (first | with_reducible exact Below.refl _ _ | with_reducible refine blAlloc ?_ _ | with_reducible refine Below.drew ?_))) (nice_wf HTX.out HNX.out) HQL.out (HSQ.out.later (by repeat (first | with_reducible exact Below.refl _ _ | with_reducible refine blAlloc ?_ _ | with_reducible refine Below.drew ?_))) HQW.out).mono ?_
                  rintro e x4 ⟨au, cu, lu, rfl, h1, h2, _, _, h5⟩
                  have HX : Hid (Below x3.heap.size x3 x4) := blThen (by repeat (first | with_reducible exact Below.refl _ _ | with_reducible refine blAlloc ?_ _ | with_reducible refine Below.drew ?_)) h5
                  have HB_x4 := Lib.hid (blThen HB_x3.out HX.out)
                  have HDX := Lib.hid (HDX.out.later HX.out)
                  have HSQ := Lib.hid (HSQ.out.later HX.out)
                  rw [HTX.out] at h1
                  have HDU := Lib.hid h2
                  have HTU := Lib.hid h1
                  clear h5 HX h1 h2
                  have HMU : Hid ((([(au, lu, cu), (ax, lx, cx)] : List DRow).map fun r => toD r.2.1) = [withoutD X Q, X]) := by
                    show [toD lu, toD lx] = _
                    rw [HTU.out, HTX.out]
                  have HAWQ := Lib.hid (HAW.out Q)
                  go_wp2_with fail
                  refine (pmergeD_any _ _ [(au, lu, cu), (ax, lx, cx)] [withoutD X Q, X] (-1) _ HMU.out HAWQ.out.1 (by simp) HAWQ.out.2.1 HAWQ.out.2.2.1 HAWQ.out.2.2.2 (dls_new _ _ _ rfl (rows2 HDU.out HDX.out))).mono ?_
                  rintro e x5 ⟨am, cm, lm, rfl, h1, h2, _, _, h5⟩
                  have HX : Hid (Below x4.heap.size x4 x5) := blThen (by repeat (first | with_reducible exact Below.refl _ _ | with_reducible refine blAlloc ?_ _ | with_reducible refine Below.drew ?_)) h5
                  have HB_x5 := Lib.hid (blThen HB_x4.out HX.out)
                  have HDX := Lib.hid (HDX.out.later HX.out)
                  have HDU := Lib.hid (HDU.out.later HX.out)
                  rw [HLESS.out Q] at h1
                  have HDM := Lib.hid h2
                  have HQM : Hid (decide (toD lm = toD lx) = true) := decide_eq_true (by rw [h1, HTX.out])
                  have HFM := Lib.hid (nice_few h1 HNX.out)
                  clear h5 HX h1 h2
                  go_wp2_with fail
                  refine (refsame6_any _ _ _ _ lm lx _ HFM.out.1 (HDM.out.later (by repeat (first | with_reducible exact Below.refl _ _ | with_reducible refine blAlloc ?_ _ | with_reducible refine Below.drew ?_))) (HDX.out.later (by repeat (first | with_reducible exact Below.refl _ _ | with_reducible refine blAlloc ?_ _ | with_reducible refine Below.drew ?_)))).mono ?_
                  rintro e x6 ⟨rfl, h5⟩
                  rw [HQM.out]
                  have HX : Hid (Below x5.heap.size x5 x6) := blThen (by repeat (first | with_reducible exact Below.refl _ _ | with_reducible refine blAlloc ?_ _ | with_reducible refine Below.drew ?_)) h5
                  have HB_x6 := Lib.hid (blThen HB_x5.out HX.out)
                  have HDX := Lib.hid (HDX.out.later HX.out)
                  have HDU := Lib.hid (HDU.out.later HX.out)
                  have HDM := Lib.hid (HDM.out.later HX.out)
                  clear h5 HX
                  go_wp2_with fail
                  refine (dlive_any _).mono ?_
                  rintro e x7 ⟨rfl, h5⟩
                  have HX : Hid (Below x6.heap.size x6 x7) := blThen (by repeat (first | with_reducible exact Below.refl _ _ | with_reducible refine blAlloc ?_ _ | with_reducible refine Below.drew ?_)) h5
                  have HB_x7 := Lib.hid (blThen HB_x6.out HX.out)
                  have HDX := Lib.hid (HDX.out.later HX.out)
                  have HDU := Lib.hid (HDU.out.later HX.out)
                  have HDM := Lib.hid (HDM.out.later HX.out)
                  clear h5 HX
                  go_wp2
                  go_ret
                  exact ⟨rfl, HB_x7.out⟩
            · have hck : ¬ checkD (toD lc) = 0 := hcc
              clear hcc
              go_wp2_with fail
              refine (dlive_any _).mono ?_
              rintro e w5 ⟨rfl, h5⟩
              have HX : Hid (Below w4.heap.size w4 w5) := blThen (by repeat (first | with_reducible exact Below.refl _ _ | with_reducible refine blAlloc ?_ _ | with_reducible refine Below.drew ?_)) h5
              have HB_w5 := Lib.hid (blThen HB_w4.out HX.out)
              clear h5 HX
              go_wp2
              go_ret
              exact ⟨rfl, HB_w5.out⟩
          · have hck : ¬ checkD (toD lb) = 0 := hcb
            clear hcb
            go_wp2_with fail
            refine (dlive_any _).mono ?_
            rintro e w4 ⟨rfl, h5⟩
            have HX : Hid (Below w3.heap.size w3 w4) := blThen (by repeat (first | with_reducible exact Below.refl _ _ | with_reducible refine blAlloc ?_ _ | with_reducible refine Below.drew ?_)) h5
            have HB_w4 := Lib.hid (blThen HB_w3.out HX.out)
            clear h5 HX
            go_wp2
            go_ret
            exact ⟨rfl, HB_w4.out⟩
        · have hck : ¬ checkD (toD la) = 0 := hca
          clear hca
          go_wp2_with fail
          refine (dlive_any _).mono ?_
          rintro e w3 ⟨rfl, h5⟩
          have HX : Hid (Below w2.heap.size w2 w3) := blThen (by repeat (first | with_reducible exact Below.refl _ _ | with_reducible refine blAlloc ?_ _ | with_reducible refine Below.drew ?_)) h5
          have HB_w3 := Lib.hid (blThen HB_w2.out HX.out)
          clear h5 HX
          go_wp2
          go_ret
          exact ⟨rfl, HB_w3.out⟩
      · rw [show decide (lc.length ≤ 20 ∧ idsN (toD lc) ≤ 100) = false from decide_eq_false hsc]
        go_wp2_with fail
        refine (dlive_any _).mono ?_
        rintro e w2 ⟨rfl, h5⟩
        have HX : Hid (Below w1.heap.size w1 w2) := blThen (by repeat (first | with_reducible exact Below.refl _ _ | with_reducible refine blAlloc ?_ _ | with_reducible refine Below.drew ?_)) h5
        have HB_w2 := Lib.hid (blThen HB_w1.out HX.out)
        clear h5 HX
        go_wp2
        go_ret
        exact ⟨rfl, HB_w2.out⟩
    · rw [show decide (lb.length ≤ 20 ∧ idsN (toD lb) ≤ 100) = false from decide_eq_false hsb]
      go_wp2_with fail
      refine (dlive_any _).mono ?_
      rintro e w2 ⟨rfl, h5⟩
      have HX : Hid (Below w1.heap.size w1 w2) := blThen (by repeat (first | with_reducible exact Below.refl _ _ | with_reducible refine blAlloc ?_ _ | with_reducible refine Below.drew ?_)) h5
      have HB_w2 := Lib.hid (blThen HB_w1.out HX.out)
      clear h5 HX
      go_wp2
      go_ret
      exact ⟨rfl, HB_w2.out⟩
  · rw [show decide (la.length ≤ 20 ∧ idsN (toD la) ≤ 100) = false from decide_eq_false hsa]
    go_wp2_with fail
    refine (dlive_any _).mono ?_
    rintro e w2 ⟨rfl, h5⟩
    have HX : Hid (Below w1.heap.size w1 w2) := blThen (by repeat (first | with_reducible exact Below.refl _ _ | with_reducible refine blAlloc ?_ _ | with_reducible refine Below.drew ?_)) h5
    have HB_w2 := Lib.hid (blThen HB_w1.out HX.out)
    clear h5 HX
    go_wp2
    go_ret
    exact ⟨rfl, HB_w2.out⟩

set_option maxRecDepth 100000 in
theorem depsMerged_lifted (os : Os) (started : os.Started) (H : Type) (enc : TypeId × Value → H) :
    ReturnsInHanded {} Tryz.checked os 5 .any (Rows.depsMergedSpec.pre6 enc Tryz.prog Tryz.f5 Rows.depsMergedRow.domain false) (Rows.depsMergedSpec.post enc Tryz.prog Tryz.f5 false true false false) := by
  refine law_lift_sized (C := Tryz.checked) own6 started (by kernel_rfl) Tryz.func5 laid6 rfl (by kernel_rfl) (fun _ _ _ _ => trodAll_mk1 (shut_bool Tryz.underlying4 true)) (fun ds h => match ds, h with | [_, _, _, _], _ => ⟨rfl, rfl, rfl⟩)
    (ChangeSpec.witness6 (enc := enc) (C := Tryz.checked) false ⟨#[], #[.slice none 0 0, .slice none 0 0, .slice none 0 0, .agg #[.int .i64 0, .int .i64 0]], []⟩ 8 (by kernel_rfl) (by kernel_rfl) (by kernel_rfl) (by kernel_rfl)) ?_
  intro W base args ds before hval0 hA0 hlt hsz
  have hval : ∀ (j : Nat) t v, Tryz.f5.params[j]? = some t → args[j]? = some v → Value.okWide Tryz.prog W .any base t v := hval0
  have hA : DataW.TrodAll enc Tryz.prog W 0 (fun _ => true) true Tryz.f5.params.toList args.toList ds before := hA0
  rw [Tryz.params5] at hA hval
  obtain ⟨v0, v1, v2, v3, d0, d1, d2, d3, p0, p1, p2, p3, rfl, rfl, rfl, h0, h1, h2, h3⟩ := trodAll_four hA
  obtain ⟨a, la, ca, rfl, hla, hma, _, _, _, hra⟩ := open_deps (hval 0 22 v0 rfl rfl) h0
  obtain ⟨b, lb, cb, rfl, hlb, hmb, _, _, _, hrb⟩ := open_deps (hval 1 22 v1 rfl rfl) h1
  obtain ⟨c, lc, cc, rfl, hlc, hmc, _, _, _, hrc⟩ := open_deps (hval 2 22 v2 rfl rfl) h2
  obtain ⟨t, n, rfl, _, _⟩ := open_stamp (hval 3 42 v3 rfl rfl) h3
  exact merged_walk a ca la b cb lb c cc lc t n W hma (hra _ _ 0 hsz (by kernel_rfl) rfl) hla hmb (hrb _ _ 1 hsz (by kernel_rfl) rfl) hlb hmc (hrc _ _ 2 hsz (by kernel_rfl) rfl) hlc

theorem depsMerged_holds : Rows.DepsMergedSaid :=
  OpenClaim.holds_of_wide 5 Tryz.f5 rfl rfl rfl rfl rfl rfl rfl ⟨rfl, rfl, rfl, rfl, rfl⟩ rfl rfl rfl rfl rfl (by kernel_rfl) Tryz.func5 (by kernel_rfl)
    (of_decide_eq_true (by kernel_rfl)) (by unfold Func.isWrapper; rw [if_neg (of_decide_eq_false (by kernel_rfl))]; exact ⟨rfl, rfl⟩)
    (fun os started H enc _ => depsMerged_lifted os started H enc)

#print axioms depsMerged_holds

end SD
end Go.Proofs.YtjlbhffdlogflaaGreat
