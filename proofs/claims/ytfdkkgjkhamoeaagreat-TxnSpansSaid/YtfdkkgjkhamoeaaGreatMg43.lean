/- TxnSpans. Conditions: none. -/
import Derived.WalkSpells
import Derived.Test.YtfdkkgjkhamoeaaGreatMg41
import Derived.Test.YtfdkkgjkhamoeaaGreatMg42
import Derived.Test.YtfdkkgjkhamoeaaGreatMg37
/- TxnSpans: what is read, what is written; whether two conflict. Conditions: the law's own. -/
set_option linter.unusedVariables false
set_option linter.unusedSimpArgs false
namespace Go.Proofs.YtfdkkgjkhamoeaaGreat
open S3 SN
namespace SP
open Go.ChangeShapes Go.WideShapes Go.ChangeAt Go.RowKit Go.Joins Go.Deep

theorem checkP_zero {l : List Opr} (h : checkP l = 0) : l.length ≤ 8 ∧ l ≠ [] ∧ ∀ o ∈ l, okB o = true := by
  unfold checkP at h
  by_cases h8 : 8 < l.length
  · rw [if_pos h8] at h; cases h
  rw [if_neg h8] at h
  by_cases h0 : l = []
  · rw [if_pos h0] at h; cases h
  rw [if_neg h0] at h
  by_cases ha : l.all okB = true
  · exact ⟨by omega, h0, fun o ho => List.all_eq_true.1 ha o ho⟩
  · rw [if_neg ha] at h; cases h
theorem smallB_len {l : List Opr} {d : Al Nat} (h : smallB l d = true) : l.length ≤ 60 ∧ d.length ≤ 60 := by
  have := of_decide_eq_true h
  exact ⟨this.1, this.2.1⟩
set_option maxRecDepth 100000 in
set_option maxHeartbeats 16000000 in
theorem txnSpans_walk (va vb : Value) (a b : List Opr) (w : World) (hma : a.length ≤ 9223372036854775807) (hmb : b.length ≤ 9223372036854775807) (hra : ∀ o ∈ a, o.2.1.size ≤ 140737488355328 ∧ o.2.2.1.size ≤ 140737488355328) (hrb : ∀ o ∈ b, o.2.1.size ≤ 140737488355328 ∧ o.2.2.1.size ≤ 140737488355328)
    (hna : ∀ o ∈ a, o.2.2.2 < 18446744073709551616) (hnb : ∀ o ∈ b, o.2.2.2 < 18446744073709551616) (ha : SlG eO w va a) (hb : SlG eO w vb b) :
    Calls Tryz.prog 4 #[va, vb] w fun e w' => e = .returned (.bool true) ∧ Below w.heap.size w w' := by
  have HA := Lib.hid ha
  have HBb := Lib.hid hb
  have HMA := Lib.hid hma
  have HMB := Lib.hid hmb
  have HRA := Lib.hid hra
  have HRB := Lib.hid hrb
  have HNA := Lib.hid hna
  have HNB := Lib.hid hnb
  clear ha hb hma hmb hra hrb hna hnb
  go_enter Tryz.func4, Tryz.ntmps4
  cases hsa : smallB a []
  · have HSA := Lib.hid hsa
    clear hsa
    go_wp2_with fail
    have h9 := small8_any va (.slice none 0 0) a [] w HMA.out (by decide) HRA.out (fun o ho => by cases ho) HA.out (SlG.nil _)
    rw [HSA.out] at h9
    refine (h9).mono ?_
    rintro e w1 ⟨rfl, h5⟩
    have HX : Hid (Below w.heap.size w w1) := blThen (by repeat (first | with_reducible exact Below.refl _ _ | with_reducible refine blAlloc ?_ _ | with_reducible refine Below.drew ?_)) h5
    have HB_w1 := Lib.hid (HX.out)
    have HA := Lib.hid (HA.out.later HX.out)
    have HBb := Lib.hid (HBb.out.later HX.out)
    clear h5 HX h9
    go_wp2_with fail
    refine (live8_any w1).mono ?_
    rintro e w2 ⟨rfl, h5⟩
    have HX : Hid (Below w1.heap.size w1 w2) := blThen (by repeat (first | with_reducible exact Below.refl _ _ | with_reducible refine blAlloc ?_ _ | with_reducible refine Below.drew ?_)) h5
    have HB_w2 := Lib.hid (blThen HB_w1.out HX.out)
    have HA := Lib.hid (HA.out.later HX.out)
    have HBb := Lib.hid (HBb.out.later HX.out)
    clear h5 HX
    go_wp2
    go_ret
    exact ⟨rfl, HB_w2.out⟩
  · have HSA := Lib.hid hsa
    have HLA := Lib.hid (smallB_len hsa).1
    clear hsa
    cases hsb : smallB b []
    · have HSB := Lib.hid hsb
      clear hsb
      go_wp2_with fail
      have h9 := small8_any va (.slice none 0 0) a [] w HMA.out (by decide) HRA.out (fun o ho => by cases ho) HA.out (SlG.nil _)
      rw [HSA.out] at h9
      refine (h9).mono ?_
      rintro e w1 ⟨rfl, h5⟩
      have HX : Hid (Below w.heap.size w w1) := blThen (by repeat (first | with_reducible exact Below.refl _ _ | with_reducible refine blAlloc ?_ _ | with_reducible refine Below.drew ?_)) h5
      have HB_w1 := Lib.hid (HX.out)
      have HA := Lib.hid (HA.out.later HX.out)
      have HBb := Lib.hid (HBb.out.later HX.out)
      clear h5 HX h9
      go_wp2_with fail
      have h9 := small8_any vb (.slice none 0 0) b [] w1 HMB.out (by decide) HRB.out (fun o ho => by cases ho) HBb.out (SlG.nil _)
      rw [HSB.out] at h9
      refine (h9).mono ?_
      rintro e w2 ⟨rfl, h5⟩
      have HX : Hid (Below w1.heap.size w1 w2) := blThen (by repeat (first | with_reducible exact Below.refl _ _ | with_reducible refine blAlloc ?_ _ | with_reducible refine Below.drew ?_)) h5
      have HB_w2 := Lib.hid (blThen HB_w1.out HX.out)
      have HA := Lib.hid (HA.out.later HX.out)
      have HBb := Lib.hid (HBb.out.later HX.out)
      clear h5 HX h9
      go_wp2_with fail
      refine (live8_any w2).mono ?_
      rintro e w3 ⟨rfl, h5⟩
      have HX : Hid (Below w2.heap.size w2 w3) := blThen (by repeat (first | with_reducible exact Below.refl _ _ | with_reducible refine blAlloc ?_ _ | with_reducible refine Below.drew ?_)) h5
      have HB_w3 := Lib.hid (blThen HB_w2.out HX.out)
      have HA := Lib.hid (HA.out.later HX.out)
      have HBb := Lib.hid (HBb.out.later HX.out)
      clear h5 HX
      go_wp2
      go_ret
      exact ⟨rfl, HB_w3.out⟩
    · have HSB := Lib.hid hsb
      have HLB := Lib.hid (smallB_len hsb).1
      clear hsb
      by_cases hca : checkP a = 0
      · have HCA := Lib.hid hca
        have HOA := Lib.hid (checkP_zero hca).2.2
        clear hca
        by_cases hcb : checkP b = 0
        · have HCB := Lib.hid hcb
          have HOB := Lib.hid (checkP_zero hcb).2.2
          clear hcb
          go_wp2_with fail
          have h9 := small8_any va (.slice none 0 0) a [] w HMA.out (by decide) HRA.out (fun o ho => by cases ho) HA.out (SlG.nil _)
          rw [HSA.out] at h9
          refine (h9).mono ?_
          rintro e w1 ⟨rfl, h5⟩
          have HX : Hid (Below w.heap.size w w1) := blThen (by repeat (first | with_reducible exact Below.refl _ _ | with_reducible refine blAlloc ?_ _ | with_reducible refine Below.drew ?_)) h5
          have HB_w1 := Lib.hid (HX.out)
          have HA := Lib.hid (HA.out.later HX.out)
          have HBb := Lib.hid (HBb.out.later HX.out)
          clear h5 HX h9
          go_wp2_with fail
          have h9 := small8_any vb (.slice none 0 0) b [] w1 HMB.out (by decide) HRB.out (fun o ho => by cases ho) HBb.out (SlG.nil _)
          rw [HSB.out] at h9
          refine (h9).mono ?_
          rintro e w2 ⟨rfl, h5⟩
          have HX : Hid (Below w1.heap.size w1 w2) := blThen (by repeat (first | with_reducible exact Below.refl _ _ | with_reducible refine blAlloc ?_ _ | with_reducible refine Below.drew ?_)) h5
          have HB_w2 := Lib.hid (blThen HB_w1.out HX.out)
          have HA := Lib.hid (HA.out.later HX.out)
          have HBb := Lib.hid (HBb.out.later HX.out)
          clear h5 HX h9
          go_wp2_with fail
          have h9 := refcheck8_any va a w2 (by have := HLA.out; omega) HA.out HNA.out
          rw [HCA.out] at h9
          refine (h9).mono ?_
          rintro e w3 ⟨rfl, h5⟩
          have HX : Hid (Below w2.heap.size w2 w3) := blThen (by repeat (first | with_reducible exact Below.refl _ _ | with_reducible refine blAlloc ?_ _ | with_reducible refine Below.drew ?_)) h5
          have HB_w3 := Lib.hid (blThen HB_w2.out HX.out)
          have HA := Lib.hid (HA.out.later HX.out)
          have HBb := Lib.hid (HBb.out.later HX.out)
          clear h5 HX h9
          go_wp2_with fail
          have h9 := refcheck8_any vb b w3 (by have := HLB.out; omega) HBb.out HNB.out
          rw [HCB.out] at h9
          refine (h9).mono ?_
          rintro e w4 ⟨rfl, h5⟩
          have HX : Hid (Below w3.heap.size w3 w4) := blThen (by repeat (first | with_reducible exact Below.refl _ _ | with_reducible refine blAlloc ?_ _ | with_reducible refine Below.drew ?_)) h5
          have HB_w4 := Lib.hid (blThen HB_w3.out HX.out)
          have HA := Lib.hid (HA.out.later HX.out)
          have HBb := Lib.hid (HBb.out.later HX.out)
          clear h5 HX h9
          go_wp2_with fail
          refine (ops_any va a w4 (by have := HLA.out; omega) HA.out).mono ?_
          rintro e w5 ⟨u1, rfl, h1, h5⟩
          have HX : Hid (Below w4.heap.size w4 w5) := blThen (by repeat (first | with_reducible exact Below.refl _ _ | with_reducible refine blAlloc ?_ _ | with_reducible refine Below.drew ?_)) h5
          have HB_w5 := Lib.hid (blThen HB_w4.out HX.out)
          have HA := Lib.hid (HA.out.later HX.out)
          have HBb := Lib.hid (HBb.out.later HX.out)
          have HU1 := Lib.hid h1.sl
          clear h5 HX h1
          go_wp2_with fail
          refine (treads_any u1 a w5 (by have := HLA.out; omega) HOA.out HU1.out).mono ?_
          rintro e w6 ⟨x1, rfl, h1, h5⟩
          have HX : Hid (Below w5.heap.size w5 w6) := blThen (by repeat (first | with_reducible exact Below.refl _ _ | with_reducible refine blAlloc ?_ _ | with_reducible refine Below.drew ?_)) h5
          have HB_w6 := Lib.hid (blThen HB_w5.out HX.out)
          have HA := Lib.hid (HA.out.later HX.out)
          have HBb := Lib.hid (HBb.out.later HX.out)
          have HU1 := Lib.hid (HU1.out.later HX.out)
          have HX1 := Lib.hid h1.sl
          clear h5 HX h1
          go_wp2_with fail
          refine (rreadsP_any va a w6 (by have := HLA.out; omega) HOA.out HA.out).mono ?_
          rintro e w7 ⟨y1, rfl, h1, h5⟩
          have HX : Hid (Below w6.heap.size w6 w7) := blThen (by repeat (first | with_reducible exact Below.refl _ _ | with_reducible refine blAlloc ?_ _ | with_reducible refine Below.drew ?_)) h5
          have HB_w7 := Lib.hid (blThen HB_w6.out HX.out)
          have HA := Lib.hid (HA.out.later HX.out)
          have HBb := Lib.hid (HBb.out.later HX.out)
          have HU1 := Lib.hid (HU1.out.later HX.out)
          have HX1 := Lib.hid (HX1.out.later HX.out)
          have HY1 := Lib.hid h1.sl
          clear h5 HX h1
          go_wp2_with fail
          have h9 := S3.same_any x1 y1 (readsP a) (readsP a) w7 (by have := reads_len a; have := HLA.out; omega) (by have := reads_len a; have := HLA.out; omega) HX1.out HY1.out
          rw [show S3.sameB (readsP a) (readsP a) = true from decide_eq_true rfl] at h9
          refine (h9).mono ?_
          rintro e w8 ⟨rfl, h5⟩
          have HX : Hid (Below w7.heap.size w7 w8) := blThen (by repeat (first | with_reducible exact Below.refl _ _ | with_reducible refine blAlloc ?_ _ | with_reducible refine Below.drew ?_)) h5
          have HB_w8 := Lib.hid (blThen HB_w7.out HX.out)
          have HA := Lib.hid (HA.out.later HX.out)
          have HBb := Lib.hid (HBb.out.later HX.out)
          have HU1 := Lib.hid (HU1.out.later HX.out)
          have HX1 := Lib.hid (HX1.out.later HX.out)
          have HY1 := Lib.hid (HY1.out.later HX.out)
          clear h5 HX h9
          go_wp2_with fail
          refine (ops_any va a w8 (by have := HLA.out; omega) HA.out).mono ?_
          rintro e w9 ⟨u2, rfl, h1, h5⟩
          have HX : Hid (Below w8.heap.size w8 w9) := blThen (by repeat (first | with_reducible exact Below.refl _ _ | with_reducible refine blAlloc ?_ _ | with_reducible refine Below.drew ?_)) h5
          have HB_w9 := Lib.hid (blThen HB_w8.out HX.out)
          have HA := Lib.hid (HA.out.later HX.out)
          have HBb := Lib.hid (HBb.out.later HX.out)
          have HU2 := Lib.hid h1.sl
          clear h5 HX h1
          go_wp2_with fail
          refine (twrites_any u2 a w9 (by have := HLA.out; omega) HOA.out HU2.out).mono ?_
          rintro e w10 ⟨x2, rfl, h1, h5⟩
          have HX : Hid (Below w9.heap.size w9 w10) := blThen (by repeat (first | with_reducible exact Below.refl _ _ | with_reducible refine blAlloc ?_ _ | with_reducible refine Below.drew ?_)) h5
          have HB_w10 := Lib.hid (blThen HB_w9.out HX.out)
          have HA := Lib.hid (HA.out.later HX.out)
          have HBb := Lib.hid (HBb.out.later HX.out)
          have HU2 := Lib.hid (HU2.out.later HX.out)
          have HX2 := Lib.hid h1.sl
          clear h5 HX h1
          go_wp2_with fail
          refine (rwritesP_any va a w10 (by have := HLA.out; omega) HOA.out HA.out).mono ?_
          rintro e w11 ⟨y2, rfl, h1, h5⟩
          have HX : Hid (Below w10.heap.size w10 w11) := blThen (by repeat (first | with_reducible exact Below.refl _ _ | with_reducible refine blAlloc ?_ _ | with_reducible refine Below.drew ?_)) h5
          have HB_w11 := Lib.hid (blThen HB_w10.out HX.out)
          have HA := Lib.hid (HA.out.later HX.out)
          have HBb := Lib.hid (HBb.out.later HX.out)
          have HU2 := Lib.hid (HU2.out.later HX.out)
          have HX2 := Lib.hid (HX2.out.later HX.out)
          have HY2 := Lib.hid h1.sl
          clear h5 HX h1
          go_wp2_with fail
          have h9 := S3.same_any x2 y2 (writesP a) (writesP a) w11 (by have := writes_len a; have := HLA.out; omega) (by have := writes_len a; have := HLA.out; omega) HX2.out HY2.out
          rw [show S3.sameB (writesP a) (writesP a) = true from decide_eq_true rfl] at h9
          refine (h9).mono ?_
          rintro e w12 ⟨rfl, h5⟩
          have HX : Hid (Below w11.heap.size w11 w12) := blThen (by repeat (first | with_reducible exact Below.refl _ _ | with_reducible refine blAlloc ?_ _ | with_reducible refine Below.drew ?_)) h5
          have HB_w12 := Lib.hid (blThen HB_w11.out HX.out)
          have HA := Lib.hid (HA.out.later HX.out)
          have HBb := Lib.hid (HBb.out.later HX.out)
          have HU2 := Lib.hid (HU2.out.later HX.out)
          have HX2 := Lib.hid (HX2.out.later HX.out)
          have HY2 := Lib.hid (HY2.out.later HX.out)
          clear h5 HX h9
          go_wp2_with fail
          refine (ops_any va a w12 (by have := HLA.out; omega) HA.out).mono ?_
          rintro e w13 ⟨u3, rfl, h1, h5⟩
          have HX : Hid (Below w12.heap.size w12 w13) := blThen (by repeat (first | with_reducible exact Below.refl _ _ | with_reducible refine blAlloc ?_ _ | with_reducible refine Below.drew ?_)) h5
          have HB_w13 := Lib.hid (blThen HB_w12.out HX.out)
          have HA := Lib.hid (HA.out.later HX.out)
          have HBb := Lib.hid (HBb.out.later HX.out)
          have HU3 := Lib.hid h1.sl
          clear h5 HX h1
          go_wp2_with fail
          refine (tall_any u3 a w13 (by have := HLA.out; omega) HOA.out HU3.out).mono ?_
          rintro e w14 ⟨x3, rfl, h1, h5⟩
          have HX : Hid (Below w13.heap.size w13 w14) := blThen (by repeat (first | with_reducible exact Below.refl _ _ | with_reducible refine blAlloc ?_ _ | with_reducible refine Below.drew ?_)) h5
          have HB_w14 := Lib.hid (blThen HB_w13.out HX.out)
          have HA := Lib.hid (HA.out.later HX.out)
          have HBb := Lib.hid (HBb.out.later HX.out)
          have HU3 := Lib.hid (HU3.out.later HX.out)
          have HX3 := Lib.hid h1.sl
          clear h5 HX h1
          go_wp2_with fail
          refine (rall_any va a w14 (by have := HLA.out; omega) HOA.out HA.out).mono ?_
          rintro e w15 ⟨y3, rfl, h1, h5⟩
          have HX : Hid (Below w14.heap.size w14 w15) := blThen (by repeat (first | with_reducible exact Below.refl _ _ | with_reducible refine blAlloc ?_ _ | with_reducible refine Below.drew ?_)) h5
          have HB_w15 := Lib.hid (blThen HB_w14.out HX.out)
          have HA := Lib.hid (HA.out.later HX.out)
          have HBb := Lib.hid (HBb.out.later HX.out)
          have HU3 := Lib.hid (HU3.out.later HX.out)
          have HX3 := Lib.hid (HX3.out.later HX.out)
          have HY3 := Lib.hid h1.sl
          clear h5 HX h1
          go_wp2_with fail
          have h9 := S3.same_any x3 y3 (allP a) (allP a) w15 (by have := all_len a; have := HLA.out; omega) (by have := all_len a; have := HLA.out; omega) HX3.out HY3.out
          rw [show S3.sameB (allP a) (allP a) = true from decide_eq_true rfl] at h9
          refine (h9).mono ?_
          rintro e w16 ⟨rfl, h5⟩
          have HX : Hid (Below w15.heap.size w15 w16) := blThen (by repeat (first | with_reducible exact Below.refl _ _ | with_reducible refine blAlloc ?_ _ | with_reducible refine Below.drew ?_)) h5
          have HB_w16 := Lib.hid (blThen HB_w15.out HX.out)
          have HA := Lib.hid (HA.out.later HX.out)
          have HBb := Lib.hid (HBb.out.later HX.out)
          have HU3 := Lib.hid (HU3.out.later HX.out)
          have HX3 := Lib.hid (HX3.out.later HX.out)
          have HY3 := Lib.hid (HY3.out.later HX.out)
          clear h5 HX h9
          go_wp2_with fail
          refine (ops_any va a w16 (by have := HLA.out; omega) HA.out).mono ?_
          rintro e w17 ⟨u4, rfl, h1, h5⟩
          have HX : Hid (Below w16.heap.size w16 w17) := blThen (by repeat (first | with_reducible exact Below.refl _ _ | with_reducible refine blAlloc ?_ _ | with_reducible refine Below.drew ?_)) h5
          have HB_w17 := Lib.hid (blThen HB_w16.out HX.out)
          have HA := Lib.hid (HA.out.later HX.out)
          have HBb := Lib.hid (HBb.out.later HX.out)
          have HU4 := Lib.hid h1.sl
          clear h5 HX h1
          go_wp2_with fail
          refine (ops_any vb b w17 (by have := HLB.out; omega) HBb.out).mono ?_
          rintro e w18 ⟨u5, rfl, h1, h5⟩
          have HX : Hid (Below w17.heap.size w17 w18) := blThen (by repeat (first | with_reducible exact Below.refl _ _ | with_reducible refine blAlloc ?_ _ | with_reducible refine Below.drew ?_)) h5
          have HB_w18 := Lib.hid (blThen HB_w17.out HX.out)
          have HA := Lib.hid (HA.out.later HX.out)
          have HBb := Lib.hid (HBb.out.later HX.out)
          have HU4 := Lib.hid (HU4.out.later HX.out)
          have HU5 := Lib.hid h1.sl
          clear h5 HX h1
          go_wp2_with fail
          refine (conflict_any u4 u5 a b w18 (by have := HLA.out; omega) (by have := HLB.out; omega) HOA.out HOB.out HU4.out HU5.out).mono ?_
          rintro e w19 ⟨rfl, h5⟩
          have HX : Hid (Below w18.heap.size w18 w19) := blThen (by repeat (first | with_reducible exact Below.refl _ _ | with_reducible refine blAlloc ?_ _ | with_reducible refine Below.drew ?_)) h5
          have HB_w19 := Lib.hid (blThen HB_w18.out HX.out)
          have HA := Lib.hid (HA.out.later HX.out)
          have HBb := Lib.hid (HBb.out.later HX.out)
          have HU4 := Lib.hid (HU4.out.later HX.out)
          have HU5 := Lib.hid (HU5.out.later HX.out)
          clear h5 HX
          go_wp2_with fail
          refine (rconflict_any va vb a b w19 (by have := HLA.out; omega) (by have := HLB.out; omega) HOA.out HOB.out HA.out HBb.out).mono ?_
          rintro e w20 ⟨rfl, h5⟩
          have HX : Hid (Below w19.heap.size w19 w20) := blThen (by repeat (first | with_reducible exact Below.refl _ _ | with_reducible refine blAlloc ?_ _ | with_reducible refine Below.drew ?_)) h5
          have HB_w20 := Lib.hid (blThen HB_w19.out HX.out)
          have HA := Lib.hid (HA.out.later HX.out)
          have HBb := Lib.hid (HBb.out.later HX.out)
          have HU4 := Lib.hid (HU4.out.later HX.out)
          have HU5 := Lib.hid (HU5.out.later HX.out)
          clear h5 HX
          go_wp2_with fail
          refine (live8_any w20).mono ?_
          rintro e w21 ⟨rfl, h5⟩
          have HX : Hid (Below w20.heap.size w20 w21) := blThen (by repeat (first | with_reducible exact Below.refl _ _ | with_reducible refine blAlloc ?_ _ | with_reducible refine Below.drew ?_)) h5
          have HB_w21 := Lib.hid (blThen HB_w20.out HX.out)
          have HA := Lib.hid (HA.out.later HX.out)
          have HBb := Lib.hid (HBb.out.later HX.out)
          have HU4 := Lib.hid (HU4.out.later HX.out)
          have HU5 := Lib.hid (HU5.out.later HX.out)
          clear h5 HX
          go_wp2
          go_ret
          exact ⟨rfl, HB_w21.out⟩
        · have hcb2 : ((checkP b == 0) = false) := by simpa using hcb
          have hcb3 : ((checkP b != 0) = true) := by simpa using hcb
          go_wp2_with fail
          have h9 := small8_any va (.slice none 0 0) a [] w HMA.out (by decide) HRA.out (fun o ho => by cases ho) HA.out (SlG.nil _)
          rw [HSA.out] at h9
          refine (h9).mono ?_
          rintro e w1 ⟨rfl, h5⟩
          have HX : Hid (Below w.heap.size w w1) := blThen (by repeat (first | with_reducible exact Below.refl _ _ | with_reducible refine blAlloc ?_ _ | with_reducible refine Below.drew ?_)) h5
          have HB_w1 := Lib.hid (HX.out)
          have HA := Lib.hid (HA.out.later HX.out)
          have HBb := Lib.hid (HBb.out.later HX.out)
          clear h5 HX h9
          go_wp2_with fail
          have h9 := small8_any vb (.slice none 0 0) b [] w1 HMB.out (by decide) HRB.out (fun o ho => by cases ho) HBb.out (SlG.nil _)
          rw [HSB.out] at h9
          refine (h9).mono ?_
          rintro e w2 ⟨rfl, h5⟩
          have HX : Hid (Below w1.heap.size w1 w2) := blThen (by repeat (first | with_reducible exact Below.refl _ _ | with_reducible refine blAlloc ?_ _ | with_reducible refine Below.drew ?_)) h5
          have HB_w2 := Lib.hid (blThen HB_w1.out HX.out)
          have HA := Lib.hid (HA.out.later HX.out)
          have HBb := Lib.hid (HBb.out.later HX.out)
          clear h5 HX h9
          go_wp2_with fail
          have h9 := refcheck8_any va a w2 (by have := HLA.out; omega) HA.out HNA.out
          rw [HCA.out] at h9
          refine (h9).mono ?_
          rintro e w3 ⟨rfl, h5⟩
          have HX : Hid (Below w2.heap.size w2 w3) := blThen (by repeat (first | with_reducible exact Below.refl _ _ | with_reducible refine blAlloc ?_ _ | with_reducible refine Below.drew ?_)) h5
          have HB_w3 := Lib.hid (blThen HB_w2.out HX.out)
          have HA := Lib.hid (HA.out.later HX.out)
          have HBb := Lib.hid (HBb.out.later HX.out)
          clear h5 HX h9
          go_wp2_with fail
          have h9 := refcheck8_any vb b w3 (by have := HLB.out; omega) HBb.out HNB.out

          refine (h9).mono ?_
          rintro e w4 ⟨rfl, h5⟩
          have HX : Hid (Below w3.heap.size w3 w4) := blThen (by repeat (first | with_reducible exact Below.refl _ _ | with_reducible refine blAlloc ?_ _ | with_reducible refine Below.drew ?_)) h5
          have HB_w4 := Lib.hid (blThen HB_w3.out HX.out)
          have HA := Lib.hid (HA.out.later HX.out)
          have HBb := Lib.hid (HBb.out.later HX.out)
          clear h5 HX h9
          go_wp2_with fail
          refine (live8_any w4).mono ?_
          rintro e w5 ⟨rfl, h5⟩
          have HX : Hid (Below w4.heap.size w4 w5) := blThen (by repeat (first | with_reducible exact Below.refl _ _ | with_reducible refine blAlloc ?_ _ | with_reducible refine Below.drew ?_)) h5
          have HB_w5 := Lib.hid (blThen HB_w4.out HX.out)
          have HA := Lib.hid (HA.out.later HX.out)
          have HBb := Lib.hid (HBb.out.later HX.out)
          clear h5 HX
          go_wp2
          go_ret
          exact ⟨rfl, HB_w5.out⟩
      · have hca2 : ((checkP a == 0) = false) := by simpa using hca
        have hca3 : ((checkP a != 0) = true) := by simpa using hca
        go_wp2_with fail
        have h9 := small8_any va (.slice none 0 0) a [] w HMA.out (by decide) HRA.out (fun o ho => by cases ho) HA.out (SlG.nil _)
        rw [HSA.out] at h9
        refine (h9).mono ?_
        rintro e w1 ⟨rfl, h5⟩
        have HX : Hid (Below w.heap.size w w1) := blThen (by repeat (first | with_reducible exact Below.refl _ _ | with_reducible refine blAlloc ?_ _ | with_reducible refine Below.drew ?_)) h5
        have HB_w1 := Lib.hid (HX.out)
        have HA := Lib.hid (HA.out.later HX.out)
        have HBb := Lib.hid (HBb.out.later HX.out)
        clear h5 HX h9
        go_wp2_with fail
        have h9 := small8_any vb (.slice none 0 0) b [] w1 HMB.out (by decide) HRB.out (fun o ho => by cases ho) HBb.out (SlG.nil _)
        rw [HSB.out] at h9
        refine (h9).mono ?_
        rintro e w2 ⟨rfl, h5⟩
        have HX : Hid (Below w1.heap.size w1 w2) := blThen (by repeat (first | with_reducible exact Below.refl _ _ | with_reducible refine blAlloc ?_ _ | with_reducible refine Below.drew ?_)) h5
        have HB_w2 := Lib.hid (blThen HB_w1.out HX.out)
        have HA := Lib.hid (HA.out.later HX.out)
        have HBb := Lib.hid (HBb.out.later HX.out)
        clear h5 HX h9
        go_wp2_with fail
        have h9 := refcheck8_any va a w2 (by have := HLA.out; omega) HA.out HNA.out

        refine (h9).mono ?_
        rintro e w3 ⟨rfl, h5⟩
        have HX : Hid (Below w2.heap.size w2 w3) := blThen (by repeat (first | with_reducible exact Below.refl _ _ | with_reducible refine blAlloc ?_ _ | with_reducible refine Below.drew ?_)) h5
        have HB_w3 := Lib.hid (blThen HB_w2.out HX.out)
        have HA := Lib.hid (HA.out.later HX.out)
        have HBb := Lib.hid (HBb.out.later HX.out)
        clear h5 HX h9
        go_wp2_with fail
        refine (live8_any w3).mono ?_
        rintro e w4 ⟨rfl, h5⟩
        have HX : Hid (Below w3.heap.size w3 w4) := blThen (by repeat (first | with_reducible exact Below.refl _ _ | with_reducible refine blAlloc ?_ _ | with_reducible refine Below.drew ?_)) h5
        have HB_w4 := Lib.hid (blThen HB_w3.out HX.out)
        have HA := Lib.hid (HA.out.later HX.out)
        have HBb := Lib.hid (HBb.out.later HX.out)
        clear h5 HX
        go_wp2
        go_ret
        exact ⟨rfl, HB_w4.out⟩

end SP
end Go.Proofs.YtfdkkgjkhamoeaaGreat

/- TxnSpans. Conditions: none. -/
set_option linter.unusedVariables false
namespace Go.Proofs.YtfdkkgjkhamoeaaGreat
open S3 SN
namespace SP
open Go.ChangeShapes Go.WideShapes Go.ChangeAt Go.RowKit Go.Joins Go.Deep

section
variable {H : Type}
theorem inW_le {t : TypeId} {d : DataW H} {k : ByteArray} (h : InW t d k) {ts : List TypeId} {ds : List (DataW H)} (hsz : (DataW.weightsEach Tryz.prog ts ds).all (· ≤ reachBytes) = true) {j : Nat} (ht : ts[j]? = some t) (hd : ds[j]? = some d) : k.size ≤ 140737488355328 := by
  obtain ⟨n, hn, hk⟩ := h
  exact Nat.le_trans hk (reach_of hsz ht hd hn)
end
set_option maxRecDepth 100000 in
theorem txnSpans_lifted (os : Os) (started : os.Started) (H : Type) (enc : TypeId × Value → H) :
    ReturnsInHanded {} Tryz.checked os 4 .any (Rows.txnSpansSpec.pre6 enc Tryz.prog Tryz.f4 Rows.txnSpansRow.domain false) (Rows.txnSpansSpec.post enc Tryz.prog Tryz.f4 false true false false) := by
  refine law_lift_sized (C := Tryz.checked) own0 started (by kernel_rfl) Tryz.func4 laid0 rfl (by kernel_rfl) (fun _ _ _ _ => trodAll_mk1 (shut_bool Tryz.underlying4 true)) (fun ds h => match ds, h with | [_, _], _ => ⟨rfl, rfl, rfl⟩)
    (ChangeSpec.witness6 (enc := enc) (C := Tryz.checked) false ⟨#[], #[.slice none 0 0, .slice none 0 0], []⟩ 8 (by kernel_rfl) (by kernel_rfl) (by kernel_rfl) (by kernel_rfl)) ?_
  intro W base args ds before hval0 hA0 hlt hsz
  have hval : ∀ (j : Nat) t v, Tryz.f4.params[j]? = some t → args[j]? = some v → Value.okWide Tryz.prog W .any base t v := hval0
  have hA : DataW.TrodAll enc Tryz.prog W 0 (fun _ => true) true Tryz.f4.params.toList args.toList ds before := hA0
  rw [Tryz.params4] at hA hval
  obtain ⟨v0, v1, d0, d1, p0, p1, rfl, rfl, rfl, h0, h1⟩ := trodAll_two hA
  obtain ⟨a, ha, hma, ra⟩ := open_ops (hval 0 22 v0 rfl rfl) h0
  obtain ⟨b, hb, hmb, rb⟩ := open_ops (hval 1 22 v1 rfl rfl) h1
  exact txnSpans_walk v0 v1 a b W hma hmb (fun o ho => ⟨inW_le (ra o ho).2.2.1 hsz (j := 0) (by kernel_rfl) rfl, inW_le (ra o ho).2.2.2 hsz (j := 0) (by kernel_rfl) rfl⟩) (fun o ho => ⟨inW_le (rb o ho).2.2.1 hsz (j := 1) (by kernel_rfl) rfl, inW_le (rb o ho).2.2.2 hsz (j := 1) (by kernel_rfl) rfl⟩)
    (fun o ho => (ra o ho).2.1) (fun o ho => (rb o ho).2.1) ha hb

theorem txnSpans_holds : Rows.TxnSpansSaid :=
  OpenClaim.holds_of_wide 4 Tryz.f4 rfl rfl rfl rfl rfl rfl rfl ⟨rfl, rfl, rfl, rfl, rfl⟩ rfl rfl rfl rfl rfl (by kernel_rfl) Tryz.func4 (by kernel_rfl)
    (of_decide_eq_true (by kernel_rfl)) (by unfold Func.isWrapper; rw [if_neg (of_decide_eq_false (by kernel_rfl))]; exact ⟨rfl, rfl⟩)
    (fun os started H enc _ => txnSpans_lifted os started H enc)

#print axioms txnSpans_holds

end SP
end Go.Proofs.YtfdkkgjkhamoeaaGreat
