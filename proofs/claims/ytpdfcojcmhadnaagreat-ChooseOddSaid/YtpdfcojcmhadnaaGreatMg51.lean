/- Small things that the law of stage 12 and its live stand on. Conditions: none. -/
import Derived.Deep.RegionHeld3
import Derived.Test.YtpdfcojcmhadnaaGreatMg50
import Derived.Test.YtpdfcojcmhadnaaGreatMg17
import Derived.Test.YtpdfcojcmhadnaaGreatMg21
import Derived.Test.YtpdfcojcmhadnaaGreatMg04
set_option maxRecDepth 100000
set_option maxHeartbeats 16000000
set_option linter.unusedVariables false
set_option linter.unusedSimpArgs false
namespace Go.Proofs.YtpdfcojcmhadnaaGreat
open S3 SC SN SP
namespace SB
open Go.ChangeShapes Go.WideShapes Go.ChangeAt Go.RowKit Go.Joins Go.Deep
theorem set4B {B : Nat} {X w : World} {b : Nat} {T : TypeId} {c0 c1 c2 c3 u0 u1 u2 u3 : Value} (q : w.heap[b]? = some (.cells #[c0, c1, c2, c3] T (0, 0))) (h : Below B X w) (hb : B ≤ b) :
  B ≤ b ∧ ((((w.setCell ⟨b, 0, none⟩ u0).setCell ⟨b, 1, none⟩ u1).setCell ⟨b, 2, none⟩ u2).setCell ⟨b, 3, none⟩ u3).heap[b]? = some (.cells #[u0, u1, u2, u3] T (0, 0)) ∧ Below B X ((((w.setCell ⟨b, 0, none⟩ u0).setCell ⟨b, 1, none⟩ u1).setCell ⟨b, 2, none⟩ u2).setCell ⟨b, 3, none⟩ u3) :=
 ⟨hb, heap_setCell_same _ _ 3 _ _ _ (heap_setCell_same _ _ 2 _ _ _ (heap_setCell_same _ _ 1 _ _ _ (heap_setCell_same _ _ 0 _ _ _ q))), (((h.setCell (p := ⟨b, 0, none⟩) hb u0).setCell (p := ⟨b, 1, none⟩) hb u1).setCell (p := ⟨b, 2, none⟩) hb u2).setCell (p := ⟨b, 3, none⟩) hb u3⟩
theorem filt_none (l : List Td) : l.filter (fun (_ : Td) => false) = [] := by simp
theorem recover_gone (i1 i2 : Int) (sv : Value) (W : World) :
  Calls Tryz.prog 12 #[sv, .agg #[.int .i64 i1, .int .i64 i2], .slice none 0 0, .slice none 0 0] W fun e w' => e = .returned (.agg #[.int .i64 1, .bool true, .int .i64 0, .int .i64 0, .slice none 0 0, .int .i64 0, .int .i64 0, .slice none 0 0]) ∧ Below W.heap.size W w' := by
 have hl : SlG eT W (.slice none 0 0) [] := SlG.nil W
 obtain ⟨w0, he0, HS0, K5, K8, HB0⟩ := box2B W (.cells #[.int .i64 i1, .int .i64 i2] 24) (.cells #[.int .i64 0, .bool false, .int .i64 0, .int .i64 0, .slice none 0 0, .int .i64 0, .int .i64 0, .slice none 0 0] 44)
 have L5 : Hid (W.heap.size < w0.heap.size) := Lib.hid (by have := HS0.out; omega)
 have L8 : Hid (W.heap.size + 1 < w0.heap.size) := Lib.hid (by have := HS0.out; omega)
 have HSL := Lib.hid hl
 go_enter Tryz.func12, Tryz.ntmps12
 go_upto_region 1 with fail
 rw [← he0]
 clear he0
 go_wp2_with (first
  | go_skip
  | (go_at_call 34; go_must (refine (accept_any true 0 0 none 0 0 w2).mono ?_; rintro e w3 ⟨rfl, h⟩; have K8_3 := row_upB K8_2 L8_2 h; have HB3 := Lib.hid (blThen HB2.out h); clear h))
  | ((with_reducible refine atW w3 ?_); refine store_rowB _ _ _ rfl rfl _ rfl rfl K8_3.out szPlB rfl (by simp [Value.oneCell']) ?_; intro w4 h1 h2; have K8_4 := Lib.hid h1; have HB4 : Hid (Below W.heap.size W w4) := Lib.hid (below_grownB HB3.out h2 (by omega)); clear h1 h2)
  | ((with_reducible refine atC w0 ?_); go_at_call 28; go_must (refine (pickKnows_any (.slice none 0 0) [] w0 (by decide) (HSL.out.later HB0.out)).mono ?_; rintro e w1 ⟨v1, rfl, ho, h⟩; obtain ⟨a1, c1, rfl⟩ := ho.form; simp only [List.filter_nil, List.length_nil]; have K5_1 := row_upB K5 L5 h; have K8_1 := row_upB K8 L8 h; have L5_1 := lt_upB L5 h; have L8_1 := lt_upB L8 h; have HB1 := Lib.hid (blThen HB0.out h); clear ho h))
  | ((with_reducible refine atC w1 ?_); go_at_call 28; go_must (refine (pickHolds_any (.slice none 0 0) [] w1 (by decide) (HSL.out.later HB1.out)).mono ?_; rw [List.filter_nil]; rintro e w2 ⟨v2, rfl, ho, h⟩; obtain ⟨a2, c2, rfl⟩ := ho.form; simp only [List.length_nil]; have K5_2 := row_upB K5_1 L5_1 h; have K8_2 := row_upB K8_1 L8_1 h; have L5_2 := lt_upB L5_1 h; have L8_2 := lt_upB L8_1 h; have HB2 := Lib.hid (blThen HB1.out h); clear ho h)))
 refine bodyPost_ret (results_cell_row Tryz.results12 _ _ _ 44 _ (0, 0) _ rfl K8_4.out Tryz.underlying44 rfl szPlB) rfl ?_
 exact ⟨rfl, HB4.out⟩
theorem recover_bind (i1 i2 : Int) (sa : Option Addr) (sc : Nat) (S : List S4.Sh) (vo : Value) (O : List Opr) (va : Value) (l : List Td) (W : World) (hlen : l.length ≤ 1000) (hl : SlG eT W va l) (hS : S.length ≤ 1000) (hn5 : ∀ s ∈ S, s.nodes.length ≤ 1000000) (ha : S4.Hl W sa S) (hfull : ∀ s ∈ S, fullS s.sp = true)
  (hO : O.length ≤ 1000) (hne : O ≠ []) (hok : ∀ o ∈ O, okB o = true) (ho : SlG eO W vo O) (hf : fastB S i1 i2 (S4.touchL S (allP O)) l = false) :
  Calls Tryz.prog 12 #[.slice sa S.length sc, .agg #[.int .i64 i1, .int .i64 i2], vo, va] W fun e w' => (e = .returned (.agg #[.int .i64 2, .bool false, .int .i64 0, .int .i64 0, .slice none 0 0, .int .i64 (topB l).1, .int .i64 (topB l).2, .slice none 0 0])) ∧ Below W.heap.size W w' := by
 obtain ⟨w0, he0, HS0, K5, K8, HB0⟩ := box2B W (.cells #[.int .i64 i1, .int .i64 i2] 24) (.cells #[.int .i64 0, .bool false, .int .i64 0, .int .i64 0, .slice none 0 0, .int .i64 0, .int .i64 0, .slice none 0 0] 44)
 have L5 : Hid (W.heap.size < w0.heap.size) := Lib.hid (by have := HS0.out; omega)
 have L8 : Hid (W.heap.size + 1 < w0.heap.size) := Lib.hid (by have := HS0.out; omega)
 have HSL := Lib.hid hl
 have HALL : Hid (∀ Y : World, Below W.heap.size W Y → Calls Tryz.prog 38 #[vo] Y (RetO Y (allP O))) := Lib.hid (fun Y hY => tall_any vo O Y hO hok (ho.later hY))
 have HTO : Hid (∀ (Y : World) (xv : Value), Below W.heap.size W Y → Sl Y xv (allP O) → Calls Tryz.prog 37 #[.slice sa S.length sc, xv] Y (S4.RetI Y (S4.touchL S (allP O)))) := Lib.hid (fun Y xv hY hx => S4.touch_any sa sc S xv (allP O) Y (by omega) (by have := all_len O; omega) hfull (all_set O) (ha.later hY) hx)
 have HFA : Hid (∀ (Y : World) (ap : Option Addr) (cp : Nat), Below W.heap.size W Y → S4.Il Y ap cp (S4.touchL S (allP O)) → Calls Tryz.prog 11 #[.slice sa S.length sc, .agg #[.int .i64 i1, .int .i64 i2], .slice ap (S4.touchL S (allP O)).length cp, va] Y (RetF Y i1 i2 false)) := Lib.hid (fun Y ap cp hY hp => by
  have h := fast_any i1 i2 sa sc S ap cp (S4.touchL S (allP O)) va l Y hlen (hl.later hY) hS hn5 (ha.later hY) (Nat.le_trans (S4.ofTo_len _ _) (by omega)) hp
  rw [hf] at h
  exact h)
 obtain ⟨oa, oc, rfl⟩ := ho.form
 have hop : 0 < O.length := List.length_pos_iff.2 hne
 have hn1 : (((O.length : Nat) : Int) == 0) = false := by
  simp only [beq_eq_false_iff_ne, ne_eq]
  omega
 have HTP : Hid (topB l = topB l) := rfl
 clear hl ha ho hf
 generalize S4.touchL S (allP O) = P at *
 generalize allP O = X at *
 generalize O.length = on at *
 go_enter Tryz.func12, Tryz.ntmps12
 go_upto_region 1 with fail
 rw [← he0]
 clear he0
 go_upto_region 10 with (first
  | go_skip
  | ((with_reducible refine atC w0 ?_); go_at_call 28; go_must (refine (pickKnows_any va l w0 hlen (HSL.out.later HB0.out)).mono ?_; rintro e w1 ⟨v1, rfl, ho, h⟩; obtain ⟨a1, c1, rfl⟩ := ho.form; generalize (l.filter (fun x => decide (0 < x.k))).length = n1; have K5_1 := row_upB K5 L5 h; have K8_1 := row_upB K8 L8 h; have L5_1 := lt_upB L5 h; have L8_1 := lt_upB L8 h; have HB1 := Lib.hid (blThen HB0.out h); clear ho h))
  | ((with_reducible refine atC w1 ?_); go_at_call 28; go_must (refine (pickHolds_any va l w1 hlen (HSL.out.later HB1.out)).mono ?_; rw [filt_none]; rintro e w2 ⟨v2, rfl, ho, h⟩; obtain ⟨a2, c2, rfl⟩ := ho.form; simp only [List.length_nil]; have K5_2 := row_upB K5_1 L5_1 h; have K8_2 := row_upB K8_1 L8_1 h; have L5_2 := lt_upB L5_1 h; have L8_2 := lt_upB L8_1 h; have HB2 := Lib.hid (blThen HB1.out h); clear ho h)))
 have HU : Hid (∀ Y : World, Below w2.heap.size w2 Y → Below W.heap.size W Y) := Lib.hid (fun Y hY => blThen HB2.out hY)
 have k5a := cell_rowB K5_2.out 0 _ rfl
 have k5b := cell_rowB K5_2.out 1 _ rfl
 have l5 := L5_2.out
 go_cut [12, 13] from 47 to 56 (fun s12 s13 wx => ∃ b : Nat, s12 = .pointer (some ⟨b, 0, none⟩) ∧ s13 = .bool false ∧ w2.heap.size ≤ b ∧ wx.heap[b]? = some (.cells #[.bool false, .int .i64 0, .int .i64 0, .slice none 0 0] 38 (0, 0)) ∧ Below w2.heap.size w2 wx)
 case first =>
  go_region_law (first
   | ((try go_simp); go_at_call 38; refine (HALL.out _ (HU.out _ (by repeat (first | with_reducible exact Below.refl _ _ | with_reducible refine blAlloc ?_ _ | with_reducible refine Below.drew ?_)))).mono ?_; rintro e w3 ⟨x3, rfl, hx, h⟩; have HX3 := Lib.hid hx.sl; have HB3 : Hid (Below w2.heap.size w2 w3) := Lib.hid (blThen (by repeat (first | with_reducible exact Below.refl _ _ | with_reducible refine blAlloc ?_ _ | with_reducible refine Below.drew ?_)) h); have k5a3 := cell_in HB3.out l5 k5a; have k5b3 := cell_in HB3.out l5 k5b; have l53 := Nat.lt_of_lt_of_le l5 HB3.out.size; (try (have q3 : Hid (w3.heap[w2.heap.size]? = some (.cells #[.bool false, .int .i64 0, .int .i64 0, .slice none 0 0] 38 (0, 0))) := Lib.hid ((h.block w2.heap.size (by simp)).trans (new_blockB w2.drew _ _)))); clear hx h)
   | ((try go_simp); go_at_call 37; refine (HTO.out _ x3 (HU.out _ (by repeat (first | with_reducible exact HB3.out | with_reducible refine blAlloc ?_ _))) (HX3.out.later (by repeat (first | with_reducible exact Below.refl _ _ | with_reducible refine blAlloc ?_ _)))).mono ?_; rintro e w4 ⟨x4, rfl, hx, h⟩; have HX4 := Lib.hid hx; obtain ⟨a4, c4, rfl⟩ := hx.form; have HB4 : Hid (Below w2.heap.size w2 w4) := Lib.hid (blThen (by repeat (first | with_reducible exact HB3.out | with_reducible refine blAlloc ?_ _)) h); have k5a4 := cell_in HB4.out l5 k5a; have k5b4 := cell_in HB4.out l5 k5b; have l54 := Nat.lt_of_lt_of_le l5 HB4.out.size; (first | (have q4 : Hid (w4.heap[w2.heap.size]? = some (.cells #[.bool false, .int .i64 0, .int .i64 0, .slice none 0 0] 38 (0, 0))) := Lib.hid ((h.block _ (lt_of_block q3.out)).trans q3.out)) | (have q4 : Hid (w4.heap[w3.heap.size]? = some (.cells #[.bool false, .int .i64 0, .int .i64 0, .slice none 0 0] 38 (0, 0))) := Lib.hid ((h.block w3.heap.size (by simp)).trans (new_blockB w3 _ _))) | skip); clear hx h)
   | ((try go_simp); go_at_call 11; refine (HFA.out _ a4 c4 (HU.out _ (by repeat (first | with_reducible exact HB4.out | with_reducible refine blAlloc ?_ _))) (HX4.out.at.later (by repeat (first | with_reducible exact Below.refl _ _ | with_reducible refine blAlloc ?_ _)))).mono ?_; rintro e w5 ⟨fa, fn, fc, he, h⟩; subst he; simp only [if_true, if_false, Bool.false_eq_true, reduceIte]; have HB5 : Hid (Below w2.heap.size w2 w5) := Lib.hid (blThen (by repeat (first | with_reducible exact HB4.out | with_reducible refine blAlloc ?_ _)) h); (first | (have q5 := (h.block _ (lt_of_block q4.out)).trans q4.out) | (have q5 : w5.heap[w4.heap.size]? = some (.cells #[.bool false, .int .i64 0, .int .i64 0, .slice none 0 0] 38 (0, 0)) := (h.block w4.heap.size (by simp)).trans (new_blockB w4 _ _)) | skip); (try (have d0 := cell_rowB q5 0 _ rfl; have d1 := cell_rowB q5 1 _ rfl; have d2 := cell_rowB q5 2 _ rfl; have d3 := cell_rowB q5 3 _ rfl; have f0 := frozen_of_row w5 _ 0 _ _ q5; have f1 := frozen_of_row w5 _ 1 _ _ q5; have f2 := frozen_of_row w5 _ 2 _ _ q5; have f3 := frozen_of_row w5 _ 3 _ _ q5)); clear h))
  all_goals
   go_wp2_with fail
   go_meet
   refine ⟨_, rfl, rfl, ?_⟩
   first
    | with_reducible exact ⟨HB5.out.size, new_blockB w5 _ _, blAlloc HB5.out _⟩
    | with_reducible exact set4B q5 HB5.out (Nat.le_refl _)
    | with_reducible exact set4B q5 HB5.out HB3.out.size
    | with_reducible exact set4B q5 HB5.out HB4.out.size
 case rest =>
  obtain ⟨b, e12, e13, hbl, hbr, hbb⟩ := hcut
  rename World => wx
  rw [e12, e13]
  clear e12 e13
  have KB := Lib.hid hbr
  have K8_3 := row_upB K8_2 L8_2 hbb
  have L8_3 := lt_upB L8_2 hbb
  have HB3 := Lib.hid (blThen HB2.out hbb)
  have HSL3 := Lib.hid (HSL.out.later HB3.out)
  clear hbl hbr hbb k5a k5b l5
  go_wp2_with (first
   | go_skip
   | (go_at_call 14; go_must (refine (at_any va l wx hlen HSL3.out).mono ?_; rintro e w6 ⟨rfl, h⟩; have K8_4 := row_upB K8_3 L8_3 h; have HB4 := Lib.hid (blThen HB3.out h); clear h))
   | ((with_reducible refine atW w6 ?_); refine store_rowB _ _ _ rfl rfl _ rfl rfl K8_4.out szPlB rfl (by simp [Value.oneCell']) ?_; intro w7 h1 h2; have K8_5 := Lib.hid h1; have HB5 : Hid (Below W.heap.size W w7) := Lib.hid (below_grownB HB4.out h2 (by omega)); clear h1 h2))
  refine bodyPost_ret (results_cell_row Tryz.results12 _ _ _ 44 _ (0, 0) _ rfl K8_5.out Tryz.underlying44 rfl szPlB) rfl ?_
  exact ⟨rfl, HB5.out⟩

theorem recover_fast (i1 i2 : Int) (sa : Option Addr) (sc : Nat) (S : List S4.Sh) (vo : Value) (O : List Opr) (va : Value) (l : List Td) (W : World) (hlen : l.length ≤ 1000) (hl : SlG eT W va l) (hS : S.length ≤ 1000) (hn5 : ∀ s ∈ S, s.nodes.length ≤ 1000000) (ha : S4.Hl W sa S) (hfull : ∀ s ∈ S, fullS s.sp = true)
  (hO : O.length ≤ 1000) (hne : O ≠ []) (hok : ∀ o ∈ O, okB o = true) (ho : SlG eO W vo O) (hf : fastB S i1 i2 (S4.touchL S (allP O)) l = true) :
  Calls Tryz.prog 12 #[.slice sa S.length sc, .agg #[.int .i64 i1, .int .i64 i2], vo, va] W fun e w' => (∃ (fa : Option Addr) (fn fc : Nat), e = .returned (.agg #[.int .i64 1, .bool false, .int .i64 i1, .int .i64 i2, .slice fa fn fc, .int .i64 0, .int .i64 0, .slice none 0 0])) ∧ Below W.heap.size W w' := by
 obtain ⟨w0, he0, HS0, K5, K8, HB0⟩ := box2B W (.cells #[.int .i64 i1, .int .i64 i2] 24) (.cells #[.int .i64 0, .bool false, .int .i64 0, .int .i64 0, .slice none 0 0, .int .i64 0, .int .i64 0, .slice none 0 0] 44)
 have L5 : Hid (W.heap.size < w0.heap.size) := Lib.hid (by have := HS0.out; omega)
 have L8 : Hid (W.heap.size + 1 < w0.heap.size) := Lib.hid (by have := HS0.out; omega)
 have HSL := Lib.hid hl
 have HALL : Hid (∀ Y : World, Below W.heap.size W Y → Calls Tryz.prog 38 #[vo] Y (RetO Y (allP O))) := Lib.hid (fun Y hY => tall_any vo O Y hO hok (ho.later hY))
 have HTO : Hid (∀ (Y : World) (xv : Value), Below W.heap.size W Y → Sl Y xv (allP O) → Calls Tryz.prog 37 #[.slice sa S.length sc, xv] Y (S4.RetI Y (S4.touchL S (allP O)))) := Lib.hid (fun Y xv hY hx => S4.touch_any sa sc S xv (allP O) Y (by omega) (by have := all_len O; omega) hfull (all_set O) (ha.later hY) hx)
 have HFA : Hid (∀ (Y : World) (ap : Option Addr) (cp : Nat), Below W.heap.size W Y → S4.Il Y ap cp (S4.touchL S (allP O)) → Calls Tryz.prog 11 #[.slice sa S.length sc, .agg #[.int .i64 i1, .int .i64 i2], .slice ap (S4.touchL S (allP O)).length cp, va] Y (RetF Y i1 i2 true)) := Lib.hid (fun Y ap cp hY hp => by
  have h := fast_any i1 i2 sa sc S ap cp (S4.touchL S (allP O)) va l Y hlen (hl.later hY) hS hn5 (ha.later hY) (Nat.le_trans (S4.ofTo_len _ _) (by omega)) hp
  rw [hf] at h
  exact h)
 obtain ⟨oa, oc, rfl⟩ := ho.form
 have hop : 0 < O.length := List.length_pos_iff.2 hne
 have hn1 : (((O.length : Nat) : Int) == 0) = false := by
  simp only [beq_eq_false_iff_ne, ne_eq]
  omega
 have HTP : Hid (topB l = topB l) := rfl
 clear hl ha ho hf
 generalize S4.touchL S (allP O) = P at *
 generalize allP O = X at *
 generalize O.length = on at *
 go_enter Tryz.func12, Tryz.ntmps12
 go_upto_region 1 with fail
 rw [← he0]
 clear he0
 go_upto_region 10 with (first
  | go_skip
  | ((with_reducible refine atC w0 ?_); go_at_call 28; go_must (refine (pickKnows_any va l w0 hlen (HSL.out.later HB0.out)).mono ?_; rintro e w1 ⟨v1, rfl, ho, h⟩; obtain ⟨a1, c1, rfl⟩ := ho.form; generalize (l.filter (fun x => decide (0 < x.k))).length = n1; have K5_1 := row_upB K5 L5 h; have K8_1 := row_upB K8 L8 h; have L5_1 := lt_upB L5 h; have L8_1 := lt_upB L8 h; have HB1 := Lib.hid (blThen HB0.out h); clear ho h))
  | ((with_reducible refine atC w1 ?_); go_at_call 28; go_must (refine (pickHolds_any va l w1 hlen (HSL.out.later HB1.out)).mono ?_; rw [filt_none]; rintro e w2 ⟨v2, rfl, ho, h⟩; obtain ⟨a2, c2, rfl⟩ := ho.form; simp only [List.length_nil]; have K5_2 := row_upB K5_1 L5_1 h; have K8_2 := row_upB K8_1 L8_1 h; have L5_2 := lt_upB L5_1 h; have L8_2 := lt_upB L8_1 h; have HB2 := Lib.hid (blThen HB1.out h); clear ho h)))
 have HU : Hid (∀ Y : World, Below w2.heap.size w2 Y → Below W.heap.size W Y) := Lib.hid (fun Y hY => blThen HB2.out hY)
 have k5a := cell_rowB K5_2.out 0 _ rfl
 have k5b := cell_rowB K5_2.out 1 _ rfl
 have l5 := L5_2.out
 go_cut [12, 13] from 47 to 56 (fun s12 s13 wx => ∃ (b : Nat) (fa : Option Addr) (fn fc : Nat), s12 = .pointer (some ⟨b, 0, none⟩) ∧ s13 = .bool true ∧ w2.heap.size ≤ b ∧ wx.heap[b]? = some (.cells #[.bool false, .int .i64 i1, .int .i64 i2, .slice fa fn fc] 38 (0, 0)) ∧ Below w2.heap.size w2 wx)
 case first =>
  go_region_law (first
   | ((try go_simp); go_at_call 38; refine (HALL.out _ (HU.out _ (by repeat (first | with_reducible exact Below.refl _ _ | with_reducible refine blAlloc ?_ _ | with_reducible refine Below.drew ?_)))).mono ?_; rintro e w3 ⟨x3, rfl, hx, h⟩; have HX3 := Lib.hid hx.sl; have HB3 : Hid (Below w2.heap.size w2 w3) := Lib.hid (blThen (by repeat (first | with_reducible exact Below.refl _ _ | with_reducible refine blAlloc ?_ _ | with_reducible refine Below.drew ?_)) h); have k5a3 := cell_in HB3.out l5 k5a; have k5b3 := cell_in HB3.out l5 k5b; have l53 := Nat.lt_of_lt_of_le l5 HB3.out.size; (try (have q3 : Hid (w3.heap[w2.heap.size]? = some (.cells #[.bool false, .int .i64 0, .int .i64 0, .slice none 0 0] 38 (0, 0))) := Lib.hid ((h.block w2.heap.size (by simp)).trans (new_blockB w2.drew _ _)))); clear hx h)
   | ((try go_simp); go_at_call 37; refine (HTO.out _ x3 (HU.out _ (by repeat (first | with_reducible exact HB3.out | with_reducible refine blAlloc ?_ _))) (HX3.out.later (by repeat (first | with_reducible exact Below.refl _ _ | with_reducible refine blAlloc ?_ _)))).mono ?_; rintro e w4 ⟨x4, rfl, hx, h⟩; have HX4 := Lib.hid hx; obtain ⟨a4, c4, rfl⟩ := hx.form; have HB4 : Hid (Below w2.heap.size w2 w4) := Lib.hid (blThen (by repeat (first | with_reducible exact HB3.out | with_reducible refine blAlloc ?_ _)) h); have k5a4 := cell_in HB4.out l5 k5a; have k5b4 := cell_in HB4.out l5 k5b; have l54 := Nat.lt_of_lt_of_le l5 HB4.out.size; (first | (have q4 : Hid (w4.heap[w2.heap.size]? = some (.cells #[.bool false, .int .i64 0, .int .i64 0, .slice none 0 0] 38 (0, 0))) := Lib.hid ((h.block _ (lt_of_block q3.out)).trans q3.out)) | (have q4 : Hid (w4.heap[w3.heap.size]? = some (.cells #[.bool false, .int .i64 0, .int .i64 0, .slice none 0 0] 38 (0, 0))) := Lib.hid ((h.block w3.heap.size (by simp)).trans (new_blockB w3 _ _))) | skip); clear hx h)
   | ((try go_simp); go_at_call 11; refine (HFA.out _ a4 c4 (HU.out _ (by repeat (first | with_reducible exact HB4.out | with_reducible refine blAlloc ?_ _))) (HX4.out.at.later (by repeat (first | with_reducible exact Below.refl _ _ | with_reducible refine blAlloc ?_ _)))).mono ?_; rintro e w5 ⟨fa, fn, fc, he, h⟩; subst he; simp only [if_true, if_false, Bool.false_eq_true, reduceIte]; have HB5 : Hid (Below w2.heap.size w2 w5) := Lib.hid (blThen (by repeat (first | with_reducible exact HB4.out | with_reducible refine blAlloc ?_ _)) h); (first | (have q5 := (h.block _ (lt_of_block q4.out)).trans q4.out) | (have q5 : w5.heap[w4.heap.size]? = some (.cells #[.bool false, .int .i64 0, .int .i64 0, .slice none 0 0] 38 (0, 0)) := (h.block w4.heap.size (by simp)).trans (new_blockB w4 _ _)) | skip); (try (have d0 := cell_rowB q5 0 _ rfl; have d1 := cell_rowB q5 1 _ rfl; have d2 := cell_rowB q5 2 _ rfl; have d3 := cell_rowB q5 3 _ rfl; have f0 := frozen_of_row w5 _ 0 _ _ q5; have f1 := frozen_of_row w5 _ 1 _ _ q5; have f2 := frozen_of_row w5 _ 2 _ _ q5; have f3 := frozen_of_row w5 _ 3 _ _ q5)); clear h))
  all_goals
   go_wp2_with fail
   go_meet
   refine ⟨_, fa, fn, fc, rfl, rfl, ?_⟩
   first
    | with_reducible exact ⟨HB5.out.size, new_blockB w5 _ _, blAlloc HB5.out _⟩
    | with_reducible exact set4B q5 HB5.out (Nat.le_refl _)
    | with_reducible exact set4B q5 HB5.out HB3.out.size
    | with_reducible exact set4B q5 HB5.out HB4.out.size
 case rest =>
  obtain ⟨b, fa, fn, fc, e12, e13, hbl, hbr, hbb⟩ := hcut
  rename World => wx
  rw [e12, e13]
  clear e12 e13
  have KB := Lib.hid hbr
  have K8_3 := row_upB K8_2 L8_2 hbb
  have L8_3 := lt_upB L8_2 hbb
  have HB3 := Lib.hid (blThen HB2.out hbb)
  have HSL3 := Lib.hid (HSL.out.later HB3.out)
  clear hbl hbr hbb k5a k5b l5
  go_wp2_with (first
   | go_skip
   | ((with_reducible refine atW wx ?_); refine wpList_load_part _ _ rfl (by rfl) _ 0 rfl KB.out Tryz.underlying38 rfl #[.bool false, .int .i64 i1, .int .i64 i2, .slice fa fn fc] (by kernel_rfl) all_atB ?_)
   | (go_at_call 34; go_must (refine (accept_any false i1 i2 fa fn fc wx).mono ?_; rintro e w6 ⟨rfl, h⟩; have K8_4 := row_upB K8_3 L8_3 h; have HB4 := Lib.hid (blThen HB3.out h); clear h))
   | ((with_reducible refine atW w6 ?_); refine store_rowB _ _ _ rfl rfl _ rfl rfl K8_4.out szPlB rfl (by simp [Value.oneCell']) ?_; intro w7 h1 h2; have K8_5 := Lib.hid h1; have HB5 : Hid (Below W.heap.size W w7) := Lib.hid (below_grownB HB4.out h2 (by omega)); clear h1 h2))
  refine bodyPost_ret (results_cell_row Tryz.results12 _ _ _ 44 _ (0, 0) _ rfl K8_5.out Tryz.underlying44 rfl szPlB) rfl ?_
  exact ⟨⟨fa, fn, fc, rfl⟩, HB5.out⟩

theorem step_GB {α : Type} {E : Enc α} {T : TypeId} {ops : Array Oper} {w : World} {o : Oper} {a : Act} {K : Act → World → Prop} {Q : Exit → Act → World → Prop} {F : Prop} (S : TypeId) (zv : Value) (bytes : Nat)
  (hinfo : (Tryz.prog.info? T).map (fun i => (i.zero, i.size, i.bytes)) = some (some zv, E.K, bytes)) (hund : Tryz.prog.underlying S = some (.slice T)) (hzc : zv.cells.size = E.K) (hbytes : bytes ≤ 1000) (hg : o.guard = none) (s x : Operand)
  (ho : o.op = .call { callee := .builtin .append, args := #[s, x], argTypes := #[S, S] })
  (base : Nat) {v : Value} {d : List α} (hs : a.eval s = v) (hown : OwnG E T w base v d) {xv : Value} {l : List α} (hx : a.eval x = xv) (hsl : SlG E w xv l)
  (hlen : d.length + l.length ≤ 4000000) (hbase : base ≤ w.heap.size)
  (h : ∀ v' w', OwnG E T w' base v' (d ++ l) → w.grownBy w' v.ownBlock → K (a.put o.dst v') w') : if Region.wanted o (yielded ops a.tmps) = true then Oper.wp Tryz.prog o a w K Q else F := by
 have hw : Region.wanted o (yielded ops a.tmps) = true := by simp [Region.wanted, hg]
 rw [if_pos hw]
 obtain ⟨i0, hi, hz0, hz1, hz2⟩ := info_parts hinfo
 obtain ⟨ad, cap, rfl, hn, hr⟩ := hsl
 cases ad with
 | none =>
  obtain rfl : cap = 0 := hn rfl
  obtain rfl : l = [] := by
   apply Classical.byContradiction
   intro hne
   obtain ⟨_, _, h, _⟩ := hr hne
   cases h
  have hrun := run_append_owned_none (P := Tryz.prog) (w := w) base S o.type T i0 E.K hund hi v d.length (cellsG E d) hown
  unfold Oper.wp
  simp [execOp, ho, resolve, invoke, builtin, hs, hx, hrun, Result.andThen]
  exact (h v w (by rw [List.append_nil]; exact hown) ⟨rfl, rfl, rfl, Nat.le_refl _, fun _ _ _ => rfl⟩)
 | some ad =>
  have hc : ∀ (j : Nat) (u : Value), (cellsG E l)[j]? = some u → w.cell? (ad.add j) = some u := by
   intro j u hj
   have hne : l ≠ [] := by rintro rfl; simp [cellsG] at hj
   obtain ⟨g, o', ha, _, hrow⟩ := hr hne
   simp only [Option.some.injEq] at ha
   subst ha
   exact hrow.cells j u hj
  have hb2 : (d.length + l.length) * bytes ≤ 4000000 * 1000 := Nat.mul_le_mul hlen hbytes
  refine wp_append_own w s x S ho base T i0 zv E.K bytes hund hi hz0 hz1 hz2 hzc E.pos v d.length (cellsG E d) hs hown ad l.length cap (cellsG E l) hx (cellsG_length l) hc (cellsG_one l) (by unfold maxLen; omega) (by omega) hbase fun v' w' h2 h3 _ => ?_
  refine h v' w' ?_ h3
  show w'.ownsRow base _ E.K v' _ _
  rw [List.length_append, cellsG_append]
  exact h2
theorem list_GB {α : Type} (E : Enc α) {Y : World} {b : Nat} {cs : Array Value} {t : TypeId} (l : List α) (hb : Y.heap[b]? = some (.cells cs t (0, 0))) (hcs : cs = (cellsG E l).toArray) (k : Nat) (hk : l.length = k) : SlG E Y (.slice (some ⟨b, 0, none⟩) k k) l := by
 subst hcs
 subst hk
 refine ⟨_, _, rfl, fun h => (by cases h), fun _ => ⟨b, 0, rfl, lt_of_block hb, fun i y hi j u hu => ?_⟩⟩
 have e := cellsG_at l i y hi j (enc_lt hu)
 rw [hu] at e
 simp only [World.cell?, hb]
 simpa using e
theorem wp_store_rowB {w : World} {o : Oper} {a : Act} {K : Act → World → Prop} {Q : Exit → Act → World → Prop} (ty : TypeId) (x y : Operand) (ho : o.op = .store ty x y) (g : Nat) (hx : a.eval x = .pointer (some ⟨g, 0, none⟩)) {cells : Array Value} (hy : a.eval y = .agg cells) {old : Array Value} {T : TypeId}
  (hg : w.heap[g]? = some (.cells old T (0, 0))) (hi : (Tryz.prog.info? ty).map (·.size) = some cells.size) (hold : old.size = cells.size) (h1 : cells.all (·.oneCell') = true)
  (h : ∀ w', w'.heap[g]? = some (.cells cells T (0, 0)) → w.grownBy w' (some g) → K (a.put o.dst undef) w') : o.wp Tryz.prog a w K Q :=
 wp_store_row ty x y ho g cells hx hy T old hg hi hold h1 (h _ (setRow_heap w g old cells _ _ hg) ⟨rfl, rfl, rfl, by simp, fun j hj hne => setRow_other w g j cells (fun e => hne (by rw [e]))⟩)
theorem ite_yesB {c : Prop} [Decidable c] {A B : Prop} (h : c) (x : A) : if c then A else B := by rw [if_pos h]; exact x
theorem yields_rowB {P : Program} {ops : Array Oper} {S : World → Prop} {op : Oper} {a : Act} (hw : Region.wanted op (yielded ops a.tmps) = true) (ty : TypeId) (x : Operand) (ho : op.op = .load ty x)
  (b o : Nat) (hx : a.eval x = .pointer (some ⟨b, o, none⟩)) {C : Array Value} {T : TypeId} {fr : Nat × Nat} (hS : ∀ w, S w → w.heap[b]? = some (.cells C T fr)) {d : TypeDesc} (hu : P.underlying ty = some d) (hd : d.isRow = true) (cs : Array Value) (hi : (P.info? ty).map (·.size) = some cs.toList.length) (hcs : ∀ j v, cs.toList[j]? = some v → C[o + j]? = some v) : YieldsIf P ops S op (.agg cs) a := by
 have := yieldsIf_load_mid (P := P) (ops := ops) (S := S) hw ty x ho b o hx cs.toList d (fun w hw => range_part (hS w hw) o cs.toList hcs) hu hd hi
 rwa [Array.toArray_toList] at this
def opB : Opr := (1, ⟨#[97]⟩, ⟨#[]⟩, 0)
theorem opB_ok : okB opB = true := by decide +kernel
theorem get_op (w : World) : Calls Tryz.prog 20 #[] w fun e w' => ∃ b, e = .returned (.slice (some ⟨b, 0, none⟩) 1 1) ∧ SlG eO w' (.slice (some ⟨b, 0, none⟩) 1 1) [opB] ∧ Below w.heap.size w w' := by
 go_enter Tryz.func20, Tryz.ntmps20
 go_wp2
 go_ret
 exact ⟨w.heap.size, rfl, list_GB eO [opB] (new_blockB w _ _) rfl 1 rfl, blAlloc (Below.refl _ _) _⟩
def shB (A : Nat) : List S4.Sh := [⟨(⟨#[]⟩, ⟨#[]⟩), some ⟨A, 0, none⟩, 3, [1, 2, 3]⟩]
theorem sh_hl {Y : World} {A B : Nat} (ha : Y.heap[A]? = some (.cells #[.int .i64 1, .int .i64 2, .int .i64 3] 3 (0, 0))) (hb : Y.heap[B]? = some (.cells #[.string ⟨#[]⟩, .string ⟨#[]⟩, .slice (some ⟨A, 0, none⟩) 3 3] 59 (0, 0))) : S4.Hl Y (some ⟨B, 0, none⟩) (shB A) := by
 refine ⟨fun s hs => ?_, fun _ => ⟨B, 0, rfl, lt_of_block hb, fun i s hi => ?_⟩⟩
 ·simp only [shB, List.mem_cons, List.not_mem_nil, or_false] at hs
  subst hs
  exact S4.il_row ha rfl 3
 ·match i, hi with
  | 0, hi =>
   simp only [shB, List.getElem?_cons_zero, Option.some.injEq] at hi
   subst hi
   exact ⟨cell_rowB hb 0 _ rfl, cell_rowB hb 1 _ rfl, cell_rowB hb 2 _ rfl⟩
  | i + 1, hi => simp [shB] at hi
def xB : List Td := [⟨1, none, 0, 0, (3, 1), true⟩, ⟨2, none, 0, 0, (3, 1), true⟩]
def lateB : Td := ⟨3, none, 0, 0, (9, 2), true⟩
theorem live_fast (A : Nat) : fastB (shB A) 3 1 [0] xB = true := by
 have h : fastB (shB 0) 3 1 [0] xB = true := by decide +kernel
 exact h
theorem live_rec (A : Nat) : fastB (shB A) 3 1 (S4.touchL (shB A) (allP [opB])) xB = true := by
 have h : fastB (shB 0) 3 1 (S4.touchL (shB 0) (allP [opB])) xB = true := by decide +kernel
 exact h
theorem live_bind (A : Nat) : fastB (shB A) 3 1 (S4.touchL (shB A) (allP [opB])) (xB ++ [lateB]) = false := by
 have h : fastB (shB 0) 3 1 (S4.touchL (shB 0) (allP [opB])) (xB ++ [lateB]) = false := by decide +kernel
 exact h
theorem live_top : topB (xB ++ [lateB]) = (9, 2) := by decide +kernel
theorem sh_n5 (A : Nat) : ∀ s ∈ shB A, s.nodes.length ≤ 1000000 := fun s hs => by
 simp only [shB, List.mem_cons, List.not_mem_nil, or_false] at hs
 subst hs
 show (3 : Nat) ≤ 1000000
 decide
theorem sh_full (A : Nat) : ∀ s ∈ shB A, fullS s.sp = true := fun s hs => by
 simp only [shB, List.mem_cons, List.not_mem_nil, or_false] at hs
 subst hs
 show fullS (⟨#[]⟩, ⟨#[]⟩) = true
 decide +kernel
end SB
end Go.Proofs.YtpdfcojcmhadnaaGreat
