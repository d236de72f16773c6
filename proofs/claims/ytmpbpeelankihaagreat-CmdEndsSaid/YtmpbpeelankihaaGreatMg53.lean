/- CmdEnds. Conditions: none. -/
import Derived.Deep.DeepCutAuto
import Derived.Deep.RegionHeld3
import Derived.WalkSpells
import Derived.SizedLaws
import Derived.Test.YtmpbpeelankihaaGreatMg52
import Derived.Test.YtmpbpeelankihaaGreatMg49
import Derived.Test.YtmpbpeelankihaaGreatMg43
import Derived.Test.YtmpbpeelankihaaGreatMg48
import Derived.Test.YtmpbpeelankihaaGreatMg13
set_option maxRecDepth 100000
set_option maxHeartbeats 16000000
set_option linter.unusedVariables false
set_option linter.unusedSimpArgs false
namespace Go.Proofs.YtmpbpeelankihaaGreat
open S3 SN SP
namespace SC
open Go.ChangeShapes Go.WideShapes Go.ChangeAt Go.RowKit Go.Joins Go.Deep
theorem all_len9 {F : List SD.Dp} (h : FewV (SD.toD F)) : (SD.allD (SD.toD F)).length ≤ 100000 := by
 have h1 := S1.sortL_length ((SD.toD F).flatMap fun x => x.2)
 have h2 : ((SD.toD F).flatMap fun x => x.2).length = SD.idsN (SD.toD F) := by rw [List.length_flatMap]; rfl
 have h3 := h.2
 show (S1.sortL _).length ≤ _
 omega
theorem few_ends (id : Stp) {ops : List Opr} {v : Vlu} {ws : List Wrt} {ps : Al Nat} (ho : ops.length ≤ 20000) (hv : FewV v.2.2) (hw : ws.length ≤ 20000) (hp : ps.length ≤ 20000) : FewC (e9E id ops v ws ps) := ⟨ho, ⟨show ([] : SD.Dd).length ≤ 20000 by decide, show SD.idsN [] ≤ 100000 by decide⟩, hv, hw, hp⟩
theorem few_ends2 (id : Stp) {ops : List Opr} {v : Vlu} (ho : ops.length ≤ 20000) (hv : FewV v.2.2) : FewC (d9E id ops v) := ⟨ho, ⟨show ([] : SD.Dd).length ≤ 20000 by decide, show SD.idsN [] ≤ 100000 by decide⟩, hv, show ([] : List Wrt).length ≤ 20000 by decide, show ([] : Al Nat).length ≤ 20000 by decide⟩
theorem few_new9 (id : Stp) : FewC (newC id) := few_cB id z2
theorem len_reach9 {H : Type} {enc : TypeId × Value → H} {t e : TypeId} {w : World} {a : Option Addr} {n c : Nat} {d : DataW H} {p : List MemPlace} (hu : Tryz.prog.underlying t = some (.slice e)) (hb : 0 < Tryz.prog.bytesOf e) (h : DataW.Trod enc Tryz.prog w 0 (fun _ => true) true t (.slice a n c) d p)
  {ts : List TypeId} {ds : List (DataW H)} (hsz : (DataW.weightsEach Tryz.prog ts ds).all (· ≤ reachBytes) = true) {j : Nat} (ht : ts[j]? = some t) (hd : ds[j]? = some d) : n ≤ 140737488355328 := by
 obtain ⟨fuel, hf⟩ := h
 have hf' : DataW.trod enc Tryz.prog w 0 (fun _ => true) true fuel t [.slice a n c] = some (d, p) := by simpa [Value.cells] using hf
 rcases open_slice hu hf' with ⟨hcs, _⟩ | ⟨a, len, cap, m, k, D, Pl, hcs, _, hl, hm, hmm, hx, hi⟩
 ·simp only [List.cons.injEq, Value.slice.injEq, and_true] at hcs
  omega
 ·simp only [List.cons.injEq, Value.slice.injEq, and_true] at hcs
  obtain ⟨rfl, rfl, rfl⟩ := hcs
  have hx1 := congrArg Prod.fst hx
  simp only at hx1
  have h1 : (n + (m - n)) * Tryz.prog.bytesOf e ∈ d.weights Tryz.prog t := by
   rw [hx1]
   simp only [DataW.weights, hu, List.length_map, List.length_range]
   exact List.mem_cons_self
  have h2 := reach_of hsz ht hd h1
  have h3 : n * 1 ≤ (n + (m - n)) * Tryz.prog.bytesOf e := Nat.mul_le_mul (by omega) hb
  omega
theorem bytesWr9 : 0 < Tryz.prog.bytesOf 101 := of_decide_eq_true (by kernel_rfl)
theorem bytesPr9 : 0 < Tryz.prog.bytesOf 103 := of_decide_eq_true (by kernel_rfl)
theorem cmdEnds_walk (id b : Stp) (vo vw vp : Value) (o : List Opr) (g : Bool) (t : Stp) (da : Option Addr) (dc : Nat) (F : List SD.Dp) (ws : List Wrt) (ps : Al Nat) (W : World) (hmo : o.length ≤ 9223372036854775807) (hno : ∀ x ∈ o, x.2.2.2 < 18446744073709551616) (hao : SlG eO W vo o) (hmd : F.length ≤ 9223372036854775807) (hid : ∀ s ∈ F, s.ids.length ≤ 140737488355328) (hd : SD.Dl W da F) (hdn : da = none → dc = 0)
  (hlw : ws.length ≤ 140737488355328) (hnw : ∀ x ∈ ws, x.2.1 < 18446744073709551616) (haw : SlG eW W vw ws) (hlp : ps.length ≤ 140737488355328) (hnp : ∀ x ∈ ps, x.2 < 18446744073709551616) (hap : SlG eP W vp ps) :
  Calls Tryz.prog 7 #[.agg #[.int .i64 id.1, .int .i64 id.2], vo, .agg #[.bool g, .int .i64 t.1, .int .i64 t.2, .slice da F.length dc], vw, vp, .agg #[.int .i64 b.1, .int .i64 b.2]] W fun e w' => e = .returned (.bool true) ∧ Below W.heap.size W w' := by
 obtain ⟨i1, i2⟩ := id
 obtain ⟨b1, b2⟩ := b
 obtain ⟨t1, t2⟩ := t
 obtain ⟨oa, oc, rfl⟩ := hao.form
 obtain ⟨wa, wc, rfl⟩ := haw.form
 obtain ⟨pa, pc, rfl⟩ := hap.form
 have HMo := hH hmo
 have HNo := hH hno
 have HMd := hH hmd
 have HID := hH hid
 have HDN := hH hdn
 have HLW := hH hlw
 have HLP := hH hlp
 have HMw : Hid (ws.length ≤ 9223372036854775807) := hH (by omega)
 have HMp : Hid (ps.length ≤ 9223372036854775807) := hH (by omega)
 have HNw := hH hnw
 have HNp := hH hnp
 have HAo_0 := hH (hao.later (show Below W.heap.size W (((W.alloc (.cells #[.int .i64 i1, .int .i64 i2] 23)).alloc (.cells #[.bool g, .int .i64 t1, .int .i64 t2, .slice da F.length dc] 27)).alloc (.cells #[.int .i64 b1, .int .i64 b2] 23)) from (blAlloc (blAlloc (blAlloc (Below.refl _ _) _) _) _)))
 have HD_0 := hH (hd.later (show Below W.heap.size W (((W.alloc (.cells #[.int .i64 i1, .int .i64 i2] 23)).alloc (.cells #[.bool g, .int .i64 t1, .int .i64 t2, .slice da F.length dc] 27)).alloc (.cells #[.int .i64 b1, .int .i64 b2] 23)) from (blAlloc (blAlloc (blAlloc (Below.refl _ _) _) _) _)))
 have HAw_0 := hH (haw.later (show Below W.heap.size W (((W.alloc (.cells #[.int .i64 i1, .int .i64 i2] 23)).alloc (.cells #[.bool g, .int .i64 t1, .int .i64 t2, .slice da F.length dc] 27)).alloc (.cells #[.int .i64 b1, .int .i64 b2] 23)) from (blAlloc (blAlloc (blAlloc (Below.refl _ _) _) _) _)))
 have HAp_0 := hH (hap.later (show Below W.heap.size W (((W.alloc (.cells #[.int .i64 i1, .int .i64 i2] 23)).alloc (.cells #[.bool g, .int .i64 t1, .int .i64 t2, .slice da F.length dc] 27)).alloc (.cells #[.int .i64 b1, .int .i64 b2] 23)) from (blAlloc (blAlloc (blAlloc (Below.refl _ _) _) _) _)))
 clear hmo hno hao hmd hid hd hdn hlw hnw haw hlp hnp hap
 simp only
 have HN := hH (fun i o (h : ([(.cells #[.int .i64 i1, .int .i64 i2] 23), (.cells #[.bool g, .int .i64 t1, .int .i64 t2, .slice da F.length dc] 27), (.cells #[.int .i64 b1, .int .i64 b2] 23)] : List Obj)[i]? = some o) => nth_box W [(.cells #[.int .i64 i1, .int .i64 i2] 23), (.cells #[.bool g, .int .i64 t1, .int .i64 t2, .slice da F.length dc] 27), (.cells #[.int .i64 b1, .int .i64 b2] 23)] i o h)
 have HSZ : Hid (W.heap.size + 3 = (((W.alloc (.cells #[.int .i64 i1, .int .i64 i2] 23)).alloc (.cells #[.bool g, .int .i64 t1, .int .i64 t2, .slice da F.length dc] 27)).alloc (.cells #[.int .i64 b1, .int .i64 b2] 23)).heap.size) := hH (HN.out 0 _ rfl).2
 have Ki_0 : Hid ((((W.alloc (.cells #[.int .i64 i1, .int .i64 i2] 23)).alloc (.cells #[.bool g, .int .i64 t1, .int .i64 t2, .slice da F.length dc] 27)).alloc (.cells #[.int .i64 b1, .int .i64 b2] 23)).heap[W.heap.size]? = some (.cells #[.int .i64 i1, .int .i64 i2] 23 (0, 0))) := hH (HN.out 0 _ rfl).1
 have Li_0 : Hid (W.heap.size < (((W.alloc (.cells #[.int .i64 i1, .int .i64 i2] 23)).alloc (.cells #[.bool g, .int .i64 t1, .int .i64 t2, .slice da F.length dc] 27)).alloc (.cells #[.int .i64 b1, .int .i64 b2] 23)).heap.size) := hH (by have := HSZ.out; omega)
 have Kv_0 : Hid ((((W.alloc (.cells #[.int .i64 i1, .int .i64 i2] 23)).alloc (.cells #[.bool g, .int .i64 t1, .int .i64 t2, .slice da F.length dc] 27)).alloc (.cells #[.int .i64 b1, .int .i64 b2] 23)).heap[(W.heap.size + 1)]? = some (.cells #[.bool g, .int .i64 t1, .int .i64 t2, .slice da F.length dc] 27 (0, 0))) := hH (HN.out 1 _ rfl).1
 have Lv_0 : Hid ((W.heap.size + 1) < (((W.alloc (.cells #[.int .i64 i1, .int .i64 i2] 23)).alloc (.cells #[.bool g, .int .i64 t1, .int .i64 t2, .slice da F.length dc] 27)).alloc (.cells #[.int .i64 b1, .int .i64 b2] 23)).heap.size) := hH (by have := HSZ.out; omega)
 have Kb_0 : Hid ((((W.alloc (.cells #[.int .i64 i1, .int .i64 i2] 23)).alloc (.cells #[.bool g, .int .i64 t1, .int .i64 t2, .slice da F.length dc] 27)).alloc (.cells #[.int .i64 b1, .int .i64 b2] 23)).heap[(W.heap.size + 2)]? = some (.cells #[.int .i64 b1, .int .i64 b2] 23 (0, 0))) := hH (HN.out 2 _ rfl).1
 have Lb_0 : Hid ((W.heap.size + 2) < (((W.alloc (.cells #[.int .i64 i1, .int .i64 i2] 23)).alloc (.cells #[.bool g, .int .i64 t1, .int .i64 t2, .slice da F.length dc] 27)).alloc (.cells #[.int .i64 b1, .int .i64 b2] 23)).heap.size) := hH (by have := HSZ.out; omega)
 have HB_0 : Hid (Below W.heap.size W (((W.alloc (.cells #[.int .i64 i1, .int .i64 i2] 23)).alloc (.cells #[.bool g, .int .i64 t1, .int .i64 t2, .slice da F.length dc] 27)).alloc (.cells #[.int .i64 b1, .int .i64 b2] 23))) := hH (blAlloc (blAlloc (blAlloc (Below.refl _ _) _) _) _)
 clear HN
 go_enter Tryz.func7, Tryz.ntmps7
 go_upto_region 1 with fail
 generalize (((W.alloc (.cells #[.int .i64 i1, .int .i64 i2] 23)).alloc (.cells #[.bool g, .int .i64 t1, .int .i64 t2, .slice da F.length dc] 27)).alloc (.cells #[.int .i64 b1, .int .i64 b2] 23)) = w0 at *
 have hsz0 : W.heap.size + 3 ≤ w0.heap.size := Nat.le_of_eq HSZ.out
 clear HSZ
 go_wp2_with (first | go_skip | ((with_reducible refine atW w0 ?_); refine wpList_load_part _ _ rfl (by rfl) _ 0 rfl Ki_0.out Tryz.underlying23 rfl #[.int .i64 i1, .int .i64 i2] (by kernel_rfl) (two_at rfl rfl) ?_))
 cases hc : S1.isS (i1, i2)
 ·go_wp2_with (first | go_skip | ((with_reducible refine atC w1 ?_); go_at_call 14; go_must (refine (live9_any w1).mono ?_; rintro e w2 ⟨rfl, h5⟩; have HB_2 : Hid (Below W.heap.size W w2) := hH (blThen HB_1.out h5); have Ki_2 := row_up Ki_1 Li_1 h5; have Li_2 := lt_up Li_1 h5; have Kv_2 := row_up Kv_1 Lv_1 h5; have Lv_2 := lt_up Lv_1 h5; have Kb_2 := row_up Kb_1 Lb_1 h5; have Lb_2 := lt_up Lb_1 h5; have HAo_2 := hH (HAo_1.out.later h5); have HD_2 := hH (HD_1.out.later h5); have HAw_2 := hH (HAw_1.out.later h5); have HAp_2 := hH (HAp_1.out.later h5); clear h5)) | ((with_reducible refine atC w0 ?_); go_at_call 28; go_must (refine (S1.is_any i1 i2 w0).mono ?_; rw [hc]; rintro e w1 ⟨rfl, h5⟩; have h5 := below_grow (Below.refl _ _) h5; have HB_1 : Hid (Below W.heap.size W w1) := hH (blThen HB_0.out h5); have Ki_1 := row_up Ki_0 Li_0 h5; have Li_1 := lt_up Li_0 h5; have Kv_1 := row_up Kv_0 Lv_0 h5; have Lv_1 := lt_up Lv_0 h5; have Kb_1 := row_up Kb_0 Lb_0 h5; have Lb_1 := lt_up Lb_0 h5; have HAo_1 := hH (HAo_0.out.later h5); have HD_1 := hH (HD_0.out.later h5); have HAw_1 := hH (HAw_0.out.later h5); have HAp_1 := hH (HAp_0.out.later h5); clear h5)))
  go_ret
  exact ⟨rfl, HB_2.out⟩
 ·have HIS := hH hc
  clear hc
  go_wp2_with (first | go_skip | ((with_reducible refine atC w0 ?_); go_at_call 28; go_must (refine (S1.is_any i1 i2 w0).mono ?_; rw [HIS.out]; rintro e w1 ⟨rfl, h5⟩; have h5 := below_grow (Below.refl _ _) h5; have HB_1 : Hid (Below W.heap.size W w1) := hH (blThen HB_0.out h5); have Ki_1 := row_up Ki_0 Li_0 h5; have Li_1 := lt_up Li_0 h5; have Kv_1 := row_up Kv_0 Lv_0 h5; have Lv_1 := lt_up Lv_0 h5; have Kb_1 := row_up Kb_0 Lb_0 h5; have Lb_1 := lt_up Lb_0 h5; have HAo_1 := hH (HAo_0.out.later h5); have HD_1 := hH (HD_0.out.later h5); have HAw_1 := hH (HAw_0.out.later h5); have HAp_1 := hH (HAp_0.out.later h5); clear h5)))
  by_cases hc : checkP o = 0
  rotate_left
  ·have hb : ((checkP o == 0) = false) := by simpa using hc
   have hd : ((checkP o != 0) = true) := by simpa using hc
   go_wp2_with (first | go_skip | ((with_reducible refine atC w2 ?_); go_at_call 14; go_must (refine (live9_any w2).mono ?_; rintro e w3 ⟨rfl, h5⟩; have HB_3 : Hid (Below W.heap.size W w3) := hH (blThen HB_2.out h5); have Ki_3 := row_up Ki_2 Li_2 h5; have Li_3 := lt_up Li_2 h5; have Kv_3 := row_up Kv_2 Lv_2 h5; have Lv_3 := lt_up Lv_2 h5; have Kb_3 := row_up Kb_2 Lb_2 h5; have Lb_3 := lt_up Lb_2 h5; have HAo_3 := hH (HAo_2.out.later h5); have HD_3 := hH (HD_2.out.later h5); have HAw_3 := hH (HAw_2.out.later h5); have HAp_3 := hH (HAp_2.out.later h5); clear h5)) | ((with_reducible refine atC w1 ?_); go_at_call 41; go_must (refine (refcheck8w_any _ o w1 HMo.out HAo_1.out HNo.out).mono ?_; rintro e w2 ⟨rfl, h5⟩; have HB_2 : Hid (Below W.heap.size W w2) := hH (blThen HB_1.out h5); have Ki_2 := row_up Ki_1 Li_1 h5; have Li_2 := lt_up Li_1 h5; have Kv_2 := row_up Kv_1 Lv_1 h5; have Lv_2 := lt_up Lv_1 h5; have Kb_2 := row_up Kb_1 Lb_1 h5; have Lb_2 := lt_up Lb_1 h5; have HAo_2 := hH (HAo_1.out.later h5); have HD_2 := hH (HD_1.out.later h5); have HAw_2 := hH (HAw_1.out.later h5); have HAp_2 := hH (HAp_1.out.later h5); clear h5)))
   go_ret
   exact ⟨rfl, HB_3.out⟩
  ·have HCO := hH hc
   clear hc
   go_wp2_with (first | go_skip | ((with_reducible refine atW w2 ?_); refine wpList_load_part _ _ rfl (by rfl) _ 0 rfl Kv_2.out Tryz.underlying27 rfl #[.bool g, .int .i64 t1, .int .i64 t2, .slice da F.length dc] (by kernel_rfl) (four_at rfl rfl rfl rfl) ?_) | ((with_reducible refine atC w1 ?_); go_at_call 41; go_must (refine (refcheck8w_any _ o w1 HMo.out HAo_1.out HNo.out).mono ?_; rw [HCO.out]; rintro e w2 ⟨rfl, h5⟩; have HB_2 : Hid (Below W.heap.size W w2) := hH (blThen HB_1.out h5); have Ki_2 := row_up Ki_1 Li_1 h5; have Li_2 := lt_up Li_1 h5; have Kv_2 := row_up Kv_1 Lv_1 h5; have Lv_2 := lt_up Lv_1 h5; have Kb_2 := row_up Kb_1 Lb_1 h5; have Lb_2 := lt_up Lb_1 h5; have HAo_2 := hH (HAo_1.out.later h5); have HD_2 := hH (HD_1.out.later h5); have HAw_2 := hH (HAw_1.out.later h5); have HAp_2 := hH (HAp_1.out.later h5); clear h5)))
   cases hc : valueB (g, (t1, t2), SD.toD F)
   ·go_wp2_with (first | go_skip | ((with_reducible refine atC w3 ?_); go_at_call 14; go_must (refine (live9_any w3).mono ?_; rintro e w4 ⟨rfl, h5⟩; have HB_4 : Hid (Below W.heap.size W w4) := hH (blThen HB_3.out h5); have Ki_4 := row_up Ki_3 Li_3 h5; have Li_4 := lt_up Li_3 h5; have Kv_4 := row_up Kv_3 Lv_3 h5; have Lv_4 := lt_up Lv_3 h5; have Kb_4 := row_up Kb_3 Lb_3 h5; have Lb_4 := lt_up Lb_3 h5; have HAo_4 := hH (HAo_3.out.later h5); have HD_4 := hH (HD_3.out.later h5); have HAw_4 := hH (HAw_3.out.later h5); have HAp_4 := hH (HAp_3.out.later h5); clear h5)) | ((with_reducible refine atC w2 ?_); go_at_call 36; go_must (refine (rvalue9w_any (g, (t1, t2), SD.toD F) da dc F w2 HMd.out HID.out HD_2.out rfl).mono ?_; rw [hc]; rintro e w3 ⟨rfl, h5⟩; have HB_3 : Hid (Below W.heap.size W w3) := hH (blThen HB_2.out h5); have Ki_3 := row_up Ki_2 Li_2 h5; have Li_3 := lt_up Li_2 h5; have Kv_3 := row_up Kv_2 Lv_2 h5; have Lv_3 := lt_up Lv_2 h5; have Kb_3 := row_up Kb_2 Lb_2 h5; have Lb_3 := lt_up Lb_2 h5; have HAo_3 := hH (HAo_2.out.later h5); have HD_3 := hH (HD_2.out.later h5); have HAw_3 := hH (HAw_2.out.later h5); have HAp_3 := hH (HAp_2.out.later h5); clear h5)))
    go_ret
    exact ⟨rfl, HB_4.out⟩
   ·have HVB := hH hc
    have HFV : Hid (FewV (SD.toD F)) := hH (few_value hc)
    have HFW := hH (few_v rfl HFV.out)
    clear hc
    go_wp2_with (first | go_skip | ((with_reducible refine atC w2 ?_); go_at_call 36; go_must (refine (rvalue9w_any (g, (t1, t2), SD.toD F) da dc F w2 HMd.out HID.out HD_2.out rfl).mono ?_; rw [HVB.out]; rintro e w3 ⟨rfl, h5⟩; have HB_3 : Hid (Below W.heap.size W w3) := hH (blThen HB_2.out h5); have Ki_3 := row_up Ki_2 Li_2 h5; have Li_3 := lt_up Li_2 h5; have Kv_3 := row_up Kv_2 Lv_2 h5; have Lv_3 := lt_up Lv_2 h5; have Kb_3 := row_up Kb_2 Lb_2 h5; have Lb_3 := lt_up Lb_2 h5; have HAo_3 := hH (HAo_2.out.later h5); have HD_3 := hH (HD_2.out.later h5); have HAw_3 := hH (HAw_2.out.later h5); have HAp_3 := hH (HAp_2.out.later h5); clear h5)))
    cases hc : writesB none ws
    ·go_wp2_with (first | go_skip | ((with_reducible refine atC w4 ?_); go_at_call 14; go_must (refine (live9_any w4).mono ?_; rintro e w5 ⟨rfl, h5⟩; have HB_5 : Hid (Below W.heap.size W w5) := hH (blThen HB_4.out h5); have Ki_5 := row_up Ki_4 Li_4 h5; have Li_5 := lt_up Li_4 h5; have Kv_5 := row_up Kv_4 Lv_4 h5; have Lv_5 := lt_up Lv_4 h5; have Kb_5 := row_up Kb_4 Lb_4 h5; have Lb_5 := lt_up Lb_4 h5; have HAo_5 := hH (HAo_4.out.later h5); have HD_5 := hH (HD_4.out.later h5); have HAw_5 := hH (HAw_4.out.later h5); have HAp_5 := hH (HAp_4.out.later h5); clear h5)) | ((with_reducible refine atC w3 ?_); go_at_call 42; go_must (refine (rwritesw_any _ ws w3 HMw.out HNw.out HAw_3.out).mono ?_; rw [hc]; rintro e w4 ⟨rfl, h5⟩; have HB_4 : Hid (Below W.heap.size W w4) := hH (blThen HB_3.out h5); have Ki_4 := row_up Ki_3 Li_3 h5; have Li_4 := lt_up Li_3 h5; have Kv_4 := row_up Kv_3 Lv_3 h5; have Lv_4 := lt_up Lv_3 h5; have Kb_4 := row_up Kb_3 Lb_3 h5; have Lb_4 := lt_up Lb_3 h5; have HAo_4 := hH (HAo_3.out.later h5); have HD_4 := hH (HD_3.out.later h5); have HAw_4 := hH (HAw_3.out.later h5); have HAp_4 := hH (HAp_3.out.later h5); clear h5)))
     go_ret
     exact ⟨rfl, HB_5.out⟩
    ·have HWS := hH hc
     clear hc
     go_wp2_with (first | go_skip | ((with_reducible refine atC w3 ?_); go_at_call 42; go_must (refine (rwritesw_any _ ws w3 HMw.out HNw.out HAw_3.out).mono ?_; rw [HWS.out]; rintro e w4 ⟨rfl, h5⟩; have HB_4 : Hid (Below W.heap.size W w4) := hH (blThen HB_3.out h5); have Ki_4 := row_up Ki_3 Li_3 h5; have Li_4 := lt_up Li_3 h5; have Kv_4 := row_up Kv_3 Lv_3 h5; have Lv_4 := lt_up Lv_3 h5; have Kb_4 := row_up Kb_3 Lb_3 h5; have Lb_4 := lt_up Lb_3 h5; have HAo_4 := hH (HAo_3.out.later h5); have HD_4 := hH (HD_3.out.later h5); have HAw_4 := hH (HAw_3.out.later h5); have HAp_4 := hH (HAp_3.out.later h5); clear h5)))
     cases hc : dataB none ps
     ·go_wp2_with (first | go_skip | ((with_reducible refine atC w5 ?_); go_at_call 14; go_must (refine (live9_any w5).mono ?_; rintro e w6 ⟨rfl, h5⟩; have HB_6 : Hid (Below W.heap.size W w6) := hH (blThen HB_5.out h5); have Ki_6 := row_up Ki_5 Li_5 h5; have Li_6 := lt_up Li_5 h5; have Kv_6 := row_up Kv_5 Lv_5 h5; have Lv_6 := lt_up Lv_5 h5; have Kb_6 := row_up Kb_5 Lb_5 h5; have Lb_6 := lt_up Lb_5 h5; have HAo_6 := hH (HAo_5.out.later h5); have HD_6 := hH (HD_5.out.later h5); have HAw_6 := hH (HAw_5.out.later h5); have HAp_6 := hH (HAp_5.out.later h5); clear h5)) | ((with_reducible refine atC w4 ?_); go_at_call 43; go_must (refine (rdataw_any _ ps w4 HMp.out HNp.out HAp_4.out).mono ?_; rw [hc]; rintro e w5 ⟨rfl, h5⟩; have HB_5 : Hid (Below W.heap.size W w5) := hH (blThen HB_4.out h5); have Ki_5 := row_up Ki_4 Li_4 h5; have Li_5 := lt_up Li_4 h5; have Kv_5 := row_up Kv_4 Lv_4 h5; have Lv_5 := lt_up Lv_4 h5; have Kb_5 := row_up Kb_4 Lb_4 h5; have Lb_5 := lt_up Lb_4 h5; have HAo_5 := hH (HAo_4.out.later h5); have HD_5 := hH (HD_4.out.later h5); have HAw_5 := hH (HAw_4.out.later h5); have HAp_5 := hH (HAp_4.out.later h5); clear h5)))
      go_ret
      exact ⟨rfl, HB_6.out⟩
     ·have HPS := hH hc
      clear hc
      go_wp2_with (first | go_skip | ((with_reducible refine atW w5 ?_); refine wpList_load_part _ _ rfl (by rfl) _ 0 rfl Kb_5.out Tryz.underlying23 rfl #[.int .i64 b1, .int .i64 b2] (by kernel_rfl) (two_at rfl rfl) ?_) | ((with_reducible refine atC w4 ?_); go_at_call 43; go_must (refine (rdataw_any _ ps w4 HMp.out HNp.out HAp_4.out).mono ?_; rw [HPS.out]; rintro e w5 ⟨rfl, h5⟩; have HB_5 : Hid (Below W.heap.size W w5) := hH (blThen HB_4.out h5); have Ki_5 := row_up Ki_4 Li_4 h5; have Li_5 := lt_up Li_4 h5; have Kv_5 := row_up Kv_4 Lv_4 h5; have Lv_5 := lt_up Lv_4 h5; have Kb_5 := row_up Kb_4 Lb_4 h5; have Lb_5 := lt_up Lb_4 h5; have HAo_5 := hH (HAo_4.out.later h5); have HD_5 := hH (HD_4.out.later h5); have HAw_5 := hH (HAw_4.out.later h5); have HAp_5 := hH (HAp_4.out.later h5); clear h5)))
      cases hc : ballotB (b1, b2)
      ·go_wp2_with (first | go_skip | ((with_reducible refine atC w6 ?_); go_at_call 14; go_must (refine (live9_any w6).mono ?_; rintro e w7 ⟨rfl, h5⟩; have HB_7 : Hid (Below W.heap.size W w7) := hH (blThen HB_6.out h5); have Ki_7 := row_up Ki_6 Li_6 h5; have Li_7 := lt_up Li_6 h5; have Kv_7 := row_up Kv_6 Lv_6 h5; have Lv_7 := lt_up Lv_6 h5; have Kb_7 := row_up Kb_6 Lb_6 h5; have Lb_7 := lt_up Lb_6 h5; have HAo_7 := hH (HAo_6.out.later h5); have HD_7 := hH (HD_6.out.later h5); have HAw_7 := hH (HAw_6.out.later h5); have HAp_7 := hH (HAp_6.out.later h5); clear h5)) | ((with_reducible refine atC w5 ?_); go_at_call 35; go_must (refine (rballot_any (b1, b2) w5).mono ?_; rw [hc]; rintro e w6 ⟨rfl, h5⟩; have HB_6 : Hid (Below W.heap.size W w6) := hH (blThen HB_5.out h5); have Ki_6 := row_up Ki_5 Li_5 h5; have Li_6 := lt_up Li_5 h5; have Kv_6 := row_up Kv_5 Lv_5 h5; have Lv_6 := lt_up Lv_5 h5; have Kb_6 := row_up Kb_5 Lb_5 h5; have Lb_6 := lt_up Lb_5 h5; have HAo_6 := hH (HAo_5.out.later h5); have HD_6 := hH (HD_5.out.later h5); have HAw_6 := hH (HAw_5.out.later h5); have HAp_6 := hH (HAp_5.out.later h5); clear h5)))
       go_ret
       exact ⟨rfl, HB_7.out⟩
      ·have HBB := hH hc
       clear hc
       go_wp2_with (first | go_skip | ((with_reducible refine atW w6 ?_); refine wpList_load_one _ _ rfl (by rfl) _ 3 rfl Kv_6.out Tryz.underlying25 rfl rfl ?_) | ((with_reducible refine atC w5 ?_); go_at_call 35; go_must (refine (rballot_any (b1, b2) w5).mono ?_; rw [HBB.out]; rintro e w6 ⟨rfl, h5⟩; have HB_6 : Hid (Below W.heap.size W w6) := hH (blThen HB_5.out h5); have Ki_6 := row_up Ki_5 Li_5 h5; have Li_6 := lt_up Li_5 h5; have Kv_6 := row_up Kv_5 Lv_5 h5; have Lv_6 := lt_up Lv_5 h5; have Kb_6 := row_up Kb_5 Lb_5 h5; have Lb_6 := lt_up Lb_5 h5; have HAo_6 := hH (HAo_5.out.later h5); have HD_6 := hH (HD_5.out.later h5); have HAw_6 := hH (HAw_5.out.later h5); have HAp_6 := hH (HAp_5.out.later h5); clear h5)))
       have hal := all_len9 HFV.out
       have hlw := HLW.out
       have hlp := HLP.out
       have hw1 : wrap64 (((SD.allD (SD.toD F)).length : Int) + (ws.length : Int)) = ((SD.allD (SD.toD F)).length : Int) + (ws.length : Int) := by unfold wrap64; omega
       have hw2 : wrap64 (((SD.allD (SD.toD F)).length : Int) + (ws.length : Int) + (ps.length : Int)) = ((SD.allD (SD.toD F)).length : Int) + (ws.length : Int) + (ps.length : Int) := by unfold wrap64; omega
       by_cases hc : 120 < (SD.allD (SD.toD F)).length + ws.length + ps.length
       ·have hb : decide ((120 : Int) < ((SD.allD (SD.toD F)).length : Int) + (ws.length : Int) + (ps.length : Int)) = true := decide_eq_true (by omega)
        have hb2 : (120 : Int) < ((SD.allD (SD.toD F)).length : Int) + (ws.length : Int) + (ps.length : Int) := by omega
        clear hal hlw hlp hc
        go_wp2_with (first | go_skip | ((with_reducible refine atC w7 ?_); go_at_call 14; go_must (refine (live9_any w7).mono ?_; rintro e w8 ⟨rfl, h5⟩; have HB_8 : Hid (Below W.heap.size W w8) := hH (blThen HB_7.out h5); have Ki_8 := row_up Ki_7 Li_7 h5; have Li_8 := lt_up Li_7 h5; have Kv_8 := row_up Kv_7 Lv_7 h5; have Lv_8 := lt_up Lv_7 h5; have Kb_8 := row_up Kb_7 Lb_7 h5; have Lb_8 := lt_up Lb_7 h5; have HAo_8 := hH (HAo_7.out.later h5); have HD_8 := hH (HD_7.out.later h5); have HAw_8 := hH (HAw_7.out.later h5); have HAp_8 := hH (HAp_7.out.later h5); clear h5)) | ((with_reducible refine atC w6 ?_); go_at_call 37; go_must (refine (SD.refall_any da dc F w6 HFW.out.1.1 HFW.out.2 HD_6.out).mono ?_; intro e w7 h; unfold S1.RetA at h; obtain ⟨xa, xc, rfl, _, _, _, h5⟩ := h; have HB_7 : Hid (Below W.heap.size W w7) := hH (blThen HB_6.out h5); have Ki_7 := row_up Ki_6 Li_6 h5; have Li_7 := lt_up Li_6 h5; have Kv_7 := row_up Kv_6 Lv_6 h5; have Lv_7 := lt_up Lv_6 h5; have Kb_7 := row_up Kb_6 Lb_6 h5; have Lb_7 := lt_up Lb_6 h5; have HAo_7 := hH (HAo_6.out.later h5); have HD_7 := hH (HD_6.out.later h5); have HAw_7 := hH (HAw_6.out.later h5); have HAp_7 := hH (HAp_6.out.later h5); clear h5)))
        go_ret
        exact ⟨rfl, HB_8.out⟩
       ·have hb : decide ((120 : Int) < ((SD.allD (SD.toD F)).length : Int) + (ws.length : Int) + (ps.length : Int)) = false := decide_eq_false (by omega)
        have hb2 : ¬ (120 : Int) < ((SD.allD (SD.toD F)).length : Int) + (ws.length : Int) + (ps.length : Int) := by omega
        have HSW : Hid (ws.length ≤ 20000) := hH (by omega)
        have HSP : Hid (ps.length ≤ 20000) := hH (by omega)
        clear hal hlw hlp hc
        go_wp2_with (first | go_skip | ((with_reducible refine atW (w8.alloc (.cells z22 31)) ?_); refine store9 _ _ rfl (by rfl) _ rfl rfl (new_blockC w8 z22 31) rfl rfl (by simp [Value.oneCell']) ?_; intro w9 h1 h2; have h5 := below_grown9 (blAlloc (Below.refl _ _) _) h2 (Nat.le_refl _); have HB_9 : Hid (Below W.heap.size W w9) := hH (blThen HB_8.out h5); have Ki_9 := row_up Ki_8 Li_8 h5; have Li_9 := lt_up Li_8 h5; have Kv_9 := row_up Kv_8 Lv_8 h5; have Lv_9 := lt_up Lv_8 h5; have Kb_9 := row_up Kb_8 Lb_8 h5; have Lb_9 := lt_up Lb_8 h5; have HAo_9 := hH (HAo_8.out.later h5); have HD_9 := hH (HD_8.out.later h5); have HAw_9 := hH (HAw_8.out.later h5); have HAp_9 := hH (HAp_8.out.later h5); have Kc_9 := hH h1; have Lc_9 : Hid (w8.heap.size < w9.heap.size) := hH (by have := h2.size; simp only [World.size_alloc] at this; omega); clear h1 h2 h5) | ((with_reducible refine atC w7 ?_); go_at_call 21; go_must (refine (new9_any (i1, i2) w7).mono ?_; intro e w8 h; unfold RetL at h; obtain ⟨rfl, h5⟩ := h; simp only [cmV, newC, nilL, z2, val0]; have HB_8 : Hid (Below W.heap.size W w8) := hH (blThen HB_7.out h5); have Ki_8 := row_up Ki_7 Li_7 h5; have Li_8 := lt_up Li_7 h5; have Kv_8 := row_up Kv_7 Lv_7 h5; have Lv_8 := lt_up Lv_7 h5; have Kb_8 := row_up Kb_7 Lb_7 h5; have Lb_8 := lt_up Lb_7 h5; have HAo_8 := hH (HAo_7.out.later h5); have HD_8 := hH (HD_7.out.later h5); have HAw_8 := hH (HAw_7.out.later h5); have HAp_8 := hH (HAp_7.out.later h5); clear h5)) | ((with_reducible refine atW w7 ?_); refine wpList_load_part _ _ rfl (by rfl) _ 0 rfl Ki_7.out Tryz.underlying23 rfl #[.int .i64 i1, .int .i64 i2] (by kernel_rfl) (two_at rfl rfl) ?_) | ((with_reducible refine atC w6 ?_); go_at_call 37; go_must (refine (SD.refall_any da dc F w6 HFW.out.1.1 HFW.out.2 HD_6.out).mono ?_; intro e w7 h; unfold S1.RetA at h; obtain ⟨xa, xc, rfl, _, _, _, h5⟩ := h; have HB_7 : Hid (Below W.heap.size W w7) := hH (blThen HB_6.out h5); have Ki_7 := row_up Ki_6 Li_6 h5; have Li_7 := lt_up Li_6 h5; have Kv_7 := row_up Kv_6 Lv_6 h5; have Lv_7 := lt_up Lv_6 h5; have Kb_7 := row_up Kb_6 Lb_6 h5; have Lb_7 := lt_up Lb_6 h5; have HAo_7 := hH (HAo_6.out.later h5); have HD_7 := hH (HD_6.out.later h5); have HAw_7 := hH (HAw_6.out.later h5); have HAp_7 := hH (HAp_6.out.later h5); clear h5)))
        clear hb hb2 hw1 hw2
        have HFN : Hid (finB (newC (i1, i2)) = false) := hH rfl
        refine wp_region_held_drew (S := fun Y => Y.heap[w8.heap.size]? = some (.cells (r22 i1 i2 (.slice none 0 0) 0 0 0 0 0 false (.slice none 0 0) 0 0 false 0 0 false 0 0 (.slice none 0 0) false (.slice none 0 0) (.slice none 0 0)) 31 (0, 0))) (by kernel_rfl) (Kc_9.out) (fun hHeld => ?_)
        have h5 : Below w9.heap.size w9 w9.drew := (Below.refl _ _).drew
        have HB_10 : Hid (Below W.heap.size W w9.drew) := hH (blThen HB_9.out h5)
        have Ki_10 := row_up Ki_9 Li_9 h5
        have Li_10 := lt_up Li_9 h5
        have Kv_10 := row_up Kv_9 Lv_9 h5
        have Lv_10 := lt_up Lv_9 h5
        have Kb_10 := row_up Kb_9 Lb_9 h5
        have Lb_10 := lt_up Lb_9 h5
        have Kc_10 := row_up Kc_9 Lc_9 h5
        have Lc_10 := lt_up Lc_9 h5
        have HAo_10 := hH (HAo_9.out.later h5)
        have HD_10 := hH (HD_9.out.later h5)
        have HAw_10 := hH (HAw_9.out.later h5)
        have HAp_10 := hH (HAp_9.out.later h5)
        clear h5
        generalize w9.drew = w10 at *
        refine wpAnyH_take (i := 0) (oi := ⟨_, _, _, _, _, _⟩) (v := _) rfl (by kernel_rfl) (by kernel_rfl) (by kernel_rfl) (fun _ _ _ h => h) (yields_row (by rfl) _ _ rfl _ 0 rfl (fun w h => h) Tryz.underlying31 rfl (r22 i1 i2 (.slice none 0 0) 0 0 0 0 0 false (.slice none 0 0) 0 0 false 0 0 false 0 0 (.slice none 0 0) false (.slice none 0 0) (.slice none 0 0)) szCmd all_at) (by assumption) ?_
        try simp only [Act.put, sA9, sZ9, sS9]
        refine wpAnyH_take (i := 1) (oi := ⟨_, _, _, _, _, _⟩) (v := ?_) rfl (by kernel_rfl) (by kernel_rfl) (by kernel_rfl) (fun _ _ _ h => h) (Or.inl ⟨by rfl, ?_⟩) (by assumption) ?_
        rotate_left
        ·intro w hSw
         try dsimp only at hSw
         go_simp
         try with_reducible rfl
        try simp only [Act.put, sA9, sZ9, sS9]
        refine wpAnyH_take (i := 3) (oi := ⟨_, _, _, _, _, _⟩) (v := _) rfl (by kernel_rfl) (by kernel_rfl) (by kernel_rfl) (fun _ _ _ h => h) (yields_row (by rfl) _ _ rfl _ 0 rfl (fun w h => h) Tryz.underlying31 rfl (r22 i1 i2 (.slice none 0 0) 0 0 0 0 0 false (.slice none 0 0) 0 0 false 0 0 false 0 0 (.slice none 0 0) false (.slice none 0 0) (.slice none 0 0)) szCmd all_at) (by assumption) ?_
        try simp only [Act.put, sA9, sZ9, sS9]
        refine wpAnyH_ready (rs := [2]) (by kernel_rfl) (by simp) ?_
        refine AllReadyH.cons (o := ⟨_, _, _, _, _, _⟩) rfl (fun K hK => ?_) ?_
        rotate_left
        ·exact AllReadyH.nil
        go_simp
        go_at_call 44
        refine (load_no (newC (i1, i2)) nilL (.slice wa ws.length wc) w10 (at_nil9 w10 _ rfl rfl rfl rfl rfl) (fun e => absurd (show (0 : Int) = 2 from e.1) (by decide))).mono ?_
        intro e w11 h
        unfold RetL at h
        obtain ⟨rfl, h5⟩ := h
        simp only [cmV, newC, nilL, z2, val0]
        have HB_11 : Hid (Below W.heap.size W w11) := hH (blThen HB_10.out h5)
        have Ki_11 := row_up Ki_10 Li_10 h5
        have Li_11 := lt_up Li_10 h5
        have Kv_11 := row_up Kv_10 Lv_10 h5
        have Lv_11 := lt_up Lv_10 h5
        have Kb_11 := row_up Kb_10 Lb_10 h5
        have Lb_11 := lt_up Lb_10 h5
        have Kc_11 := row_up Kc_10 Lc_10 h5
        have Lc_11 := lt_up Lc_10 h5
        have HAo_11 := hH (HAo_10.out.later h5)
        have HD_11 := hH (HD_10.out.later h5)
        have HAw_11 := hH (HAw_10.out.later h5)
        have HAp_11 := hH (HAp_10.out.later h5)
        refine hK.out _ _ (Kc_11.out) (fun hHeld => ?_)
        clear hK K h5
        try simp only [Act.put, sA9, sZ9, sS9]
        refine wpAnyH_ready (rs := [4]) (by kernel_rfl) (by simp) ?_
        refine AllReadyH.cons (o := ⟨_, _, _, _, _, _⟩) rfl (fun K hK => ?_) ?_
        rotate_left
        ·exact AllReadyH.nil
        go_simp
        go_at_call 20
        refine (rsame9_any (newC (i1, i2)) nilL nilL w11 (at_nil9 w11 _ rfl rfl rfl rfl rfl) (at_nil9 w11 _ rfl rfl rfl rfl rfl) (few_new9 _)).mono ?_
        rintro e w12 ⟨rfl, h5⟩
        have HB_12 : Hid (Below W.heap.size W w12) := hH (blThen HB_11.out h5)
        have Ki_12 := row_up Ki_11 Li_11 h5
        have Li_12 := lt_up Li_11 h5
        have Kv_12 := row_up Kv_11 Lv_11 h5
        have Lv_12 := lt_up Lv_11 h5
        have Kb_12 := row_up Kb_11 Lb_11 h5
        have Lb_12 := lt_up Lb_11 h5
        have Kc_12 := row_up Kc_11 Lc_11 h5
        have Lc_12 := lt_up Lc_11 h5
        have HAo_12 := hH (HAo_11.out.later h5)
        have HD_12 := hH (HD_11.out.later h5)
        have HAw_12 := hH (HAw_11.out.later h5)
        have HAp_12 := hH (HAp_11.out.later h5)
        refine hK.out _ _ (Kc_12.out) (fun hHeld => ?_)
        clear hK K h5
        try simp only [Act.put, sA9, sZ9, sS9]
        refine wpAnyH_take (i := 5) (oi := ⟨_, _, _, _, _, _⟩) (v := ?_) rfl (by kernel_rfl) (by kernel_rfl) (by kernel_rfl) (fun _ _ _ h => h) (Or.inl ⟨by rfl, ?_⟩) (by assumption) ?_
        rotate_left
        ·intro w hSw
         try dsimp only at hSw
         go_simp
         try with_reducible rfl
        try simp only [Act.put, sA9, sZ9, sS9]
        refine wpAnyH_take (i := 6) (oi := ⟨_, _, _, _, _, _⟩) (v := ?_) rfl (by kernel_rfl) (by kernel_rfl) (by kernel_rfl) (fun _ _ _ h => h) (Or.inl ⟨by rfl, ?_⟩) (by assumption) ?_
        rotate_left
        ·intro w hSw
         try dsimp only at hSw
         go_simp
         try with_reducible rfl
        try simp only [Act.put, sA9, sZ9, sS9]
        refine wpAnyH_take (i := 7) (oi := ⟨_, _, _, _, _, _⟩) (v := _) rfl (by kernel_rfl) (by kernel_rfl) (by kernel_rfl) (fun _ _ _ h => h) (yields_row (by rfl) _ _ rfl _ 0 rfl (fun w h => h) Tryz.underlying31 rfl (r22 i1 i2 (.slice none 0 0) 0 0 0 0 0 false (.slice none 0 0) 0 0 false 0 0 false 0 0 (.slice none 0 0) false (.slice none 0 0) (.slice none 0 0)) szCmd all_at) (by assumption) ?_
        try simp only [Act.put, sA9, sZ9, sS9]
        refine wpAnyH_take (i := 8) (oi := ⟨_, _, _, _, _, _⟩) (v := ?_) rfl (by kernel_rfl) (by kernel_rfl) (by kernel_rfl) (fun _ _ _ h => h) (Or.inl ⟨by rfl, ?_⟩) (by assumption) ?_
        rotate_left
        ·intro w hSw
         try dsimp only at hSw
         go_simp
         try with_reducible rfl
        try simp only [Act.put, sA9, sZ9, sS9]
        refine wpAnyH_take (i := 10) (oi := ⟨_, _, _, _, _, _⟩) (v := _) rfl (by kernel_rfl) (by kernel_rfl) (by kernel_rfl) (fun _ _ _ h => h) (yields_row (by rfl) _ _ rfl _ 0 rfl (fun w h => h) Tryz.underlying31 rfl (r22 i1 i2 (.slice none 0 0) 0 0 0 0 0 false (.slice none 0 0) 0 0 false 0 0 false 0 0 (.slice none 0 0) false (.slice none 0 0) (.slice none 0 0)) szCmd all_at) (by assumption) ?_
        try simp only [Act.put, sA9, sZ9, sS9]
        refine wpAnyH_ready (rs := [9]) (by kernel_rfl) (by simp) ?_
        refine AllReadyH.cons (o := ⟨_, _, _, _, _, _⟩) rfl (fun K hK => ?_) ?_
        rotate_left
        ·exact AllReadyH.nil
        go_simp
        go_at_call 45
        refine (done_no (newC (i1, i2)) nilL (.slice pa ps.length pc) w12 (at_nil9 w12 _ rfl rfl rfl rfl rfl) (fun e => absurd (show (0 : Int) = 2 from e.1) (by decide))).mono ?_
        intro e w13 h
        unfold RetL at h
        obtain ⟨rfl, h5⟩ := h
        simp only [cmV, newC, nilL, z2, val0]
        have HB_13 : Hid (Below W.heap.size W w13) := hH (blThen HB_12.out h5)
        have Ki_13 := row_up Ki_12 Li_12 h5
        have Li_13 := lt_up Li_12 h5
        have Kv_13 := row_up Kv_12 Lv_12 h5
        have Lv_13 := lt_up Lv_12 h5
        have Kb_13 := row_up Kb_12 Lb_12 h5
        have Lb_13 := lt_up Lb_12 h5
        have Kc_13 := row_up Kc_12 Lc_12 h5
        have Lc_13 := lt_up Lc_12 h5
        have HAo_13 := hH (HAo_12.out.later h5)
        have HD_13 := hH (HD_12.out.later h5)
        have HAw_13 := hH (HAw_12.out.later h5)
        have HAp_13 := hH (HAp_12.out.later h5)
        refine hK.out _ _ (Kc_13.out) (fun hHeld => ?_)
        clear hK K h5
        try simp only [Act.put, sA9, sZ9, sS9]
        refine wpAnyH_ready (rs := [11]) (by kernel_rfl) (by simp) ?_
        refine AllReadyH.cons (o := ⟨_, _, _, _, _, _⟩) rfl (fun K hK => ?_) ?_
        rotate_left
        ·exact AllReadyH.nil
        go_simp
        go_at_call 20
        refine (rsame9_any (newC (i1, i2)) nilL nilL w13 (at_nil9 w13 _ rfl rfl rfl rfl rfl) (at_nil9 w13 _ rfl rfl rfl rfl rfl) (few_new9 _)).mono ?_
        rintro e w14 ⟨rfl, h5⟩
        have HB_14 : Hid (Below W.heap.size W w14) := hH (blThen HB_13.out h5)
        have Ki_14 := row_up Ki_13 Li_13 h5
        have Li_14 := lt_up Li_13 h5
        have Kv_14 := row_up Kv_13 Lv_13 h5
        have Lv_14 := lt_up Lv_13 h5
        have Kb_14 := row_up Kb_13 Lb_13 h5
        have Lb_14 := lt_up Lb_13 h5
        have Kc_14 := row_up Kc_13 Lc_13 h5
        have Lc_14 := lt_up Lc_13 h5
        have HAo_14 := hH (HAo_13.out.later h5)
        have HD_14 := hH (HD_13.out.later h5)
        have HAw_14 := hH (HAw_13.out.later h5)
        have HAp_14 := hH (HAp_13.out.later h5)
        refine hK.out _ _ (Kc_14.out) (fun hHeld => ?_)
        clear hK K h5
        try simp only [Act.put, sA9, sZ9, sS9]
        refine wpAnyH_take (i := 12) (oi := ⟨_, _, _, _, _, _⟩) (v := ?_) rfl (by kernel_rfl) (by kernel_rfl) (by kernel_rfl) (fun _ _ _ h => h) (Or.inl ⟨by rfl, ?_⟩) (by assumption) ?_
        rotate_left
        ·intro w hSw
         try dsimp only at hSw
         go_simp
         try with_reducible rfl
        try simp only [Act.put, sA9, sZ9, sS9]
        refine wpAnyH_take (i := 13) (oi := ⟨_, _, _, _, _, _⟩) (v := ?_) rfl (by kernel_rfl) (by kernel_rfl) (by kernel_rfl) (fun _ _ _ h => h) (Or.inl ⟨by rfl, ?_⟩) (by assumption) ?_
        rotate_left
        ·intro w hSw
         try dsimp only at hSw
         go_simp
         try with_reducible rfl
        try simp only [Act.put, sA9, sZ9, sS9]
        refine wpAnyH_take (i := 14) (oi := ⟨_, _, _, _, _, _⟩) (v := ?_) rfl (by kernel_rfl) (by kernel_rfl) (by kernel_rfl) (fun _ _ _ h => h) (Or.inl ⟨by rfl, ?_⟩) (by assumption) ?_
        rotate_left
        ·intro w hSw
         try dsimp only at hSw
         go_simp
         try with_reducible rfl
        try simp only [Act.put, sA9, sZ9, sS9]
        refine wpAnyH_take (i := 15) (oi := ⟨_, _, _, _, _, _⟩) (v := _) rfl (by kernel_rfl) (by kernel_rfl) (by kernel_rfl) (fun _ _ _ h => h) (yields_row (by rfl) _ _ rfl _ 0 rfl (fun w h => h) Tryz.underlying31 rfl (r22 i1 i2 (.slice none 0 0) 0 0 0 0 0 false (.slice none 0 0) 0 0 false 0 0 false 0 0 (.slice none 0 0) false (.slice none 0 0) (.slice none 0 0)) szCmd all_at) (by assumption) ?_
        try simp only [Act.put, sA9, sZ9, sS9]
        refine wpAnyH_ready (rs := [16]) (by kernel_rfl) (by simp) ?_
        refine AllReadyH.cons (o := ⟨_, _, _, _, _, _⟩) rfl (fun K hK => ?_) ?_
        rotate_left
        ·exact AllReadyH.nil
        go_simp
        go_at_call 26
        refine (final_any (newC (i1, i2)) nilL w14).mono ?_
        rw [HFN.out]
        rintro e w15 ⟨rfl, h5⟩
        have HB_15 : Hid (Below W.heap.size W w15) := hH (blThen HB_14.out h5)
        have Ki_15 := row_up Ki_14 Li_14 h5
        have Li_15 := lt_up Li_14 h5
        have Kv_15 := row_up Kv_14 Lv_14 h5
        have Lv_15 := lt_up Lv_14 h5
        have Kb_15 := row_up Kb_14 Lb_14 h5
        have Lb_15 := lt_up Lb_14 h5
        have Kc_15 := row_up Kc_14 Lc_14 h5
        have HAo_15 := hH (HAo_14.out.later h5)
        have HD_15 := hH (HD_14.out.later h5)
        have HAw_15 := hH (HAw_14.out.later h5)
        have HAp_15 := hH (HAp_14.out.later h5)
        refine hK.out _ _ (Kc_15.out) (fun hHeld => ?_)
        clear hK K h5
        try simp only [Act.put, sA9, sZ9, sS9]
        refine wpAnyH_take (i := 17) (oi := ⟨_, _, _, _, _, _⟩) (v := ?_) rfl (by kernel_rfl) (by kernel_rfl) (by kernel_rfl) (fun _ _ _ h => h) (Or.inl ⟨by rfl, ?_⟩) (by assumption) ?_
        rotate_left
        ·intro w hSw
         try dsimp only at hSw
         go_simp
         try with_reducible rfl
        try simp only [Act.put, sA9, sZ9, sS9]
        refine wpAnyH_done (by kernel_rfl) ?_ _
        cases g
        ·have HATD : Hid (∀ Y : World, SlG eO Y (.slice oa o.length oc) o → SD.Dl Y da F → CmAt Y (d9E (i1, i2) o (false, (t1, t2), SD.toD F)) ⟨.slice oa o.length oc, .slice none 0 0, .slice da F.length dc, .slice none 0 0, .slice none 0 0⟩) := hH (fun Y ho hd => ⟨ho, dl_nil9 _, ⟨da, dc, F, rfl, hd, rfl, HDN.out⟩, SlG.nil _, SlG.nil _⟩)
         have HOL : Hid (o.length ≤ 20000) := hH (by have := (check_kd HCO.out).1; omega)
         have HFD : Hid (FewC (d9E (i1, i2) o (false, (t1, t2), SD.toD F))) := hH (few_ends2 _ HOL.out HFV.out)
         have HDE : Hid (∀ Y : World, SlG eO Y (.slice oa o.length oc) o → SD.Dl Y da F → Calls Tryz.prog 46 #[.agg (r22 i1 i2 (.slice none 0 0) 0 0 0 0 0 false (.slice none 0 0) 0 0 false 0 0 false 0 0 (.slice none 0 0) false (.slice none 0 0) (.slice none 0 0)), .slice oa o.length oc, .agg #[.bool false, .int .i64 t1, .int .i64 t2, .slice da F.length dc]] Y fun e w' => e = .returned (.agg (r22 i1 i2 (.slice oa o.length oc) 2 0 0 0 0 false (.slice none 0 0) 0 0 true 0 0 false t1 t2 (.slice da F.length dc) false (.slice none 0 0) (.slice none 0 0))) ∧ Below Y.heap.size Y w') := hH (fun Y ho hd => by have h := decide_en (newC (i1, i2)) nilL o (.slice oa o.length oc) (false, (t1, t2), SD.toD F) (.slice da F.length dc) Y (at_nil9 Y _ rfl rfl rfl rfl rfl) ho ⟨da, dc, F, rfl, hd, rfl, HDN.out⟩ (new_dec _) rfl rfl; rw [ends_dec (v := (false, (t1, t2), SD.toD F)) rfl] at h; unfold dlL at h; rw [new_dec, if_neg (by decide), if_pos ⟨rfl, rfl⟩] at h; exact h)
         have HFI : Hid (finB (d9E (i1, i2) o (false, (t1, t2), SD.toD F)) = false) := hH rfl
         go_wp2_with (first | go_skip | ((with_reducible refine atW w17 ?_); refine wpList_load_one _ _ rfl (by rfl) _ 0 rfl Kv_17.out Tryz.underlying4 rfl rfl ?_) | ((with_reducible refine atW (w16.alloc (.cells z22 31)) ?_); refine store9 _ _ rfl (by rfl) _ rfl rfl (new_blockC w16 z22 31) rfl rfl (by simp [Value.oneCell']) ?_; intro w17 h1 h2; have h5 := below_grown9 (blAlloc (Below.refl _ _) _) h2 (Nat.le_refl _); have HB_17 : Hid (Below W.heap.size W w17) := hH (blThen HB_16.out h5); have Ki_17 := row_up Ki_16 Li_16 h5; have Li_17 := lt_up Li_16 h5; have Kv_17 := row_up Kv_16 Lv_16 h5; have Lv_17 := lt_up Lv_16 h5; have Kb_17 := row_up Kb_16 Lb_16 h5; have Lb_17 := lt_up Lb_16 h5; have HAo_17 := hH (HAo_16.out.later h5); have HD_17 := hH (HD_16.out.later h5); have HAw_17 := hH (HAw_16.out.later h5); have HAp_17 := hH (HAp_16.out.later h5); have Kd_17 := hH h1; have Ld_17 : Hid (w16.heap.size < w17.heap.size) := hH (by have := h2.size; simp only [World.size_alloc] at this; omega); clear h1 h2 h5) | ((with_reducible refine atC w15 ?_); go_at_call 46; go_must (refine (HDE.out w15 HAo_15.out HD_15.out).mono ?_; rintro e w16 ⟨rfl, h5⟩; have HB_16 : Hid (Below W.heap.size W w16) := hH (blThen HB_15.out h5); have Ki_16 := row_up Ki_15 Li_15 h5; have Li_16 := lt_up Li_15 h5; have Kv_16 := row_up Kv_15 Lv_15 h5; have Lv_16 := lt_up Lv_15 h5; have Kb_16 := row_up Kb_15 Lb_15 h5; have Lb_16 := lt_up Lb_15 h5; have HAo_16 := hH (HAo_15.out.later h5); have HD_16 := hH (HD_15.out.later h5); have HAw_16 := hH (HAw_15.out.later h5); have HAp_16 := hH (HAp_15.out.later h5); clear h5)) | ((with_reducible refine atW w15 ?_); refine wpList_load_part _ _ rfl (by rfl) _ 0 rfl Kv_15.out Tryz.underlying27 rfl #[.bool false, .int .i64 t1, .int .i64 t2, .slice da F.length dc] (by kernel_rfl) (four_at rfl rfl rfl rfl) ?_) | ((with_reducible refine atW w15 ?_); refine load9 _ rfl (by rfl) _ rfl Kc_15.out rfl ?_))
         refine wp_region_held_drew (S := fun Y => Y.heap[w16.heap.size]? = some (.cells (r22 i1 i2 (.slice oa o.length oc) 2 0 0 0 0 false (.slice none 0 0) 0 0 true 0 0 false t1 t2 (.slice da F.length dc) false (.slice none 0 0) (.slice none 0 0)) 31 (0, 0))) (by kernel_rfl) (Kd_17.out) (fun hHeld => ?_)
         have h5 : Below w17.heap.size w17 w17.drew := (Below.refl _ _).drew
         have HB_18 : Hid (Below W.heap.size W w17.drew) := hH (blThen HB_17.out h5)
         have Ki_18 := row_up Ki_17 Li_17 h5
         have Li_18 := lt_up Li_17 h5
         have Kv_18 := row_up Kv_17 Lv_17 h5
         have Lv_18 := lt_up Lv_17 h5
         have Kb_18 := row_up Kb_17 Lb_17 h5
         have Lb_18 := lt_up Lb_17 h5
         have Kd_18 := row_up Kd_17 Ld_17 h5
         have Ld_18 := lt_up Ld_17 h5
         have HAo_18 := hH (HAo_17.out.later h5)
         have HD_18 := hH (HD_17.out.later h5)
         have HAw_18 := hH (HAw_17.out.later h5)
         have HAp_18 := hH (HAp_17.out.later h5)
         clear h5
         generalize w17.drew = w18 at *
         refine wpAnyH_take (i := 0) (oi := ⟨_, _, _, _, _, _⟩) (v := _) rfl (by kernel_rfl) (by kernel_rfl) (by kernel_rfl) (fun _ _ _ h => h) (yields_row (by rfl) _ _ rfl _ 0 rfl (fun w h => h) Tryz.underlying31 rfl (r22 i1 i2 (.slice oa o.length oc) 2 0 0 0 0 false (.slice none 0 0) 0 0 true 0 0 false t1 t2 (.slice da F.length dc) false (.slice none 0 0) (.slice none 0 0)) szCmd all_at) (by assumption) ?_
         try simp only [Act.put, sA9, sZ9, sS9]
         refine wpAnyH_ready (rs := [1]) (by kernel_rfl) (by simp) ?_
         refine AllReadyH.cons (o := ⟨_, _, _, _, _, _⟩) rfl (fun K hK => ?_) ?_
         rotate_left
         ·exact AllReadyH.nil
         go_simp
         go_at_call 26
         refine (final_any (d9E (i1, i2) o (false, (t1, t2), SD.toD F)) ⟨.slice oa o.length oc, .slice none 0 0, .slice da F.length dc, .slice none 0 0, .slice none 0 0⟩ w18).mono ?_
         rw [HFI.out]
         rintro e w19 ⟨rfl, h5⟩
         have HB_19 : Hid (Below W.heap.size W w19) := hH (blThen HB_18.out h5)
         have Ki_19 := row_up Ki_18 Li_18 h5
         have Li_19 := lt_up Li_18 h5
         have Kv_19 := row_up Kv_18 Lv_18 h5
         have Lv_19 := lt_up Lv_18 h5
         have Kb_19 := row_up Kb_18 Lb_18 h5
         have Lb_19 := lt_up Lb_18 h5
         have Kd_19 := row_up Kd_18 Ld_18 h5
         have Ld_19 := lt_up Ld_18 h5
         have HAo_19 := hH (HAo_18.out.later h5)
         have HD_19 := hH (HD_18.out.later h5)
         have HAw_19 := hH (HAw_18.out.later h5)
         have HAp_19 := hH (HAp_18.out.later h5)
         refine hK.out _ _ (Kd_19.out) (fun hHeld => ?_)
         clear hK K h5
         try simp only [Act.put, sA9, sZ9, sS9]
         refine wpAnyH_take (i := 2) (oi := ⟨_, _, _, _, _, _⟩) (v := ?_) rfl (by kernel_rfl) (by kernel_rfl) (by kernel_rfl) (fun _ _ _ h => h) (Or.inl ⟨by rfl, ?_⟩) (by assumption) ?_
         rotate_left
         ·intro w hSw
          try dsimp only at hSw
          go_simp
          try with_reducible rfl
         try simp only [Act.put, sA9, sZ9, sS9]
         refine wpAnyH_take (i := 3) (oi := ⟨_, _, _, _, _, _⟩) (v := _) rfl (by kernel_rfl) (by kernel_rfl) (by kernel_rfl) (fun _ _ _ h => h) (yields_row (by rfl) _ _ rfl _ 0 rfl (fun w h => h) Tryz.underlying31 rfl (r22 i1 i2 (.slice oa o.length oc) 2 0 0 0 0 false (.slice none 0 0) 0 0 true 0 0 false t1 t2 (.slice da F.length dc) false (.slice none 0 0) (.slice none 0 0)) szCmd all_at) (by assumption) ?_
         try simp only [Act.put, sA9, sZ9, sS9]
         refine wpAnyH_take (i := 4) (oi := ⟨_, _, _, _, _, _⟩) (v := ?_) rfl (by kernel_rfl) (by kernel_rfl) (by kernel_rfl) (fun _ _ _ h => h) (Or.inl ⟨by rfl, ?_⟩) (by assumption) ?_
         rotate_left
         ·intro w hSw
          try dsimp only at hSw
          go_simp
          try with_reducible rfl
         try simp only [Act.put, sA9, sZ9, sS9]
         refine wpAnyH_take (i := 6) (oi := ⟨_, _, _, _, _, _⟩) (v := _) rfl (by kernel_rfl) (by kernel_rfl) (by kernel_rfl) (fun _ _ _ h => h) (yields_row (by rfl) _ _ rfl _ 0 rfl (fun w h => h) Tryz.underlying31 rfl (r22 i1 i2 (.slice oa o.length oc) 2 0 0 0 0 false (.slice none 0 0) 0 0 true 0 0 false t1 t2 (.slice da F.length dc) false (.slice none 0 0) (.slice none 0 0)) szCmd all_at) (by assumption) ?_
         try simp only [Act.put, sA9, sZ9, sS9]
         refine wpAnyH_ready (rs := [5]) (by kernel_rfl) (by simp) ?_
         refine AllReadyH.cons (o := ⟨_, _, _, _, _, _⟩) rfl (fun K hK => ?_) ?_
         rotate_left
         ·exact AllReadyH.nil
         go_simp
         go_at_call 45
         refine (done_no (d9E (i1, i2) o (false, (t1, t2), SD.toD F)) ⟨.slice oa o.length oc, .slice none 0 0, .slice da F.length dc, .slice none 0 0, .slice none 0 0⟩ (.slice pa ps.length pc) w19 (HATD.out w19 HAo_19.out HD_19.out) (by rintro ⟨_, e⟩; cases e)).mono ?_
         intro e w20 h
         unfold RetL at h
         obtain ⟨rfl, h5⟩ := h
         simp only [cmV, d9E, z2]
         have HB_20 : Hid (Below W.heap.size W w20) := hH (blThen HB_19.out h5)
         have Ki_20 := row_up Ki_19 Li_19 h5
         have Li_20 := lt_up Li_19 h5
         have Kv_20 := row_up Kv_19 Lv_19 h5
         have Lv_20 := lt_up Lv_19 h5
         have Kb_20 := row_up Kb_19 Lb_19 h5
         have Lb_20 := lt_up Lb_19 h5
         have Kd_20 := row_up Kd_19 Ld_19 h5
         have Ld_20 := lt_up Ld_19 h5
         have HAo_20 := hH (HAo_19.out.later h5)
         have HD_20 := hH (HD_19.out.later h5)
         have HAw_20 := hH (HAw_19.out.later h5)
         have HAp_20 := hH (HAp_19.out.later h5)
         refine hK.out _ _ (Kd_20.out) (fun hHeld => ?_)
         clear hK K h5
         try simp only [Act.put, sA9, sZ9, sS9]
         refine wpAnyH_ready (rs := [7]) (by kernel_rfl) (by simp) ?_
         refine AllReadyH.cons (o := ⟨_, _, _, _, _, _⟩) rfl (fun K hK => ?_) ?_
         rotate_left
         ·exact AllReadyH.nil
         go_simp
         go_at_call 20
         refine (rsame9_any (d9E (i1, i2) o (false, (t1, t2), SD.toD F)) ⟨.slice oa o.length oc, .slice none 0 0, .slice da F.length dc, .slice none 0 0, .slice none 0 0⟩ ⟨.slice oa o.length oc, .slice none 0 0, .slice da F.length dc, .slice none 0 0, .slice none 0 0⟩ w20 (HATD.out w20 HAo_20.out HD_20.out) (HATD.out w20 HAo_20.out HD_20.out) HFD.out).mono ?_
         rintro e w21 ⟨rfl, h5⟩
         have HB_21 : Hid (Below W.heap.size W w21) := hH (blThen HB_20.out h5)
         have Ki_21 := row_up Ki_20 Li_20 h5
         have Li_21 := lt_up Li_20 h5
         have Kv_21 := row_up Kv_20 Lv_20 h5
         have Lv_21 := lt_up Lv_20 h5
         have Kb_21 := row_up Kb_20 Lb_20 h5
         have Lb_21 := lt_up Lb_20 h5
         have Kd_21 := row_up Kd_20 Ld_20 h5
         have Ld_21 := lt_up Ld_20 h5
         have HAo_21 := hH (HAo_20.out.later h5)
         have HD_21 := hH (HD_20.out.later h5)
         have HAw_21 := hH (HAw_20.out.later h5)
         have HAp_21 := hH (HAp_20.out.later h5)
         refine hK.out _ _ (Kd_21.out) (fun hHeld => ?_)
         clear hK K h5
         try simp only [Act.put, sA9, sZ9, sS9]
         refine wpAnyH_take (i := 8) (oi := ⟨_, _, _, _, _, _⟩) (v := ?_) rfl (by kernel_rfl) (by kernel_rfl) (by kernel_rfl) (fun _ _ _ h => h) (Or.inl ⟨by rfl, ?_⟩) (by assumption) ?_
         rotate_left
         ·intro w hSw
          try dsimp only at hSw
          go_simp
          try with_reducible rfl
         try simp only [Act.put, sA9, sZ9, sS9]
         refine wpAnyH_take (i := 9) (oi := ⟨_, _, _, _, _, _⟩) (v := ?_) rfl (by kernel_rfl) (by kernel_rfl) (by kernel_rfl) (fun _ _ _ h => h) (Or.inl ⟨by rfl, ?_⟩) (by assumption) ?_
         rotate_left
         ·intro w hSw
          try dsimp only at hSw
          go_simp
          try with_reducible rfl
         try simp only [Act.put, sA9, sZ9, sS9]
         refine wpAnyH_take (i := 10) (oi := ⟨_, _, _, _, _, _⟩) (v := ?_) rfl (by kernel_rfl) (by kernel_rfl) (by kernel_rfl) (fun _ _ _ h => h) (Or.inl ⟨by rfl, ?_⟩) (by assumption) ?_
         rotate_left
         ·intro w hSw
          try dsimp only at hSw
          go_simp
          try with_reducible rfl
         try simp only [Act.put, sA9, sZ9, sS9]
         refine wpAnyH_take (i := 11) (oi := ⟨_, _, _, _, _, _⟩) (v := ?_) rfl (by kernel_rfl) (by kernel_rfl) (by kernel_rfl) (fun _ _ _ h => h) (Or.inl ⟨by rfl, ?_⟩) (by assumption) ?_
         rotate_left
         ·intro w hSw
          try dsimp only at hSw
          go_simp
          try with_reducible rfl
         try simp only [Act.put, sA9, sZ9, sS9]
         refine wpAnyH_take (i := 12) (oi := ⟨_, _, _, _, _, _⟩) (v := _) rfl (by kernel_rfl) (by kernel_rfl) (by kernel_rfl) (fun _ _ _ h => h) (yields_one (by rfl) _ _ rfl _ 2 rfl (fun w h => h) Tryz.underlying24 rfl rfl) (by assumption) ?_
         try simp only [Act.put, sA9, sZ9, sS9]
         refine wpAnyH_take (i := 13) (oi := ⟨_, _, _, _, _, _⟩) (v := ?_) rfl (by kernel_rfl) (by kernel_rfl) (by kernel_rfl) (fun _ _ _ h => h) (Or.inl ⟨by rfl, ?_⟩) (by assumption) ?_
         rotate_left
         ·intro w hSw
          try dsimp only at hSw
          go_simp
          try with_reducible rfl
         try simp only [Act.put, sA9, sZ9, sS9]
         refine wpAnyH_ready (rs := [14]) (by kernel_rfl) (by simp) ?_
         refine AllReadyH.cons (o := ⟨_, _, _, _, _, _⟩) rfl (fun K hK => ?_) ?_
         rotate_left
         ·exact AllReadyH.nil
         go_simp
         go_at_call 33
         refine (opsame_any _ _ o o w21 (by have := HOL.out; omega) (by have := HOL.out; omega) HAo_21.out HAo_21.out).mono ?_
         rw [decide_eq_true (rfl : o = o)]
         rintro e w22 ⟨rfl, h5⟩
         have HB_22 : Hid (Below W.heap.size W w22) := hH (blThen HB_21.out h5)
         have Ki_22 := row_up Ki_21 Li_21 h5
         have Li_22 := lt_up Li_21 h5
         have Kv_22 := row_up Kv_21 Lv_21 h5
         have Lv_22 := lt_up Lv_21 h5
         have Kb_22 := row_up Kb_21 Lb_21 h5
         have Lb_22 := lt_up Lb_21 h5
         have Kd_22 := row_up Kd_21 Ld_21 h5
         have Ld_22 := lt_up Ld_21 h5
         have HAo_22 := hH (HAo_21.out.later h5)
         have HD_22 := hH (HD_21.out.later h5)
         have HAw_22 := hH (HAw_21.out.later h5)
         have HAp_22 := hH (HAp_21.out.later h5)
         refine hK.out _ _ (Kd_22.out) (fun hHeld => ?_)
         clear hK K h5
         try simp only [Act.put, sA9, sZ9, sS9]
         refine wpAnyH_take (i := 15) (oi := ⟨_, _, _, _, _, _⟩) (v := ?_) rfl (by kernel_rfl) (by kernel_rfl) (by kernel_rfl) (fun _ _ _ h => h) (Or.inl ⟨by rfl, ?_⟩) (by assumption) ?_
         rotate_left
         ·intro w hSw
          try dsimp only at hSw
          go_simp
          try with_reducible rfl
         try simp only [Act.put, sA9, sZ9, sS9]
         refine wpAnyH_take (i := 16) (oi := ⟨_, _, _, _, _, _⟩) (v := ?_) rfl (by kernel_rfl) (by kernel_rfl) (by kernel_rfl) (fun _ _ _ h => h) (Or.inl ⟨by rfl, ?_⟩) (by assumption) ?_
         rotate_left
         ·intro w hSw
          try dsimp only at hSw
          go_simp
          try with_reducible rfl
         try simp only [Act.put, sA9, sZ9, sS9]
         refine wpAnyH_done (by kernel_rfl) ?_ _
         have HLD : Hid (∀ Y : World, SlG eO Y (.slice oa o.length oc) o → SD.Dl Y da F → SlG eW Y (.slice wa ws.length wc) ws → Calls Tryz.prog 44 #[.agg (r22 i1 i2 (.slice oa o.length oc) 2 0 0 0 0 false (.slice none 0 0) 0 0 true 0 0 false t1 t2 (.slice da F.length dc) false (.slice none 0 0) (.slice none 0 0)), .slice wa ws.length wc] Y (RetLoad9 Y (⟨(i1, i2), o, 2, z2, z2, false, [], z2, true, z2, (false, (t1, t2), SD.toD F), true, ws, []⟩ : Cm) ⟨.slice oa o.length oc, .slice none 0 0, .slice da F.length dc, .slice none 0 0, .slice none 0 0⟩ ws)) := hH (fun Y ho hd hw => by
          have h := load_yes (d9E (i1, i2) o (false, (t1, t2), SD.toD F)) ⟨.slice oa o.length oc, .slice none 0 0, .slice da F.length dc, .slice none 0 0, .slice none 0 0⟩ ws (.slice wa ws.length wc) Y (HATD.out Y ho hd) (by have := HSW.out; omega) hw ⟨rfl, rfl, rfl⟩
          rw [ends_loa (v := (false, (t1, t2), SD.toD F)) rfl] at h
          exact h)
         have HDO9 : Hid (∀ (Y : World) (nw : Value), SlG eO Y (.slice oa o.length oc) o → SD.Dl Y da F → SlG eW Y nw ws → SlG eP Y (.slice pa ps.length pc) ps → Calls Tryz.prog 45 #[cmV (⟨(i1, i2), o, 2, z2, z2, false, [], z2, true, z2, (false, (t1, t2), SD.toD F), true, ws, []⟩ : Cm) ⟨.slice oa o.length oc, .slice none 0 0, .slice da F.length dc, nw, .slice none 0 0⟩, .slice pa ps.length pc] Y (RetDone9 Y (e9E (i1, i2) o (false, (t1, t2), SD.toD F) ws ps) ⟨.slice oa o.length oc, .slice none 0 0, .slice da F.length dc, nw, .slice none 0 0⟩ ps)) := hH (fun Y nw ho hd hnw hp => by
          have h := done_yes (⟨(i1, i2), o, 2, z2, z2, false, [], z2, true, z2, (false, (t1, t2), SD.toD F), true, ws, []⟩ : Cm) ⟨.slice oa o.length oc, .slice none 0 0, .slice da F.length dc, nw, .slice none 0 0⟩ ps (.slice pa ps.length pc) Y ⟨ho, dl_nil9 _, ⟨da, dc, F, rfl, hd, rfl, HDN.out⟩, hnw, SlG.nil _⟩ (by have := HSP.out; omega) hp ⟨rfl, rfl⟩
          rw [ends_don] at h
          exact h)
         go_upto_region 11 with fail
         go_upto_region 12 with (first | go_skip | ((with_reducible refine atW (w24.alloc (.cells z22 31)) ?_); refine store9 _ _ rfl (by rfl) _ rfl rfl (new_blockC w24 z22 31) rfl rfl (by simp [Value.oneCell']) ?_; intro w25 h1 h2; have h5 := below_grown9 (blAlloc (Below.refl _ _) _) h2 (Nat.le_refl _); have HB_25 : Hid (Below W.heap.size W w25) := hH (blThen HB_24.out h5); have Ki_25 := row_up Ki_24 Li_24 h5; have Li_25 := lt_up Li_24 h5; have Kv_25 := row_up Kv_24 Lv_24 h5; have Kb_25 := row_up Kb_24 Lb_24 h5; have HAo_25 := hH (HAo_24.out.later h5); have HD_25 := hH (HD_24.out.later h5); have HAp_25 := hH (HAp_24.out.later h5); have HWo_25 := hH (HWo_24.out.later h5); have HPo_25 := hH (HPo_24.out.later h5); have Ke_25 := hH h1; have Le_25 : Hid (w24.heap.size < w25.heap.size) := hH (by have := h2.size; simp only [World.size_alloc] at this; omega); clear h1 h2 h5) | ((with_reducible refine atC w23 ?_); go_at_call 45; go_must (refine (HDO9.out w23 _ HAo_23.out HD_23.out HWo_23.out HAp_23.out).mono ?_; intro e w24 h; unfold RetDone9 at h; obtain ⟨np, rfl, hop, h5⟩ := h; obtain ⟨ya, yc, rfl⟩ := hop.form; simp only [cmV, e9E, z2]; have HB_24 : Hid (Below W.heap.size W w24) := hH (blThen HB_23.out h5); have Ki_24 := row_up Ki_23 Li_23 h5; have Li_24 := lt_up Li_23 h5; have Kv_24 := row_up Kv_23 Lv_23 h5; have Lv_24 := lt_up Lv_23 h5; have Kb_24 := row_up Kb_23 Lb_23 h5; have Lb_24 := lt_up Lb_23 h5; have Kd_24 := row_up Kd_23 Ld_23 h5; have HAo_24 := hH (HAo_23.out.later h5); have HD_24 := hH (HD_23.out.later h5); have HAp_24 := hH (HAp_23.out.later h5); have HWo_24 := hH (HWo_23.out.later h5); have HPo_24 := hH hop.sl; clear hop h5)) | ((with_reducible refine atC w22 ?_); go_at_call 44; go_must (refine (HLD.out w22 HAo_22.out HD_22.out HAw_22.out).mono ?_; intro e w23 h; unfold RetLoad9 at h; obtain ⟨nw, rfl, how, h5⟩ := h; obtain ⟨xa, xc, rfl⟩ := how.form; have HB_23 : Hid (Below W.heap.size W w23) := hH (blThen HB_22.out h5); have Ki_23 := row_up Ki_22 Li_22 h5; have Li_23 := lt_up Li_22 h5; have Kv_23 := row_up Kv_22 Lv_22 h5; have Lv_23 := lt_up Lv_22 h5; have Kb_23 := row_up Kb_22 Lb_22 h5; have Lb_23 := lt_up Lb_22 h5; have Kd_23 := row_up Kd_22 Ld_22 h5; have Ld_23 := lt_up Ld_22 h5; have HAo_23 := hH (HAo_22.out.later h5); have HD_23 := hH (HD_22.out.later h5); have HAp_23 := hH (HAp_22.out.later h5); have HWo_23 := hH how.sl; clear how h5)) | ((with_reducible refine atW w22 ?_); refine load9 _ rfl (by rfl) _ rfl Kd_22.out rfl ?_))
         have HATE : Hid (∀ Y : World, SlG eO Y (.slice oa o.length oc) o → SD.Dl Y da F → SlG eW Y (.slice xa ws.length xc) ws → SlG eP Y (.slice ya ps.length yc) ps → CmAt Y (e9E (i1, i2) o (false, (t1, t2), SD.toD F) ws ps) ⟨.slice oa o.length oc, .slice none 0 0, .slice da F.length dc, .slice xa ws.length xc, .slice ya ps.length yc⟩) := hH (fun Y ho hd hw hp => ⟨ho, dl_nil9 _, ⟨da, dc, F, rfl, hd, rfl, HDN.out⟩, hw, hp⟩)
         have HFE : Hid (FewC (e9E (i1, i2) o (false, (t1, t2), SD.toD F) ws ps)) := hH (few_ends _ HOL.out HFV.out HSW.out HSP.out)
         have HFI : Hid (finB (e9E (i1, i2) o (false, (t1, t2), SD.toD F) ws ps) = true) := hH rfl
         have HMAY : Hid (checkC (e9E (i1, i2) o (false, (t1, t2), SD.toD F) ws ps) = 0) := hH (ends_may HIS.out HCO.out HVB.out rfl HWS.out HPS.out)
         have HACC : Hid (∀ Y : World, CmAt Y (e9E (i1, i2) o (false, (t1, t2), SD.toD F) ws ps) ⟨.slice oa o.length oc, .slice none 0 0, .slice da F.length dc, .slice xa ws.length xc, .slice ya ps.length yc⟩ → SD.Dl Y da F → Calls Tryz.prog 40 #[.agg (r22 i1 i2 (.slice oa o.length oc) 3 0 0 0 0 false (.slice none 0 0) 0 0 true 0 0 false t1 t2 (.slice da F.length dc) true (.slice xa ws.length xc) (.slice ya ps.length yc)), .agg #[.int .i64 b1, .int .i64 b2], .agg #[.bool false, .int .i64 t1, .int .i64 t2, .slice da F.length dc]] Y fun e w' => e = .returned (.tuple #[.agg (r22 i1 i2 (.slice oa o.length oc) 3 0 0 0 0 false (.slice none 0 0) 0 0 true 0 0 false t1 t2 (.slice da F.length dc) true (.slice xa ws.length xc) (.slice ya ps.length yc)), .bool false]) ∧ Below Y.heap.size Y w') := hH (fun Y hat hd => by have h := accept_any (e9E (i1, i2) o (false, (t1, t2), SD.toD F) ws ps) ⟨.slice oa o.length oc, .slice none 0 0, .slice da F.length dc, .slice xa ws.length xc, .slice ya ps.length yc⟩ (b1, b2) (false, (t1, t2), SD.toD F) (.slice da F.length dc) Y hat ⟨da, dc, F, rfl, hd, rfl, HDN.out⟩; rw [ends_acc, ends_no, if_neg (by decide)] at h; exact h)
         go_wp2_with (first | go_skip | ((with_reducible refine atW (w26.alloc (.cells z22 31)) ?_); refine store9 _ _ rfl (by rfl) _ rfl rfl (new_blockC w26 z22 31) rfl rfl (by simp [Value.oneCell']) ?_; intro w27 h1 h2; have h5 := below_grown9 (blAlloc (Below.refl _ _) _) h2 (Nat.le_refl _); have HB_27 : Hid (Below W.heap.size W w27) := hH (blThen HB_26.out h5); have Ki_27 := row_up Ki_26 Li_26 h5; have Li_27 := lt_up Li_26 h5; have Ke_27 := row_up Ke_26 Le_26 h5; have Le_27 := lt_up Le_26 h5; have HAo_27 := hH (HAo_26.out.later h5); have HD_27 := hH (HD_26.out.later h5); have HAp_27 := hH (HAp_26.out.later h5); have HWo_27 := hH (HWo_26.out.later h5); have HPo_27 := hH (HPo_26.out.later h5); have Kf_27 := hH h1; have Lf_27 : Hid (w26.heap.size < w27.heap.size) := hH (by have := h2.size; simp only [World.size_alloc] at this; omega); clear h1 h2 h5) | ((with_reducible refine atC w25 ?_); go_at_call 40; go_must (refine (HACC.out w25 (HATE.out w25 HAo_25.out HD_25.out HWo_25.out HPo_25.out) HD_25.out).mono ?_; rintro e w26 ⟨rfl, h5⟩; have HB_26 : Hid (Below W.heap.size W w26) := hH (blThen HB_25.out h5); have Ki_26 := row_up Ki_25 Li_25 h5; have Li_26 := lt_up Li_25 h5; have Ke_26 := row_up Ke_25 Le_25 h5; have Le_26 := lt_up Le_25 h5; have HAo_26 := hH (HAo_25.out.later h5); have HD_26 := hH (HD_25.out.later h5); have HAp_26 := hH (HAp_25.out.later h5); have HWo_26 := hH (HWo_25.out.later h5); have HPo_26 := hH (HPo_25.out.later h5); clear h5)) | ((with_reducible refine atW w25 ?_); refine wpList_load_part _ _ rfl (by rfl) _ 0 rfl Kv_25.out Tryz.underlying27 rfl #[.bool false, .int .i64 t1, .int .i64 t2, .slice da F.length dc] (by kernel_rfl) (four_at rfl rfl rfl rfl) ?_) | ((with_reducible refine atW w25 ?_); refine wpList_load_part _ _ rfl (by rfl) _ 0 rfl Kb_25.out Tryz.underlying23 rfl #[.int .i64 b1, .int .i64 b2] (by kernel_rfl) (two_at rfl rfl) ?_) | ((with_reducible refine atW w25 ?_); refine load9 _ rfl (by rfl) _ rfl Ke_25.out rfl ?_))
         refine wp_region_held_drew (S := fun Y => Y.heap[w24.heap.size]? = some (.cells (r22 i1 i2 (.slice oa o.length oc) 3 0 0 0 0 false (.slice none 0 0) 0 0 true 0 0 false t1 t2 (.slice da F.length dc) true (.slice xa ws.length xc) (.slice ya ps.length yc)) 31 (0, 0)) ∧ Y.heap[w26.heap.size]? = some (.cells (r22 i1 i2 (.slice oa o.length oc) 3 0 0 0 0 false (.slice none 0 0) 0 0 true 0 0 false t1 t2 (.slice da F.length dc) true (.slice xa ws.length xc) (.slice ya ps.length yc)) 31 (0, 0)) ∧ Y.heap[W.heap.size]? = some (.cells #[.int .i64 i1, .int .i64 i2] 23 (0, 0))) (by kernel_rfl) (⟨Ke_27.out, Kf_27.out, Ki_27.out⟩) (fun hHeld => ?_)
         have h5 : Below w27.heap.size w27 w27.drew := (Below.refl _ _).drew
         have HB_28 : Hid (Below W.heap.size W w27.drew) := hH (blThen HB_27.out h5)
         have Ki_28 := row_up Ki_27 Li_27 h5
         have Li_28 := lt_up Li_27 h5
         have Ke_28 := row_up Ke_27 Le_27 h5
         have Le_28 := lt_up Le_27 h5
         have Kf_28 := row_up Kf_27 Lf_27 h5
         have Lf_28 := lt_up Lf_27 h5
         have HAo_28 := hH (HAo_27.out.later h5)
         have HD_28 := hH (HD_27.out.later h5)
         have HAp_28 := hH (HAp_27.out.later h5)
         have HWo_28 := hH (HWo_27.out.later h5)
         have HPo_28 := hH (HPo_27.out.later h5)
         clear h5
         generalize w27.drew = w28 at *
         refine wpAnyH_take (i := 0) (oi := ⟨_, _, _, _, _, _⟩) (v := _) rfl (by kernel_rfl) (by kernel_rfl) (by kernel_rfl) (fun _ _ _ h => h) (yields_row (by rfl) _ _ rfl _ 0 rfl (fun w h => h.1) Tryz.underlying31 rfl (r22 i1 i2 (.slice oa o.length oc) 3 0 0 0 0 false (.slice none 0 0) 0 0 true 0 0 false t1 t2 (.slice da F.length dc) true (.slice xa ws.length xc) (.slice ya ps.length yc)) szCmd all_at) (by assumption) ?_
         try simp only [Act.put, sA9, sZ9, sS9]
         refine wpAnyH_ready (rs := [1]) (by kernel_rfl) (by simp) ?_
         refine AllReadyH.cons (o := ⟨_, _, _, _, _, _⟩) rfl (fun K hK => ?_) ?_
         rotate_left
         ·exact AllReadyH.nil
         go_simp
         go_at_call 26
         refine (final_any (e9E (i1, i2) o (false, (t1, t2), SD.toD F) ws ps) ⟨.slice oa o.length oc, .slice none 0 0, .slice da F.length dc, .slice xa ws.length xc, .slice ya ps.length yc⟩ w28).mono ?_
         rw [HFI.out]
         rintro e w29 ⟨rfl, h5⟩
         have HB_29 : Hid (Below W.heap.size W w29) := hH (blThen HB_28.out h5)
         have Ki_29 := row_up Ki_28 Li_28 h5
         have Li_29 := lt_up Li_28 h5
         have Ke_29 := row_up Ke_28 Le_28 h5
         have Le_29 := lt_up Le_28 h5
         have Kf_29 := row_up Kf_28 Lf_28 h5
         have Lf_29 := lt_up Lf_28 h5
         have HAo_29 := hH (HAo_28.out.later h5)
         have HD_29 := hH (HD_28.out.later h5)
         have HAp_29 := hH (HAp_28.out.later h5)
         have HWo_29 := hH (HWo_28.out.later h5)
         have HPo_29 := hH (HPo_28.out.later h5)
         refine hK.out _ _ (⟨Ke_29.out, Kf_29.out, Ki_29.out⟩) (fun hHeld => ?_)
         clear hK K h5
         try simp only [Act.put, sA9, sZ9, sS9]
         refine wpAnyH_take (i := 2) (oi := ⟨_, _, _, _, _, _⟩) (v := ?_) rfl (by kernel_rfl) (by kernel_rfl) (by kernel_rfl) (fun _ _ _ h => h) (Or.inl ⟨by rfl, ?_⟩) (by assumption) ?_
         rotate_left
         ·intro w hSw
          try dsimp only at hSw
          go_simp
          try with_reducible rfl
         try simp only [Act.put, sA9, sZ9, sS9]
         refine wpAnyH_take (i := 3) (oi := ⟨_, _, _, _, _, _⟩) (v := ?_) rfl (by kernel_rfl) (by kernel_rfl) (by kernel_rfl) (fun _ _ _ h => h) (Or.inl ⟨by rfl, ?_⟩) (by assumption) ?_
         rotate_left
         ·intro w hSw
          try dsimp only at hSw
          go_simp
          try with_reducible rfl
         try simp only [Act.put, sA9, sZ9, sS9]
         refine wpAnyH_take (i := 4) (oi := ⟨_, _, _, _, _, _⟩) (v := _) rfl (by kernel_rfl) (by kernel_rfl) (by kernel_rfl) (fun _ _ _ h => h) (yields_one (by rfl) _ _ rfl _ 3 rfl (fun w h => h.1) Tryz.underlying3 rfl rfl) (by assumption) ?_
         try simp only [Act.put, sA9, sZ9, sS9]
         refine wpAnyH_take (i := 5) (oi := ⟨_, _, _, _, _, _⟩) (v := ?_) rfl (by kernel_rfl) (by kernel_rfl) (by kernel_rfl) (fun _ _ _ h => h) (Or.inl ⟨by rfl, ?_⟩) (by assumption) ?_
         rotate_left
         ·intro w hSw
          try dsimp only at hSw
          go_simp
          try with_reducible rfl
         try simp only [Act.put, sA9, sZ9, sS9]
         refine wpAnyH_take (i := 6) (oi := ⟨_, _, _, _, _, _⟩) (v := ?_) rfl (by kernel_rfl) (by kernel_rfl) (by kernel_rfl) (fun _ _ _ h => h) (Or.inl ⟨by rfl, ?_⟩) (by assumption) ?_
         rotate_left
         ·intro w hSw
          try dsimp only at hSw
          go_simp
          try with_reducible rfl
         try simp only [Act.put, sA9, sZ9, sS9]
         refine wpAnyH_take (i := 7) (oi := ⟨_, _, _, _, _, _⟩) (v := ?_) rfl (by kernel_rfl) (by kernel_rfl) (by kernel_rfl) (fun _ _ _ h => h) (Or.inl ⟨by rfl, ?_⟩) (by assumption) ?_
         rotate_left
         ·intro w hSw
          try dsimp only at hSw
          go_simp
          try with_reducible rfl
         try simp only [Act.put, sA9, sZ9, sS9]
         refine wpAnyH_take (i := 8) (oi := ⟨_, _, _, _, _, _⟩) (v := ?_) rfl (by kernel_rfl) (by kernel_rfl) (by kernel_rfl) (fun _ _ _ h => h) (Or.inl ⟨by rfl, ?_⟩) (by assumption) ?_
         rotate_left
         ·intro w hSw
          try dsimp only at hSw
          go_simp
          try with_reducible rfl
         try simp only [Act.put, sA9, sZ9, sS9]
         refine wpAnyH_take (i := 9) (oi := ⟨_, _, _, _, _, _⟩) (v := _) rfl (by kernel_rfl) (by kernel_rfl) (by kernel_rfl) (fun _ _ _ h => h) (yields_one (by rfl) _ _ rfl _ 21 rfl (fun w h => h.1) Tryz.underlying29 rfl rfl) (by assumption) ?_
         try simp only [Act.put, sA9, sZ9, sS9]
         refine wpAnyH_take (i := 10) (oi := ⟨_, _, _, _, _, _⟩) (v := ?_) rfl (by kernel_rfl) (by kernel_rfl) (by kernel_rfl) (fun _ _ _ h => h) (Or.inl ⟨by rfl, ?_⟩) (by assumption) ?_
         rotate_left
         ·intro w hSw
          try dsimp only at hSw
          go_simp
          try with_reducible rfl
         try simp only [Act.put, sA9, sZ9, sS9]
         refine wpAnyH_ready (rs := [11]) (by kernel_rfl) (by simp) ?_
         refine AllReadyH.cons (o := ⟨_, _, _, _, _, _⟩) rfl (fun K hK => ?_) ?_
         rotate_left
         ·exact AllReadyH.nil
         go_simp
         go_at_call 47
         refine (prsame_any _ _ ps ps w29 (by have := HSP.out; omega) (by have := HSP.out; omega) HPo_29.out HAp_29.out).mono ?_
         rw [decide_eq_true (rfl : ps = ps)]
         rintro e w30 ⟨rfl, h5⟩
         have HB_30 : Hid (Below W.heap.size W w30) := hH (blThen HB_29.out h5)
         have Ki_30 := row_up Ki_29 Li_29 h5
         have Li_30 := lt_up Li_29 h5
         have Ke_30 := row_up Ke_29 Le_29 h5
         have Le_30 := lt_up Le_29 h5
         have Kf_30 := row_up Kf_29 Lf_29 h5
         have Lf_30 := lt_up Lf_29 h5
         have HAo_30 := hH (HAo_29.out.later h5)
         have HD_30 := hH (HD_29.out.later h5)
         have HWo_30 := hH (HWo_29.out.later h5)
         have HPo_30 := hH (HPo_29.out.later h5)
         refine hK.out _ _ (⟨Ke_30.out, Kf_30.out, Ki_30.out⟩) (fun hHeld => ?_)
         clear hK K h5
         try simp only [Act.put, sA9, sZ9, sS9]
         refine wpAnyH_take (i := 12) (oi := ⟨_, _, _, _, _, _⟩) (v := ?_) rfl (by kernel_rfl) (by kernel_rfl) (by kernel_rfl) (fun _ _ _ h => h) (Or.inl ⟨by rfl, ?_⟩) (by assumption) ?_
         rotate_left
         ·intro w hSw
          try dsimp only at hSw
          go_simp
          try with_reducible rfl
         try simp only [Act.put, sA9, sZ9, sS9]
         refine wpAnyH_take (i := 13) (oi := ⟨_, _, _, _, _, _⟩) (v := ?_) rfl (by kernel_rfl) (by kernel_rfl) (by kernel_rfl) (fun _ _ _ h => h) (Or.inl ⟨by rfl, ?_⟩) (by assumption) ?_
         rotate_left
         ·intro w hSw
          try dsimp only at hSw
          go_simp
          try with_reducible rfl
         try simp only [Act.put, sA9, sZ9, sS9]
         refine wpAnyH_take (i := 14) (oi := ⟨_, _, _, _, _, _⟩) (v := ?_) rfl (by kernel_rfl) (by kernel_rfl) (by kernel_rfl) (fun _ _ _ h => h) (Or.inl ⟨by rfl, ?_⟩) (by assumption) ?_
         rotate_left
         ·intro w hSw
          try dsimp only at hSw
          go_simp
          try with_reducible rfl
         try simp only [Act.put, sA9, sZ9, sS9]
         refine wpAnyH_take (i := 15) (oi := ⟨_, _, _, _, _, _⟩) (v := ?_) rfl (by kernel_rfl) (by kernel_rfl) (by kernel_rfl) (fun _ _ _ h => h) (Or.inl ⟨by rfl, ?_⟩) (by assumption) ?_
         rotate_left
         ·intro w hSw
          try dsimp only at hSw
          go_simp
          try with_reducible rfl
         try simp only [Act.put, sA9, sZ9, sS9]
         refine wpAnyH_take (i := 16) (oi := ⟨_, _, _, _, _, _⟩) (v := ?_) rfl (by kernel_rfl) (by kernel_rfl) (by kernel_rfl) (fun _ _ _ h => h) (Or.inl ⟨by rfl, ?_⟩) (by assumption) ?_
         rotate_left
         ·intro w hSw
          try dsimp only at hSw
          go_simp
          try with_reducible rfl
         try simp only [Act.put, sA9, sZ9, sS9]
         refine wpAnyH_take (i := 17) (oi := ⟨_, _, _, _, _, _⟩) (v := ?_) rfl (by kernel_rfl) (by kernel_rfl) (by kernel_rfl) (fun _ _ _ h => h) (Or.inl ⟨by rfl, ?_⟩) (by assumption) ?_
         rotate_left
         ·intro w hSw
          try dsimp only at hSw
          go_simp
          try with_reducible rfl
         try simp only [Act.put, sA9, sZ9, sS9]
         refine wpAnyH_take (i := 18) (oi := ⟨_, _, _, _, _, _⟩) (v := _) rfl (by kernel_rfl) (by kernel_rfl) (by kernel_rfl) (fun _ _ _ h => h) (yields_row (by rfl) _ _ rfl _ 0 rfl (fun w h => h.2.1) Tryz.underlying31 rfl (r22 i1 i2 (.slice oa o.length oc) 3 0 0 0 0 false (.slice none 0 0) 0 0 true 0 0 false t1 t2 (.slice da F.length dc) true (.slice xa ws.length xc) (.slice ya ps.length yc)) szCmd all_at) (by assumption) ?_
         try simp only [Act.put, sA9, sZ9, sS9]
         refine wpAnyH_take (i := 19) (oi := ⟨_, _, _, _, _, _⟩) (v := _) rfl (by kernel_rfl) (by kernel_rfl) (by kernel_rfl) (fun _ _ _ h => h) (yields_row (by rfl) _ _ rfl _ 0 rfl (fun w h => h.1) Tryz.underlying31 rfl (r22 i1 i2 (.slice oa o.length oc) 3 0 0 0 0 false (.slice none 0 0) 0 0 true 0 0 false t1 t2 (.slice da F.length dc) true (.slice xa ws.length xc) (.slice ya ps.length yc)) szCmd all_at) (by assumption) ?_
         try simp only [Act.put, sA9, sZ9, sS9]
         refine wpAnyH_ready (rs := [20]) (by kernel_rfl) (by simp) ?_
         refine AllReadyH.cons (o := ⟨_, _, _, _, _, _⟩) rfl (fun K hK => ?_) ?_
         rotate_left
         ·exact AllReadyH.nil
         go_simp
         go_at_call 20
         refine (rsame9_any (e9E (i1, i2) o (false, (t1, t2), SD.toD F) ws ps) ⟨.slice oa o.length oc, .slice none 0 0, .slice da F.length dc, .slice xa ws.length xc, .slice ya ps.length yc⟩ ⟨.slice oa o.length oc, .slice none 0 0, .slice da F.length dc, .slice xa ws.length xc, .slice ya ps.length yc⟩ w30 (HATE.out w30 HAo_30.out HD_30.out HWo_30.out HPo_30.out) (HATE.out w30 HAo_30.out HD_30.out HWo_30.out HPo_30.out) HFE.out).mono ?_
         rintro e w31 ⟨rfl, h5⟩
         have HB_31 : Hid (Below W.heap.size W w31) := hH (blThen HB_30.out h5)
         have Ki_31 := row_up Ki_30 Li_30 h5
         have Li_31 := lt_up Li_30 h5
         have Ke_31 := row_up Ke_30 Le_30 h5
         have Le_31 := lt_up Le_30 h5
         have Kf_31 := row_up Kf_30 Lf_30 h5
         have Lf_31 := lt_up Lf_30 h5
         have HAo_31 := hH (HAo_30.out.later h5)
         have HD_31 := hH (HD_30.out.later h5)
         have HWo_31 := hH (HWo_30.out.later h5)
         have HPo_31 := hH (HPo_30.out.later h5)
         refine hK.out _ _ (⟨Ke_31.out, Kf_31.out, Ki_31.out⟩) (fun hHeld => ?_)
         clear hK K h5
         try simp only [Act.put, sA9, sZ9, sS9]
         refine wpAnyH_take (i := 21) (oi := ⟨_, _, _, _, _, _⟩) (v := ?_) rfl (by kernel_rfl) (by kernel_rfl) (by kernel_rfl) (fun _ _ _ h => h) (Or.inl ⟨by rfl, ?_⟩) (by assumption) ?_
         rotate_left
         ·intro w hSw
          try dsimp only at hSw
          go_simp
          try with_reducible rfl
         try simp only [Act.put, sA9, sZ9, sS9]
         refine wpAnyH_take (i := 22) (oi := ⟨_, _, _, _, _, _⟩) (v := ?_) rfl (by kernel_rfl) (by kernel_rfl) (by kernel_rfl) (fun _ _ _ h => h) (Or.inl ⟨by rfl, ?_⟩) (by assumption) ?_
         rotate_left
         ·intro w hSw
          try dsimp only at hSw
          go_simp
          try with_reducible rfl
         try simp only [Act.put, sA9, sZ9, sS9]
         refine wpAnyH_take (i := 23) (oi := ⟨_, _, _, _, _, _⟩) (v := _) rfl (by kernel_rfl) (by kernel_rfl) (by kernel_rfl) (fun _ _ _ h => h) (yields_row (by rfl) _ _ rfl _ 0 rfl (fun w h => h.1) Tryz.underlying31 rfl (r22 i1 i2 (.slice oa o.length oc) 3 0 0 0 0 false (.slice none 0 0) 0 0 true 0 0 false t1 t2 (.slice da F.length dc) true (.slice xa ws.length xc) (.slice ya ps.length yc)) szCmd all_at) (by assumption) ?_
         try simp only [Act.put, sA9, sZ9, sS9]
         refine wpAnyH_take (i := 24) (oi := ⟨_, _, _, _, _, _⟩) (v := ?_) rfl (by kernel_rfl) (by kernel_rfl) (by kernel_rfl) (fun _ _ _ h => h) (Or.inl ⟨by rfl, ?_⟩) (by assumption) ?_
         rotate_left
         ·intro w hSw
          try dsimp only at hSw
          go_simp
          try with_reducible rfl
         try simp only [Act.put, sA9, sZ9, sS9]
         refine wpAnyH_take (i := 25) (oi := ⟨_, _, _, _, _, _⟩) (v := _) rfl (by kernel_rfl) (by kernel_rfl) (by kernel_rfl) (fun _ _ _ h => h) (yields_row (by rfl) _ _ rfl _ 0 rfl (fun w h => h.2.2) Tryz.underlying23 rfl #[.int .i64 i1, .int .i64 i2] (by kernel_rfl) (two_at rfl rfl)) (by assumption) ?_
         try simp only [Act.put, sA9, sZ9, sS9]
         refine wpAnyH_take (i := 27) (oi := ⟨_, _, _, _, _, _⟩) (v := _) rfl (by kernel_rfl) (by kernel_rfl) (by kernel_rfl) (fun _ _ _ h => h) (yields_row (by rfl) _ _ rfl _ 0 rfl (fun w h => h.1) Tryz.underlying31 rfl (r22 i1 i2 (.slice oa o.length oc) 3 0 0 0 0 false (.slice none 0 0) 0 0 true 0 0 false t1 t2 (.slice da F.length dc) true (.slice xa ws.length xc) (.slice ya ps.length yc)) szCmd all_at) (by assumption) ?_
         try simp only [Act.put, sA9, sZ9, sS9]
         refine wpAnyH_ready (rs := [26]) (by kernel_rfl) (by simp) ?_
         refine AllReadyH.cons (o := ⟨_, _, _, _, _, _⟩) rfl (fun K hK => ?_) ?_
         rotate_left
         ·exact AllReadyH.nil
         go_simp
         go_at_call 48
         refine (witness_seen (e9E (i1, i2) o (false, (t1, t2), SD.toD F) ws ps) ⟨.slice oa o.length oc, .slice none 0 0, .slice da F.length dc, .slice xa ws.length xc, .slice ya ps.length yc⟩ (.slice oa o.length oc) (.slice none 0 0) (i1, i2) true w31 (HATE.out w31 HAo_31.out HD_31.out HWo_31.out HPo_31.out) (ops_ne HCO.out)).mono ?_
         intro e w32 h
         unfold RetL at h
         obtain ⟨rfl, h5⟩ := h
         simp only [cmV, e9E, z2]
         have HB_32 : Hid (Below W.heap.size W w32) := hH (blThen HB_31.out h5)
         have Ki_32 := row_up Ki_31 Li_31 h5
         have Li_32 := lt_up Li_31 h5
         have Ke_32 := row_up Ke_31 Le_31 h5
         have Le_32 := lt_up Le_31 h5
         have Kf_32 := row_up Kf_31 Lf_31 h5
         have Lf_32 := lt_up Lf_31 h5
         have HAo_32 := hH (HAo_31.out.later h5)
         have HD_32 := hH (HD_31.out.later h5)
         have HWo_32 := hH (HWo_31.out.later h5)
         have HPo_32 := hH (HPo_31.out.later h5)
         refine hK.out _ _ (⟨Ke_32.out, Kf_32.out, Ki_32.out⟩) (fun hHeld => ?_)
         clear hK K h5
         try simp only [Act.put, sA9, sZ9, sS9]
         refine wpAnyH_ready (rs := [28]) (by kernel_rfl) (by simp) ?_
         refine AllReadyH.cons (o := ⟨_, _, _, _, _, _⟩) rfl (fun K hK => ?_) ?_
         rotate_left
         ·exact AllReadyH.nil
         go_simp
         go_at_call 20
         refine (rsame9_any (e9E (i1, i2) o (false, (t1, t2), SD.toD F) ws ps) ⟨.slice oa o.length oc, .slice none 0 0, .slice da F.length dc, .slice xa ws.length xc, .slice ya ps.length yc⟩ ⟨.slice oa o.length oc, .slice none 0 0, .slice da F.length dc, .slice xa ws.length xc, .slice ya ps.length yc⟩ w32 (HATE.out w32 HAo_32.out HD_32.out HWo_32.out HPo_32.out) (HATE.out w32 HAo_32.out HD_32.out HWo_32.out HPo_32.out) HFE.out).mono ?_
         rintro e w33 ⟨rfl, h5⟩
         have HB_33 : Hid (Below W.heap.size W w33) := hH (blThen HB_32.out h5)
         have Ki_33 := row_up Ki_32 Li_32 h5
         have Li_33 := lt_up Li_32 h5
         have Ke_33 := row_up Ke_32 Le_32 h5
         have Le_33 := lt_up Le_32 h5
         have Kf_33 := row_up Kf_32 Lf_32 h5
         have Lf_33 := lt_up Lf_32 h5
         have HAo_33 := hH (HAo_32.out.later h5)
         have HD_33 := hH (HD_32.out.later h5)
         have HWo_33 := hH (HWo_32.out.later h5)
         have HPo_33 := hH (HPo_32.out.later h5)
         refine hK.out _ _ (⟨Ke_33.out, Kf_33.out, Ki_33.out⟩) (fun hHeld => ?_)
         clear hK K h5
         try simp only [Act.put, sA9, sZ9, sS9]
         refine wpAnyH_take (i := 29) (oi := ⟨_, _, _, _, _, _⟩) (v := ?_) rfl (by kernel_rfl) (by kernel_rfl) (by kernel_rfl) (fun _ _ _ h => h) (Or.inl ⟨by rfl, ?_⟩) (by assumption) ?_
         rotate_left
         ·intro w hSw
          try dsimp only at hSw
          go_simp
          try with_reducible rfl
         try simp only [Act.put, sA9, sZ9, sS9]
         refine wpAnyH_take (i := 30) (oi := ⟨_, _, _, _, _, _⟩) (v := ?_) rfl (by kernel_rfl) (by kernel_rfl) (by kernel_rfl) (fun _ _ _ h => h) (Or.inl ⟨by rfl, ?_⟩) (by assumption) ?_
         rotate_left
         ·intro w hSw
          try dsimp only at hSw
          go_simp
          try with_reducible rfl
         try simp only [Act.put, sA9, sZ9, sS9]
         refine wpAnyH_take (i := 31) (oi := ⟨_, _, _, _, _, _⟩) (v := _) rfl (by kernel_rfl) (by kernel_rfl) (by kernel_rfl) (fun _ _ _ h => h) (yields_row (by rfl) _ _ rfl _ 0 rfl (fun w h => h.1) Tryz.underlying31 rfl (r22 i1 i2 (.slice oa o.length oc) 3 0 0 0 0 false (.slice none 0 0) 0 0 true 0 0 false t1 t2 (.slice da F.length dc) true (.slice xa ws.length xc) (.slice ya ps.length yc)) szCmd all_at) (by assumption) ?_
         try simp only [Act.put, sA9, sZ9, sS9]
         refine wpAnyH_ready (rs := [32]) (by kernel_rfl) (by simp) ?_
         refine AllReadyH.cons (o := ⟨_, _, _, _, _, _⟩) rfl (fun K hK => ?_) ?_
         rotate_left
         ·exact AllReadyH.nil
         go_simp
         go_at_call 18
         refine (check9_any (e9E (i1, i2) o (false, (t1, t2), SD.toD F) ws ps) ⟨.slice oa o.length oc, .slice none 0 0, .slice da F.length dc, .slice xa ws.length xc, .slice ya ps.length yc⟩ w33 (HATE.out w33 HAo_33.out HD_33.out HWo_33.out HPo_33.out) HFE.out).mono ?_
         rw [HMAY.out]
         rintro e w34 ⟨rfl, h5⟩
         have HB_34 : Hid (Below W.heap.size W w34) := hH (blThen HB_33.out h5)
         have Ki_34 := row_up Ki_33 Li_33 h5
         have Li_34 := lt_up Li_33 h5
         have Ke_34 := row_up Ke_33 Le_33 h5
         have Le_34 := lt_up Le_33 h5
         have Kf_34 := row_up Kf_33 Lf_33 h5
         have Lf_34 := lt_up Lf_33 h5
         refine hK.out _ _ (⟨Ke_34.out, Kf_34.out, Ki_34.out⟩) (fun hHeld => ?_)
         clear hK K h5
         try simp only [Act.put, sA9, sZ9, sS9]
         refine wpAnyH_ready (rs := [33]) (by kernel_rfl) (by simp) ?_
         refine AllReadyH.cons (o := ⟨_, _, _, _, _, _⟩) rfl (fun K hK => ?_) ?_
         rotate_left
         ·exact AllReadyH.nil
         go_simp
         go_at_call 17
         refine (num9_any _ _).mono ?_
         rintro e wq ⟨rfl, rfl⟩
         refine hK.out _ _ (⟨Ke_34.out, Kf_34.out, Ki_34.out⟩) (fun hHeld => ?_)
         clear hK K
         try simp only [Act.put, sA9, sZ9, sS9]
         refine wpAnyH_take (i := 34) (oi := ⟨_, _, _, _, _, _⟩) (v := ?_) rfl (by kernel_rfl) (by kernel_rfl) (by kernel_rfl) (fun _ _ _ h => h) (Or.inl ⟨by rfl, ?_⟩) (by assumption) ?_
         rotate_left
         ·intro w hSw
          try dsimp only at hSw
          go_simp
          try with_reducible rfl
         try simp only [Act.put, sA9, sZ9, sS9]
         refine wpAnyH_take (i := 35) (oi := ⟨_, _, _, _, _, _⟩) (v := ?_) rfl (by kernel_rfl) (by kernel_rfl) (by kernel_rfl) (fun _ _ _ h => h) (Or.inl ⟨by rfl, ?_⟩) (by assumption) ?_
         rotate_left
         ·intro w hSw
          try dsimp only at hSw
          go_simp
          try with_reducible rfl
         try simp only [Act.put, sA9, sZ9, sS9]
         refine wpAnyH_take (i := 36) (oi := ⟨_, _, _, _, _, _⟩) (v := ?_) rfl (by kernel_rfl) (by kernel_rfl) (by kernel_rfl) (fun _ _ _ h => h) (Or.inl ⟨by rfl, ?_⟩) (by assumption) ?_
         rotate_left
         ·intro w hSw
          try dsimp only at hSw
          go_simp
          try with_reducible rfl
         try simp only [Act.put, sA9, sZ9, sS9]
         refine wpAnyH_ready (rs := [37]) (by kernel_rfl) (by simp) ?_
         refine AllReadyH.cons (o := ⟨_, _, _, _, _, _⟩) rfl (fun K hK => ?_) ?_
         rotate_left
         ·exact AllReadyH.nil
         go_simp
         go_at_call 14
         refine (live9_any w34).mono ?_
         rintro e w35 ⟨rfl, h5⟩
         have HB_35 : Hid (Below W.heap.size W w35) := hH (blThen HB_34.out h5)
         have Ki_35 := row_up Ki_34 Li_34 h5
         have Ke_35 := row_up Ke_34 Le_34 h5
         have Kf_35 := row_up Kf_34 Lf_34 h5
         refine hK.out _ _ (⟨Ke_35.out, Kf_35.out, Ki_35.out⟩) (fun hHeld => ?_)
         clear hK K h5
         try simp only [Act.put, sA9, sZ9, sS9]
         refine wpAnyH_take (i := 38) (oi := ⟨_, _, _, _, _, _⟩) (v := ?_) rfl (by kernel_rfl) (by kernel_rfl) (by kernel_rfl) (fun _ _ _ h => h) (Or.inl ⟨by rfl, ?_⟩) (by assumption) ?_
         rotate_left
         ·intro w hSw
          try dsimp only at hSw
          go_simp
          try with_reducible rfl
         try simp only [Act.put, sA9, sZ9, sS9]
         refine wpAnyH_take (i := 39) (oi := ⟨_, _, _, _, _, _⟩) (v := ?_) rfl (by kernel_rfl) (by kernel_rfl) (by kernel_rfl) (fun _ _ _ h => h) (Or.inl ⟨by rfl, ?_⟩) (by assumption) ?_
         rotate_left
         ·intro w hSw
          try dsimp only at hSw
          go_simp
          try with_reducible rfl
         try simp only [Act.put, sA9, sZ9, sS9]
         refine wpAnyH_done (by kernel_rfl) ?_ _
         go_wp2
         go_ret
         exact ⟨rfl, HB_35.out⟩
        ·have HATD : Hid (∀ Y : World, SlG eO Y (.slice oa o.length oc) o → SD.Dl Y da F → CmAt Y (d9E (i1, i2) [] (true, (t1, t2), SD.toD F)) ⟨.slice none 0 0, .slice none 0 0, .slice da F.length dc, .slice none 0 0, .slice none 0 0⟩) := hH (fun Y ho hd => ⟨SlG.nil _, dl_nil9 _, ⟨da, dc, F, rfl, hd, rfl, HDN.out⟩, SlG.nil _, SlG.nil _⟩)
         have HOL : Hid (o.length ≤ 20000) := hH (by have := (check_kd HCO.out).1; omega)
         have HFD : Hid (FewC (d9E (i1, i2) [] (true, (t1, t2), SD.toD F))) := hH (few_ends2 _ (by decide) HFV.out)
         have HDE : Hid (∀ Y : World, SlG eO Y (.slice oa o.length oc) o → SD.Dl Y da F → Calls Tryz.prog 46 #[.agg (r22 i1 i2 (.slice none 0 0) 0 0 0 0 0 false (.slice none 0 0) 0 0 false 0 0 false 0 0 (.slice none 0 0) false (.slice none 0 0) (.slice none 0 0)), .slice oa o.length oc, .agg #[.bool true, .int .i64 t1, .int .i64 t2, .slice da F.length dc]] Y fun e w' => e = .returned (.agg (r22 i1 i2 (.slice none 0 0) 2 0 0 0 0 false (.slice none 0 0) 0 0 true 0 0 true t1 t2 (.slice da F.length dc) false (.slice none 0 0) (.slice none 0 0))) ∧ Below Y.heap.size Y w') := hH (fun Y ho hd => by have h := decide_eg (newC (i1, i2)) nilL o (.slice oa o.length oc) (true, (t1, t2), SD.toD F) (.slice da F.length dc) Y (at_nil9 Y _ rfl rfl rfl rfl rfl) ho ⟨da, dc, F, rfl, hd, rfl, HDN.out⟩ (new_dec _) rfl rfl; rw [ends_gone (v := (true, (t1, t2), SD.toD F)) rfl] at h; unfold dlL at h; rw [new_dec, if_neg (by decide), if_neg (by rintro ⟨_, q⟩; cases q)] at h; exact h)
         have HFI : Hid (finB (d9E (i1, i2) [] (true, (t1, t2), SD.toD F)) = true) := hH rfl
         go_wp2_with (first | go_skip | ((with_reducible refine atW w17 ?_); refine wpList_load_one _ _ rfl (by rfl) _ 0 rfl Kv_17.out Tryz.underlying4 rfl rfl ?_) | ((with_reducible refine atW (w16.alloc (.cells z22 31)) ?_); refine store9 _ _ rfl (by rfl) _ rfl rfl (new_blockC w16 z22 31) rfl rfl (by simp [Value.oneCell']) ?_; intro w17 h1 h2; have h5 := below_grown9 (blAlloc (Below.refl _ _) _) h2 (Nat.le_refl _); have HB_17 : Hid (Below W.heap.size W w17) := hH (blThen HB_16.out h5); have Ki_17 := row_up Ki_16 Li_16 h5; have Li_17 := lt_up Li_16 h5; have Kv_17 := row_up Kv_16 Lv_16 h5; have Lv_17 := lt_up Lv_16 h5; have Kb_17 := row_up Kb_16 Lb_16 h5; have Lb_17 := lt_up Lb_16 h5; have HAo_17 := hH (HAo_16.out.later h5); have HD_17 := hH (HD_16.out.later h5); have HAw_17 := hH (HAw_16.out.later h5); have HAp_17 := hH (HAp_16.out.later h5); have Kd_17 := hH h1; have Ld_17 : Hid (w16.heap.size < w17.heap.size) := hH (by have := h2.size; simp only [World.size_alloc] at this; omega); clear h1 h2 h5) | ((with_reducible refine atC w15 ?_); go_at_call 46; go_must (refine (HDE.out w15 HAo_15.out HD_15.out).mono ?_; rintro e w16 ⟨rfl, h5⟩; have HB_16 : Hid (Below W.heap.size W w16) := hH (blThen HB_15.out h5); have Ki_16 := row_up Ki_15 Li_15 h5; have Li_16 := lt_up Li_15 h5; have Kv_16 := row_up Kv_15 Lv_15 h5; have Lv_16 := lt_up Lv_15 h5; have Kb_16 := row_up Kb_15 Lb_15 h5; have Lb_16 := lt_up Lb_15 h5; have HAo_16 := hH (HAo_15.out.later h5); have HD_16 := hH (HD_15.out.later h5); have HAw_16 := hH (HAw_15.out.later h5); have HAp_16 := hH (HAp_15.out.later h5); clear h5)) | ((with_reducible refine atW w15 ?_); refine wpList_load_part _ _ rfl (by rfl) _ 0 rfl Kv_15.out Tryz.underlying27 rfl #[.bool true, .int .i64 t1, .int .i64 t2, .slice da F.length dc] (by kernel_rfl) (four_at rfl rfl rfl rfl) ?_) | ((with_reducible refine atW w15 ?_); refine load9 _ rfl (by rfl) _ rfl Kc_15.out rfl ?_))
         refine wp_region_held_drew (S := fun Y => Y.heap[w16.heap.size]? = some (.cells (r22 i1 i2 (.slice none 0 0) 2 0 0 0 0 false (.slice none 0 0) 0 0 true 0 0 true t1 t2 (.slice da F.length dc) false (.slice none 0 0) (.slice none 0 0)) 31 (0, 0))) (by kernel_rfl) (Kd_17.out) (fun hHeld => ?_)
         have h5 : Below w17.heap.size w17 w17.drew := (Below.refl _ _).drew
         have HB_18 : Hid (Below W.heap.size W w17.drew) := hH (blThen HB_17.out h5)
         have Ki_18 := row_up Ki_17 Li_17 h5
         have Li_18 := lt_up Li_17 h5
         have Kv_18 := row_up Kv_17 Lv_17 h5
         have Lv_18 := lt_up Lv_17 h5
         have Kb_18 := row_up Kb_17 Lb_17 h5
         have Lb_18 := lt_up Lb_17 h5
         have Kd_18 := row_up Kd_17 Ld_17 h5
         have Ld_18 := lt_up Ld_17 h5
         have HAo_18 := hH (HAo_17.out.later h5)
         have HD_18 := hH (HD_17.out.later h5)
         have HAw_18 := hH (HAw_17.out.later h5)
         have HAp_18 := hH (HAp_17.out.later h5)
         clear h5
         generalize w17.drew = w18 at *
         refine wpAnyH_take (i := 0) (oi := ⟨_, _, _, _, _, _⟩) (v := _) rfl (by kernel_rfl) (by kernel_rfl) (by kernel_rfl) (fun _ _ _ h => h) (yields_row (by rfl) _ _ rfl _ 0 rfl (fun w h => h) Tryz.underlying31 rfl (r22 i1 i2 (.slice none 0 0) 2 0 0 0 0 false (.slice none 0 0) 0 0 true 0 0 true t1 t2 (.slice da F.length dc) false (.slice none 0 0) (.slice none 0 0)) szCmd all_at) (by assumption) ?_
         try simp only [Act.put, sA9, sZ9, sS9]
         refine wpAnyH_ready (rs := [1]) (by kernel_rfl) (by simp) ?_
         refine AllReadyH.cons (o := ⟨_, _, _, _, _, _⟩) rfl (fun K hK => ?_) ?_
         rotate_left
         ·exact AllReadyH.nil
         go_simp
         go_at_call 26
         refine (final_any (d9E (i1, i2) [] (true, (t1, t2), SD.toD F)) ⟨.slice none 0 0, .slice none 0 0, .slice da F.length dc, .slice none 0 0, .slice none 0 0⟩ w18).mono ?_
         rw [HFI.out]
         rintro e w19 ⟨rfl, h5⟩
         have HB_19 : Hid (Below W.heap.size W w19) := hH (blThen HB_18.out h5)
         have Ki_19 := row_up Ki_18 Li_18 h5
         have Li_19 := lt_up Li_18 h5
         have Kv_19 := row_up Kv_18 Lv_18 h5
         have Lv_19 := lt_up Lv_18 h5
         have Kb_19 := row_up Kb_18 Lb_18 h5
         have Lb_19 := lt_up Lb_18 h5
         have Kd_19 := row_up Kd_18 Ld_18 h5
         have Ld_19 := lt_up Ld_18 h5
         have HAo_19 := hH (HAo_18.out.later h5)
         have HD_19 := hH (HD_18.out.later h5)
         have HAw_19 := hH (HAw_18.out.later h5)
         have HAp_19 := hH (HAp_18.out.later h5)
         refine hK.out _ _ (Kd_19.out) (fun hHeld => ?_)
         clear hK K h5
         try simp only [Act.put, sA9, sZ9, sS9]
         refine wpAnyH_take (i := 2) (oi := ⟨_, _, _, _, _, _⟩) (v := ?_) rfl (by kernel_rfl) (by kernel_rfl) (by kernel_rfl) (fun _ _ _ h => h) (Or.inl ⟨by rfl, ?_⟩) (by assumption) ?_
         rotate_left
         ·intro w hSw
          try dsimp only at hSw
          go_simp
          try with_reducible rfl
         try simp only [Act.put, sA9, sZ9, sS9]
         refine wpAnyH_take (i := 3) (oi := ⟨_, _, _, _, _, _⟩) (v := _) rfl (by kernel_rfl) (by kernel_rfl) (by kernel_rfl) (fun _ _ _ h => h) (yields_row (by rfl) _ _ rfl _ 0 rfl (fun w h => h) Tryz.underlying31 rfl (r22 i1 i2 (.slice none 0 0) 2 0 0 0 0 false (.slice none 0 0) 0 0 true 0 0 true t1 t2 (.slice da F.length dc) false (.slice none 0 0) (.slice none 0 0)) szCmd all_at) (by assumption) ?_
         try simp only [Act.put, sA9, sZ9, sS9]
         refine wpAnyH_take (i := 4) (oi := ⟨_, _, _, _, _, _⟩) (v := ?_) rfl (by kernel_rfl) (by kernel_rfl) (by kernel_rfl) (fun _ _ _ h => h) (Or.inl ⟨by rfl, ?_⟩) (by assumption) ?_
         rotate_left
         ·intro w hSw
          try dsimp only at hSw
          go_simp
          try with_reducible rfl
         try simp only [Act.put, sA9, sZ9, sS9]
         refine wpAnyH_take (i := 6) (oi := ⟨_, _, _, _, _, _⟩) (v := _) rfl (by kernel_rfl) (by kernel_rfl) (by kernel_rfl) (fun _ _ _ h => h) (yields_row (by rfl) _ _ rfl _ 0 rfl (fun w h => h) Tryz.underlying31 rfl (r22 i1 i2 (.slice none 0 0) 2 0 0 0 0 false (.slice none 0 0) 0 0 true 0 0 true t1 t2 (.slice da F.length dc) false (.slice none 0 0) (.slice none 0 0)) szCmd all_at) (by assumption) ?_
         try simp only [Act.put, sA9, sZ9, sS9]
         refine wpAnyH_ready (rs := [5]) (by kernel_rfl) (by simp) ?_
         refine AllReadyH.cons (o := ⟨_, _, _, _, _, _⟩) rfl (fun K hK => ?_) ?_
         rotate_left
         ·exact AllReadyH.nil
         go_simp
         go_at_call 44
         refine (load_no (d9E (i1, i2) [] (true, (t1, t2), SD.toD F)) ⟨.slice none 0 0, .slice none 0 0, .slice da F.length dc, .slice none 0 0, .slice none 0 0⟩ (.slice wa ws.length wc) w19 (HATD.out w19 HAo_19.out HD_19.out) (by rintro ⟨_, e, _⟩; cases e)).mono ?_
         intro e w20 h
         unfold RetL at h
         obtain ⟨rfl, h5⟩ := h
         simp only [cmV, d9E, z2]
         have HB_20 : Hid (Below W.heap.size W w20) := hH (blThen HB_19.out h5)
         have Ki_20 := row_up Ki_19 Li_19 h5
         have Li_20 := lt_up Li_19 h5
         have Kv_20 := row_up Kv_19 Lv_19 h5
         have Lv_20 := lt_up Lv_19 h5
         have Kb_20 := row_up Kb_19 Lb_19 h5
         have Lb_20 := lt_up Lb_19 h5
         have Kd_20 := row_up Kd_19 Ld_19 h5
         have Ld_20 := lt_up Ld_19 h5
         have HAo_20 := hH (HAo_19.out.later h5)
         have HD_20 := hH (HD_19.out.later h5)
         have HAw_20 := hH (HAw_19.out.later h5)
         have HAp_20 := hH (HAp_19.out.later h5)
         refine hK.out _ _ (Kd_20.out) (fun hHeld => ?_)
         clear hK K h5
         try simp only [Act.put, sA9, sZ9, sS9]
         refine wpAnyH_ready (rs := [7]) (by kernel_rfl) (by simp) ?_
         refine AllReadyH.cons (o := ⟨_, _, _, _, _, _⟩) rfl (fun K hK => ?_) ?_
         rotate_left
         ·exact AllReadyH.nil
         go_simp
         go_at_call 20
         refine (rsame9_any (d9E (i1, i2) [] (true, (t1, t2), SD.toD F)) ⟨.slice none 0 0, .slice none 0 0, .slice da F.length dc, .slice none 0 0, .slice none 0 0⟩ ⟨.slice none 0 0, .slice none 0 0, .slice da F.length dc, .slice none 0 0, .slice none 0 0⟩ w20 (HATD.out w20 HAo_20.out HD_20.out) (HATD.out w20 HAo_20.out HD_20.out) HFD.out).mono ?_
         rintro e w21 ⟨rfl, h5⟩
         have HB_21 : Hid (Below W.heap.size W w21) := hH (blThen HB_20.out h5)
         have Ki_21 := row_up Ki_20 Li_20 h5
         have Li_21 := lt_up Li_20 h5
         have Kv_21 := row_up Kv_20 Lv_20 h5
         have Lv_21 := lt_up Lv_20 h5
         have Kb_21 := row_up Kb_20 Lb_20 h5
         have Lb_21 := lt_up Lb_20 h5
         have Kd_21 := row_up Kd_20 Ld_20 h5
         have Ld_21 := lt_up Ld_20 h5
         have HAo_21 := hH (HAo_20.out.later h5)
         have HD_21 := hH (HD_20.out.later h5)
         have HAw_21 := hH (HAw_20.out.later h5)
         have HAp_21 := hH (HAp_20.out.later h5)
         refine hK.out _ _ (Kd_21.out) (fun hHeld => ?_)
         clear hK K h5
         try simp only [Act.put, sA9, sZ9, sS9]
         refine wpAnyH_take (i := 8) (oi := ⟨_, _, _, _, _, _⟩) (v := ?_) rfl (by kernel_rfl) (by kernel_rfl) (by kernel_rfl) (fun _ _ _ h => h) (Or.inl ⟨by rfl, ?_⟩) (by assumption) ?_
         rotate_left
         ·intro w hSw
          try dsimp only at hSw
          go_simp
          try with_reducible rfl
         try simp only [Act.put, sA9, sZ9, sS9]
         refine wpAnyH_take (i := 9) (oi := ⟨_, _, _, _, _, _⟩) (v := ?_) rfl (by kernel_rfl) (by kernel_rfl) (by kernel_rfl) (fun _ _ _ h => h) (Or.inl ⟨by rfl, ?_⟩) (by assumption) ?_
         rotate_left
         ·intro w hSw
          try dsimp only at hSw
          go_simp
          try with_reducible rfl
         try simp only [Act.put, sA9, sZ9, sS9]
         refine wpAnyH_take (i := 10) (oi := ⟨_, _, _, _, _, _⟩) (v := _) rfl (by kernel_rfl) (by kernel_rfl) (by kernel_rfl) (fun _ _ _ h => h) (yields_row (by rfl) _ _ rfl _ 0 rfl (fun w h => h) Tryz.underlying31 rfl (r22 i1 i2 (.slice none 0 0) 2 0 0 0 0 false (.slice none 0 0) 0 0 true 0 0 true t1 t2 (.slice da F.length dc) false (.slice none 0 0) (.slice none 0 0)) szCmd all_at) (by assumption) ?_
         try simp only [Act.put, sA9, sZ9, sS9]
         refine wpAnyH_take (i := 11) (oi := ⟨_, _, _, _, _, _⟩) (v := ?_) rfl (by kernel_rfl) (by kernel_rfl) (by kernel_rfl) (fun _ _ _ h => h) (Or.inl ⟨by rfl, ?_⟩) (by assumption) ?_
         rotate_left
         ·intro w hSw
          try dsimp only at hSw
          go_simp
          try with_reducible rfl
         try simp only [Act.put, sA9, sZ9, sS9]
         refine wpAnyH_take (i := 13) (oi := ⟨_, _, _, _, _, _⟩) (v := _) rfl (by kernel_rfl) (by kernel_rfl) (by kernel_rfl) (fun _ _ _ h => h) (yields_row (by rfl) _ _ rfl _ 0 rfl (fun w h => h) Tryz.underlying31 rfl (r22 i1 i2 (.slice none 0 0) 2 0 0 0 0 false (.slice none 0 0) 0 0 true 0 0 true t1 t2 (.slice da F.length dc) false (.slice none 0 0) (.slice none 0 0)) szCmd all_at) (by assumption) ?_
         try simp only [Act.put, sA9, sZ9, sS9]
         refine wpAnyH_ready (rs := [12]) (by kernel_rfl) (by simp) ?_
         refine AllReadyH.cons (o := ⟨_, _, _, _, _, _⟩) rfl (fun K hK => ?_) ?_
         rotate_left
         ·exact AllReadyH.nil
         go_simp
         go_at_call 45
         refine (done_no (d9E (i1, i2) [] (true, (t1, t2), SD.toD F)) ⟨.slice none 0 0, .slice none 0 0, .slice da F.length dc, .slice none 0 0, .slice none 0 0⟩ (.slice pa ps.length pc) w21 (HATD.out w21 HAo_21.out HD_21.out) (by rintro ⟨_, e⟩; cases e)).mono ?_
         intro e w22 h
         unfold RetL at h
         obtain ⟨rfl, h5⟩ := h
         simp only [cmV, d9E, z2]
         have HB_22 : Hid (Below W.heap.size W w22) := hH (blThen HB_21.out h5)
         have Ki_22 := row_up Ki_21 Li_21 h5
         have Li_22 := lt_up Li_21 h5
         have Kv_22 := row_up Kv_21 Lv_21 h5
         have Lv_22 := lt_up Lv_21 h5
         have Kb_22 := row_up Kb_21 Lb_21 h5
         have Lb_22 := lt_up Lb_21 h5
         have Kd_22 := row_up Kd_21 Ld_21 h5
         have Ld_22 := lt_up Ld_21 h5
         have HAo_22 := hH (HAo_21.out.later h5)
         have HD_22 := hH (HD_21.out.later h5)
         have HAw_22 := hH (HAw_21.out.later h5)
         have HAp_22 := hH (HAp_21.out.later h5)
         refine hK.out _ _ (Kd_22.out) (fun hHeld => ?_)
         clear hK K h5
         try simp only [Act.put, sA9, sZ9, sS9]
         refine wpAnyH_ready (rs := [14]) (by kernel_rfl) (by simp) ?_
         refine AllReadyH.cons (o := ⟨_, _, _, _, _, _⟩) rfl (fun K hK => ?_) ?_
         rotate_left
         ·exact AllReadyH.nil
         go_simp
         go_at_call 20
         refine (rsame9_any (d9E (i1, i2) [] (true, (t1, t2), SD.toD F)) ⟨.slice none 0 0, .slice none 0 0, .slice da F.length dc, .slice none 0 0, .slice none 0 0⟩ ⟨.slice none 0 0, .slice none 0 0, .slice da F.length dc, .slice none 0 0, .slice none 0 0⟩ w22 (HATD.out w22 HAo_22.out HD_22.out) (HATD.out w22 HAo_22.out HD_22.out) HFD.out).mono ?_
         rintro e w23 ⟨rfl, h5⟩
         have HB_23 : Hid (Below W.heap.size W w23) := hH (blThen HB_22.out h5)
         have Ki_23 := row_up Ki_22 Li_22 h5
         have Li_23 := lt_up Li_22 h5
         have Kv_23 := row_up Kv_22 Lv_22 h5
         have Lv_23 := lt_up Lv_22 h5
         have Kb_23 := row_up Kb_22 Lb_22 h5
         have Lb_23 := lt_up Lb_22 h5
         have Kd_23 := row_up Kd_22 Ld_22 h5
         have Ld_23 := lt_up Ld_22 h5
         have HAo_23 := hH (HAo_22.out.later h5)
         have HD_23 := hH (HD_22.out.later h5)
         have HAp_23 := hH (HAp_22.out.later h5)
         refine hK.out _ _ (Kd_23.out) (fun hHeld => ?_)
         clear hK K h5
         try simp only [Act.put, sA9, sZ9, sS9]
         refine wpAnyH_take (i := 15) (oi := ⟨_, _, _, _, _, _⟩) (v := ?_) rfl (by kernel_rfl) (by kernel_rfl) (by kernel_rfl) (fun _ _ _ h => h) (Or.inl ⟨by rfl, ?_⟩) (by assumption) ?_
         rotate_left
         ·intro w hSw
          try dsimp only at hSw
          go_simp
          try with_reducible rfl
         try simp only [Act.put, sA9, sZ9, sS9]
         refine wpAnyH_take (i := 16) (oi := ⟨_, _, _, _, _, _⟩) (v := ?_) rfl (by kernel_rfl) (by kernel_rfl) (by kernel_rfl) (fun _ _ _ h => h) (Or.inl ⟨by rfl, ?_⟩) (by assumption) ?_
         rotate_left
         ·intro w hSw
          try dsimp only at hSw
          go_simp
          try with_reducible rfl
         try simp only [Act.put, sA9, sZ9, sS9]
         refine wpAnyH_take (i := 17) (oi := ⟨_, _, _, _, _, _⟩) (v := ?_) rfl (by kernel_rfl) (by kernel_rfl) (by kernel_rfl) (fun _ _ _ h => h) (Or.inl ⟨by rfl, ?_⟩) (by assumption) ?_
         rotate_left
         ·intro w hSw
          try dsimp only at hSw
          go_simp
          try with_reducible rfl
         try simp only [Act.put, sA9, sZ9, sS9]
         refine wpAnyH_take (i := 18) (oi := ⟨_, _, _, _, _, _⟩) (v := _) rfl (by kernel_rfl) (by kernel_rfl) (by kernel_rfl) (fun _ _ _ h => h) (yields_one (by rfl) _ _ rfl _ 2 rfl (fun w h => h) Tryz.underlying24 rfl rfl) (by assumption) ?_
         try simp only [Act.put, sA9, sZ9, sS9]
         refine wpAnyH_take (i := 19) (oi := ⟨_, _, _, _, _, _⟩) (v := ?_) rfl (by kernel_rfl) (by kernel_rfl) (by kernel_rfl) (fun _ _ _ h => h) (Or.inl ⟨by rfl, ?_⟩) (by assumption) ?_
         rotate_left
         ·intro w hSw
          try dsimp only at hSw
          go_simp
          try with_reducible rfl
         try simp only [Act.put, sA9, sZ9, sS9]
         refine wpAnyH_take (i := 20) (oi := ⟨_, _, _, _, _, _⟩) (v := ?_) rfl (by kernel_rfl) (by kernel_rfl) (by kernel_rfl) (fun _ _ _ h => h) (Or.inl ⟨by rfl, ?_⟩) (by assumption) ?_
         rotate_left
         ·intro w hSw
          try dsimp only at hSw
          go_simp
          try with_reducible rfl
         try simp only [Act.put, sA9, sZ9, sS9]
         refine wpAnyH_take (i := 21) (oi := ⟨_, _, _, _, _, _⟩) (v := ?_) rfl (by kernel_rfl) (by kernel_rfl) (by kernel_rfl) (fun _ _ _ h => h) (Or.inl ⟨by rfl, ?_⟩) (by assumption) ?_
         rotate_left
         ·intro w hSw
          try dsimp only at hSw
          go_simp
          try with_reducible rfl
         try simp only [Act.put, sA9, sZ9, sS9]
         refine wpAnyH_take (i := 22) (oi := ⟨_, _, _, _, _, _⟩) (v := ?_) rfl (by kernel_rfl) (by kernel_rfl) (by kernel_rfl) (fun _ _ _ h => h) (Or.inl ⟨by rfl, ?_⟩) (by assumption) ?_
         rotate_left
         ·intro w hSw
          try dsimp only at hSw
          go_simp
          try with_reducible rfl
         try simp only [Act.put, sA9, sZ9, sS9]
         refine wpAnyH_ready (rs := [23]) (by kernel_rfl) (by simp) ?_
         refine AllReadyH.cons (o := ⟨_, _, _, _, _, _⟩) rfl (fun K hK => ?_) ?_
         rotate_left
         ·exact AllReadyH.nil
         go_simp
         go_at_call 14
         refine (live9_any w23).mono ?_
         rintro e w24 ⟨rfl, h5⟩
         have HB_24 : Hid (Below W.heap.size W w24) := hH (blThen HB_23.out h5)
         have Ki_24 := row_up Ki_23 Li_23 h5
         have Li_24 := lt_up Li_23 h5
         have Kv_24 := row_up Kv_23 Lv_23 h5
         have Lv_24 := lt_up Lv_23 h5
         have Kb_24 := row_up Kb_23 Lb_23 h5
         have Lb_24 := lt_up Lb_23 h5
         have Kd_24 := row_up Kd_23 Ld_23 h5
         have HAo_24 := hH (HAo_23.out.later h5)
         have HD_24 := hH (HD_23.out.later h5)
         have HAp_24 := hH (HAp_23.out.later h5)
         refine hK.out _ _ (Kd_24.out) (fun hHeld => ?_)
         clear hK K h5
         try simp only [Act.put, sA9, sZ9, sS9]
         refine wpAnyH_take (i := 24) (oi := ⟨_, _, _, _, _, _⟩) (v := ?_) rfl (by kernel_rfl) (by kernel_rfl) (by kernel_rfl) (fun _ _ _ h => h) (Or.inl ⟨by rfl, ?_⟩) (by assumption) ?_
         rotate_left
         ·intro w hSw
          try dsimp only at hSw
          go_simp
          try with_reducible rfl
         try simp only [Act.put, sA9, sZ9, sS9]
         refine wpAnyH_take (i := 25) (oi := ⟨_, _, _, _, _, _⟩) (v := ?_) rfl (by kernel_rfl) (by kernel_rfl) (by kernel_rfl) (fun _ _ _ h => h) (Or.inl ⟨by rfl, ?_⟩) (by assumption) ?_
         rotate_left
         ·intro w hSw
          try dsimp only at hSw
          go_simp
          try with_reducible rfl
         try simp only [Act.put, sA9, sZ9, sS9]
         refine wpAnyH_done (by kernel_rfl) ?_ _
         go_wp2
         go_ret
         exact ⟨rfl, HB_24.out⟩

theorem cmdEnds_lifted (os : Os) (started : os.Started) (H : Type) (enc : TypeId × Value → H) :
  ReturnsInHanded {} Tryz.checked os 7 .any (Rows.cmdEndsSpec.pre6 enc Tryz.prog Tryz.f7 Rows.cmdEndsRow.domain false) (Rows.cmdEndsSpec.post enc Tryz.prog Tryz.f7 false true false false) := by
 refine law_lift_sized (C := Tryz.checked) own0 started (by kernel_rfl) Tryz.func7 laid0 rfl (by kernel_rfl) (fun _ _ _ _ => trodAll_mk1 (shut_bool Tryz.underlying4 true)) (fun ds h => match ds, h with | [_, _, _, _, _, _], _ => ⟨rfl, rfl, rfl⟩)
  (ChangeSpec.witness6 (enc := enc) (C := Tryz.checked) false ⟨#[], #[.agg #[.int .i64 0, .int .i64 0], .slice none 0 0, .agg #[.bool false, .int .i64 0, .int .i64 0, .slice none 0 0], .slice none 0 0, .slice none 0 0, .agg #[.int .i64 0, .int .i64 0]], []⟩ 8 (by kernel_rfl) (by kernel_rfl) (by kernel_rfl) (by kernel_rfl)) ?_
 intro W base args ds before hval0 hA0 hlt hsz
 have hval : ∀ (j : Nat) t v, Tryz.f7.params[j]? = some t → args[j]? = some v → Value.okWide Tryz.prog W .any base t v := hval0
 have hA : DataW.TrodAll enc Tryz.prog W 0 (fun _ => true) true Tryz.f7.params.toList args.toList ds before := hA0
 rw [Tryz.params7] at hA hval
 obtain ⟨v0, v1, v2, v3, v4, v5, d0, d1, d2, d3, d4, d5, p0, p1, p2, p3, p4, p5, rfl, rfl, rfl, h0, h1, h2, h3, h4, h5⟩ := trodAll_six9 hA
 obtain ⟨i1, i2, rfl, _, _⟩ := S1.open_stamp (hval 0 23 v0 rfl rfl) h0
 obtain ⟨o, ho, hmo, ro⟩ := open_ops (hval 1 24 v1 rfl rfl) h1
 obtain ⟨g, t1, t2, da, F, dc, rfl, hl, hm, hdn, hwf, hr⟩ := open_value9 (hval 2 27 v2 rfl rfl) h2
 obtain ⟨ws, hws, hmws, rws⟩ := open_writes (hval 3 28 v3 rfl rfl) h3
 obtain ⟨ps, hps, hmps, rps⟩ := open_pairs (hval 4 29 v4 rfl rfl) h4
 obtain ⟨b1, b2, rfl, _, _⟩ := S1.open_stamp (hval 5 23 v5 rfl rfl) h5
 have hlw : ws.length ≤ 140737488355328 := by
  obtain ⟨xa, xc, rfl⟩ := hws.form
  exact len_reach9 Tryz.underlying28 bytesWr9 h3 hsz (j := 3) (by kernel_rfl) rfl
 have hlp : ps.length ≤ 140737488355328 := by
  obtain ⟨xa, xc, rfl⟩ := hps.form
  exact len_reach9 Tryz.underlying29 bytesPr9 h4 hsz (j := 4) (by kernel_rfl) rfl
 exact cmdEnds_walk (i1, i2) (b1, b2) v1 v3 v4 o g (t1, t2) da dc F ws ps W hmo (fun x hx => (ro x hx).2.1) ho hm (hr _ _ 2 hsz (by kernel_rfl) rfl) hl hdn hlw (fun x hx => (rws x hx).1) hws hlp (fun x hx => (rps x hx).1) hps
theorem cmdEnds_f_inPlace : (Rows.cmdEndsRow.inPlace == Tryz.prog.inPlace 7) = true := by kernel_rfl
theorem cmdEnds_f_unfollowed : (Rows.cmdEndsRow.unfollowed == Tryz.prog.unfollowed 7) = true := by kernel_rfl
theorem cmdEnds_f_recurses : (Rows.cmdEndsRow.recurses == Tryz.prog.recurses 7) = true := by kernel_rfl
theorem cmdEnds_f_named : (Rows.cmdEndsRow.named == Tryz.prog.varsNamed 7) = true := by kernel_rfl
theorem cmdEnds_laid : laidOutB Tryz.prog = true := by kernel_rfl
theorem cmdEnds_rowed : mapsRowed Tryz.prog = true := by kernel_rfl
theorem cmdEnds_closed : joinedFacts Tryz.prog 7 Tryz.f7 Rows.cmdEndsSpec Rows.cmdEndsRow = true := by
 unfold joinedFacts
 rw [cmdEnds_laid, cmdEnds_rowed, cmdEnds_f_inPlace, cmdEnds_f_unfollowed, cmdEnds_f_recurses, cmdEnds_f_named]
 kernel_rfl
theorem cmdEnds_holds : Rows.CmdEndsSaid :=
 OpenClaim.holds_of_wide 7 Tryz.f7 rfl rfl rfl rfl rfl rfl rfl ⟨rfl, rfl, rfl, rfl, rfl⟩ rfl rfl rfl rfl rfl (by kernel_rfl) Tryz.func7 cmdEnds_closed
  (of_decide_eq_true (by kernel_rfl)) (by unfold Func.isWrapper; rw [if_neg (of_decide_eq_false (by kernel_rfl))]; exact ⟨rfl, rfl⟩)
  (fun os started H enc _ => cmdEnds_lifted os started H enc)
#print axioms cmdEnds_holds
end SC
end Go.Proofs.YtmpbpeelankihaaGreat
