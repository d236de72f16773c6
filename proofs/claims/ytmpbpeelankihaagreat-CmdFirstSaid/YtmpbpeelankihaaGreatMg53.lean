/- CmdFirst. Conditions: none. -/
import Derived.Deep.DeepCutAuto
import Derived.WalkSpells
import Derived.SizedLaws
import Derived.Test.YtmpbpeelankihaaGreatMg52
import Derived.Test.YtmpbpeelankihaaGreatMg49
import Derived.Test.YtmpbpeelankihaaGreatMg13
set_option maxRecDepth 100000
set_option maxHeartbeats 16000000
set_option linter.unusedVariables false
set_option linter.unusedSimpArgs false
namespace Go.Proofs.YtmpbpeelankihaaGreat
open S3 SN SP
namespace SC
open Go.ChangeShapes Go.WideShapes Go.ChangeAt Go.RowKit Go.Joins Go.Deep
theorem cmdFirst_walk (id x y : Stp) (va vb : Value) (a b : List Opr) (da : Option Addr) (dc : Nat) (F : List SD.Dp) (W : World) (hma : a.length ≤ 9223372036854775807) (hna : ∀ o ∈ a, o.2.2.2 < 18446744073709551616) (haa : SlG eO W va a) (hmb : b.length ≤ 9223372036854775807) (hnb : ∀ o ∈ b, o.2.2.2 < 18446744073709551616) (hab : SlG eO W vb b) (hmd : F.length ≤ 9223372036854775807) (hid : ∀ s ∈ F, s.ids.length ≤ 140737488355328) (hd : SD.Dl W da F) (hdn : da = none → dc = 0) (hwf : ∀ x ∈ SD.toD F, ∀ i ∈ x.2, SD.WfT i) :
  Calls Tryz.prog 8 #[.agg #[.int .i64 id.1, .int .i64 id.2], va, vb, .agg #[.int .i64 x.1, .int .i64 x.2], .agg #[.int .i64 y.1, .int .i64 y.2], .slice da F.length dc] W fun e w' => e = .returned (.bool true) ∧ Below W.heap.size W w' := by
 obtain ⟨i1, i2⟩ := id
 obtain ⟨x1, x2⟩ := x
 obtain ⟨y1, y2⟩ := y
 obtain ⟨aa, ac, rfl⟩ := haa.form
 obtain ⟨ba, bc, rfl⟩ := hab.form
 have HMa := hH hma
 have HMb := hH hmb
 have HMd := hH hmd
 have HNa := hH hna
 have HNb := hH hnb
 have HID := hH hid
 have HDN := hH hdn
 have HWF := hH hwf
 have HAa_0 := hH (haa.later (show Below W.heap.size W (((W.alloc (.cells #[.int .i64 i1, .int .i64 i2] 23)).alloc (.cells #[.int .i64 x1, .int .i64 x2] 23)).alloc (.cells #[.int .i64 y1, .int .i64 y2] 23)) from blAlloc (blAlloc (blAlloc (Below.refl _ _) _) _) _))
 have HAb_0 := hH (hab.later (show Below W.heap.size W (((W.alloc (.cells #[.int .i64 i1, .int .i64 i2] 23)).alloc (.cells #[.int .i64 x1, .int .i64 x2] 23)).alloc (.cells #[.int .i64 y1, .int .i64 y2] 23)) from blAlloc (blAlloc (blAlloc (Below.refl _ _) _) _) _))
 have HD_0 := hH (hd.later (show Below W.heap.size W (((W.alloc (.cells #[.int .i64 i1, .int .i64 i2] 23)).alloc (.cells #[.int .i64 x1, .int .i64 x2] 23)).alloc (.cells #[.int .i64 y1, .int .i64 y2] 23)) from blAlloc (blAlloc (blAlloc (Below.refl _ _) _) _) _))
 clear hma hmb hmd hna hnb hid hdn hwf haa hab hd
 simp only
 have HN := hH (fun i o (h : ([(.cells #[.int .i64 i1, .int .i64 i2] 23), (.cells #[.int .i64 x1, .int .i64 x2] 23), (.cells #[.int .i64 y1, .int .i64 y2] 23)] : List Obj)[i]? = some o) => nth_box W [(.cells #[.int .i64 i1, .int .i64 i2] 23), (.cells #[.int .i64 x1, .int .i64 x2] 23), (.cells #[.int .i64 y1, .int .i64 y2] 23)] i o h)
 have HSZ : Hid (W.heap.size + 3 = (((W.alloc (.cells #[.int .i64 i1, .int .i64 i2] 23)).alloc (.cells #[.int .i64 x1, .int .i64 x2] 23)).alloc (.cells #[.int .i64 y1, .int .i64 y2] 23)).heap.size) := hH (HN.out 0 _ rfl).2
 have Ki_0 : Hid ((((W.alloc (.cells #[.int .i64 i1, .int .i64 i2] 23)).alloc (.cells #[.int .i64 x1, .int .i64 x2] 23)).alloc (.cells #[.int .i64 y1, .int .i64 y2] 23)).heap[W.heap.size]? = some (.cells #[.int .i64 i1, .int .i64 i2] 23 (0, 0))) := hH (HN.out 0 _ rfl).1
 have Li_0 : Hid (W.heap.size < (((W.alloc (.cells #[.int .i64 i1, .int .i64 i2] 23)).alloc (.cells #[.int .i64 x1, .int .i64 x2] 23)).alloc (.cells #[.int .i64 y1, .int .i64 y2] 23)).heap.size) := hH (by have := HSZ.out; omega)
 have Kx_0 : Hid ((((W.alloc (.cells #[.int .i64 i1, .int .i64 i2] 23)).alloc (.cells #[.int .i64 x1, .int .i64 x2] 23)).alloc (.cells #[.int .i64 y1, .int .i64 y2] 23)).heap[(W.heap.size + 1)]? = some (.cells #[.int .i64 x1, .int .i64 x2] 23 (0, 0))) := hH (HN.out 1 _ rfl).1
 have Lx_0 : Hid ((W.heap.size + 1) < (((W.alloc (.cells #[.int .i64 i1, .int .i64 i2] 23)).alloc (.cells #[.int .i64 x1, .int .i64 x2] 23)).alloc (.cells #[.int .i64 y1, .int .i64 y2] 23)).heap.size) := hH (by have := HSZ.out; omega)
 have Ky_0 : Hid ((((W.alloc (.cells #[.int .i64 i1, .int .i64 i2] 23)).alloc (.cells #[.int .i64 x1, .int .i64 x2] 23)).alloc (.cells #[.int .i64 y1, .int .i64 y2] 23)).heap[(W.heap.size + 2)]? = some (.cells #[.int .i64 y1, .int .i64 y2] 23 (0, 0))) := hH (HN.out 2 _ rfl).1
 have Ly_0 : Hid ((W.heap.size + 2) < (((W.alloc (.cells #[.int .i64 i1, .int .i64 i2] 23)).alloc (.cells #[.int .i64 x1, .int .i64 x2] 23)).alloc (.cells #[.int .i64 y1, .int .i64 y2] 23)).heap.size) := hH (by have := HSZ.out; omega)
 have HB_0 : Hid (Below W.heap.size W (((W.alloc (.cells #[.int .i64 i1, .int .i64 i2] 23)).alloc (.cells #[.int .i64 x1, .int .i64 x2] 23)).alloc (.cells #[.int .i64 y1, .int .i64 y2] 23))) := hH (blAlloc (blAlloc (blAlloc (Below.refl _ _) _) _) _)
 clear HN
 go_enter Tryz.func8, Tryz.ntmps8
 go_upto_region 1 with fail
 generalize (((W.alloc (.cells #[.int .i64 i1, .int .i64 i2] 23)).alloc (.cells #[.int .i64 x1, .int .i64 x2] 23)).alloc (.cells #[.int .i64 y1, .int .i64 y2] 23)) = w0 at *
 have hsz0 : W.heap.size + 3 ≤ w0.heap.size := Nat.le_of_eq HSZ.out
 clear HSZ
 go_wp2_with (first | go_skip | ((with_reducible refine atW w0 ?_); refine wpList_load_part _ _ rfl (by rfl) _ 0 rfl Ki_0.out Tryz.underlying23 rfl #[.int .i64 i1, .int .i64 i2] (by kernel_rfl) (two_at rfl rfl) ?_))
 cases hc : S1.isS (i1, i2)
 ·go_wp2_with (first | go_skip | ((with_reducible refine atC w1 ?_); go_at_call 14; go_must (refine (live9_any w1).mono ?_; rintro e w2 ⟨rfl, h5⟩; have HB_2 : Hid (Below W.heap.size W w2) := hH (blThen HB_1.out h5); have Ki_2 := row_up Ki_1 Li_1 h5; have Li_2 := lt_up Li_1 h5; have Kx_2 := row_up Kx_1 Lx_1 h5; have Lx_2 := lt_up Lx_1 h5; have Ky_2 := row_up Ky_1 Ly_1 h5; have Ly_2 := lt_up Ly_1 h5; have HAa_2 := hH (HAa_1.out.later h5); have HAb_2 := hH (HAb_1.out.later h5); have HD_2 := hH (HD_1.out.later h5); clear h5)) | ((with_reducible refine atC w0 ?_); go_at_call 28; go_must (refine (S1.is_any i1 i2 w0).mono ?_; rw [hc]; rintro e w1 ⟨rfl, h5⟩; have h5 := below_grow (Below.refl _ _) h5; have HB_1 : Hid (Below W.heap.size W w1) := hH (blThen HB_0.out h5); have Ki_1 := row_up Ki_0 Li_0 h5; have Li_1 := lt_up Li_0 h5; have Kx_1 := row_up Kx_0 Lx_0 h5; have Lx_1 := lt_up Lx_0 h5; have Ky_1 := row_up Ky_0 Ly_0 h5; have Ly_1 := lt_up Ly_0 h5; have HAa_1 := hH (HAa_0.out.later h5); have HAb_1 := hH (HAb_0.out.later h5); have HD_1 := hH (HD_0.out.later h5); clear h5)))
  go_ret
  exact ⟨rfl, HB_2.out⟩
 ·have HIS := hH hc
  clear hc
  go_wp2_with (first | go_skip | ((with_reducible refine atC w0 ?_); go_at_call 28; go_must (refine (S1.is_any i1 i2 w0).mono ?_; rw [HIS.out]; rintro e w1 ⟨rfl, h5⟩; have h5 := below_grow (Below.refl _ _) h5; have HB_1 : Hid (Below W.heap.size W w1) := hH (blThen HB_0.out h5); have Ki_1 := row_up Ki_0 Li_0 h5; have Li_1 := lt_up Li_0 h5; have Kx_1 := row_up Kx_0 Lx_0 h5; have Lx_1 := lt_up Lx_0 h5; have Ky_1 := row_up Ky_0 Ly_0 h5; have Ly_1 := lt_up Ly_0 h5; have HAa_1 := hH (HAa_0.out.later h5); have HAb_1 := hH (HAb_0.out.later h5); have HD_1 := hH (HD_0.out.later h5); clear h5)))
  by_cases hc : checkP a = 0
  rotate_left
  ·have hb : ((checkP a == 0) = false) := by simpa using hc
   have hd : ((checkP a != 0) = true) := by simpa using hc
   go_wp2_with (first | go_skip | ((with_reducible refine atC w2 ?_); go_at_call 14; go_must (refine (live9_any w2).mono ?_; rintro e w3 ⟨rfl, h5⟩; have HB_3 : Hid (Below W.heap.size W w3) := hH (blThen HB_2.out h5); have Ki_3 := row_up Ki_2 Li_2 h5; have Li_3 := lt_up Li_2 h5; have Kx_3 := row_up Kx_2 Lx_2 h5; have Lx_3 := lt_up Lx_2 h5; have Ky_3 := row_up Ky_2 Ly_2 h5; have Ly_3 := lt_up Ly_2 h5; have HAa_3 := hH (HAa_2.out.later h5); have HD_3 := hH (HD_2.out.later h5); clear h5)) | ((with_reducible refine atC w1 ?_); go_at_call 41; go_must (refine (refcheck8w_any _ a w1 HMa.out HAa_1.out HNa.out).mono ?_; rintro e w2 ⟨rfl, h5⟩; have HB_2 : Hid (Below W.heap.size W w2) := hH (blThen HB_1.out h5); have Ki_2 := row_up Ki_1 Li_1 h5; have Li_2 := lt_up Li_1 h5; have Kx_2 := row_up Kx_1 Lx_1 h5; have Lx_2 := lt_up Lx_1 h5; have Ky_2 := row_up Ky_1 Ly_1 h5; have Ly_2 := lt_up Ly_1 h5; have HAa_2 := hH (HAa_1.out.later h5); have HAb_2 := hH (HAb_1.out.later h5); have HD_2 := hH (HD_1.out.later h5); clear h5)))
   go_ret
   exact ⟨rfl, HB_3.out⟩
  ·have HCA := hH hc
   clear hc
   go_wp2_with (first | go_skip | ((with_reducible refine atC w1 ?_); go_at_call 41; go_must (refine (refcheck8w_any _ a w1 HMa.out HAa_1.out HNa.out).mono ?_; rw [HCA.out]; rintro e w2 ⟨rfl, h5⟩; have HB_2 : Hid (Below W.heap.size W w2) := hH (blThen HB_1.out h5); have Ki_2 := row_up Ki_1 Li_1 h5; have Li_2 := lt_up Li_1 h5; have Kx_2 := row_up Kx_1 Lx_1 h5; have Lx_2 := lt_up Lx_1 h5; have Ky_2 := row_up Ky_1 Ly_1 h5; have Ly_2 := lt_up Ly_1 h5; have HAa_2 := hH (HAa_1.out.later h5); have HAb_2 := hH (HAb_1.out.later h5); have HD_2 := hH (HD_1.out.later h5); clear h5)))
   by_cases hc : checkP b = 0
   rotate_left
   ·have hb : ((checkP b == 0) = false) := by simpa using hc
    have hd : ((checkP b != 0) = true) := by simpa using hc
    go_wp2_with (first | go_skip | ((with_reducible refine atC w3 ?_); go_at_call 14; go_must (refine (live9_any w3).mono ?_; rintro e w4 ⟨rfl, h5⟩; have HB_4 : Hid (Below W.heap.size W w4) := hH (blThen HB_3.out h5); have Ki_4 := row_up Ki_3 Li_3 h5; have Li_4 := lt_up Li_3 h5; have Kx_4 := row_up Kx_3 Lx_3 h5; have Lx_4 := lt_up Lx_3 h5; have Ky_4 := row_up Ky_3 Ly_3 h5; have Ly_4 := lt_up Ly_3 h5; have HAa_4 := hH (HAa_3.out.later h5); have HD_4 := hH (HD_3.out.later h5); clear h5)) | ((with_reducible refine atC w2 ?_); go_at_call 41; go_must (refine (refcheck8w_any _ b w2 HMb.out HAb_2.out HNb.out).mono ?_; rintro e w3 ⟨rfl, h5⟩; have HB_3 : Hid (Below W.heap.size W w3) := hH (blThen HB_2.out h5); have Ki_3 := row_up Ki_2 Li_2 h5; have Li_3 := lt_up Li_2 h5; have Kx_3 := row_up Kx_2 Lx_2 h5; have Lx_3 := lt_up Lx_2 h5; have Ky_3 := row_up Ky_2 Ly_2 h5; have Ly_3 := lt_up Ly_2 h5; have HAa_3 := hH (HAa_2.out.later h5); have HD_3 := hH (HD_2.out.later h5); clear h5)))
    go_ret
    exact ⟨rfl, HB_4.out⟩
   ·have HCB := hH hc
    clear hc
    go_wp2_with (first | go_skip | ((with_reducible refine atW w3 ?_); refine wpList_load_part _ _ rfl (by rfl) _ 0 rfl Kx_3.out Tryz.underlying23 rfl #[.int .i64 x1, .int .i64 x2] (by kernel_rfl) (two_at rfl rfl) ?_) | ((with_reducible refine atC w2 ?_); go_at_call 41; go_must (refine (refcheck8w_any _ b w2 HMb.out HAb_2.out HNb.out).mono ?_; rw [HCB.out]; rintro e w3 ⟨rfl, h5⟩; have HB_3 : Hid (Below W.heap.size W w3) := hH (blThen HB_2.out h5); have Ki_3 := row_up Ki_2 Li_2 h5; have Li_3 := lt_up Li_2 h5; have Kx_3 := row_up Kx_2 Lx_2 h5; have Lx_3 := lt_up Lx_2 h5; have Ky_3 := row_up Ky_2 Ly_2 h5; have Ly_3 := lt_up Ly_2 h5; have HAa_3 := hH (HAa_2.out.later h5); have HD_3 := hH (HD_2.out.later h5); clear h5)))
    cases hc : S1.isS (x1, x2)
    ·go_wp2_with (first | go_skip | ((with_reducible refine atC w4 ?_); go_at_call 14; go_must (refine (live9_any w4).mono ?_; rintro e w5 ⟨rfl, h5⟩; have HB_5 : Hid (Below W.heap.size W w5) := hH (blThen HB_4.out h5); have Ki_5 := row_up Ki_4 Li_4 h5; have Li_5 := lt_up Li_4 h5; have Kx_5 := row_up Kx_4 Lx_4 h5; have Lx_5 := lt_up Lx_4 h5; have Ky_5 := row_up Ky_4 Ly_4 h5; have Ly_5 := lt_up Ly_4 h5; have HAa_5 := hH (HAa_4.out.later h5); have HD_5 := hH (HD_4.out.later h5); clear h5)) | ((with_reducible refine atC w3 ?_); go_at_call 28; go_must (refine (S1.is_any x1 x2 w3).mono ?_; rw [hc]; rintro e w4 ⟨rfl, h5⟩; have h5 := below_grow (Below.refl _ _) h5; have HB_4 : Hid (Below W.heap.size W w4) := hH (blThen HB_3.out h5); have Ki_4 := row_up Ki_3 Li_3 h5; have Li_4 := lt_up Li_3 h5; have Kx_4 := row_up Kx_3 Lx_3 h5; have Lx_4 := lt_up Lx_3 h5; have Ky_4 := row_up Ky_3 Ly_3 h5; have Ly_4 := lt_up Ly_3 h5; have HAa_4 := hH (HAa_3.out.later h5); have HD_4 := hH (HD_3.out.later h5); clear h5)))
     go_ret
     exact ⟨rfl, HB_5.out⟩
    ·have HXS := hH hc
     clear hc
     go_wp2_with (first | go_skip | ((with_reducible refine atW w4 ?_); refine wpList_load_part _ _ rfl (by rfl) _ 0 rfl Ki_4.out Tryz.underlying23 rfl #[.int .i64 i1, .int .i64 i2] (by kernel_rfl) (two_at rfl rfl) ?_) | ((with_reducible refine atW w4 ?_); refine wpList_load_part _ _ rfl (by rfl) _ 0 rfl Kx_4.out Tryz.underlying23 rfl #[.int .i64 x1, .int .i64 x2] (by kernel_rfl) (two_at rfl rfl) ?_) | ((with_reducible refine atC w3 ?_); go_at_call 28; go_must (refine (S1.is_any x1 x2 w3).mono ?_; rw [HXS.out]; rintro e w4 ⟨rfl, h5⟩; have h5 := below_grow (Below.refl _ _) h5; have HB_4 : Hid (Below W.heap.size W w4) := hH (blThen HB_3.out h5); have Ki_4 := row_up Ki_3 Li_3 h5; have Li_4 := lt_up Li_3 h5; have Kx_4 := row_up Kx_3 Lx_3 h5; have Lx_4 := lt_up Lx_3 h5; have Ky_4 := row_up Ky_3 Ly_3 h5; have Ly_4 := lt_up Ly_3 h5; have HAa_4 := hH (HAa_3.out.later h5); have HD_4 := hH (HD_3.out.later h5); clear h5)))
     cases hc : S1.ltS (x1, x2) (i1, i2)
     ·have HXI := hH hc
      clear hc
      go_wp2_with (first | go_skip | ((with_reducible refine atW w5 ?_); refine wpList_load_part _ _ rfl (by rfl) _ 0 rfl Ky_5.out Tryz.underlying23 rfl #[.int .i64 y1, .int .i64 y2] (by kernel_rfl) (two_at rfl rfl) ?_) | ((with_reducible refine atC w4 ?_); go_at_call 32; go_must (refine (S1.less_any x1 x2 i1 i2 w4).mono ?_; rw [HXI.out]; rintro e w5 ⟨rfl, h5⟩; have h5 := below_grow (Below.refl _ _) h5; have HB_5 : Hid (Below W.heap.size W w5) := hH (blThen HB_4.out h5); have Ki_5 := row_up Ki_4 Li_4 h5; have Li_5 := lt_up Li_4 h5; have Kx_5 := row_up Kx_4 Lx_4 h5; have Lx_5 := lt_up Lx_4 h5; have Ky_5 := row_up Ky_4 Ly_4 h5; have Ly_5 := lt_up Ly_4 h5; have HAa_5 := hH (HAa_4.out.later h5); have HD_5 := hH (HD_4.out.later h5); clear h5)))
      cases hc : S1.isS (y1, y2)
      ·go_wp2_with (first | go_skip | ((with_reducible refine atC w6 ?_); go_at_call 14; go_must (refine (live9_any w6).mono ?_; rintro e w7 ⟨rfl, h5⟩; have HB_7 : Hid (Below W.heap.size W w7) := hH (blThen HB_6.out h5); have Ki_7 := row_up Ki_6 Li_6 h5; have Li_7 := lt_up Li_6 h5; have Kx_7 := row_up Kx_6 Lx_6 h5; have Lx_7 := lt_up Lx_6 h5; have Ky_7 := row_up Ky_6 Ly_6 h5; have Ly_7 := lt_up Ly_6 h5; have HAa_7 := hH (HAa_6.out.later h5); have HD_7 := hH (HD_6.out.later h5); clear h5)) | ((with_reducible refine atC w5 ?_); go_at_call 28; go_must (refine (S1.is_any y1 y2 w5).mono ?_; rw [hc]; rintro e w6 ⟨rfl, h5⟩; have h5 := below_grow (Below.refl _ _) h5; have HB_6 : Hid (Below W.heap.size W w6) := hH (blThen HB_5.out h5); have Ki_6 := row_up Ki_5 Li_5 h5; have Li_6 := lt_up Li_5 h5; have Kx_6 := row_up Kx_5 Lx_5 h5; have Lx_6 := lt_up Lx_5 h5; have Ky_6 := row_up Ky_5 Ly_5 h5; have Ly_6 := lt_up Ly_5 h5; have HAa_6 := hH (HAa_5.out.later h5); have HD_6 := hH (HD_5.out.later h5); clear h5)))
       go_ret
       exact ⟨rfl, HB_7.out⟩
      ·have HYS := hH hc
       clear hc
       go_wp2_with (first | go_skip | ((with_reducible refine atC w5 ?_); go_at_call 28; go_must (refine (S1.is_any y1 y2 w5).mono ?_; rw [HYS.out]; rintro e w6 ⟨rfl, h5⟩; have h5 := below_grow (Below.refl _ _) h5; have HB_6 : Hid (Below W.heap.size W w6) := hH (blThen HB_5.out h5); have Ki_6 := row_up Ki_5 Li_5 h5; have Li_6 := lt_up Li_5 h5; have Kx_6 := row_up Kx_5 Lx_5 h5; have Lx_6 := lt_up Lx_5 h5; have Ky_6 := row_up Ky_5 Ly_5 h5; have Ly_6 := lt_up Ly_5 h5; have HAa_6 := hH (HAa_5.out.later h5); have HD_6 := hH (HD_5.out.later h5); clear h5)))
       by_cases hc : SD.checkD (SD.toD F) = 0
       rotate_left
       ·have hb : ((SD.checkD (SD.toD F) == 0) = false) := by simpa using hc
        have hd : ((SD.checkD (SD.toD F) != 0) = true) := by simpa using hc
        go_wp2_with (first | go_skip | ((with_reducible refine atC w7 ?_); go_at_call 14; go_must (refine (live9_any w7).mono ?_; rintro e w8 ⟨rfl, h5⟩; have HB_8 : Hid (Below W.heap.size W w8) := hH (blThen HB_7.out h5); have Ki_8 := row_up Ki_7 Li_7 h5; have Li_8 := lt_up Li_7 h5; have Kx_8 := row_up Kx_7 Lx_7 h5; have Lx_8 := lt_up Lx_7 h5; have Ky_8 := row_up Ky_7 Ly_7 h5; have Ly_8 := lt_up Ly_7 h5; have HAa_8 := hH (HAa_7.out.later h5); have HD_8 := hH (HD_7.out.later h5); clear h5)) | ((with_reducible refine atC w6 ?_); go_at_call 49; go_must (refine (refcheckw_any da dc F w6 HMd.out HID.out HD_6.out).mono ?_; rintro e w7 ⟨rfl, h5⟩; have HB_7 : Hid (Below W.heap.size W w7) := hH (blThen HB_6.out h5); have Ki_7 := row_up Ki_6 Li_6 h5; have Li_7 := lt_up Li_6 h5; have Kx_7 := row_up Kx_6 Lx_6 h5; have Lx_7 := lt_up Lx_6 h5; have Ky_7 := row_up Ky_6 Ly_6 h5; have Ly_7 := lt_up Ly_6 h5; have HAa_7 := hH (HAa_6.out.later h5); have HD_7 := hH (HD_6.out.later h5); clear h5)))
        go_ret
        exact ⟨rfl, HB_8.out⟩
       ·have HCD := hH hc
        have HFV := hH (few_d hc)
        have HFW := hH (few_v rfl (few_d hc))
        go_wp2_with (first | go_skip | ((with_reducible refine atC w6 ?_); go_at_call 49; go_must (refine (refcheckw_any da dc F w6 HMd.out HID.out HD_6.out).mono ?_; rw [HCD.out]; rintro e w7 ⟨rfl, h5⟩; have HB_7 : Hid (Below W.heap.size W w7) := hH (blThen HB_6.out h5); have Ki_7 := row_up Ki_6 Li_6 h5; have Li_7 := lt_up Li_6 h5; have Kx_7 := row_up Kx_6 Lx_6 h5; have Lx_7 := lt_up Lx_6 h5; have Ky_7 := row_up Ky_6 Ly_6 h5; have Ly_7 := lt_up Ly_6 h5; have HAa_7 := hH (HAa_6.out.later h5); have HD_7 := hH (HD_6.out.later h5); clear h5)))
        by_cases hc : 40 < (SD.allD (SD.toD F)).length
        ·have hb : decide ((40 : Int) < ((SD.allD (SD.toD F)).length : Int)) = true := decide_eq_true (by omega)
         have hb2 : (40 : Int) < ((SD.allD (SD.toD F)).length : Int) := by omega
         go_wp2_with (first | go_skip | ((with_reducible refine atC w8 ?_); go_at_call 14; go_must (refine (live9_any w8).mono ?_; rintro e w9 ⟨rfl, h5⟩; have HB_9 : Hid (Below W.heap.size W w9) := hH (blThen HB_8.out h5); have Kx_9 := row_up Kx_8 Lx_8 h5; have Lx_9 := lt_up Lx_8 h5; have Ky_9 := row_up Ky_8 Ly_8 h5; have HD_9 := hH (HD_8.out.later h5); clear h5)) | ((with_reducible refine atC w7 ?_); go_at_call 37; go_must (refine (SD.refall_any da dc F w7 HFW.out.1.1 HFW.out.2 HD_7.out).mono ?_; intro e w8 h; unfold S1.RetA at h; obtain ⟨xa, xc, rfl, _, _, _, h5⟩ := h; have HB_8 : Hid (Below W.heap.size W w8) := hH (blThen HB_7.out h5); have Ki_8 := row_up Ki_7 Li_7 h5; have Li_8 := lt_up Li_7 h5; have Kx_8 := row_up Kx_7 Lx_7 h5; have Lx_8 := lt_up Lx_7 h5; have Ky_8 := row_up Ky_7 Ly_7 h5; have Ly_8 := lt_up Ly_7 h5; have HAa_8 := hH (HAa_7.out.later h5); have HD_8 := hH (HD_7.out.later h5); clear h5)))
         go_ret
         exact ⟨rfl, HB_9.out⟩
        ·have hb : decide ((40 : Int) < ((SD.allD (SD.toD F)).length : Int)) = false := decide_eq_false (by omega)
         have hb2 : ¬ (40 : Int) < ((SD.allD (SD.toD F)).length : Int) := by omega
         go_upto_region 3 with (first | go_skip | ((with_reducible refine atC w7 ?_); go_at_call 37; go_must (refine (SD.refall_any da dc F w7 HFW.out.1.1 HFW.out.2 HD_7.out).mono ?_; intro e w8 h; unfold S1.RetA at h; obtain ⟨xa, xc, rfl, _, _, _, h5⟩ := h; have HB_8 : Hid (Below W.heap.size W w8) := hH (blThen HB_7.out h5); have Ki_8 := row_up Ki_7 Li_7 h5; have Li_8 := lt_up Li_7 h5; have Kx_8 := row_up Kx_7 Lx_7 h5; have Lx_8 := lt_up Lx_7 h5; have Ky_8 := row_up Ky_7 Ly_7 h5; have Ly_8 := lt_up Ly_7 h5; have HAa_8 := hH (HAa_7.out.later h5); have HD_8 := hH (HD_7.out.later h5); clear h5)))
         have HMAY := hH (first_may HIS.out HCA.out HXS.out HXI.out HCD.out)
         have HTOP := hH (first_top (a := a) (d := SD.toD F) HIS.out HXS.out HXI.out)
         have HFEW := hH (first_few (id := (i1, i2)) (x := (x1, x2)) HCA.out HCD.out)
         have HOLD := hH (first_old (i1, i2) (x1, x2) a (SD.toD F) HCA.out)
         have KS : Hid (∀ Y : World, Below w8.heap.size w8 Y → Y.cell? ⟨W.heap.size, 0, none⟩ = some (.int .i64 i1) ∧ Y.cell? ⟨W.heap.size, 1, none⟩ = some (.int .i64 i2) ∧ Y.cell? ⟨W.heap.size + 1, 0, none⟩ = some (.int .i64 x1) ∧ Y.cell? ⟨W.heap.size + 1, 1, none⟩ = some (.int .i64 x2)) := hH (fun Y hY => by
          have p := (hY.block W.heap.size Li_8.out).trans Ki_8.out
          have q := (hY.block (W.heap.size + 1) Lx_8.out).trans Kx_8.out
          exact ⟨cell_row p 0 _ rfl, cell_row p 1 _ rfl, cell_row q 0 _ rfl, cell_row q 1 _ rfl⟩)
         have HWIT : Hid (∀ Y : World, Below w8.heap.size w8 Y → Calls Tryz.prog 48 #[.agg (r22 i1 i2 (.slice none 0 0) 0 0 0 0 0 false (.slice none 0 0) 0 0 false 0 0 false 0 0 (.slice none 0 0) false (.slice none 0 0) (.slice none 0 0)), .slice aa a.length ac, .agg #[.int .i64 x1, .int .i64 x2], .bool true, .slice da F.length dc] Y (RetWi Y (c1F (i1, i2) (x1, x2) a (SD.toD F)) nilL (.slice aa a.length ac) (SD.toD F))) := hH (fun Y hY => by
          have h := witness_new (newC (i1, i2)) nilL a (.slice aa a.length ac) (x1, x2) true (SD.toD F) (.slice da F.length dc) Y (nilL_at _ _) rfl rfl (HAa_8.out.later hY) ⟨da, dc, F, rfl, HD_8.out.later hY, rfl, HDN.out⟩ HFV.out HWF.out
          rw [first_wit] at h
          exact h)
         go_cut [13] from 55 to 60 (fun s13 wx => ∃ (k : Nat) (l : Pl), s13 = .pointer (some ⟨k, 0, none⟩) ∧ k < wx.heap.size ∧ wx.heap[k]? = some (.cells (r22 i1 i2 l.o 1 0 0 x1 x2 true l.s 0 0 false 0 0 false 0 0 l.d false l.w l.p) 31 (0, 0)) ∧ CmAt wx (c1F (i1, i2) (x1, x2) a (SD.toD F)) l ∧ Below w8.heap.size w8 wx)
         case first =>
          refine wp_region_held_drew (S := fun Y => Y.cell? ⟨W.heap.size, 0, none⟩ = some (.int .i64 i1) ∧ Y.cell? ⟨W.heap.size, 1, none⟩ = some (.int .i64 i2) ∧ Y.cell? ⟨W.heap.size + 1, 0, none⟩ = some (.int .i64 x1) ∧ Y.cell? ⟨W.heap.size + 1, 1, none⟩ = some (.int .i64 x2)) (by kernel_rfl) (KS.out _ (Below.refl w8.heap.size w8).drew) (fun hHeld => ?_)
          refine wpAnyH_take (i := 0) (oi := ⟨_, _, _, _, _, _⟩) (v := ?_) rfl (by kernel_rfl) (by kernel_rfl) (by kernel_rfl) (fun _ _ _ h => h) (Or.inl ⟨by rfl, ?_⟩) (by assumption) ?_
          rotate_left
          ·intro w hSw
           try dsimp only at hSw
           go_simp
           try with_reducible rfl
          try simp only [Act.put, sA9, sZ9, sS9]
          refine wpAnyH_take (i := 2) (oi := ⟨_, _, _, _, _, _⟩) (v := ?_) rfl (by kernel_rfl) (by kernel_rfl) (by kernel_rfl) (fun _ _ _ h => h) (Or.inl ⟨by rfl, ?_⟩) (by assumption) ?_
          rotate_left
          ·intro w hSw
           try dsimp only at hSw
           go_simp
           try with_reducible rfl
          try simp only [Act.put, sA9, sZ9, sS9]
          refine wpAnyH_take (i := 3) (oi := ⟨_, _, _, _, _, _⟩) (v := ?_) rfl (by kernel_rfl) (by kernel_rfl) (by kernel_rfl) (fun _ _ _ h => h) (Or.inl ⟨by rfl, ?_⟩) (by assumption) ?_
          rotate_left
          ·intro w hSw
           try dsimp only at hSw
           go_simp
           try with_reducible rfl
          try simp only [Act.put, sA9, sZ9, sS9]
          refine wpAnyH_take (i := 4) (oi := ⟨_, _, _, _, _, _⟩) (v := ?_) rfl (by kernel_rfl) (by kernel_rfl) (by kernel_rfl) (fun _ _ _ h => h) (Or.inl ⟨by rfl, ?_⟩) (by assumption) ?_
          rotate_left
          ·intro w hSw
           try dsimp only at hSw
           go_simp
           try with_reducible rfl
          try simp only [Act.put, sA9, sZ9, sS9]
          have HX : Hid (Below w8.heap.size w8 w8.drew) := hH (Below.refl _ _).drew
          have HB_z0 := HX
          clear HX
          generalize w8.drew = z0 at *
          refine wpAnyH_ready (rs := [1, 6]) (by kernel_rfl) (by simp) ?_
          refine (AllReadyH.cons (o := ⟨_, _, _, _, _, _⟩) rfl (fun K hK => ?_) (AllReadyH.cons (o := ⟨_, _, _, _, _, _⟩) rfl (fun K hK => ?_) AllReadyH.nil))
          ·go_simp
           go_at_call 21
           refine (new9_any (i1, i2) z0).mono ?_
           intro e zw1 h
           unfold RetL at h
           obtain ⟨rfl, h5⟩ := h
           simp only [cmV, newC, nilL, z2, val0]
           have HX : Hid (Below z0.heap.size z0 zw1) := hH h5
           have HB_zw1 : Hid (Below w8.heap.size w8 zw1) := hH (blThen HB_z0.out HX.out)
           have HBY := hH HX.out
           refine hK.out _ _ (KS.out _ HB_zw1.out) (fun hHeld => ?_)
           clear hK K HX h5
           try simp only [Act.put, sA9, sZ9, sS9]
           refine wpAnyH_ready (rs := [5, 6]) (by kernel_rfl) (by simp) ?_
           refine (AllReadyH.cons (o := ⟨_, _, _, _, _, _⟩) rfl (fun K hK => ?_) (AllReadyH.cons (o := ⟨_, _, _, _, _, _⟩) rfl (fun K hK => ?_) AllReadyH.nil))
           ·go_simp
            go_at_call 48
            refine (HWIT.out zw1 HB_zw1.out).mono ?_
            intro e zw2 h
            unfold RetWi at h
            obtain ⟨ns, rfl, hdo, h5⟩ := h
            obtain ⟨sa, sn, sc, rfl⟩ := hdo.form
            have HDO := hH hdo
            clear hdo
            simp only [cmV, c1F, z2, val0, nilL]
            try have LNC := LN
            have HX : Hid (Below zw1.heap.size zw1 zw2) := hH h5
            have HB_zw2 : Hid (Below w8.heap.size w8 zw2) := hH (blThen HB_zw1.out HX.out)
            have HBY := hH HX.out
            refine hK.out _ _ (KS.out _ HB_zw2.out) (fun hHeld => ?_)
            clear hK K HX h5
            try simp only [Act.put, sA9, sZ9, sS9]
            refine wpAnyH_ready (rs := [6]) (by kernel_rfl) (by simp) ?_
            refine (AllReadyH.cons (o := ⟨_, _, _, _, _, _⟩) rfl (fun K hK => ?_) AllReadyH.nil)
            ·go_simp
             have HX : Hid (Below zw2.heap.size zw2 (zw2.alloc (.cells z22 31))) := hH (blAlloc (Below.refl _ _) _)
             have HB_zw3 : Hid (Below w8.heap.size w8 (zw2.alloc (.cells z22 31))) := hH (blThen HB_zw2.out HX.out)
             have HBY := hH HX.out
             have KN : Hid ((zw2.alloc (.cells z22 31)).heap[zw2.heap.size]? = some (.cells z22 31 (0, 0))) := hH (new_blockC zw2 z22 31)
             have LN : Hid (zw2.heap.size < (zw2.alloc (.cells z22 31)).heap.size) := hH (by simp)
             have GN : Hid (w8.heap.size ≤ zw2.heap.size) := hH HB_zw2.out.size
             refine hK.out _ _ (KS.out _ HB_zw3.out) (fun hHeld => ?_)
             clear hK K HX
             try simp only [Act.put, sA9, sZ9, sS9]
             generalize (zw2.alloc (.cells z22 31)) = zw3 at *
             refine wpAnyH_ready (rs := [7]) (by kernel_rfl) (by simp) ?_
             refine AllReadyH.cons (o := ⟨_, _, _, _, _, _⟩) rfl (fun K hK => ?_) ?_
             rotate_left
             ·exact AllReadyH.nil
             refine ite_yes9 (by rfl) ?_
             refine wp_store9 _ _ rfl _ rfl (cells := (r22 i1 i2 (.slice aa a.length ac) 1 0 0 x1 x2 true (.slice sa sn sc) 0 0 false 0 0 false 0 0 (.slice none 0 0) false (.slice none 0 0) (.slice none 0 0))) rfl KN.out rfl rfl (by simp [Value.oneCell']) ?_
             intro zf h1 h2
             have HBF : Hid (Below w8.heap.size w8 zf) := hH (below_grown9 HB_zw3.out h2 GN.out)
             have KF := hH h1
             have LF := Nat.lt_of_lt_of_le LN.out h2.size
             have HDOF := hH (HDO.out.kp (S2.Keeps.ofBelow (below_grown9 HBY.out h2 (Nat.le_refl _))))
             clear h1 h2
             refine hK.out _ _ (KS.out _ HBF.out) (fun hHeld => ?_)
             clear hK K
             try simp only [Act.put, sA9, sZ9, sS9]
             refine wpAnyH_done (by kernel_rfl) ?_ _
             go_wp2_with fail
             go_meet
             exact ⟨zw2.heap.size, ⟨.slice aa a.length ac, .slice sa sn sc, .slice none 0 0, .slice none 0 0, .slice none 0 0⟩, rfl, LF, KF.out, ⟨HAa_8.out.later HBF.out, HDOF.out.dl, dl_nil9 _, SlG.nil _, SlG.nil _⟩, HBF.out⟩
           ·go_simp
            have HX : Hid (Below zw1.heap.size zw1 (zw1.alloc (.cells z22 31))) := hH (blAlloc (Below.refl _ _) _)
            have HB_zw4 : Hid (Below w8.heap.size w8 (zw1.alloc (.cells z22 31))) := hH (blThen HB_zw1.out HX.out)
            have HBY := hH HX.out
            have KN : Hid ((zw1.alloc (.cells z22 31)).heap[zw1.heap.size]? = some (.cells z22 31 (0, 0))) := hH (new_blockC zw1 z22 31)
            have LN : Hid (zw1.heap.size < (zw1.alloc (.cells z22 31)).heap.size) := hH (by simp)
            have GN : Hid (w8.heap.size ≤ zw1.heap.size) := hH HB_zw1.out.size
            refine hK.out _ _ (KS.out _ HB_zw4.out) (fun hHeld => ?_)
            clear hK K HX
            try simp only [Act.put, sA9, sZ9, sS9]
            generalize (zw1.alloc (.cells z22 31)) = zw4 at *
            refine wpAnyH_ready (rs := [5]) (by kernel_rfl) (by simp) ?_
            refine (AllReadyH.cons (o := ⟨_, _, _, _, _, _⟩) rfl (fun K hK => ?_) AllReadyH.nil)
            ·go_simp
             go_at_call 48
             refine (HWIT.out zw4 HB_zw4.out).mono ?_
             intro e zw5 h
             unfold RetWi at h
             obtain ⟨ns, rfl, hdo, h5⟩ := h
             obtain ⟨sa, sn, sc, rfl⟩ := hdo.form
             have HDO := hH hdo
             clear hdo
             simp only [cmV, c1F, z2, val0, nilL]
             try have LNC := LN
             have HX : Hid (Below zw4.heap.size zw4 zw5) := hH h5
             have HB_zw5 : Hid (Below w8.heap.size w8 zw5) := hH (blThen HB_zw4.out HX.out)
             have HBY := hH HX.out
             have KN := hH ((HX.out.block zw1.heap.size LN.out).trans KN.out)
             have LN : Hid (zw1.heap.size < zw5.heap.size) := hH (Nat.lt_of_lt_of_le LN.out HX.out.size)
             refine hK.out _ _ (KS.out _ HB_zw5.out) (fun hHeld => ?_)
             clear hK K HX h5
             try simp only [Act.put, sA9, sZ9, sS9]
             refine wpAnyH_ready (rs := [7]) (by kernel_rfl) (by simp) ?_
             refine AllReadyH.cons (o := ⟨_, _, _, _, _, _⟩) rfl (fun K hK => ?_) ?_
             rotate_left
             ·exact AllReadyH.nil
             refine ite_yes9 (by rfl) ?_
             refine wp_store9 _ _ rfl _ rfl (cells := (r22 i1 i2 (.slice aa a.length ac) 1 0 0 x1 x2 true (.slice sa sn sc) 0 0 false 0 0 false 0 0 (.slice none 0 0) false (.slice none 0 0) (.slice none 0 0))) rfl KN.out rfl rfl (by simp [Value.oneCell']) ?_
             intro zf h1 h2
             have HBF : Hid (Below w8.heap.size w8 zf) := hH (below_grown9 HB_zw5.out h2 GN.out)
             have KF := hH h1
             have LF := Nat.lt_of_lt_of_le LN.out h2.size
             have HDOF := hH (HDO.out.kp (grown_lt h2 LNC.out))
             clear h1 h2
             refine hK.out _ _ (KS.out _ HBF.out) (fun hHeld => ?_)
             clear hK K
             try simp only [Act.put, sA9, sZ9, sS9]
             refine wpAnyH_done (by kernel_rfl) ?_ _
             go_wp2_with fail
             go_meet
             exact ⟨zw1.heap.size, ⟨.slice aa a.length ac, .slice sa sn sc, .slice none 0 0, .slice none 0 0, .slice none 0 0⟩, rfl, LF, KF.out, ⟨HAa_8.out.later HBF.out, HDOF.out.dl, dl_nil9 _, SlG.nil _, SlG.nil _⟩, HBF.out⟩
          ·go_simp
           have HX : Hid (Below z0.heap.size z0 (z0.alloc (.cells z22 31))) := hH (blAlloc (Below.refl _ _) _)
           have HB_zw6 : Hid (Below w8.heap.size w8 (z0.alloc (.cells z22 31))) := hH (blThen HB_z0.out HX.out)
           have HBY := hH HX.out
           have KN : Hid ((z0.alloc (.cells z22 31)).heap[z0.heap.size]? = some (.cells z22 31 (0, 0))) := hH (new_blockC z0 z22 31)
           have LN : Hid (z0.heap.size < (z0.alloc (.cells z22 31)).heap.size) := hH (by simp)
           have GN : Hid (w8.heap.size ≤ z0.heap.size) := hH HB_z0.out.size
           refine hK.out _ _ (KS.out _ HB_zw6.out) (fun hHeld => ?_)
           clear hK K HX
           try simp only [Act.put, sA9, sZ9, sS9]
           generalize (z0.alloc (.cells z22 31)) = zw6 at *
           refine wpAnyH_ready (rs := [1]) (by kernel_rfl) (by simp) ?_
           refine (AllReadyH.cons (o := ⟨_, _, _, _, _, _⟩) rfl (fun K hK => ?_) AllReadyH.nil)
           ·go_simp
            go_at_call 21
            refine (new9_any (i1, i2) zw6).mono ?_
            intro e zw7 h
            unfold RetL at h
            obtain ⟨rfl, h5⟩ := h
            simp only [cmV, newC, nilL, z2, val0]
            have HX : Hid (Below zw6.heap.size zw6 zw7) := hH h5
            have HB_zw7 : Hid (Below w8.heap.size w8 zw7) := hH (blThen HB_zw6.out HX.out)
            have HBY := hH HX.out
            have KN := hH ((HX.out.block z0.heap.size LN.out).trans KN.out)
            have LN : Hid (z0.heap.size < zw7.heap.size) := hH (Nat.lt_of_lt_of_le LN.out HX.out.size)
            refine hK.out _ _ (KS.out _ HB_zw7.out) (fun hHeld => ?_)
            clear hK K HX h5
            try simp only [Act.put, sA9, sZ9, sS9]
            refine wpAnyH_ready (rs := [5]) (by kernel_rfl) (by simp) ?_
            refine (AllReadyH.cons (o := ⟨_, _, _, _, _, _⟩) rfl (fun K hK => ?_) AllReadyH.nil)
            ·go_simp
             go_at_call 48
             refine (HWIT.out zw7 HB_zw7.out).mono ?_
             intro e zw8 h
             unfold RetWi at h
             obtain ⟨ns, rfl, hdo, h5⟩ := h
             obtain ⟨sa, sn, sc, rfl⟩ := hdo.form
             have HDO := hH hdo
             clear hdo
             simp only [cmV, c1F, z2, val0, nilL]
             try have LNC := LN
             have HX : Hid (Below zw7.heap.size zw7 zw8) := hH h5
             have HB_zw8 : Hid (Below w8.heap.size w8 zw8) := hH (blThen HB_zw7.out HX.out)
             have HBY := hH HX.out
             have KN := hH ((HX.out.block z0.heap.size LN.out).trans KN.out)
             have LN : Hid (z0.heap.size < zw8.heap.size) := hH (Nat.lt_of_lt_of_le LN.out HX.out.size)
             refine hK.out _ _ (KS.out _ HB_zw8.out) (fun hHeld => ?_)
             clear hK K HX h5
             try simp only [Act.put, sA9, sZ9, sS9]
             refine wpAnyH_ready (rs := [7]) (by kernel_rfl) (by simp) ?_
             refine AllReadyH.cons (o := ⟨_, _, _, _, _, _⟩) rfl (fun K hK => ?_) ?_
             rotate_left
             ·exact AllReadyH.nil
             refine ite_yes9 (by rfl) ?_
             refine wp_store9 _ _ rfl _ rfl (cells := (r22 i1 i2 (.slice aa a.length ac) 1 0 0 x1 x2 true (.slice sa sn sc) 0 0 false 0 0 false 0 0 (.slice none 0 0) false (.slice none 0 0) (.slice none 0 0))) rfl KN.out rfl rfl (by simp [Value.oneCell']) ?_
             intro zf h1 h2
             have HBF : Hid (Below w8.heap.size w8 zf) := hH (below_grown9 HB_zw8.out h2 GN.out)
             have KF := hH h1
             have LF := Nat.lt_of_lt_of_le LN.out h2.size
             have HDOF := hH (HDO.out.kp (grown_lt h2 LNC.out))
             clear h1 h2
             refine hK.out _ _ (KS.out _ HBF.out) (fun hHeld => ?_)
             clear hK K
             try simp only [Act.put, sA9, sZ9, sS9]
             refine wpAnyH_done (by kernel_rfl) ?_ _
             go_wp2_with fail
             go_meet
             exact ⟨z0.heap.size, ⟨.slice aa a.length ac, .slice sa sn sc, .slice none 0 0, .slice none 0 0, .slice none 0 0⟩, rfl, LF, KF.out, ⟨HAa_8.out.later HBF.out, HDOF.out.dl, dl_nil9 _, SlG.nil _, SlG.nil _⟩, HBF.out⟩
         case rest =>
          obtain ⟨k4, ⟨lo, ls, ld, lw, lp⟩, e13, hlt, hr, hat, h5⟩ := hcut
          rename World => w9
          rw [e13]
          clear e13
          simp only at hr
          have HATc := hH hat
          obtain ⟨oa, oc, rfl⟩ := hat.o.form
          obtain ⟨sa, sc, sF, rfl, _⟩ := hat.s
          obtain ⟨ea, ec, eF, rfl, _⟩ := hat.d
          obtain ⟨wa, wc, rfl⟩ := hat.w.form
          obtain ⟨pa, pc, rfl⟩ := hat.p.form
          clear hat
          have HB_9 : Hid (Below W.heap.size W w9) := hH (blThen HB_8.out h5)
          have Kx_9 := row_up Kx_8 Lx_8 h5
          have Lx_9 := lt_up Lx_8 h5
          have Ky_9 := row_up Ky_8 Ly_8 h5
          have HD_9 := hH (HD_8.out.later h5)
          have HC_9 := HATc
          have Kc_9 := hH hr
          have Lc_9 : Hid (k4 < w9.heap.size) := hH hlt
          clear HATc hr hlt h5 KS HWIT
          go_wp2_with (first | go_skip | ((with_reducible refine atW (w10.alloc (.cells z22 31)) ?_); refine store9 _ _ rfl (by rfl) _ rfl rfl (new_blockC w10 z22 31) rfl rfl (by simp [Value.oneCell']) ?_; intro w11 h1 h2; have h5 := below_grown9 (blAlloc (Below.refl _ _) _) h2 (Nat.le_refl _); have HB_11 : Hid (Below W.heap.size W w11) := hH (blThen HB_10.out h5); have Kx_11 := row_up Kx_10 Lx_10 h5; have Lx_11 := lt_up Lx_10 h5; have Kc_11 := row_up Kc_10 Lc_10 h5; have Lc_11 := lt_up Lc_10 h5; have HD_11 := hH (HD_10.out.later h5); have HC_11 := hH (HC_10.out.later h5); have Ke_11 := hH h1; have Le_11 : Hid (w10.heap.size < w11.heap.size) := hH (by have := h2.size; simp only [World.size_alloc] at this; omega); clear h1 h2 h5) | ((with_reducible refine atC w9 ?_); go_at_call 48; go_must (refine (witness_seen (c1F (i1, i2) (x1, x2) a (SD.toD F)) ⟨.slice oa a.length oc, .slice sa sF.length sc, .slice ea eF.length ec, .slice wa ([] : List Wrt).length wc, .slice pa ([] : Al Nat).length pc⟩ (.slice ba b.length bc) (.slice none 0 0) (y1, y2) false w9 HC_9.out HOLD.out).mono ?_; intro e w10 h; unfold RetL at h; obtain ⟨rfl, h5⟩ := h; simp only [cmV, c1F, z2, val0]; have HB_10 : Hid (Below W.heap.size W w10) := hH (blThen HB_9.out h5); have Kx_10 := row_up Kx_9 Lx_9 h5; have Lx_10 := lt_up Lx_9 h5; have Kc_10 := row_up Kc_9 Lc_9 h5; have Lc_10 := lt_up Lc_9 h5; have HD_10 := hH (HD_9.out.later h5); have HC_10 := hH (HC_9.out.later h5); clear h5)) | ((with_reducible refine atW w9 ?_); refine wpList_load_part _ _ rfl (by rfl) _ 0 rfl Ky_9.out Tryz.underlying23 rfl #[.int .i64 y1, .int .i64 y2] (by kernel_rfl) (two_at rfl rfl) ?_) | ((with_reducible refine atW w9 ?_); refine load9 _ rfl (by rfl) _ rfl Kc_9.out rfl ?_))
          refine wp_region_held_drew (S := fun Y => Y.heap[k4]? = some (.cells (r22 i1 i2 (.slice oa a.length oc) 1 0 0 x1 x2 true (.slice sa sF.length sc) 0 0 false 0 0 false 0 0 (.slice ea eF.length ec) false (.slice wa ([] : List Wrt).length wc) (.slice pa ([] : Al Nat).length pc)) 31 (0, 0)) ∧ Y.heap[w10.heap.size]? = some (.cells (r22 i1 i2 (.slice oa a.length oc) 1 0 0 x1 x2 true (.slice sa sF.length sc) 0 0 false 0 0 false 0 0 (.slice ea eF.length ec) false (.slice wa ([] : List Wrt).length wc) (.slice pa ([] : Al Nat).length pc)) 31 (0, 0)) ∧ Y.heap[(W.heap.size + 1)]? = some (.cells #[.int .i64 x1, .int .i64 x2] 23 (0, 0))) (by kernel_rfl) (⟨Kc_11.out, Ke_11.out, Kx_11.out⟩) (fun hHeld => ?_)
          have h5 : Below w11.heap.size w11 w11.drew := (Below.refl _ _).drew
          have HB_12 : Hid (Below W.heap.size W w11.drew) := hH (blThen HB_11.out h5)
          have Kx_12 := row_up Kx_11 Lx_11 h5
          have Lx_12 := lt_up Lx_11 h5
          have Kc_12 := row_up Kc_11 Lc_11 h5
          have Lc_12 := lt_up Lc_11 h5
          have Ke_12 := row_up Ke_11 Le_11 h5
          have Le_12 := lt_up Le_11 h5
          have HD_12 := hH (HD_11.out.later h5)
          have HC_12 := hH (HC_11.out.later h5)
          clear h5
          generalize w11.drew = w12 at *
          refine wpAnyH_take (i := 0) (oi := ⟨_, _, _, _, _, _⟩) (v := _) rfl (by kernel_rfl) (by kernel_rfl) (by kernel_rfl) (fun _ _ _ h => h) (yields_row (by rfl) _ _ rfl _ 0 rfl (fun w h => h.1) Tryz.underlying31 rfl (r22 i1 i2 (.slice oa a.length oc) 1 0 0 x1 x2 true (.slice sa sF.length sc) 0 0 false 0 0 false 0 0 (.slice ea eF.length ec) false (.slice wa ([] : List Wrt).length wc) (.slice pa ([] : Al Nat).length pc)) szCmd all_at) (by assumption) ?_
          try simp only [Act.put, sA9, sZ9, sS9]
          refine wpAnyH_take (i := 1) (oi := ⟨_, _, _, _, _, _⟩) (v := _) rfl (by kernel_rfl) (by kernel_rfl) (by kernel_rfl) (fun _ _ _ h => h) (yields_row (by rfl) _ _ rfl _ 0 rfl (fun w h => h.2.1) Tryz.underlying31 rfl (r22 i1 i2 (.slice oa a.length oc) 1 0 0 x1 x2 true (.slice sa sF.length sc) 0 0 false 0 0 false 0 0 (.slice ea eF.length ec) false (.slice wa ([] : List Wrt).length wc) (.slice pa ([] : Al Nat).length pc)) szCmd all_at) (by assumption) ?_
          try simp only [Act.put, sA9, sZ9, sS9]
          refine wpAnyH_ready (rs := [2]) (by kernel_rfl) (by simp) ?_
          refine AllReadyH.cons (o := ⟨_, _, _, _, _, _⟩) rfl (fun K hK => ?_) ?_
          rotate_left
          ·exact AllReadyH.nil
          go_simp
          go_at_call 20
          refine (rsame9_any (c1F (i1, i2) (x1, x2) a (SD.toD F)) ⟨.slice oa a.length oc, .slice sa sF.length sc, .slice ea eF.length ec, .slice wa ([] : List Wrt).length wc, .slice pa ([] : Al Nat).length pc⟩ ⟨.slice oa a.length oc, .slice sa sF.length sc, .slice ea eF.length ec, .slice wa ([] : List Wrt).length wc, .slice pa ([] : Al Nat).length pc⟩ w12 HC_12.out HC_12.out HFEW.out).mono ?_
          rintro e w13 ⟨rfl, h5⟩
          have HB_13 : Hid (Below W.heap.size W w13) := hH (blThen HB_12.out h5)
          have Kx_13 := row_up Kx_12 Lx_12 h5
          have Lx_13 := lt_up Lx_12 h5
          have Kc_13 := row_up Kc_12 Lc_12 h5
          have Lc_13 := lt_up Lc_12 h5
          have Ke_13 := row_up Ke_12 Le_12 h5
          have Le_13 := lt_up Le_12 h5
          have HD_13 := hH (HD_12.out.later h5)
          have HC_13 := hH (HC_12.out.later h5)
          refine hK.out _ _ (⟨Kc_13.out, Ke_13.out, Kx_13.out⟩) (fun hHeld => ?_)
          clear hK K h5
          try simp only [Act.put, sA9, sZ9, sS9]
          refine wpAnyH_take (i := 3) (oi := ⟨_, _, _, _, _, _⟩) (v := ?_) rfl (by kernel_rfl) (by kernel_rfl) (by kernel_rfl) (fun _ _ _ h => h) (Or.inl ⟨by rfl, ?_⟩) (by assumption) ?_
          rotate_left
          ·intro w hSw
           try dsimp only at hSw
           go_simp
           try with_reducible rfl
          try simp only [Act.put, sA9, sZ9, sS9]
          refine wpAnyH_take (i := 4) (oi := ⟨_, _, _, _, _, _⟩) (v := ?_) rfl (by kernel_rfl) (by kernel_rfl) (by kernel_rfl) (fun _ _ _ h => h) (Or.inl ⟨by rfl, ?_⟩) (by assumption) ?_
          rotate_left
          ·intro w hSw
           try dsimp only at hSw
           go_simp
           try with_reducible rfl
          try simp only [Act.put, sA9, sZ9, sS9]
          refine wpAnyH_take (i := 5) (oi := ⟨_, _, _, _, _, _⟩) (v := _) rfl (by kernel_rfl) (by kernel_rfl) (by kernel_rfl) (fun _ _ _ h => h) (yields_one (by rfl) _ _ rfl _ 3 rfl (fun w h => h.1) Tryz.underlying3 rfl rfl) (by assumption) ?_
          try simp only [Act.put, sA9, sZ9, sS9]
          refine wpAnyH_take (i := 6) (oi := ⟨_, _, _, _, _, _⟩) (v := ?_) rfl (by kernel_rfl) (by kernel_rfl) (by kernel_rfl) (fun _ _ _ h => h) (Or.inl ⟨by rfl, ?_⟩) (by assumption) ?_
          rotate_left
          ·intro w hSw
           try dsimp only at hSw
           go_simp
           try with_reducible rfl
          try simp only [Act.put, sA9, sZ9, sS9]
          refine wpAnyH_take (i := 7) (oi := ⟨_, _, _, _, _, _⟩) (v := ?_) rfl (by kernel_rfl) (by kernel_rfl) (by kernel_rfl) (fun _ _ _ h => h) (Or.inl ⟨by rfl, ?_⟩) (by assumption) ?_
          rotate_left
          ·intro w hSw
           try dsimp only at hSw
           go_simp
           try with_reducible rfl
          try simp only [Act.put, sA9, sZ9, sS9]
          refine wpAnyH_take (i := 8) (oi := ⟨_, _, _, _, _, _⟩) (v := ?_) rfl (by kernel_rfl) (by kernel_rfl) (by kernel_rfl) (fun _ _ _ h => h) (Or.inl ⟨by rfl, ?_⟩) (by assumption) ?_
          rotate_left
          ·intro w hSw
           try dsimp only at hSw
           go_simp
           try with_reducible rfl
          try simp only [Act.put, sA9, sZ9, sS9]
          refine wpAnyH_take (i := 9) (oi := ⟨_, _, _, _, _, _⟩) (v := ?_) rfl (by kernel_rfl) (by kernel_rfl) (by kernel_rfl) (fun _ _ _ h => h) (Or.inl ⟨by rfl, ?_⟩) (by assumption) ?_
          rotate_left
          ·intro w hSw
           try dsimp only at hSw
           go_simp
           try with_reducible rfl
          try simp only [Act.put, sA9, sZ9, sS9]
          refine wpAnyH_take (i := 10) (oi := ⟨_, _, _, _, _, _⟩) (v := _) rfl (by kernel_rfl) (by kernel_rfl) (by kernel_rfl) (fun _ _ _ h => h) (yields_row (by rfl) _ _ rfl _ 6 rfl (fun w h => h.1) Tryz.underlying23 rfl #[.int .i64 x1, .int .i64 x2] (by kernel_rfl) (two_at rfl rfl)) (by assumption) ?_
          try simp only [Act.put, sA9, sZ9, sS9]
          refine wpAnyH_take (i := 11) (oi := ⟨_, _, _, _, _, _⟩) (v := _) rfl (by kernel_rfl) (by kernel_rfl) (by kernel_rfl) (fun _ _ _ h => h) (yields_row (by rfl) _ _ rfl _ 0 rfl (fun w h => h.2.2) Tryz.underlying23 rfl #[.int .i64 x1, .int .i64 x2] (by kernel_rfl) (two_at rfl rfl)) (by assumption) ?_
          try simp only [Act.put, sA9, sZ9, sS9]
          refine wpAnyH_take (i := 12) (oi := ⟨_, _, _, _, _, _⟩) (v := ?_) rfl (by kernel_rfl) (by kernel_rfl) (by kernel_rfl) (fun _ _ _ h => h) (Or.inl ⟨by rfl, ?_⟩) (by assumption) ?_
          rotate_left
          ·intro w hSw
           try dsimp only at hSw
           go_simp
           try with_reducible rfl
          try simp only [Act.put, sA9, sZ9, sS9]
          refine wpAnyH_take (i := 13) (oi := ⟨_, _, _, _, _, _⟩) (v := ?_) rfl (by kernel_rfl) (by kernel_rfl) (by kernel_rfl) (fun _ _ _ h => h) (Or.inl ⟨by rfl, ?_⟩) (by assumption) ?_
          rotate_left
          ·intro w hSw
           try dsimp only at hSw
           go_simp
           try with_reducible rfl
          try simp only [Act.put, sA9, sZ9, sS9]
          refine wpAnyH_take (i := 14) (oi := ⟨_, _, _, _, _, _⟩) (v := ?_) rfl (by kernel_rfl) (by kernel_rfl) (by kernel_rfl) (fun _ _ _ h => h) (Or.inl ⟨by rfl, ?_⟩) (by assumption) ?_
          rotate_left
          ·intro w hSw
           try dsimp only at hSw
           go_simp
           try with_reducible rfl
          try simp only [Act.put, sA9, sZ9, sS9]
          refine wpAnyH_take (i := 15) (oi := ⟨_, _, _, _, _, _⟩) (v := ?_) rfl (by kernel_rfl) (by kernel_rfl) (by kernel_rfl) (fun _ _ _ h => h) (Or.inl ⟨by rfl, ?_⟩) (by assumption) ?_
          rotate_left
          ·intro w hSw
           try dsimp only at hSw
           go_simp
           try with_reducible rfl
          try simp only [Act.put, sA9, sZ9, sS9]
          refine wpAnyH_take (i := 16) (oi := ⟨_, _, _, _, _, _⟩) (v := _) rfl (by kernel_rfl) (by kernel_rfl) (by kernel_rfl) (fun _ _ _ h => h) (yields_one (by rfl) _ _ rfl _ 8 rfl (fun w h => h.1) Tryz.underlying4 rfl rfl) (by assumption) ?_
          try simp only [Act.put, sA9, sZ9, sS9]
          refine wpAnyH_take (i := 17) (oi := ⟨_, _, _, _, _, _⟩) (v := ?_) rfl (by kernel_rfl) (by kernel_rfl) (by kernel_rfl) (fun _ _ _ h => h) (Or.inl ⟨by rfl, ?_⟩) (by assumption) ?_
          rotate_left
          ·intro w hSw
           try dsimp only at hSw
           go_simp
           try with_reducible rfl
          try simp only [Act.put, sA9, sZ9, sS9]
          refine wpAnyH_take (i := 18) (oi := ⟨_, _, _, _, _, _⟩) (v := ?_) rfl (by kernel_rfl) (by kernel_rfl) (by kernel_rfl) (fun _ _ _ h => h) (Or.inl ⟨by rfl, ?_⟩) (by assumption) ?_
          rotate_left
          ·intro w hSw
           try dsimp only at hSw
           go_simp
           try with_reducible rfl
          try simp only [Act.put, sA9, sZ9, sS9]
          refine wpAnyH_take (i := 19) (oi := ⟨_, _, _, _, _, _⟩) (v := ?_) rfl (by kernel_rfl) (by kernel_rfl) (by kernel_rfl) (fun _ _ _ h => h) (Or.inl ⟨by rfl, ?_⟩) (by assumption) ?_
          rotate_left
          ·intro w hSw
           try dsimp only at hSw
           go_simp
           try with_reducible rfl
          try simp only [Act.put, sA9, sZ9, sS9]
          refine wpAnyH_take (i := 20) (oi := ⟨_, _, _, _, _, _⟩) (v := _) rfl (by kernel_rfl) (by kernel_rfl) (by kernel_rfl) (fun _ _ _ h => h) (yields_one (by rfl) _ _ rfl _ 9 rfl (fun w h => h.1) Tryz.underlying25 rfl rfl) (by assumption) ?_
          try simp only [Act.put, sA9, sZ9, sS9]
          refine wpAnyH_take (i := 21) (oi := ⟨_, _, _, _, _, _⟩) (v := ?_) rfl (by kernel_rfl) (by kernel_rfl) (by kernel_rfl) (fun _ _ _ h => h) (Or.inl ⟨by rfl, ?_⟩) (by assumption) ?_
          rotate_left
          ·intro w hSw
           try dsimp only at hSw
           go_simp
           try with_reducible rfl
          try simp only [Act.put, sA9, sZ9, sS9]
          refine wpAnyH_ready (rs := [22]) (by kernel_rfl) (by simp) ?_
          refine AllReadyH.cons (o := ⟨_, _, _, _, _, _⟩) rfl (fun K hK => ?_) ?_
          rotate_left
          ·exact AllReadyH.nil
          go_simp
          go_at_call 50
          refine (dsame9 (.slice sa sF.length sc) (.slice da F.length dc) (SD.toD F) (SD.toD F) w13 HC_13.out.s ⟨da, dc, F, rfl, HD_13.out, rfl, HDN.out⟩ HFV.out).mono ?_
          rw [decide_eq_true (rfl : SD.toD F = SD.toD F)]
          rintro e w14 ⟨rfl, h5⟩
          have HB_14 : Hid (Below W.heap.size W w14) := hH (blThen HB_13.out h5)
          have Kx_14 := row_up Kx_13 Lx_13 h5
          have Lx_14 := lt_up Lx_13 h5
          have Kc_14 := row_up Kc_13 Lc_13 h5
          have Lc_14 := lt_up Lc_13 h5
          have Ke_14 := row_up Ke_13 Le_13 h5
          have Le_14 := lt_up Le_13 h5
          have HC_14 := hH (HC_13.out.later h5)
          refine hK.out _ _ (⟨Kc_14.out, Ke_14.out, Kx_14.out⟩) (fun hHeld => ?_)
          clear hK K h5
          try simp only [Act.put, sA9, sZ9, sS9]
          refine wpAnyH_take (i := 23) (oi := ⟨_, _, _, _, _, _⟩) (v := ?_) rfl (by kernel_rfl) (by kernel_rfl) (by kernel_rfl) (fun _ _ _ h => h) (Or.inl ⟨by rfl, ?_⟩) (by assumption) ?_
          rotate_left
          ·intro w hSw
           try dsimp only at hSw
           go_simp
           try with_reducible rfl
          try simp only [Act.put, sA9, sZ9, sS9]
          refine wpAnyH_take (i := 24) (oi := ⟨_, _, _, _, _, _⟩) (v := ?_) rfl (by kernel_rfl) (by kernel_rfl) (by kernel_rfl) (fun _ _ _ h => h) (Or.inl ⟨by rfl, ?_⟩) (by assumption) ?_
          rotate_left
          ·intro w hSw
           try dsimp only at hSw
           go_simp
           try with_reducible rfl
          try simp only [Act.put, sA9, sZ9, sS9]
          refine wpAnyH_take (i := 25) (oi := ⟨_, _, _, _, _, _⟩) (v := _) rfl (by kernel_rfl) (by kernel_rfl) (by kernel_rfl) (fun _ _ _ h => h) (yields_row (by rfl) _ _ rfl _ 0 rfl (fun w h => h.1) Tryz.underlying31 rfl (r22 i1 i2 (.slice oa a.length oc) 1 0 0 x1 x2 true (.slice sa sF.length sc) 0 0 false 0 0 false 0 0 (.slice ea eF.length ec) false (.slice wa ([] : List Wrt).length wc) (.slice pa ([] : Al Nat).length pc)) szCmd all_at) (by assumption) ?_
          try simp only [Act.put, sA9, sZ9, sS9]
          refine wpAnyH_ready (rs := [26]) (by kernel_rfl) (by simp) ?_
          refine AllReadyH.cons (o := ⟨_, _, _, _, _, _⟩) rfl (fun K hK => ?_) ?_
          rotate_left
          ·exact AllReadyH.nil
          go_simp
          go_at_call 18
          refine (check9_any (c1F (i1, i2) (x1, x2) a (SD.toD F)) ⟨.slice oa a.length oc, .slice sa sF.length sc, .slice ea eF.length ec, .slice wa ([] : List Wrt).length wc, .slice pa ([] : Al Nat).length pc⟩ w14 HC_14.out HFEW.out).mono ?_
          rw [HMAY.out]
          rintro e w15 ⟨rfl, h5⟩
          have HB_15 : Hid (Below W.heap.size W w15) := hH (blThen HB_14.out h5)
          have Kx_15 := row_up Kx_14 Lx_14 h5
          have Lx_15 := lt_up Lx_14 h5
          have Kc_15 := row_up Kc_14 Lc_14 h5
          have Lc_15 := lt_up Lc_14 h5
          have Ke_15 := row_up Ke_14 Le_14 h5
          have Le_15 := lt_up Le_14 h5
          have HC_15 := hH (HC_14.out.later h5)
          refine hK.out _ _ (⟨Kc_15.out, Ke_15.out, Kx_15.out⟩) (fun hHeld => ?_)
          clear hK K h5
          try simp only [Act.put, sA9, sZ9, sS9]
          refine wpAnyH_ready (rs := [27]) (by kernel_rfl) (by simp) ?_
          refine AllReadyH.cons (o := ⟨_, _, _, _, _, _⟩) rfl (fun K hK => ?_) ?_
          rotate_left
          ·exact AllReadyH.nil
          go_simp
          go_at_call 17
          refine (num9_any _ _).mono ?_
          rintro e wq ⟨rfl, rfl⟩
          refine hK.out _ _ (⟨Kc_15.out, Ke_15.out, Kx_15.out⟩) (fun hHeld => ?_)
          clear hK K
          try simp only [Act.put, sA9, sZ9, sS9]
          refine wpAnyH_take (i := 28) (oi := ⟨_, _, _, _, _, _⟩) (v := ?_) rfl (by kernel_rfl) (by kernel_rfl) (by kernel_rfl) (fun _ _ _ h => h) (Or.inl ⟨by rfl, ?_⟩) (by assumption) ?_
          rotate_left
          ·intro w hSw
           try dsimp only at hSw
           go_simp
           try with_reducible rfl
          try simp only [Act.put, sA9, sZ9, sS9]
          refine wpAnyH_take (i := 29) (oi := ⟨_, _, _, _, _, _⟩) (v := ?_) rfl (by kernel_rfl) (by kernel_rfl) (by kernel_rfl) (fun _ _ _ h => h) (Or.inl ⟨by rfl, ?_⟩) (by assumption) ?_
          rotate_left
          ·intro w hSw
           try dsimp only at hSw
           go_simp
           try with_reducible rfl
          try simp only [Act.put, sA9, sZ9, sS9]
          refine wpAnyH_take (i := 30) (oi := ⟨_, _, _, _, _, _⟩) (v := ?_) rfl (by kernel_rfl) (by kernel_rfl) (by kernel_rfl) (fun _ _ _ h => h) (Or.inl ⟨by rfl, ?_⟩) (by assumption) ?_
          rotate_left
          ·intro w hSw
           try dsimp only at hSw
           go_simp
           try with_reducible rfl
          try simp only [Act.put, sA9, sZ9, sS9]
          refine wpAnyH_take (i := 31) (oi := ⟨_, _, _, _, _, _⟩) (v := _) rfl (by kernel_rfl) (by kernel_rfl) (by kernel_rfl) (fun _ _ _ h => h) (yields_row (by rfl) _ _ rfl _ 0 rfl (fun w h => h.1) Tryz.underlying31 rfl (r22 i1 i2 (.slice oa a.length oc) 1 0 0 x1 x2 true (.slice sa sF.length sc) 0 0 false 0 0 false 0 0 (.slice ea eF.length ec) false (.slice wa ([] : List Wrt).length wc) (.slice pa ([] : Al Nat).length pc)) szCmd all_at) (by assumption) ?_
          try simp only [Act.put, sA9, sZ9, sS9]
          refine wpAnyH_take (i := 33) (oi := ⟨_, _, _, _, _, _⟩) (v := _) rfl (by kernel_rfl) (by kernel_rfl) (by kernel_rfl) (fun _ _ _ h => h) (yields_row (by rfl) _ _ rfl _ 0 rfl (fun w h => h.2.2) Tryz.underlying23 rfl #[.int .i64 x1, .int .i64 x2] (by kernel_rfl) (two_at rfl rfl)) (by assumption) ?_
          try simp only [Act.put, sA9, sZ9, sS9]
          refine wpAnyH_ready (rs := [32]) (by kernel_rfl) (by simp) ?_
          refine AllReadyH.cons (o := ⟨_, _, _, _, _, _⟩) rfl (fun K hK => ?_) ?_
          rotate_left
          ·exact AllReadyH.nil
          go_simp
          go_at_call 24
          refine (top_any (c1F (i1, i2) (x1, x2) a (SD.toD F)) ⟨.slice oa a.length oc, .slice sa sF.length sc, .slice ea eF.length ec, .slice wa ([] : List Wrt).length wc, .slice pa ([] : Al Nat).length pc⟩ w15 HC_15.out).mono ?_
          rw [HTOP.out]
          rintro e w16 ⟨rfl, h5⟩
          have HB_16 : Hid (Below W.heap.size W w16) := hH (blThen HB_15.out h5)
          have Kx_16 := row_up Kx_15 Lx_15 h5
          have Lx_16 := lt_up Lx_15 h5
          have Kc_16 := row_up Kc_15 Lc_15 h5
          have Lc_16 := lt_up Lc_15 h5
          have Ke_16 := row_up Ke_15 Le_15 h5
          have Le_16 := lt_up Le_15 h5
          refine hK.out _ _ (⟨Kc_16.out, Ke_16.out, Kx_16.out⟩) (fun hHeld => ?_)
          clear hK K h5
          try simp only [Act.put, sA9, sZ9, sS9]
          refine wpAnyH_take (i := 34) (oi := ⟨_, _, _, _, _, _⟩) (v := ?_) rfl (by kernel_rfl) (by kernel_rfl) (by kernel_rfl) (fun _ _ _ h => h) (Or.inl ⟨by rfl, ?_⟩) (by assumption) ?_
          rotate_left
          ·intro w hSw
           try dsimp only at hSw
           go_simp
           try with_reducible rfl
          try simp only [Act.put, sA9, sZ9, sS9]
          refine wpAnyH_take (i := 35) (oi := ⟨_, _, _, _, _, _⟩) (v := ?_) rfl (by kernel_rfl) (by kernel_rfl) (by kernel_rfl) (fun _ _ _ h => h) (Or.inl ⟨by rfl, ?_⟩) (by assumption) ?_
          rotate_left
          ·intro w hSw
           try dsimp only at hSw
           go_simp
           try with_reducible rfl
          try simp only [Act.put, sA9, sZ9, sS9]
          refine wpAnyH_take (i := 36) (oi := ⟨_, _, _, _, _, _⟩) (v := ?_) rfl (by kernel_rfl) (by kernel_rfl) (by kernel_rfl) (fun _ _ _ h => h) (Or.inl ⟨by rfl, ?_⟩) (by assumption) ?_
          rotate_left
          ·intro w hSw
           try dsimp only at hSw
           go_simp
           try with_reducible rfl
          try simp only [Act.put, sA9, sZ9, sS9]
          refine wpAnyH_ready (rs := [37]) (by kernel_rfl) (by simp) ?_
          refine AllReadyH.cons (o := ⟨_, _, _, _, _, _⟩) rfl (fun K hK => ?_) ?_
          rotate_left
          ·exact AllReadyH.nil
          go_simp
          go_at_call 14
          refine (live9_any w16).mono ?_
          rintro e w17 ⟨rfl, h5⟩
          have HB_17 : Hid (Below W.heap.size W w17) := hH (blThen HB_16.out h5)
          have Kx_17 := row_up Kx_16 Lx_16 h5
          have Kc_17 := row_up Kc_16 Lc_16 h5
          have Ke_17 := row_up Ke_16 Le_16 h5
          refine hK.out _ _ (⟨Kc_17.out, Ke_17.out, Kx_17.out⟩) (fun hHeld => ?_)
          clear hK K h5
          try simp only [Act.put, sA9, sZ9, sS9]
          refine wpAnyH_take (i := 38) (oi := ⟨_, _, _, _, _, _⟩) (v := ?_) rfl (by kernel_rfl) (by kernel_rfl) (by kernel_rfl) (fun _ _ _ h => h) (Or.inl ⟨by rfl, ?_⟩) (by assumption) ?_
          rotate_left
          ·intro w hSw
           try dsimp only at hSw
           go_simp
           try with_reducible rfl
          try simp only [Act.put, sA9, sZ9, sS9]
          refine wpAnyH_take (i := 39) (oi := ⟨_, _, _, _, _, _⟩) (v := ?_) rfl (by kernel_rfl) (by kernel_rfl) (by kernel_rfl) (fun _ _ _ h => h) (Or.inl ⟨by rfl, ?_⟩) (by assumption) ?_
          rotate_left
          ·intro w hSw
           try dsimp only at hSw
           go_simp
           try with_reducible rfl
          try simp only [Act.put, sA9, sZ9, sS9]
          refine wpAnyH_done (by kernel_rfl) ?_ _
          go_wp2
          go_ret
          exact ⟨rfl, HB_17.out⟩
     ·go_wp2_with (first | go_skip | ((with_reducible refine atC w5 ?_); go_at_call 14; go_must (refine (live9_any w5).mono ?_; rintro e w6 ⟨rfl, h5⟩; have HB_6 : Hid (Below W.heap.size W w6) := hH (blThen HB_5.out h5); have Ki_6 := row_up Ki_5 Li_5 h5; have Li_6 := lt_up Li_5 h5; have Kx_6 := row_up Kx_5 Lx_5 h5; have Lx_6 := lt_up Lx_5 h5; have Ky_6 := row_up Ky_5 Ly_5 h5; have Ly_6 := lt_up Ly_5 h5; have HAa_6 := hH (HAa_5.out.later h5); have HD_6 := hH (HD_5.out.later h5); clear h5)) | ((with_reducible refine atC w4 ?_); go_at_call 32; go_must (refine (S1.less_any x1 x2 i1 i2 w4).mono ?_; rw [hc]; rintro e w5 ⟨rfl, h5⟩; have h5 := below_grow (Below.refl _ _) h5; have HB_5 : Hid (Below W.heap.size W w5) := hH (blThen HB_4.out h5); have Ki_5 := row_up Ki_4 Li_4 h5; have Li_5 := lt_up Li_4 h5; have Kx_5 := row_up Kx_4 Lx_4 h5; have Lx_5 := lt_up Lx_4 h5; have Ky_5 := row_up Ky_4 Ly_4 h5; have Ly_5 := lt_up Ly_4 h5; have HAa_5 := hH (HAa_4.out.later h5); have HD_5 := hH (HD_4.out.later h5); clear h5)))
      go_ret
      exact ⟨rfl, HB_6.out⟩

theorem cmdFirst_lifted (os : Os) (started : os.Started) (H : Type) (enc : TypeId × Value → H) :
  ReturnsInHanded {} Tryz.checked os 8 .any (Rows.cmdFirstSpec.pre6 enc Tryz.prog Tryz.f8 Rows.cmdFirstRow.domain false) (Rows.cmdFirstSpec.post enc Tryz.prog Tryz.f8 false true false false) := by
 refine law_lift_sized (C := Tryz.checked) own0 started (by kernel_rfl) Tryz.func8 laid0 rfl (by kernel_rfl) (fun _ _ _ _ => trodAll_mk1 (shut_bool Tryz.underlying4 true)) (fun ds h => match ds, h with | [_, _, _, _, _, _], _ => ⟨rfl, rfl, rfl⟩)
  (ChangeSpec.witness6 (enc := enc) (C := Tryz.checked) false ⟨#[], #[.agg #[.int .i64 0, .int .i64 0], .slice none 0 0, .slice none 0 0, .agg #[.int .i64 0, .int .i64 0], .agg #[.int .i64 0, .int .i64 0], .slice none 0 0], []⟩ 8 (by kernel_rfl) (by kernel_rfl) (by kernel_rfl) (by kernel_rfl)) ?_
 intro W base args ds before hval0 hA0 hlt hsz
 have hval : ∀ (j : Nat) t v, Tryz.f8.params[j]? = some t → args[j]? = some v → Value.okWide Tryz.prog W .any base t v := hval0
 have hA : DataW.TrodAll enc Tryz.prog W 0 (fun _ => true) true Tryz.f8.params.toList args.toList ds before := hA0
 rw [Tryz.params8] at hA hval
 obtain ⟨v0, v1, v2, v3, v4, v5, d0, d1, d2, d3, d4, d5, p0, p1, p2, p3, p4, p5, rfl, rfl, rfl, h0, h1, h2, h3, h4, h5⟩ := trodAll_six9 hA
 obtain ⟨i1, i2, rfl, _, _⟩ := S1.open_stamp (hval 0 23 v0 rfl rfl) h0
 obtain ⟨a, ha, hma, ra⟩ := open_ops (hval 1 24 v1 rfl rfl) h1
 obtain ⟨b, hb, hmb, rb⟩ := open_ops (hval 2 24 v2 rfl rfl) h2
 obtain ⟨x1, x2, rfl, _, _⟩ := S1.open_stamp (hval 3 23 v3 rfl rfl) h3
 obtain ⟨y1, y2, rfl, _, _⟩ := S1.open_stamp (hval 4 23 v4 rfl rfl) h4
 obtain ⟨da, F, dc, rfl, hl, hm, hdn, _, hwf, hr⟩ := SD.open_deps (hval 5 25 v5 rfl rfl) h5
 exact cmdFirst_walk (i1, i2) (x1, x2) (y1, y2) v1 v2 a b da dc F W hma (fun o ho => (ra o ho).2.1) ha hmb (fun o ho => (rb o ho).2.1) hb hm (hr _ _ 5 hsz (by kernel_rfl) rfl) hl hdn (wf_deps hwf)
theorem cmdFirst_f_inPlace : (Rows.cmdFirstRow.inPlace == Tryz.prog.inPlace 8) = true := by kernel_rfl
theorem cmdFirst_f_unfollowed : (Rows.cmdFirstRow.unfollowed == Tryz.prog.unfollowed 8) = true := by kernel_rfl
theorem cmdFirst_f_recurses : (Rows.cmdFirstRow.recurses == Tryz.prog.recurses 8) = true := by kernel_rfl
theorem cmdFirst_f_named : (Rows.cmdFirstRow.named == Tryz.prog.varsNamed 8) = true := by kernel_rfl
theorem cmdFirst_laid : laidOutB Tryz.prog = true := by kernel_rfl
theorem cmdFirst_rowed : mapsRowed Tryz.prog = true := by kernel_rfl
theorem cmdFirst_closed : joinedFacts Tryz.prog 8 Tryz.f8 Rows.cmdFirstSpec Rows.cmdFirstRow = true := by
 unfold joinedFacts
 rw [cmdFirst_laid, cmdFirst_rowed, cmdFirst_f_inPlace, cmdFirst_f_unfollowed, cmdFirst_f_recurses, cmdFirst_f_named]
 kernel_rfl
theorem cmdFirst_holds : Rows.CmdFirstSaid :=
 OpenClaim.holds_of_wide 8 Tryz.f8 rfl rfl rfl rfl rfl rfl rfl ⟨rfl, rfl, rfl, rfl, rfl⟩ rfl rfl rfl rfl rfl (by kernel_rfl) Tryz.func8 cmdFirst_closed
  (of_decide_eq_true (by kernel_rfl)) (by unfold Func.isWrapper; rw [if_neg (of_decide_eq_false (by kernel_rfl))]; exact ⟨rfl, rfl⟩)
  (fun os started H enc _ => cmdFirst_lifted os started H enc)
#print axioms cmdFirst_holds
end SC
end Go.Proofs.YtmpbpeelankihaaGreat
