/- CmdBallots. Conditions: none. -/
import Derived.Deep.DeepCutAuto
import Derived.WalkSpells
import Derived.SizedLaws
import Derived.Test.YtmpbpeelankihaaGreatMg52
import Derived.Test.YtmpbpeelankihaaGreatMg49
import Derived.Test.YtmpbpeelankihaaGreatMg50
import Derived.Test.YtmpbpeelankihaaGreatMg10
set_option maxRecDepth 100000
set_option maxHeartbeats 16000000
set_option linter.unusedVariables false
set_option linter.unusedSimpArgs false
namespace Go.Proofs.YtmpbpeelankihaaGreat
open S3 SN SP
namespace SC
open Go.ChangeShapes Go.WideShapes Go.ChangeAt Go.RowKit Go.Joins Go.Deep
theorem cmdBallots_walk (id a b o : Stp) (g : Bool) (t : Stp) (da : Option Addr) (dc : Nat) (F : List SD.Dp) (W : World) (hmd : F.length ≤ 9223372036854775807) (hid : ∀ s ∈ F, s.ids.length ≤ 140737488355328) (hd : SD.Dl W da F) (hdn : da = none → dc = 0) :
  Calls Tryz.prog 6 #[.agg #[.int .i64 id.1, .int .i64 id.2], .agg #[.int .i64 a.1, .int .i64 a.2], .agg #[.int .i64 b.1, .int .i64 b.2], .agg #[.bool g, .int .i64 t.1, .int .i64 t.2, .slice da F.length dc], .agg #[.int .i64 o.1, .int .i64 o.2]] W fun e w' => e = .returned (.bool true) ∧ Below W.heap.size W w' := by
 obtain ⟨i1, i2⟩ := id
 obtain ⟨a1, a2⟩ := a
 obtain ⟨b1, b2⟩ := b
 obtain ⟨o1, o2⟩ := o
 obtain ⟨t1, t2⟩ := t
 have HMd := hH hmd
 have HID := hH hid
 have HDN := hH hdn
 have HD_0 := hH (hd.later (show Below W.heap.size W (((((W.alloc (.cells #[.int .i64 i1, .int .i64 i2] 23)).alloc (.cells #[.int .i64 a1, .int .i64 a2] 23)).alloc (.cells #[.int .i64 b1, .int .i64 b2] 23)).alloc (.cells #[.bool g, .int .i64 t1, .int .i64 t2, .slice da F.length dc] 27)).alloc (.cells #[.int .i64 o1, .int .i64 o2] 23)) from (blAlloc (blAlloc (blAlloc (blAlloc (blAlloc (Below.refl _ _) _) _) _) _) _)))
 clear hmd hid hdn hd
 simp only
 have HN := hH (fun i o (h : ([(.cells #[.int .i64 i1, .int .i64 i2] 23), (.cells #[.int .i64 a1, .int .i64 a2] 23), (.cells #[.int .i64 b1, .int .i64 b2] 23), (.cells #[.bool g, .int .i64 t1, .int .i64 t2, .slice da F.length dc] 27), (.cells #[.int .i64 o1, .int .i64 o2] 23)] : List Obj)[i]? = some o) => nth_box W [(.cells #[.int .i64 i1, .int .i64 i2] 23), (.cells #[.int .i64 a1, .int .i64 a2] 23), (.cells #[.int .i64 b1, .int .i64 b2] 23), (.cells #[.bool g, .int .i64 t1, .int .i64 t2, .slice da F.length dc] 27), (.cells #[.int .i64 o1, .int .i64 o2] 23)] i o h)
 have HSZ : Hid (W.heap.size + 5 = (((((W.alloc (.cells #[.int .i64 i1, .int .i64 i2] 23)).alloc (.cells #[.int .i64 a1, .int .i64 a2] 23)).alloc (.cells #[.int .i64 b1, .int .i64 b2] 23)).alloc (.cells #[.bool g, .int .i64 t1, .int .i64 t2, .slice da F.length dc] 27)).alloc (.cells #[.int .i64 o1, .int .i64 o2] 23)).heap.size) := hH (HN.out 0 _ rfl).2
 have Ki_0 : Hid ((((((W.alloc (.cells #[.int .i64 i1, .int .i64 i2] 23)).alloc (.cells #[.int .i64 a1, .int .i64 a2] 23)).alloc (.cells #[.int .i64 b1, .int .i64 b2] 23)).alloc (.cells #[.bool g, .int .i64 t1, .int .i64 t2, .slice da F.length dc] 27)).alloc (.cells #[.int .i64 o1, .int .i64 o2] 23)).heap[W.heap.size]? = some (.cells #[.int .i64 i1, .int .i64 i2] 23 (0, 0))) := hH (HN.out 0 _ rfl).1
 have Li_0 : Hid (W.heap.size < (((((W.alloc (.cells #[.int .i64 i1, .int .i64 i2] 23)).alloc (.cells #[.int .i64 a1, .int .i64 a2] 23)).alloc (.cells #[.int .i64 b1, .int .i64 b2] 23)).alloc (.cells #[.bool g, .int .i64 t1, .int .i64 t2, .slice da F.length dc] 27)).alloc (.cells #[.int .i64 o1, .int .i64 o2] 23)).heap.size) := hH (by have := HSZ.out; omega)
 have Ka_0 : Hid ((((((W.alloc (.cells #[.int .i64 i1, .int .i64 i2] 23)).alloc (.cells #[.int .i64 a1, .int .i64 a2] 23)).alloc (.cells #[.int .i64 b1, .int .i64 b2] 23)).alloc (.cells #[.bool g, .int .i64 t1, .int .i64 t2, .slice da F.length dc] 27)).alloc (.cells #[.int .i64 o1, .int .i64 o2] 23)).heap[(W.heap.size + 1)]? = some (.cells #[.int .i64 a1, .int .i64 a2] 23 (0, 0))) := hH (HN.out 1 _ rfl).1
 have La_0 : Hid ((W.heap.size + 1) < (((((W.alloc (.cells #[.int .i64 i1, .int .i64 i2] 23)).alloc (.cells #[.int .i64 a1, .int .i64 a2] 23)).alloc (.cells #[.int .i64 b1, .int .i64 b2] 23)).alloc (.cells #[.bool g, .int .i64 t1, .int .i64 t2, .slice da F.length dc] 27)).alloc (.cells #[.int .i64 o1, .int .i64 o2] 23)).heap.size) := hH (by have := HSZ.out; omega)
 have Kb_0 : Hid ((((((W.alloc (.cells #[.int .i64 i1, .int .i64 i2] 23)).alloc (.cells #[.int .i64 a1, .int .i64 a2] 23)).alloc (.cells #[.int .i64 b1, .int .i64 b2] 23)).alloc (.cells #[.bool g, .int .i64 t1, .int .i64 t2, .slice da F.length dc] 27)).alloc (.cells #[.int .i64 o1, .int .i64 o2] 23)).heap[(W.heap.size + 2)]? = some (.cells #[.int .i64 b1, .int .i64 b2] 23 (0, 0))) := hH (HN.out 2 _ rfl).1
 have Lb_0 : Hid ((W.heap.size + 2) < (((((W.alloc (.cells #[.int .i64 i1, .int .i64 i2] 23)).alloc (.cells #[.int .i64 a1, .int .i64 a2] 23)).alloc (.cells #[.int .i64 b1, .int .i64 b2] 23)).alloc (.cells #[.bool g, .int .i64 t1, .int .i64 t2, .slice da F.length dc] 27)).alloc (.cells #[.int .i64 o1, .int .i64 o2] 23)).heap.size) := hH (by have := HSZ.out; omega)
 have Kv_0 : Hid ((((((W.alloc (.cells #[.int .i64 i1, .int .i64 i2] 23)).alloc (.cells #[.int .i64 a1, .int .i64 a2] 23)).alloc (.cells #[.int .i64 b1, .int .i64 b2] 23)).alloc (.cells #[.bool g, .int .i64 t1, .int .i64 t2, .slice da F.length dc] 27)).alloc (.cells #[.int .i64 o1, .int .i64 o2] 23)).heap[(W.heap.size + 3)]? = some (.cells #[.bool g, .int .i64 t1, .int .i64 t2, .slice da F.length dc] 27 (0, 0))) := hH (HN.out 3 _ rfl).1
 have Lv_0 : Hid ((W.heap.size + 3) < (((((W.alloc (.cells #[.int .i64 i1, .int .i64 i2] 23)).alloc (.cells #[.int .i64 a1, .int .i64 a2] 23)).alloc (.cells #[.int .i64 b1, .int .i64 b2] 23)).alloc (.cells #[.bool g, .int .i64 t1, .int .i64 t2, .slice da F.length dc] 27)).alloc (.cells #[.int .i64 o1, .int .i64 o2] 23)).heap.size) := hH (by have := HSZ.out; omega)
 have Ko_0 : Hid ((((((W.alloc (.cells #[.int .i64 i1, .int .i64 i2] 23)).alloc (.cells #[.int .i64 a1, .int .i64 a2] 23)).alloc (.cells #[.int .i64 b1, .int .i64 b2] 23)).alloc (.cells #[.bool g, .int .i64 t1, .int .i64 t2, .slice da F.length dc] 27)).alloc (.cells #[.int .i64 o1, .int .i64 o2] 23)).heap[(W.heap.size + 4)]? = some (.cells #[.int .i64 o1, .int .i64 o2] 23 (0, 0))) := hH (HN.out 4 _ rfl).1
 have Lo_0 : Hid ((W.heap.size + 4) < (((((W.alloc (.cells #[.int .i64 i1, .int .i64 i2] 23)).alloc (.cells #[.int .i64 a1, .int .i64 a2] 23)).alloc (.cells #[.int .i64 b1, .int .i64 b2] 23)).alloc (.cells #[.bool g, .int .i64 t1, .int .i64 t2, .slice da F.length dc] 27)).alloc (.cells #[.int .i64 o1, .int .i64 o2] 23)).heap.size) := hH (by have := HSZ.out; omega)
 have HB_0 : Hid (Below W.heap.size W (((((W.alloc (.cells #[.int .i64 i1, .int .i64 i2] 23)).alloc (.cells #[.int .i64 a1, .int .i64 a2] 23)).alloc (.cells #[.int .i64 b1, .int .i64 b2] 23)).alloc (.cells #[.bool g, .int .i64 t1, .int .i64 t2, .slice da F.length dc] 27)).alloc (.cells #[.int .i64 o1, .int .i64 o2] 23))) := hH (blAlloc (blAlloc (blAlloc (blAlloc (blAlloc (Below.refl _ _) _) _) _) _) _)
 clear HN
 go_enter Tryz.func6, Tryz.ntmps6
 go_upto_region 1 with fail
 generalize (((((W.alloc (.cells #[.int .i64 i1, .int .i64 i2] 23)).alloc (.cells #[.int .i64 a1, .int .i64 a2] 23)).alloc (.cells #[.int .i64 b1, .int .i64 b2] 23)).alloc (.cells #[.bool g, .int .i64 t1, .int .i64 t2, .slice da F.length dc] 27)).alloc (.cells #[.int .i64 o1, .int .i64 o2] 23)) = w0 at *
 have hsz0 : W.heap.size + 5 ≤ w0.heap.size := Nat.le_of_eq HSZ.out
 clear HSZ
 go_wp2_with (first | go_skip | ((with_reducible refine atW w0 ?_); refine wpList_load_part _ _ rfl (by rfl) _ 0 rfl Ki_0.out Tryz.underlying23 rfl #[.int .i64 i1, .int .i64 i2] (by kernel_rfl) (two_at rfl rfl) ?_))
 cases hc : S1.isS (i1, i2)
 ·go_wp2_with (first | go_skip | ((with_reducible refine atC w1 ?_); go_at_call 14; go_must (refine (live9_any w1).mono ?_; rintro e w2 ⟨rfl, h5⟩; have HB_2 : Hid (Below W.heap.size W w2) := hH (blThen HB_1.out h5); have Ki_2 := row_up Ki_1 Li_1 h5; have Li_2 := lt_up Li_1 h5; have Ka_2 := row_up Ka_1 La_1 h5; have La_2 := lt_up La_1 h5; have Kb_2 := row_up Kb_1 Lb_1 h5; have Lb_2 := lt_up Lb_1 h5; have Kv_2 := row_up Kv_1 Lv_1 h5; have Lv_2 := lt_up Lv_1 h5; have Ko_2 := row_up Ko_1 Lo_1 h5; have Lo_2 := lt_up Lo_1 h5; have HD_2 := hH (HD_1.out.later h5); clear h5)) | ((with_reducible refine atC w0 ?_); go_at_call 28; go_must (refine (S1.is_any i1 i2 w0).mono ?_; rw [hc]; rintro e w1 ⟨rfl, h5⟩; have h5 := below_grow (Below.refl _ _) h5; have HB_1 : Hid (Below W.heap.size W w1) := hH (blThen HB_0.out h5); have Ki_1 := row_up Ki_0 Li_0 h5; have Li_1 := lt_up Li_0 h5; have Ka_1 := row_up Ka_0 La_0 h5; have La_1 := lt_up La_0 h5; have Kb_1 := row_up Kb_0 Lb_0 h5; have Lb_1 := lt_up Lb_0 h5; have Kv_1 := row_up Kv_0 Lv_0 h5; have Lv_1 := lt_up Lv_0 h5; have Ko_1 := row_up Ko_0 Lo_0 h5; have Lo_1 := lt_up Lo_0 h5; have HD_1 := hH (HD_0.out.later h5); clear h5)))
  go_ret
  exact ⟨rfl, HB_2.out⟩
 ·have HIS := hH hc
  clear hc
  go_wp2_with (first | go_skip | ((with_reducible refine atW w1 ?_); refine wpList_load_part _ _ rfl (by rfl) _ 0 rfl Ka_1.out Tryz.underlying23 rfl #[.int .i64 a1, .int .i64 a2] (by kernel_rfl) (two_at rfl rfl) ?_) | ((with_reducible refine atC w0 ?_); go_at_call 28; go_must (refine (S1.is_any i1 i2 w0).mono ?_; rw [HIS.out]; rintro e w1 ⟨rfl, h5⟩; have h5 := below_grow (Below.refl _ _) h5; have HB_1 : Hid (Below W.heap.size W w1) := hH (blThen HB_0.out h5); have Ki_1 := row_up Ki_0 Li_0 h5; have Li_1 := lt_up Li_0 h5; have Ka_1 := row_up Ka_0 La_0 h5; have La_1 := lt_up La_0 h5; have Kb_1 := row_up Kb_0 Lb_0 h5; have Lb_1 := lt_up Lb_0 h5; have Kv_1 := row_up Kv_0 Lv_0 h5; have Lv_1 := lt_up Lv_0 h5; have Ko_1 := row_up Ko_0 Lo_0 h5; have Lo_1 := lt_up Lo_0 h5; have HD_1 := hH (HD_0.out.later h5); clear h5)))
  cases hc : ballotB (a1, a2)
  ·go_wp2_with (first | go_skip | ((with_reducible refine atC w2 ?_); go_at_call 14; go_must (refine (live9_any w2).mono ?_; rintro e w3 ⟨rfl, h5⟩; have HB_3 : Hid (Below W.heap.size W w3) := hH (blThen HB_2.out h5); have Ki_3 := row_up Ki_2 Li_2 h5; have Li_3 := lt_up Li_2 h5; have Ka_3 := row_up Ka_2 La_2 h5; have La_3 := lt_up La_2 h5; have Kb_3 := row_up Kb_2 Lb_2 h5; have Lb_3 := lt_up Lb_2 h5; have Kv_3 := row_up Kv_2 Lv_2 h5; have Lv_3 := lt_up Lv_2 h5; have Ko_3 := row_up Ko_2 Lo_2 h5; have Lo_3 := lt_up Lo_2 h5; have HD_3 := hH (HD_2.out.later h5); clear h5)) | ((with_reducible refine atC w1 ?_); go_at_call 35; go_must (refine (rballot_any (a1, a2) w1).mono ?_; rw [hc]; rintro e w2 ⟨rfl, h5⟩; have HB_2 : Hid (Below W.heap.size W w2) := hH (blThen HB_1.out h5); have Ki_2 := row_up Ki_1 Li_1 h5; have Li_2 := lt_up Li_1 h5; have Ka_2 := row_up Ka_1 La_1 h5; have La_2 := lt_up La_1 h5; have Kb_2 := row_up Kb_1 Lb_1 h5; have Lb_2 := lt_up Lb_1 h5; have Kv_2 := row_up Kv_1 Lv_1 h5; have Lv_2 := lt_up Lv_1 h5; have Ko_2 := row_up Ko_1 Lo_1 h5; have Lo_2 := lt_up Lo_1 h5; have HD_2 := hH (HD_1.out.later h5); clear h5)))
   go_ret
   exact ⟨rfl, HB_3.out⟩
  ·have HBA := hH hc
   clear hc
   go_wp2_with (first | go_skip | ((with_reducible refine atW w2 ?_); refine wpList_load_part _ _ rfl (by rfl) _ 0 rfl Kb_2.out Tryz.underlying23 rfl #[.int .i64 b1, .int .i64 b2] (by kernel_rfl) (two_at rfl rfl) ?_) | ((with_reducible refine atC w1 ?_); go_at_call 35; go_must (refine (rballot_any (a1, a2) w1).mono ?_; rw [HBA.out]; rintro e w2 ⟨rfl, h5⟩; have HB_2 : Hid (Below W.heap.size W w2) := hH (blThen HB_1.out h5); have Ki_2 := row_up Ki_1 Li_1 h5; have Li_2 := lt_up Li_1 h5; have Ka_2 := row_up Ka_1 La_1 h5; have La_2 := lt_up La_1 h5; have Kb_2 := row_up Kb_1 Lb_1 h5; have Lb_2 := lt_up Lb_1 h5; have Kv_2 := row_up Kv_1 Lv_1 h5; have Lv_2 := lt_up Lv_1 h5; have Ko_2 := row_up Ko_1 Lo_1 h5; have Lo_2 := lt_up Lo_1 h5; have HD_2 := hH (HD_1.out.later h5); clear h5)))
   cases hc : ballotB (b1, b2)
   ·go_wp2_with (first | go_skip | ((with_reducible refine atC w3 ?_); go_at_call 14; go_must (refine (live9_any w3).mono ?_; rintro e w4 ⟨rfl, h5⟩; have HB_4 : Hid (Below W.heap.size W w4) := hH (blThen HB_3.out h5); have Ki_4 := row_up Ki_3 Li_3 h5; have Li_4 := lt_up Li_3 h5; have Ka_4 := row_up Ka_3 La_3 h5; have La_4 := lt_up La_3 h5; have Kb_4 := row_up Kb_3 Lb_3 h5; have Lb_4 := lt_up Lb_3 h5; have Kv_4 := row_up Kv_3 Lv_3 h5; have Lv_4 := lt_up Lv_3 h5; have Ko_4 := row_up Ko_3 Lo_3 h5; have Lo_4 := lt_up Lo_3 h5; have HD_4 := hH (HD_3.out.later h5); clear h5)) | ((with_reducible refine atC w2 ?_); go_at_call 35; go_must (refine (rballot_any (b1, b2) w2).mono ?_; rw [hc]; rintro e w3 ⟨rfl, h5⟩; have HB_3 : Hid (Below W.heap.size W w3) := hH (blThen HB_2.out h5); have Ki_3 := row_up Ki_2 Li_2 h5; have Li_3 := lt_up Li_2 h5; have Ka_3 := row_up Ka_2 La_2 h5; have La_3 := lt_up La_2 h5; have Kb_3 := row_up Kb_2 Lb_2 h5; have Lb_3 := lt_up Lb_2 h5; have Kv_3 := row_up Kv_2 Lv_2 h5; have Lv_3 := lt_up Lv_2 h5; have Ko_3 := row_up Ko_2 Lo_2 h5; have Lo_3 := lt_up Lo_2 h5; have HD_3 := hH (HD_2.out.later h5); clear h5)))
    go_ret
    exact ⟨rfl, HB_4.out⟩
   ·have HBB := hH hc
    clear hc
    go_wp2_with (first | go_skip | ((with_reducible refine atW w3 ?_); refine wpList_load_part _ _ rfl (by rfl) _ 0 rfl Kv_3.out Tryz.underlying27 rfl #[.bool g, .int .i64 t1, .int .i64 t2, .slice da F.length dc] (by kernel_rfl) (four_at rfl rfl rfl rfl) ?_) | ((with_reducible refine atC w2 ?_); go_at_call 35; go_must (refine (rballot_any (b1, b2) w2).mono ?_; rw [HBB.out]; rintro e w3 ⟨rfl, h5⟩; have HB_3 : Hid (Below W.heap.size W w3) := hH (blThen HB_2.out h5); have Ki_3 := row_up Ki_2 Li_2 h5; have Li_3 := lt_up Li_2 h5; have Ka_3 := row_up Ka_2 La_2 h5; have La_3 := lt_up La_2 h5; have Kb_3 := row_up Kb_2 Lb_2 h5; have Lb_3 := lt_up Lb_2 h5; have Kv_3 := row_up Kv_2 Lv_2 h5; have Lv_3 := lt_up Lv_2 h5; have Ko_3 := row_up Ko_2 Lo_2 h5; have Lo_3 := lt_up Lo_2 h5; have HD_3 := hH (HD_2.out.later h5); clear h5)))
    cases hc : valueB (g, (t1, t2), SD.toD F)
    ·go_wp2_with (first | go_skip | ((with_reducible refine atC w4 ?_); go_at_call 14; go_must (refine (live9_any w4).mono ?_; rintro e w5 ⟨rfl, h5⟩; have HB_5 : Hid (Below W.heap.size W w5) := hH (blThen HB_4.out h5); have Ki_5 := row_up Ki_4 Li_4 h5; have Li_5 := lt_up Li_4 h5; have Ka_5 := row_up Ka_4 La_4 h5; have La_5 := lt_up La_4 h5; have Kb_5 := row_up Kb_4 Lb_4 h5; have Lb_5 := lt_up Lb_4 h5; have Kv_5 := row_up Kv_4 Lv_4 h5; have Lv_5 := lt_up Lv_4 h5; have Ko_5 := row_up Ko_4 Lo_4 h5; have Lo_5 := lt_up Lo_4 h5; have HD_5 := hH (HD_4.out.later h5); clear h5)) | ((with_reducible refine atC w3 ?_); go_at_call 36; go_must (refine (rvalue9w_any (g, (t1, t2), SD.toD F) da dc F w3 HMd.out HID.out HD_3.out rfl).mono ?_; rw [hc]; rintro e w4 ⟨rfl, h5⟩; have HB_4 : Hid (Below W.heap.size W w4) := hH (blThen HB_3.out h5); have Ki_4 := row_up Ki_3 Li_3 h5; have Li_4 := lt_up Li_3 h5; have Ka_4 := row_up Ka_3 La_3 h5; have La_4 := lt_up La_3 h5; have Kb_4 := row_up Kb_3 Lb_3 h5; have Lb_4 := lt_up Lb_3 h5; have Kv_4 := row_up Kv_3 Lv_3 h5; have Lv_4 := lt_up Lv_3 h5; have Ko_4 := row_up Ko_3 Lo_3 h5; have Lo_4 := lt_up Lo_3 h5; have HD_4 := hH (HD_3.out.later h5); clear h5)))
     go_ret
     exact ⟨rfl, HB_5.out⟩
    ·have HVB := hH hc
     have HFV : Hid (FewV (SD.toD F)) := hH (few_value hc)
     have HFW := hH (few_v rfl HFV.out)
     clear hc
     go_wp2_with (first | go_skip | ((with_reducible refine atW w4 ?_); refine wpList_load_part _ _ rfl (by rfl) _ 0 rfl Ko_4.out Tryz.underlying23 rfl #[.int .i64 o1, .int .i64 o2] (by kernel_rfl) (two_at rfl rfl) ?_) | ((with_reducible refine atC w3 ?_); go_at_call 36; go_must (refine (rvalue9w_any (g, (t1, t2), SD.toD F) da dc F w3 HMd.out HID.out HD_3.out rfl).mono ?_; rw [HVB.out]; rintro e w4 ⟨rfl, h5⟩; have HB_4 : Hid (Below W.heap.size W w4) := hH (blThen HB_3.out h5); have Ki_4 := row_up Ki_3 Li_3 h5; have Li_4 := lt_up Li_3 h5; have Ka_4 := row_up Ka_3 La_3 h5; have La_4 := lt_up La_3 h5; have Kb_4 := row_up Kb_3 Lb_3 h5; have Lb_4 := lt_up Lb_3 h5; have Kv_4 := row_up Kv_3 Lv_3 h5; have Lv_4 := lt_up Lv_3 h5; have Ko_4 := row_up Ko_3 Lo_3 h5; have Lo_4 := lt_up Lo_3 h5; have HD_4 := hH (HD_3.out.later h5); clear h5)))
     cases hc : S1.isS (o1, o2)
     ·go_wp2_with (first | go_skip | ((with_reducible refine atC w5 ?_); go_at_call 14; go_must (refine (live9_any w5).mono ?_; rintro e w6 ⟨rfl, h5⟩; have HB_6 : Hid (Below W.heap.size W w6) := hH (blThen HB_5.out h5); have Ki_6 := row_up Ki_5 Li_5 h5; have Li_6 := lt_up Li_5 h5; have Ka_6 := row_up Ka_5 La_5 h5; have La_6 := lt_up La_5 h5; have Kb_6 := row_up Kb_5 Lb_5 h5; have Lb_6 := lt_up Lb_5 h5; have Kv_6 := row_up Kv_5 Lv_5 h5; have Lv_6 := lt_up Lv_5 h5; have Ko_6 := row_up Ko_5 Lo_5 h5; have Lo_6 := lt_up Lo_5 h5; have HD_6 := hH (HD_5.out.later h5); clear h5)) | ((with_reducible refine atC w4 ?_); go_at_call 28; go_must (refine (S1.is_any o1 o2 w4).mono ?_; rw [hc]; rintro e w5 ⟨rfl, h5⟩; have h5 := below_grow (Below.refl _ _) h5; have HB_5 : Hid (Below W.heap.size W w5) := hH (blThen HB_4.out h5); have Ki_5 := row_up Ki_4 Li_4 h5; have Li_5 := lt_up Li_4 h5; have Ka_5 := row_up Ka_4 La_4 h5; have La_5 := lt_up La_4 h5; have Kb_5 := row_up Kb_4 Lb_4 h5; have Lb_5 := lt_up Lb_4 h5; have Kv_5 := row_up Kv_4 Lv_4 h5; have Lv_5 := lt_up Lv_4 h5; have Ko_5 := row_up Ko_4 Lo_4 h5; have Lo_5 := lt_up Lo_4 h5; have HD_5 := hH (HD_4.out.later h5); clear h5)))
      go_ret
      exact ⟨rfl, HB_6.out⟩
     ·have HOS := hH hc
      clear hc
      go_wp2_with (first | go_skip | ((with_reducible refine atW w5 ?_); refine wpList_load_part _ _ rfl (by rfl) _ 0 rfl Ki_5.out Tryz.underlying23 rfl #[.int .i64 i1, .int .i64 i2] (by kernel_rfl) (two_at rfl rfl) ?_) | ((with_reducible refine atW w5 ?_); refine wpList_load_part _ _ rfl (by rfl) _ 0 rfl Ko_5.out Tryz.underlying23 rfl #[.int .i64 o1, .int .i64 o2] (by kernel_rfl) (two_at rfl rfl) ?_) | ((with_reducible refine atC w4 ?_); go_at_call 28; go_must (refine (S1.is_any o1 o2 w4).mono ?_; rw [HOS.out]; rintro e w5 ⟨rfl, h5⟩; have h5 := below_grow (Below.refl _ _) h5; have HB_5 : Hid (Below W.heap.size W w5) := hH (blThen HB_4.out h5); have Ki_5 := row_up Ki_4 Li_4 h5; have Li_5 := lt_up Li_4 h5; have Ka_5 := row_up Ka_4 La_4 h5; have La_5 := lt_up La_4 h5; have Kb_5 := row_up Kb_4 Lb_4 h5; have Lb_5 := lt_up Lb_4 h5; have Kv_5 := row_up Kv_4 Lv_4 h5; have Lv_5 := lt_up Lv_4 h5; have Ko_5 := row_up Ko_4 Lo_4 h5; have Lo_5 := lt_up Lo_4 h5; have HD_5 := hH (HD_4.out.later h5); clear h5)))
      cases hc : S1.ltS (o1, o2) (i1, i2)
      ·have HOI := hH hc
       clear hc
       go_wp2_with (first | go_skip | ((with_reducible refine atW w6 ?_); refine wpList_load_one _ _ rfl (by rfl) _ 3 rfl Kv_6.out Tryz.underlying25 rfl rfl ?_) | ((with_reducible refine atC w5 ?_); go_at_call 32; go_must (refine (S1.less_any o1 o2 i1 i2 w5).mono ?_; rw [HOI.out]; rintro e w6 ⟨rfl, h5⟩; have h5 := below_grow (Below.refl _ _) h5; have HB_6 : Hid (Below W.heap.size W w6) := hH (blThen HB_5.out h5); have Ki_6 := row_up Ki_5 Li_5 h5; have Li_6 := lt_up Li_5 h5; have Ka_6 := row_up Ka_5 La_5 h5; have La_6 := lt_up La_5 h5; have Kb_6 := row_up Kb_5 Lb_5 h5; have Lb_6 := lt_up Lb_5 h5; have Kv_6 := row_up Kv_5 Lv_5 h5; have Lv_6 := lt_up Lv_5 h5; have Ko_6 := row_up Ko_5 Lo_5 h5; have Lo_6 := lt_up Lo_5 h5; have HD_6 := hH (HD_5.out.later h5); clear h5)))
       by_cases hc : 40 < (SD.allD (SD.toD F)).length
       ·have hb : decide ((40 : Int) < ((SD.allD (SD.toD F)).length : Int)) = true := decide_eq_true (by omega)
        have hb2 : (40 : Int) < ((SD.allD (SD.toD F)).length : Int) := by omega
        go_wp2_with (first | go_skip | ((with_reducible refine atC w7 ?_); go_at_call 14; go_must (refine (live9_any w7).mono ?_; rintro e w8 ⟨rfl, h5⟩; have HB_8 : Hid (Below W.heap.size W w8) := hH (blThen HB_7.out h5); have Ka_8 := row_up Ka_7 La_7 h5; have Kb_8 := row_up Kb_7 Lb_7 h5; have Lb_8 := lt_up Lb_7 h5; have Kv_8 := row_up Kv_7 Lv_7 h5; have Lv_8 := lt_up Lv_7 h5; have Ko_8 := row_up Ko_7 Lo_7 h5; have Lo_8 := lt_up Lo_7 h5; have HD_8 := hH (HD_7.out.later h5); clear h5)) | ((with_reducible refine atC w6 ?_); go_at_call 37; go_must (refine (SD.refall_any da dc F w6 HFW.out.1.1 HFW.out.2 HD_6.out).mono ?_; intro e w7 h; unfold S1.RetA at h; obtain ⟨xa, xc, rfl, _, _, _, h5⟩ := h; have HB_7 : Hid (Below W.heap.size W w7) := hH (blThen HB_6.out h5); have Ki_7 := row_up Ki_6 Li_6 h5; have Li_7 := lt_up Li_6 h5; have Ka_7 := row_up Ka_6 La_6 h5; have La_7 := lt_up La_6 h5; have Kb_7 := row_up Kb_6 Lb_6 h5; have Lb_7 := lt_up Lb_6 h5; have Kv_7 := row_up Kv_6 Lv_6 h5; have Lv_7 := lt_up Lv_6 h5; have Ko_7 := row_up Ko_6 Lo_6 h5; have Lo_7 := lt_up Lo_6 h5; have HD_7 := hH (HD_6.out.later h5); clear h5)))
        go_ret
        exact ⟨rfl, HB_8.out⟩
       ·have hb : decide ((40 : Int) < ((SD.allD (SD.toD F)).length : Int)) = false := decide_eq_false (by omega)
        have hb2 : ¬ (40 : Int) < ((SD.allD (SD.toD F)).length : Int) := by omega
        go_upto_region 3 with (first | go_skip | ((with_reducible refine atC w6 ?_); go_at_call 37; go_must (refine (SD.refall_any da dc F w6 HFW.out.1.1 HFW.out.2 HD_6.out).mono ?_; intro e w7 h; unfold S1.RetA at h; obtain ⟨xa, xc, rfl, _, _, _, h5⟩ := h; have HB_7 : Hid (Below W.heap.size W w7) := hH (blThen HB_6.out h5); have Ki_7 := row_up Ki_6 Li_6 h5; have Li_7 := lt_up Li_6 h5; have Ka_7 := row_up Ka_6 La_6 h5; have La_7 := lt_up La_6 h5; have Kb_7 := row_up Kb_6 Lb_6 h5; have Lb_7 := lt_up Lb_6 h5; have Kv_7 := row_up Kv_6 Lv_6 h5; have Lv_7 := lt_up Lv_6 h5; have Ko_7 := row_up Ko_6 Lo_6 h5; have Lo_7 := lt_up Lo_6 h5; have HD_7 := hH (HD_6.out.later h5); clear h5)))
        have HPRO : Hid (∀ Y : World, Calls Tryz.prog 38 #[.agg (r22 i1 i2 (.slice none 0 0) 0 0 0 0 0 false (.slice none 0 0) 0 0 false 0 0 false 0 0 (.slice none 0 0) false (.slice none 0 0) (.slice none 0 0)), .agg #[.int .i64 a1, .int .i64 a2]] Y fun e w' => e = .returned (.tuple #[.agg (r22 i1 i2 (.slice none 0 0) 0 a1 a2 0 0 false (.slice none 0 0) 0 0 false 0 0 false 0 0 (.slice none 0 0) false (.slice none 0 0) (.slice none 0 0)), .bool true]) ∧ Below Y.heap.size Y w') := hH (fun Y => by have h := promise_any (newC (i1, i2)) nilL (a1, a2) Y (at_nil9 Y _ rfl rfl rfl rfl rfl); rw [bal_new HBA.out, bal_newB HBA.out] at h; exact h)
        have KS : Hid (∀ Y : World, Below w7.heap.size w7 Y → Y.cell? ⟨W.heap.size, 0, none⟩ = some (.int .i64 i1) ∧ Y.cell? ⟨W.heap.size, 1, none⟩ = some (.int .i64 i2) ∧ Y.cell? ⟨W.heap.size + 1, 0, none⟩ = some (.int .i64 a1) ∧ Y.cell? ⟨W.heap.size + 1, 1, none⟩ = some (.int .i64 a2)) := hH (fun Y hY => by
         have p := (hY.block W.heap.size Li_7.out).trans Ki_7.out
         have q := (hY.block (W.heap.size + 1) La_7.out).trans Ka_7.out
         exact ⟨cell_row p 0 _ rfl, cell_row p 1 _ rfl, cell_row q 0 _ rfl, cell_row q 1 _ rfl⟩)
        go_cut [11, 12] from 56 to 62 (fun s11 s12 wx => ∃ k : Nat, s11 = .pointer (some ⟨k, 0, none⟩) ∧ s12 = .bool true ∧ k < wx.heap.size ∧ wx.heap[k]? = some (.cells (r22 i1 i2 (.slice none 0 0) 0 a1 a2 0 0 false (.slice none 0 0) 0 0 false 0 0 false 0 0 (.slice none 0 0) false (.slice none 0 0) (.slice none 0 0)) 31 (0, 0)) ∧ Below w7.heap.size w7 wx)
        case first =>
         refine wp_region_held_drew (S := fun Y => Y.cell? ⟨W.heap.size, 0, none⟩ = some (.int .i64 i1) ∧ Y.cell? ⟨W.heap.size, 1, none⟩ = some (.int .i64 i2) ∧ Y.cell? ⟨W.heap.size + 1, 0, none⟩ = some (.int .i64 a1) ∧ Y.cell? ⟨W.heap.size + 1, 1, none⟩ = some (.int .i64 a2)) (by kernel_rfl) (KS.out _ (Below.refl w7.heap.size w7).drew) (fun hHeld => ?_)
         refine wpAnyH_take (i := 0) (oi := ⟨_, _, _, _, _, _⟩) (v := ?_) rfl (by kernel_rfl) (by kernel_rfl) (by kernel_rfl) (fun _ _ _ h => h) (Or.inl ⟨by rfl, ?_⟩) (by assumption) ?_
         rotate_left
         ·intro w hSw
          try dsimp only at hSw
          go_simp
          try with_reducible rfl
         try simp only [Act.put, sA9, sZ9, sS9]
         refine wpAnyH_take (i := 2) (oi := ⟨_, _, _, _, _, _⟩) (v := ?_) rfl (by kernel_rfl) (by kernel_rfl) (by kernel_rfl) (fun _ _ _ h => h) (Or.inl ⟨by rfl, ?_⟩) (by assumption) ?_
         rotate_left
         ·intro w hSw
          try dsimp only at hSw
          go_simp
          try with_reducible rfl
         try simp only [Act.put, sA9, sZ9, sS9]
         have HX : Hid (Below w7.heap.size w7 w7.drew) := hH (Below.refl _ _).drew
         have HB_z0 := HX
         clear HX
         generalize w7.drew = z0 at *
         refine wpAnyH_ready (rs := [1, 7]) (by kernel_rfl) (by simp) ?_
         refine (AllReadyH.cons (o := ⟨_, _, _, _, _, _⟩) rfl (fun K hK => ?_) (AllReadyH.cons (o := ⟨_, _, _, _, _, _⟩) rfl (fun K hK => ?_) AllReadyH.nil))
         ·go_simp
          go_at_call 21
          refine (new9_any (i1, i2) z0).mono ?_
          intro e zw1 h
          unfold RetL at h
          obtain ⟨rfl, h5⟩ := h
          simp only [cmV, newC, nilL, z2, val0]
          have HX : Hid (Below z0.heap.size z0 zw1) := hH h5
          have HB_zw1 : Hid (Below w7.heap.size w7 zw1) := hH (blThen HB_z0.out HX.out)
          refine hK.out _ _ (KS.out _ HB_zw1.out) (fun hHeld => ?_)
          clear hK K HX h5
          try simp only [Act.put, sA9, sZ9, sS9]
          refine wpAnyH_ready (rs := [3, 7]) (by kernel_rfl) (by simp) ?_
          refine (AllReadyH.cons (o := ⟨_, _, _, _, _, _⟩) rfl (fun K hK => ?_) (AllReadyH.cons (o := ⟨_, _, _, _, _, _⟩) rfl (fun K hK => ?_) AllReadyH.nil))
          ·go_simp
           go_at_call 38
           refine (HPRO.out zw1).mono ?_
           rintro e zw2 ⟨rfl, h5⟩
           have HX : Hid (Below zw1.heap.size zw1 zw2) := hH h5
           have HB_zw2 : Hid (Below w7.heap.size w7 zw2) := hH (blThen HB_zw1.out HX.out)
           refine hK.out _ _ (KS.out _ HB_zw2.out) (fun hHeld => ?_)
           clear hK K HX h5
           try simp only [Act.put, sA9, sZ9, sS9]
           refine wpAnyH_take (i := 4) (oi := ⟨_, _, _, _, _, _⟩) (v := ?_) rfl (by kernel_rfl) (by kernel_rfl) (by kernel_rfl) (fun _ _ _ h => h) (Or.inl ⟨by rfl, ?_⟩) (by assumption) ?_
           rotate_left
           ·intro w hSw
            try dsimp only at hSw
            go_simp
            try with_reducible rfl
           try simp only [Act.put, sA9, sZ9, sS9]
           refine wpAnyH_take (i := 5) (oi := ⟨_, _, _, _, _, _⟩) (v := ?_) rfl (by kernel_rfl) (by kernel_rfl) (by kernel_rfl) (fun _ _ _ h => h) (Or.inl ⟨by rfl, ?_⟩) (by assumption) ?_
           rotate_left
           ·intro w hSw
            try dsimp only at hSw
            go_simp
            try with_reducible rfl
           try simp only [Act.put, sA9, sZ9, sS9]
           refine wpAnyH_take (i := 6) (oi := ⟨_, _, _, _, _, _⟩) (v := ?_) rfl (by kernel_rfl) (by kernel_rfl) (by kernel_rfl) (fun _ _ _ h => h) (Or.inl ⟨by rfl, ?_⟩) (by assumption) ?_
           rotate_left
           ·intro w hSw
            try dsimp only at hSw
            go_simp
            try with_reducible rfl
           try simp only [Act.put, sA9, sZ9, sS9]
           refine wpAnyH_ready (rs := [7]) (by kernel_rfl) (by simp) ?_
           refine (AllReadyH.cons (o := ⟨_, _, _, _, _, _⟩) rfl (fun K hK => ?_) AllReadyH.nil)
           ·go_simp
            have HX : Hid (Below zw2.heap.size zw2 (zw2.alloc (.cells z22 31))) := hH (blAlloc (Below.refl _ _) _)
            have HB_zw3 : Hid (Below w7.heap.size w7 (zw2.alloc (.cells z22 31))) := hH (blThen HB_zw2.out HX.out)
            have KN : Hid ((zw2.alloc (.cells z22 31)).heap[zw2.heap.size]? = some (.cells z22 31 (0, 0))) := hH (new_blockC zw2 z22 31)
            have LN : Hid (zw2.heap.size < (zw2.alloc (.cells z22 31)).heap.size) := hH (by simp)
            have GN : Hid (w7.heap.size ≤ zw2.heap.size) := hH HB_zw2.out.size
            refine hK.out _ _ (KS.out _ HB_zw3.out) (fun hHeld => ?_)
            clear hK K HX
            try simp only [Act.put, sA9, sZ9, sS9]
            generalize (zw2.alloc (.cells z22 31)) = zw3 at *
            refine wpAnyH_ready (rs := [8]) (by kernel_rfl) (by simp) ?_
            refine AllReadyH.cons (o := ⟨_, _, _, _, _, _⟩) rfl (fun K hK => ?_) ?_
            rotate_left
            ·exact AllReadyH.nil
            refine ite_yes9 (by rfl) ?_
            refine wp_store9 _ _ rfl _ rfl (cells := (r22 i1 i2 (.slice none 0 0) 0 a1 a2 0 0 false (.slice none 0 0) 0 0 false 0 0 false 0 0 (.slice none 0 0) false (.slice none 0 0) (.slice none 0 0))) rfl KN.out rfl rfl (by simp [Value.oneCell']) ?_
            intro zf h1 h2
            have HBF : Hid (Below w7.heap.size w7 zf) := hH (below_grown9 HB_zw3.out h2 GN.out)
            have KF := hH h1
            have LF := Nat.lt_of_lt_of_le LN.out h2.size
            clear h1 h2
            refine hK.out _ _ (KS.out _ HBF.out) (fun hHeld => ?_)
            clear hK K
            try simp only [Act.put, sA9, sZ9, sS9]
            refine wpAnyH_take (i := 9) (oi := ⟨_, _, _, _, _, _⟩) (v := ?_) rfl (by kernel_rfl) (by kernel_rfl) (by kernel_rfl) (fun _ _ _ h => h) (Or.inl ⟨by rfl, ?_⟩) (by assumption) ?_
            rotate_left
            ·intro w hSw
             try dsimp only at hSw
             go_simp
             try with_reducible rfl
            try simp only [Act.put, sA9, sZ9, sS9]
            refine wpAnyH_done (by kernel_rfl) ?_ _
            go_wp2_with fail
            go_meet
            exact ⟨zw2.heap.size, rfl, rfl, LF, KF.out, HBF.out⟩
          ·go_simp
           have HX : Hid (Below zw1.heap.size zw1 (zw1.alloc (.cells z22 31))) := hH (blAlloc (Below.refl _ _) _)
           have HB_zw4 : Hid (Below w7.heap.size w7 (zw1.alloc (.cells z22 31))) := hH (blThen HB_zw1.out HX.out)
           have KN : Hid ((zw1.alloc (.cells z22 31)).heap[zw1.heap.size]? = some (.cells z22 31 (0, 0))) := hH (new_blockC zw1 z22 31)
           have LN : Hid (zw1.heap.size < (zw1.alloc (.cells z22 31)).heap.size) := hH (by simp)
           have GN : Hid (w7.heap.size ≤ zw1.heap.size) := hH HB_zw1.out.size
           refine hK.out _ _ (KS.out _ HB_zw4.out) (fun hHeld => ?_)
           clear hK K HX
           try simp only [Act.put, sA9, sZ9, sS9]
           generalize (zw1.alloc (.cells z22 31)) = zw4 at *
           refine wpAnyH_ready (rs := [3]) (by kernel_rfl) (by simp) ?_
           refine (AllReadyH.cons (o := ⟨_, _, _, _, _, _⟩) rfl (fun K hK => ?_) AllReadyH.nil)
           ·go_simp
            go_at_call 38
            refine (HPRO.out zw4).mono ?_
            rintro e zw5 ⟨rfl, h5⟩
            have HX : Hid (Below zw4.heap.size zw4 zw5) := hH h5
            have HB_zw5 : Hid (Below w7.heap.size w7 zw5) := hH (blThen HB_zw4.out HX.out)
            have KN := hH ((HX.out.block zw1.heap.size LN.out).trans KN.out)
            have LN : Hid (zw1.heap.size < zw5.heap.size) := hH (Nat.lt_of_lt_of_le LN.out HX.out.size)
            refine hK.out _ _ (KS.out _ HB_zw5.out) (fun hHeld => ?_)
            clear hK K HX h5
            try simp only [Act.put, sA9, sZ9, sS9]
            refine wpAnyH_take (i := 4) (oi := ⟨_, _, _, _, _, _⟩) (v := ?_) rfl (by kernel_rfl) (by kernel_rfl) (by kernel_rfl) (fun _ _ _ h => h) (Or.inl ⟨by rfl, ?_⟩) (by assumption) ?_
            rotate_left
            ·intro w hSw
             try dsimp only at hSw
             go_simp
             try with_reducible rfl
            try simp only [Act.put, sA9, sZ9, sS9]
            refine wpAnyH_take (i := 5) (oi := ⟨_, _, _, _, _, _⟩) (v := ?_) rfl (by kernel_rfl) (by kernel_rfl) (by kernel_rfl) (fun _ _ _ h => h) (Or.inl ⟨by rfl, ?_⟩) (by assumption) ?_
            rotate_left
            ·intro w hSw
             try dsimp only at hSw
             go_simp
             try with_reducible rfl
            try simp only [Act.put, sA9, sZ9, sS9]
            refine wpAnyH_take (i := 6) (oi := ⟨_, _, _, _, _, _⟩) (v := ?_) rfl (by kernel_rfl) (by kernel_rfl) (by kernel_rfl) (fun _ _ _ h => h) (Or.inl ⟨by rfl, ?_⟩) (by assumption) ?_
            rotate_left
            ·intro w hSw
             try dsimp only at hSw
             go_simp
             try with_reducible rfl
            try simp only [Act.put, sA9, sZ9, sS9]
            refine wpAnyH_ready (rs := [8]) (by kernel_rfl) (by simp) ?_
            refine AllReadyH.cons (o := ⟨_, _, _, _, _, _⟩) rfl (fun K hK => ?_) ?_
            rotate_left
            ·exact AllReadyH.nil
            refine ite_yes9 (by rfl) ?_
            refine wp_store9 _ _ rfl _ rfl (cells := (r22 i1 i2 (.slice none 0 0) 0 a1 a2 0 0 false (.slice none 0 0) 0 0 false 0 0 false 0 0 (.slice none 0 0) false (.slice none 0 0) (.slice none 0 0))) rfl KN.out rfl rfl (by simp [Value.oneCell']) ?_
            intro zf h1 h2
            have HBF : Hid (Below w7.heap.size w7 zf) := hH (below_grown9 HB_zw5.out h2 GN.out)
            have KF := hH h1
            have LF := Nat.lt_of_lt_of_le LN.out h2.size
            clear h1 h2
            refine hK.out _ _ (KS.out _ HBF.out) (fun hHeld => ?_)
            clear hK K
            try simp only [Act.put, sA9, sZ9, sS9]
            refine wpAnyH_take (i := 9) (oi := ⟨_, _, _, _, _, _⟩) (v := ?_) rfl (by kernel_rfl) (by kernel_rfl) (by kernel_rfl) (fun _ _ _ h => h) (Or.inl ⟨by rfl, ?_⟩) (by assumption) ?_
            rotate_left
            ·intro w hSw
             try dsimp only at hSw
             go_simp
             try with_reducible rfl
            try simp only [Act.put, sA9, sZ9, sS9]
            refine wpAnyH_done (by kernel_rfl) ?_ _
            go_wp2_with fail
            go_meet
            exact ⟨zw1.heap.size, rfl, rfl, LF, KF.out, HBF.out⟩
         ·go_simp
          have HX : Hid (Below z0.heap.size z0 (z0.alloc (.cells z22 31))) := hH (blAlloc (Below.refl _ _) _)
          have HB_zw6 : Hid (Below w7.heap.size w7 (z0.alloc (.cells z22 31))) := hH (blThen HB_z0.out HX.out)
          have KN : Hid ((z0.alloc (.cells z22 31)).heap[z0.heap.size]? = some (.cells z22 31 (0, 0))) := hH (new_blockC z0 z22 31)
          have LN : Hid (z0.heap.size < (z0.alloc (.cells z22 31)).heap.size) := hH (by simp)
          have GN : Hid (w7.heap.size ≤ z0.heap.size) := hH HB_z0.out.size
          refine hK.out _ _ (KS.out _ HB_zw6.out) (fun hHeld => ?_)
          clear hK K HX
          try simp only [Act.put, sA9, sZ9, sS9]
          generalize (z0.alloc (.cells z22 31)) = zw6 at *
          refine wpAnyH_ready (rs := [1]) (by kernel_rfl) (by simp) ?_
          refine (AllReadyH.cons (o := ⟨_, _, _, _, _, _⟩) rfl (fun K hK => ?_) AllReadyH.nil)
          ·go_simp
           go_at_call 21
           refine (new9_any (i1, i2) zw6).mono ?_
           intro e zw7 h
           unfold RetL at h
           obtain ⟨rfl, h5⟩ := h
           simp only [cmV, newC, nilL, z2, val0]
           have HX : Hid (Below zw6.heap.size zw6 zw7) := hH h5
           have HB_zw7 : Hid (Below w7.heap.size w7 zw7) := hH (blThen HB_zw6.out HX.out)
           have KN := hH ((HX.out.block z0.heap.size LN.out).trans KN.out)
           have LN : Hid (z0.heap.size < zw7.heap.size) := hH (Nat.lt_of_lt_of_le LN.out HX.out.size)
           refine hK.out _ _ (KS.out _ HB_zw7.out) (fun hHeld => ?_)
           clear hK K HX h5
           try simp only [Act.put, sA9, sZ9, sS9]
           refine wpAnyH_ready (rs := [3]) (by kernel_rfl) (by simp) ?_
           refine (AllReadyH.cons (o := ⟨_, _, _, _, _, _⟩) rfl (fun K hK => ?_) AllReadyH.nil)
           ·go_simp
            go_at_call 38
            refine (HPRO.out zw7).mono ?_
            rintro e zw8 ⟨rfl, h5⟩
            have HX : Hid (Below zw7.heap.size zw7 zw8) := hH h5
            have HB_zw8 : Hid (Below w7.heap.size w7 zw8) := hH (blThen HB_zw7.out HX.out)
            have KN := hH ((HX.out.block z0.heap.size LN.out).trans KN.out)
            have LN : Hid (z0.heap.size < zw8.heap.size) := hH (Nat.lt_of_lt_of_le LN.out HX.out.size)
            refine hK.out _ _ (KS.out _ HB_zw8.out) (fun hHeld => ?_)
            clear hK K HX h5
            try simp only [Act.put, sA9, sZ9, sS9]
            refine wpAnyH_take (i := 4) (oi := ⟨_, _, _, _, _, _⟩) (v := ?_) rfl (by kernel_rfl) (by kernel_rfl) (by kernel_rfl) (fun _ _ _ h => h) (Or.inl ⟨by rfl, ?_⟩) (by assumption) ?_
            rotate_left
            ·intro w hSw
             try dsimp only at hSw
             go_simp
             try with_reducible rfl
            try simp only [Act.put, sA9, sZ9, sS9]
            refine wpAnyH_take (i := 5) (oi := ⟨_, _, _, _, _, _⟩) (v := ?_) rfl (by kernel_rfl) (by kernel_rfl) (by kernel_rfl) (fun _ _ _ h => h) (Or.inl ⟨by rfl, ?_⟩) (by assumption) ?_
            rotate_left
            ·intro w hSw
             try dsimp only at hSw
             go_simp
             try with_reducible rfl
            try simp only [Act.put, sA9, sZ9, sS9]
            refine wpAnyH_take (i := 6) (oi := ⟨_, _, _, _, _, _⟩) (v := ?_) rfl (by kernel_rfl) (by kernel_rfl) (by kernel_rfl) (fun _ _ _ h => h) (Or.inl ⟨by rfl, ?_⟩) (by assumption) ?_
            rotate_left
            ·intro w hSw
             try dsimp only at hSw
             go_simp
             try with_reducible rfl
            try simp only [Act.put, sA9, sZ9, sS9]
            refine wpAnyH_ready (rs := [8]) (by kernel_rfl) (by simp) ?_
            refine AllReadyH.cons (o := ⟨_, _, _, _, _, _⟩) rfl (fun K hK => ?_) ?_
            rotate_left
            ·exact AllReadyH.nil
            refine ite_yes9 (by rfl) ?_
            refine wp_store9 _ _ rfl _ rfl (cells := (r22 i1 i2 (.slice none 0 0) 0 a1 a2 0 0 false (.slice none 0 0) 0 0 false 0 0 false 0 0 (.slice none 0 0) false (.slice none 0 0) (.slice none 0 0))) rfl KN.out rfl rfl (by simp [Value.oneCell']) ?_
            intro zf h1 h2
            have HBF : Hid (Below w7.heap.size w7 zf) := hH (below_grown9 HB_zw8.out h2 GN.out)
            have KF := hH h1
            have LF := Nat.lt_of_lt_of_le LN.out h2.size
            clear h1 h2
            refine hK.out _ _ (KS.out _ HBF.out) (fun hHeld => ?_)
            clear hK K
            try simp only [Act.put, sA9, sZ9, sS9]
            refine wpAnyH_take (i := 9) (oi := ⟨_, _, _, _, _, _⟩) (v := ?_) rfl (by kernel_rfl) (by kernel_rfl) (by kernel_rfl) (fun _ _ _ h => h) (Or.inl ⟨by rfl, ?_⟩) (by assumption) ?_
            rotate_left
            ·intro w hSw
             try dsimp only at hSw
             go_simp
             try with_reducible rfl
            try simp only [Act.put, sA9, sZ9, sS9]
            refine wpAnyH_done (by kernel_rfl) ?_ _
            go_wp2_with fail
            go_meet
            exact ⟨z0.heap.size, rfl, rfl, LF, KF.out, HBF.out⟩
        case rest =>
         obtain ⟨k4, e11, e12, hlt, hr, h5⟩ := hcut
         rename World => w8
         rw [e11, e12]
         clear e11 e12
         have HB_8 : Hid (Below W.heap.size W w8) := hH (blThen HB_7.out h5)
         have Ka_8 := row_up Ka_7 La_7 h5
         have Kb_8 := row_up Kb_7 Lb_7 h5
         have Lb_8 := lt_up Lb_7 h5
         have Kv_8 := row_up Kv_7 Lv_7 h5
         have Lv_8 := lt_up Lv_7 h5
         have Ko_8 := row_up Ko_7 Lo_7 h5
         have Lo_8 := lt_up Lo_7 h5
         have HD_8 := hH (HD_7.out.later h5)
         have Kc_8 := hH hr
         have Lc_8 : Hid (k4 < w8.heap.size) := hH hlt
         clear hr hlt h5 KS HPRO
         cases hl : S1.ltS (b1, b2) (a1, a2)
         ·have HP : Hid (∀ Y : World, Calls Tryz.prog 38 #[.agg (r22 i1 i2 (.slice none 0 0) 0 a1 a2 0 0 false (.slice none 0 0) 0 0 false 0 0 false 0 0 (.slice none 0 0) false (.slice none 0 0) (.slice none 0 0)), .agg #[.int .i64 b1, .int .i64 b2]] Y fun e w' => e = .returned (.tuple #[.agg (r22 i1 i2 (.slice none 0 0) 0 b1 b2 0 0 false (.slice none 0 0) 0 0 false 0 0 false 0 0 (.slice none 0 0) false (.slice none 0 0) (.slice none 0 0)), .bool true]) ∧ Below Y.heap.size Y w') := hH (fun Y => by have h := promise_any (cB (i1, i2) (a1, a2)) nilL (b1, b2) Y (at_nil9 Y _ rfl rfl rfl rfl rfl); rw [bal_pro1 hl, bal_yes hl] at h; exact h)
          have HBI : Hid (∀ Y : World, Calls Tryz.prog 39 #[.agg (r22 i1 i2 (.slice none 0 0) 0 a1 a2 0 0 false (.slice none 0 0) 0 0 false 0 0 false 0 0 (.slice none 0 0) false (.slice none 0 0) (.slice none 0 0)), .agg #[.int .i64 b1, .int .i64 b2], .agg #[.int .i64 o1, .int .i64 o2]] Y fun e w' => e = .returned (.tuple #[.agg (r22 i1 i2 (.slice none 0 0) 0 b1 b2 0 0 false (.slice none 0 0) o1 o2 false 0 0 false 0 0 (.slice none 0 0) false (.slice none 0 0) (.slice none 0 0)), .bool true]) ∧ Below Y.heap.size Y w') := hH (fun Y => by have h := bind_any (cB (i1, i2) (a1, a2)) nilL (b1, b2) (o1, o2) Y (at_nil9 Y _ rfl rfl rfl rfl rfl); rw [bal_bin1 hl HOS.out, bal_yes hl] at h; exact h)
          obtain ⟨M, hM⟩ : ∃ mm_, S1.maxL [z2, (t1, t2)] = mm_ := ⟨_, rfl⟩
          have HAC : Hid (∀ Y : World, SD.Dl Y da F → Calls Tryz.prog 40 #[.agg (r22 i1 i2 (.slice none 0 0) 0 a1 a2 0 0 false (.slice none 0 0) 0 0 false 0 0 false 0 0 (.slice none 0 0) false (.slice none 0 0) (.slice none 0 0)), .agg #[.int .i64 b1, .int .i64 b2], .agg #[.bool g, .int .i64 t1, .int .i64 t2, .slice da F.length dc]] Y fun e w' => e = .returned (.tuple #[.agg (r22 i1 i2 (.slice none 0 0) 0 b1 b2 0 0 false (.slice none 0 0) M.1 M.2 true b1 b2 g t1 t2 (.slice da F.length dc) false (.slice none 0 0) (.slice none 0 0)), .bool true]) ∧ Below Y.heap.size Y w') := hH (fun Y hD => by have h := accept_any (cB (i1, i2) (a1, a2)) nilL (b1, b2) (g, (t1, t2), SD.toD F) (.slice da F.length dc) Y (at_nil9 Y _ rfl rfl rfl rfl rfl) ⟨da, dc, F, rfl, hD, rfl, HDN.out⟩; rw [bal_acc1 hl, bal_yes hl] at h; simp only [hM, if_true] at h; exact h)
          clear hM
          have HL := hH hl
          clear hl
          go_wp2_with (first | go_skip | ((with_reducible refine atC w16 ?_); go_at_call 14; go_must (refine (live9_any w16).mono ?_; rintro e w17 ⟨rfl, h5⟩; have HB_17 : Hid (Below W.heap.size W w17) := hH (blThen HB_16.out h5); have Kc_17 := row_up Kc_16 Lc_16 h5; have Kf_17 := row_up Kf_16 Lf_16 h5; clear h5)) | ((with_reducible refine atC w15 ?_); go_at_call 34; go_must (refine (rsamev_any (g, (t1, t2), SD.toD F) (g, (t1, t2), SD.toD F) (.slice da F.length dc) (.slice da F.length dc) w15 ⟨da, dc, F, rfl, HD_15.out, rfl, HDN.out⟩ ⟨da, dc, F, rfl, HD_15.out, rfl, HDN.out⟩ HFV.out).mono ?_; rw [decide_eq_true (rfl : ((g, (t1, t2), SD.toD F) : Vlu) = (g, (t1, t2), SD.toD F))]; rintro e w16 ⟨rfl, h5⟩; have HB_16 : Hid (Below W.heap.size W w16) := hH (blThen HB_15.out h5); have Kc_16 := row_up Kc_15 Lc_15 h5; have Lc_16 := lt_up Lc_15 h5; have Ke_16 := row_up Ke_15 Le_15 h5; have Kf_16 := row_up Kf_15 Lf_15 h5; have Lf_16 := lt_up Lf_15 h5; clear h5)) | ((with_reducible refine atW w15 ?_); refine wpList_load_part _ _ rfl (by rfl) _ 0 rfl Kv_15.out Tryz.underlying27 rfl #[.bool g, .int .i64 t1, .int .i64 t2, .slice da F.length dc] (by kernel_rfl) (four_at rfl rfl rfl rfl) ?_) | ((with_reducible refine atW w15 ?_); refine wpList_load_part _ _ rfl (by rfl) _ 15 rfl Kf_15.out Tryz.underlying27 rfl #[.bool g, .int .i64 t1, .int .i64 t2, .slice da F.length dc] (by kernel_rfl) (four_at rfl rfl rfl rfl) ?_) | ((with_reducible refine atW w15 ?_); refine wpList_load_one _ _ rfl (by rfl) _ 12 rfl Kf_15.out Tryz.underlying4 rfl rfl ?_) | ((with_reducible refine atW w15 ?_); refine wpList_load_part _ _ rfl (by rfl) _ 13 rfl Kf_15.out Tryz.underlying23 rfl #[.int .i64 b1, .int .i64 b2] (by kernel_rfl) (two_at rfl rfl) ?_) | ((with_reducible refine atW w15 ?_); refine wpList_load_part _ _ rfl (by rfl) _ 4 rfl Kf_15.out Tryz.underlying23 rfl #[.int .i64 b1, .int .i64 b2] (by kernel_rfl) (two_at rfl rfl) ?_) | ((with_reducible refine atW w15 ?_); refine wpList_load_part _ _ rfl (by rfl) _ 0 rfl Ko_15.out Tryz.underlying23 rfl #[.int .i64 o1, .int .i64 o2] (by kernel_rfl) (two_at rfl rfl) ?_) | ((with_reducible refine atW w15 ?_); refine wpList_load_part _ _ rfl (by rfl) _ 10 rfl Ke_15.out Tryz.underlying23 rfl #[.int .i64 o1, .int .i64 o2] (by kernel_rfl) (two_at rfl rfl) ?_) | ((with_reducible refine atW w15 ?_); refine wpList_load_part _ _ rfl (by rfl) _ 4 rfl Ke_15.out Tryz.underlying23 rfl #[.int .i64 b1, .int .i64 b2] (by kernel_rfl) (two_at rfl rfl) ?_) | ((with_reducible refine atW w15 ?_); refine wpList_load_part _ _ rfl (by rfl) _ 0 rfl Kb_15.out Tryz.underlying23 rfl #[.int .i64 b1, .int .i64 b2] (by kernel_rfl) (two_at rfl rfl) ?_) | ((with_reducible refine atW w15 ?_); refine wpList_load_part _ _ rfl (by rfl) _ 4 rfl Kd_15.out Tryz.underlying23 rfl #[.int .i64 b1, .int .i64 b2] (by kernel_rfl) (two_at rfl rfl) ?_) | ((with_reducible refine atW (w14.alloc (.cells z22 31)) ?_); refine store9 _ _ rfl (by rfl) _ rfl rfl (new_blockC w14 z22 31) rfl rfl (by simp [Value.oneCell']) ?_; intro w15 h1 h2; have h5 := below_grown9 (blAlloc (Below.refl _ _) _) h2 (Nat.le_refl _); have HB_15 : Hid (Below W.heap.size W w15) := hH (blThen HB_14.out h5); have Kb_15 := row_up Kb_14 Lb_14 h5; have Kv_15 := row_up Kv_14 Lv_14 h5; have Ko_15 := row_up Ko_14 Lo_14 h5; have Kc_15 := row_up Kc_14 Lc_14 h5; have Lc_15 := lt_up Lc_14 h5; have Kd_15 := row_up Kd_14 Ld_14 h5; have Ke_15 := row_up Ke_14 Le_14 h5; have Le_15 := lt_up Le_14 h5; have HD_15 := hH (HD_14.out.later h5); have Kf_15 := hH h1; have Lf_15 : Hid (w14.heap.size < w15.heap.size) := hH (by have := h2.size; simp only [World.size_alloc] at this; omega); clear h1 h2 h5) | ((with_reducible refine atC w13 ?_); go_at_call 40; go_must (refine (HAC.out w13 HD_13.out).mono ?_; rintro e w14 ⟨rfl, h5⟩; have HB_14 : Hid (Below W.heap.size W w14) := hH (blThen HB_13.out h5); have Kb_14 := row_up Kb_13 Lb_13 h5; have Lb_14 := lt_up Lb_13 h5; have Kv_14 := row_up Kv_13 Lv_13 h5; have Lv_14 := lt_up Lv_13 h5; have Ko_14 := row_up Ko_13 Lo_13 h5; have Lo_14 := lt_up Lo_13 h5; have Kc_14 := row_up Kc_13 Lc_13 h5; have Lc_14 := lt_up Lc_13 h5; have Kd_14 := row_up Kd_13 Ld_13 h5; have Ld_14 := lt_up Ld_13 h5; have Ke_14 := row_up Ke_13 Le_13 h5; have Le_14 := lt_up Le_13 h5; have HD_14 := hH (HD_13.out.later h5); clear h5)) | ((with_reducible refine atW w13 ?_); refine wpList_load_part _ _ rfl (by rfl) _ 0 rfl Kv_13.out Tryz.underlying27 rfl #[.bool g, .int .i64 t1, .int .i64 t2, .slice da F.length dc] (by kernel_rfl) (four_at rfl rfl rfl rfl) ?_) | ((with_reducible refine atW w13 ?_); refine wpList_load_part _ _ rfl (by rfl) _ 0 rfl Kb_13.out Tryz.underlying23 rfl #[.int .i64 b1, .int .i64 b2] (by kernel_rfl) (two_at rfl rfl) ?_) | ((with_reducible refine atW w13 ?_); refine load9 _ rfl (by rfl) _ rfl Kc_13.out rfl ?_) | ((with_reducible refine atW (w12.alloc (.cells z22 31)) ?_); refine store9 _ _ rfl (by rfl) _ rfl rfl (new_blockC w12 z22 31) rfl rfl (by simp [Value.oneCell']) ?_; intro w13 h1 h2; have h5 := below_grown9 (blAlloc (Below.refl _ _) _) h2 (Nat.le_refl _); have HB_13 : Hid (Below W.heap.size W w13) := hH (blThen HB_12.out h5); have Kb_13 := row_up Kb_12 Lb_12 h5; have Lb_13 := lt_up Lb_12 h5; have Kv_13 := row_up Kv_12 Lv_12 h5; have Lv_13 := lt_up Lv_12 h5; have Ko_13 := row_up Ko_12 Lo_12 h5; have Lo_13 := lt_up Lo_12 h5; have Kc_13 := row_up Kc_12 Lc_12 h5; have Lc_13 := lt_up Lc_12 h5; have Kd_13 := row_up Kd_12 Ld_12 h5; have Ld_13 := lt_up Ld_12 h5; have HD_13 := hH (HD_12.out.later h5); have Ke_13 := hH h1; have Le_13 : Hid (w12.heap.size < w13.heap.size) := hH (by have := h2.size; simp only [World.size_alloc] at this; omega); clear h1 h2 h5) | ((with_reducible refine atC w11 ?_); go_at_call 39; go_must (refine (HBI.out w11).mono ?_; rintro e w12 ⟨rfl, h5⟩; have HB_12 : Hid (Below W.heap.size W w12) := hH (blThen HB_11.out h5); have Kb_12 := row_up Kb_11 Lb_11 h5; have Lb_12 := lt_up Lb_11 h5; have Kv_12 := row_up Kv_11 Lv_11 h5; have Lv_12 := lt_up Lv_11 h5; have Ko_12 := row_up Ko_11 Lo_11 h5; have Lo_12 := lt_up Lo_11 h5; have Kc_12 := row_up Kc_11 Lc_11 h5; have Lc_12 := lt_up Lc_11 h5; have Kd_12 := row_up Kd_11 Ld_11 h5; have Ld_12 := lt_up Ld_11 h5; have HD_12 := hH (HD_11.out.later h5); clear h5)) | ((with_reducible refine atW w11 ?_); refine wpList_load_part _ _ rfl (by rfl) _ 0 rfl Ko_11.out Tryz.underlying23 rfl #[.int .i64 o1, .int .i64 o2] (by kernel_rfl) (two_at rfl rfl) ?_) | ((with_reducible refine atW w11 ?_); refine wpList_load_part _ _ rfl (by rfl) _ 0 rfl Kb_11.out Tryz.underlying23 rfl #[.int .i64 b1, .int .i64 b2] (by kernel_rfl) (two_at rfl rfl) ?_) | ((with_reducible refine atW w11 ?_); refine load9 _ rfl (by rfl) _ rfl Kc_11.out rfl ?_) | ((with_reducible refine atW (w10.alloc (.cells z22 31)) ?_); refine store9 _ _ rfl (by rfl) _ rfl rfl (new_blockC w10 z22 31) rfl rfl (by simp [Value.oneCell']) ?_; intro w11 h1 h2; have h5 := below_grown9 (blAlloc (Below.refl _ _) _) h2 (Nat.le_refl _); have HB_11 : Hid (Below W.heap.size W w11) := hH (blThen HB_10.out h5); have Kb_11 := row_up Kb_10 Lb_10 h5; have Lb_11 := lt_up Lb_10 h5; have Kv_11 := row_up Kv_10 Lv_10 h5; have Lv_11 := lt_up Lv_10 h5; have Ko_11 := row_up Ko_10 Lo_10 h5; have Lo_11 := lt_up Lo_10 h5; have Kc_11 := row_up Kc_10 Lc_10 h5; have Lc_11 := lt_up Lc_10 h5; have HD_11 := hH (HD_10.out.later h5); have Kd_11 := hH h1; have Ld_11 : Hid (w10.heap.size < w11.heap.size) := hH (by have := h2.size; simp only [World.size_alloc] at this; omega); clear h1 h2 h5) | ((with_reducible refine atC w9 ?_); go_at_call 38; go_must (refine (HP.out w9).mono ?_; rintro e w10 ⟨rfl, h5⟩; have HB_10 : Hid (Below W.heap.size W w10) := hH (blThen HB_9.out h5); have Kb_10 := row_up Kb_9 Lb_9 h5; have Lb_10 := lt_up Lb_9 h5; have Kv_10 := row_up Kv_9 Lv_9 h5; have Lv_10 := lt_up Lv_9 h5; have Ko_10 := row_up Ko_9 Lo_9 h5; have Lo_10 := lt_up Lo_9 h5; have Kc_10 := row_up Kc_9 Lc_9 h5; have Lc_10 := lt_up Lc_9 h5; have HD_10 := hH (HD_9.out.later h5); clear h5)) | ((with_reducible refine atW w9 ?_); refine wpList_load_part _ _ rfl (by rfl) _ 0 rfl Kb_9.out Tryz.underlying23 rfl #[.int .i64 b1, .int .i64 b2] (by kernel_rfl) (two_at rfl rfl) ?_) | ((with_reducible refine atW w9 ?_); refine load9 _ rfl (by rfl) _ rfl Kc_9.out rfl ?_) | ((with_reducible refine atC w8 ?_); go_at_call 32; go_must (refine (S1.less_any b1 b2 a1 a2 w8).mono ?_; rw [HL.out]; rintro e w9 ⟨rfl, h5⟩; have h5 := below_grow (Below.refl _ _) h5; have HB_9 : Hid (Below W.heap.size W w9) := hH (blThen HB_8.out h5); have Kb_9 := row_up Kb_8 Lb_8 h5; have Lb_9 := lt_up Lb_8 h5; have Kv_9 := row_up Kv_8 Lv_8 h5; have Lv_9 := lt_up Lv_8 h5; have Ko_9 := row_up Ko_8 Lo_8 h5; have Lo_9 := lt_up Lo_8 h5; have Kc_9 := row_up Kc_8 Lc_8 h5; have Lc_9 := lt_up Lc_8 h5; have HD_9 := hH (HD_8.out.later h5); clear h5)) | ((with_reducible refine atW w8 ?_); refine wpList_load_part _ _ rfl (by rfl) _ 0 rfl Ka_8.out Tryz.underlying23 rfl #[.int .i64 a1, .int .i64 a2] (by kernel_rfl) (two_at rfl rfl) ?_) | ((with_reducible refine atW w8 ?_); refine wpList_load_part _ _ rfl (by rfl) _ 0 rfl Kb_8.out Tryz.underlying23 rfl #[.int .i64 b1, .int .i64 b2] (by kernel_rfl) (two_at rfl rfl) ?_) | ((with_reducible refine atW w8 ?_); refine wpList_load_part _ _ rfl (by rfl) _ 0 rfl Ka_8.out Tryz.underlying23 rfl #[.int .i64 a1, .int .i64 a2] (by kernel_rfl) (two_at rfl rfl) ?_) | ((with_reducible refine atW w8 ?_); refine wpList_load_part _ _ rfl (by rfl) _ 4 rfl Kc_8.out Tryz.underlying23 rfl #[.int .i64 a1, .int .i64 a2] (by kernel_rfl) (two_at rfl rfl) ?_))
          go_ret
          exact ⟨rfl, HB_17.out⟩
         ·have HP : Hid (∀ Y : World, Calls Tryz.prog 38 #[.agg (r22 i1 i2 (.slice none 0 0) 0 a1 a2 0 0 false (.slice none 0 0) 0 0 false 0 0 false 0 0 (.slice none 0 0) false (.slice none 0 0) (.slice none 0 0)), .agg #[.int .i64 b1, .int .i64 b2]] Y fun e w' => e = .returned (.tuple #[.agg (r22 i1 i2 (.slice none 0 0) 0 a1 a2 0 0 false (.slice none 0 0) 0 0 false 0 0 false 0 0 (.slice none 0 0) false (.slice none 0 0) (.slice none 0 0)), .bool false]) ∧ Below Y.heap.size Y w') := hH (fun Y => by have h := promise_any (cB (i1, i2) (a1, a2)) nilL (b1, b2) Y (at_nil9 Y _ rfl rfl rfl rfl rfl); rw [bal_pro0 hl, bal_no hl] at h; exact h)
          have HBI : Hid (∀ Y : World, Calls Tryz.prog 39 #[.agg (r22 i1 i2 (.slice none 0 0) 0 a1 a2 0 0 false (.slice none 0 0) 0 0 false 0 0 false 0 0 (.slice none 0 0) false (.slice none 0 0) (.slice none 0 0)), .agg #[.int .i64 b1, .int .i64 b2], .agg #[.int .i64 o1, .int .i64 o2]] Y fun e w' => e = .returned (.tuple #[.agg (r22 i1 i2 (.slice none 0 0) 0 a1 a2 0 0 false (.slice none 0 0) 0 0 false 0 0 false 0 0 (.slice none 0 0) false (.slice none 0 0) (.slice none 0 0)), .bool false]) ∧ Below Y.heap.size Y w') := hH (fun Y => by have h := bind_any (cB (i1, i2) (a1, a2)) nilL (b1, b2) (o1, o2) Y (at_nil9 Y _ rfl rfl rfl rfl rfl); rw [bal_bin0 hl, bal_no hl] at h; exact h)
          have HAC : Hid (∀ Y : World, SD.Dl Y da F → Calls Tryz.prog 40 #[.agg (r22 i1 i2 (.slice none 0 0) 0 a1 a2 0 0 false (.slice none 0 0) 0 0 false 0 0 false 0 0 (.slice none 0 0) false (.slice none 0 0) (.slice none 0 0)), .agg #[.int .i64 b1, .int .i64 b2], .agg #[.bool g, .int .i64 t1, .int .i64 t2, .slice da F.length dc]] Y fun e w' => e = .returned (.tuple #[.agg (r22 i1 i2 (.slice none 0 0) 0 a1 a2 0 0 false (.slice none 0 0) 0 0 false 0 0 false 0 0 (.slice none 0 0) false (.slice none 0 0) (.slice none 0 0)), .bool false]) ∧ Below Y.heap.size Y w') := hH (fun Y hD => by have h := accept_any (cB (i1, i2) (a1, a2)) nilL (b1, b2) (g, (t1, t2), SD.toD F) (.slice da F.length dc) Y (at_nil9 Y _ rfl rfl rfl rfl rfl) ⟨da, dc, F, rfl, hD, rfl, HDN.out⟩; rw [bal_acc0 hl, bal_no hl] at h; rw [if_neg (by decide)] at h; exact h)
          have HL := hH hl
          clear hl
          go_wp2_with (first | go_skip | ((with_reducible refine atC w18 ?_); go_at_call 14; go_must (refine (live9_any w18).mono ?_; rintro e w19 ⟨rfl, h5⟩; have HB_19 : Hid (Below W.heap.size W w19) := hH (blThen HB_18.out h5); clear h5)) | ((with_reducible refine atC w17 ?_); go_at_call 20; go_must (refine (rsame9_any (cB (i1, i2) (a1, a2)) nilL nilL w17 (at_nil9 w17 _ rfl rfl rfl rfl rfl) (at_nil9 w17 _ rfl rfl rfl rfl rfl) (few_cB _ _)).mono ?_; rintro e w18 ⟨rfl, h5⟩; have HB_18 : Hid (Below W.heap.size W w18) := hH (blThen HB_17.out h5); clear h5)) | ((with_reducible refine atW w17 ?_); refine load9 _ rfl (by rfl) _ rfl Kc_17.out rfl ?_) | ((with_reducible refine atW w17 ?_); refine load9 _ rfl (by rfl) _ rfl Kf_17.out rfl ?_) | ((with_reducible refine atC w16 ?_); go_at_call 20; go_must (refine (rsame9_any (cB (i1, i2) (a1, a2)) nilL nilL w16 (at_nil9 w16 _ rfl rfl rfl rfl rfl) (at_nil9 w16 _ rfl rfl rfl rfl rfl) (few_cB _ _)).mono ?_; rintro e w17 ⟨rfl, h5⟩; have HB_17 : Hid (Below W.heap.size W w17) := hH (blThen HB_16.out h5); have Kc_17 := row_up Kc_16 Lc_16 h5; have Kf_17 := row_up Kf_16 Lf_16 h5; clear h5)) | ((with_reducible refine atW w16 ?_); refine load9 _ rfl (by rfl) _ rfl Kc_16.out rfl ?_) | ((with_reducible refine atW w16 ?_); refine load9 _ rfl (by rfl) _ rfl Ke_16.out rfl ?_) | ((with_reducible refine atC w15 ?_); go_at_call 20; go_must (refine (rsame9_any (cB (i1, i2) (a1, a2)) nilL nilL w15 (at_nil9 w15 _ rfl rfl rfl rfl rfl) (at_nil9 w15 _ rfl rfl rfl rfl rfl) (few_cB _ _)).mono ?_; rintro e w16 ⟨rfl, h5⟩; have HB_16 : Hid (Below W.heap.size W w16) := hH (blThen HB_15.out h5); have Kc_16 := row_up Kc_15 Lc_15 h5; have Lc_16 := lt_up Lc_15 h5; have Ke_16 := row_up Ke_15 Le_15 h5; have Kf_16 := row_up Kf_15 Lf_15 h5; have Lf_16 := lt_up Lf_15 h5; clear h5)) | ((with_reducible refine atW w15 ?_); refine load9 _ rfl (by rfl) _ rfl Kc_15.out rfl ?_) | ((with_reducible refine atW w15 ?_); refine load9 _ rfl (by rfl) _ rfl Kd_15.out rfl ?_) | ((with_reducible refine atW (w14.alloc (.cells z22 31)) ?_); refine store9 _ _ rfl (by rfl) _ rfl rfl (new_blockC w14 z22 31) rfl rfl (by simp [Value.oneCell']) ?_; intro w15 h1 h2; have h5 := below_grown9 (blAlloc (Below.refl _ _) _) h2 (Nat.le_refl _); have HB_15 : Hid (Below W.heap.size W w15) := hH (blThen HB_14.out h5); have Kb_15 := row_up Kb_14 Lb_14 h5; have Kv_15 := row_up Kv_14 Lv_14 h5; have Ko_15 := row_up Ko_14 Lo_14 h5; have Kc_15 := row_up Kc_14 Lc_14 h5; have Lc_15 := lt_up Lc_14 h5; have Kd_15 := row_up Kd_14 Ld_14 h5; have Ke_15 := row_up Ke_14 Le_14 h5; have Le_15 := lt_up Le_14 h5; have HD_15 := hH (HD_14.out.later h5); have Kf_15 := hH h1; have Lf_15 : Hid (w14.heap.size < w15.heap.size) := hH (by have := h2.size; simp only [World.size_alloc] at this; omega); clear h1 h2 h5) | ((with_reducible refine atC w13 ?_); go_at_call 40; go_must (refine (HAC.out w13 HD_13.out).mono ?_; rintro e w14 ⟨rfl, h5⟩; have HB_14 : Hid (Below W.heap.size W w14) := hH (blThen HB_13.out h5); have Kb_14 := row_up Kb_13 Lb_13 h5; have Lb_14 := lt_up Lb_13 h5; have Kv_14 := row_up Kv_13 Lv_13 h5; have Lv_14 := lt_up Lv_13 h5; have Ko_14 := row_up Ko_13 Lo_13 h5; have Lo_14 := lt_up Lo_13 h5; have Kc_14 := row_up Kc_13 Lc_13 h5; have Lc_14 := lt_up Lc_13 h5; have Kd_14 := row_up Kd_13 Ld_13 h5; have Ld_14 := lt_up Ld_13 h5; have Ke_14 := row_up Ke_13 Le_13 h5; have Le_14 := lt_up Le_13 h5; have HD_14 := hH (HD_13.out.later h5); clear h5)) | ((with_reducible refine atW w13 ?_); refine wpList_load_part _ _ rfl (by rfl) _ 0 rfl Kv_13.out Tryz.underlying27 rfl #[.bool g, .int .i64 t1, .int .i64 t2, .slice da F.length dc] (by kernel_rfl) (four_at rfl rfl rfl rfl) ?_) | ((with_reducible refine atW w13 ?_); refine wpList_load_part _ _ rfl (by rfl) _ 0 rfl Kb_13.out Tryz.underlying23 rfl #[.int .i64 b1, .int .i64 b2] (by kernel_rfl) (two_at rfl rfl) ?_) | ((with_reducible refine atW w13 ?_); refine load9 _ rfl (by rfl) _ rfl Kc_13.out rfl ?_) | ((with_reducible refine atW (w12.alloc (.cells z22 31)) ?_); refine store9 _ _ rfl (by rfl) _ rfl rfl (new_blockC w12 z22 31) rfl rfl (by simp [Value.oneCell']) ?_; intro w13 h1 h2; have h5 := below_grown9 (blAlloc (Below.refl _ _) _) h2 (Nat.le_refl _); have HB_13 : Hid (Below W.heap.size W w13) := hH (blThen HB_12.out h5); have Kb_13 := row_up Kb_12 Lb_12 h5; have Lb_13 := lt_up Lb_12 h5; have Kv_13 := row_up Kv_12 Lv_12 h5; have Lv_13 := lt_up Lv_12 h5; have Ko_13 := row_up Ko_12 Lo_12 h5; have Lo_13 := lt_up Lo_12 h5; have Kc_13 := row_up Kc_12 Lc_12 h5; have Lc_13 := lt_up Lc_12 h5; have Kd_13 := row_up Kd_12 Ld_12 h5; have Ld_13 := lt_up Ld_12 h5; have HD_13 := hH (HD_12.out.later h5); have Ke_13 := hH h1; have Le_13 : Hid (w12.heap.size < w13.heap.size) := hH (by have := h2.size; simp only [World.size_alloc] at this; omega); clear h1 h2 h5) | ((with_reducible refine atC w11 ?_); go_at_call 39; go_must (refine (HBI.out w11).mono ?_; rintro e w12 ⟨rfl, h5⟩; have HB_12 : Hid (Below W.heap.size W w12) := hH (blThen HB_11.out h5); have Kb_12 := row_up Kb_11 Lb_11 h5; have Lb_12 := lt_up Lb_11 h5; have Kv_12 := row_up Kv_11 Lv_11 h5; have Lv_12 := lt_up Lv_11 h5; have Ko_12 := row_up Ko_11 Lo_11 h5; have Lo_12 := lt_up Lo_11 h5; have Kc_12 := row_up Kc_11 Lc_11 h5; have Lc_12 := lt_up Lc_11 h5; have Kd_12 := row_up Kd_11 Ld_11 h5; have Ld_12 := lt_up Ld_11 h5; have HD_12 := hH (HD_11.out.later h5); clear h5)) | ((with_reducible refine atW w11 ?_); refine wpList_load_part _ _ rfl (by rfl) _ 0 rfl Ko_11.out Tryz.underlying23 rfl #[.int .i64 o1, .int .i64 o2] (by kernel_rfl) (two_at rfl rfl) ?_) | ((with_reducible refine atW w11 ?_); refine wpList_load_part _ _ rfl (by rfl) _ 0 rfl Kb_11.out Tryz.underlying23 rfl #[.int .i64 b1, .int .i64 b2] (by kernel_rfl) (two_at rfl rfl) ?_) | ((with_reducible refine atW w11 ?_); refine load9 _ rfl (by rfl) _ rfl Kc_11.out rfl ?_) | ((with_reducible refine atW (w10.alloc (.cells z22 31)) ?_); refine store9 _ _ rfl (by rfl) _ rfl rfl (new_blockC w10 z22 31) rfl rfl (by simp [Value.oneCell']) ?_; intro w11 h1 h2; have h5 := below_grown9 (blAlloc (Below.refl _ _) _) h2 (Nat.le_refl _); have HB_11 : Hid (Below W.heap.size W w11) := hH (blThen HB_10.out h5); have Kb_11 := row_up Kb_10 Lb_10 h5; have Lb_11 := lt_up Lb_10 h5; have Kv_11 := row_up Kv_10 Lv_10 h5; have Lv_11 := lt_up Lv_10 h5; have Ko_11 := row_up Ko_10 Lo_10 h5; have Lo_11 := lt_up Lo_10 h5; have Kc_11 := row_up Kc_10 Lc_10 h5; have Lc_11 := lt_up Lc_10 h5; have HD_11 := hH (HD_10.out.later h5); have Kd_11 := hH h1; have Ld_11 : Hid (w10.heap.size < w11.heap.size) := hH (by have := h2.size; simp only [World.size_alloc] at this; omega); clear h1 h2 h5) | ((with_reducible refine atC w9 ?_); go_at_call 38; go_must (refine (HP.out w9).mono ?_; rintro e w10 ⟨rfl, h5⟩; have HB_10 : Hid (Below W.heap.size W w10) := hH (blThen HB_9.out h5); have Kb_10 := row_up Kb_9 Lb_9 h5; have Lb_10 := lt_up Lb_9 h5; have Kv_10 := row_up Kv_9 Lv_9 h5; have Lv_10 := lt_up Lv_9 h5; have Ko_10 := row_up Ko_9 Lo_9 h5; have Lo_10 := lt_up Lo_9 h5; have Kc_10 := row_up Kc_9 Lc_9 h5; have Lc_10 := lt_up Lc_9 h5; have HD_10 := hH (HD_9.out.later h5); clear h5)) | ((with_reducible refine atW w9 ?_); refine wpList_load_part _ _ rfl (by rfl) _ 0 rfl Kb_9.out Tryz.underlying23 rfl #[.int .i64 b1, .int .i64 b2] (by kernel_rfl) (two_at rfl rfl) ?_) | ((with_reducible refine atW w9 ?_); refine load9 _ rfl (by rfl) _ rfl Kc_9.out rfl ?_) | ((with_reducible refine atC w8 ?_); go_at_call 32; go_must (refine (S1.less_any b1 b2 a1 a2 w8).mono ?_; rw [HL.out]; rintro e w9 ⟨rfl, h5⟩; have h5 := below_grow (Below.refl _ _) h5; have HB_9 : Hid (Below W.heap.size W w9) := hH (blThen HB_8.out h5); have Kb_9 := row_up Kb_8 Lb_8 h5; have Lb_9 := lt_up Lb_8 h5; have Kv_9 := row_up Kv_8 Lv_8 h5; have Lv_9 := lt_up Lv_8 h5; have Ko_9 := row_up Ko_8 Lo_8 h5; have Lo_9 := lt_up Lo_8 h5; have Kc_9 := row_up Kc_8 Lc_8 h5; have Lc_9 := lt_up Lc_8 h5; have HD_9 := hH (HD_8.out.later h5); clear h5)) | ((with_reducible refine atW w8 ?_); refine wpList_load_part _ _ rfl (by rfl) _ 0 rfl Ka_8.out Tryz.underlying23 rfl #[.int .i64 a1, .int .i64 a2] (by kernel_rfl) (two_at rfl rfl) ?_) | ((with_reducible refine atW w8 ?_); refine wpList_load_part _ _ rfl (by rfl) _ 0 rfl Kb_8.out Tryz.underlying23 rfl #[.int .i64 b1, .int .i64 b2] (by kernel_rfl) (two_at rfl rfl) ?_) | ((with_reducible refine atW w8 ?_); refine wpList_load_part _ _ rfl (by rfl) _ 0 rfl Ka_8.out Tryz.underlying23 rfl #[.int .i64 a1, .int .i64 a2] (by kernel_rfl) (two_at rfl rfl) ?_) | ((with_reducible refine atW w8 ?_); refine wpList_load_part _ _ rfl (by rfl) _ 4 rfl Kc_8.out Tryz.underlying23 rfl #[.int .i64 a1, .int .i64 a2] (by kernel_rfl) (two_at rfl rfl) ?_))
          go_ret
          exact ⟨rfl, HB_19.out⟩
      ·go_wp2_with (first | go_skip | ((with_reducible refine atC w6 ?_); go_at_call 14; go_must (refine (live9_any w6).mono ?_; rintro e w7 ⟨rfl, h5⟩; have HB_7 : Hid (Below W.heap.size W w7) := hH (blThen HB_6.out h5); have Ki_7 := row_up Ki_6 Li_6 h5; have Li_7 := lt_up Li_6 h5; have Ka_7 := row_up Ka_6 La_6 h5; have La_7 := lt_up La_6 h5; have Kb_7 := row_up Kb_6 Lb_6 h5; have Lb_7 := lt_up Lb_6 h5; have Kv_7 := row_up Kv_6 Lv_6 h5; have Lv_7 := lt_up Lv_6 h5; have Ko_7 := row_up Ko_6 Lo_6 h5; have Lo_7 := lt_up Lo_6 h5; have HD_7 := hH (HD_6.out.later h5); clear h5)) | ((with_reducible refine atC w5 ?_); go_at_call 32; go_must (refine (S1.less_any o1 o2 i1 i2 w5).mono ?_; rw [hc]; rintro e w6 ⟨rfl, h5⟩; have h5 := below_grow (Below.refl _ _) h5; have HB_6 : Hid (Below W.heap.size W w6) := hH (blThen HB_5.out h5); have Ki_6 := row_up Ki_5 Li_5 h5; have Li_6 := lt_up Li_5 h5; have Ka_6 := row_up Ka_5 La_5 h5; have La_6 := lt_up La_5 h5; have Kb_6 := row_up Kb_5 Lb_5 h5; have Lb_6 := lt_up Lb_5 h5; have Kv_6 := row_up Kv_5 Lv_5 h5; have Lv_6 := lt_up Lv_5 h5; have Ko_6 := row_up Ko_5 Lo_5 h5; have Lo_6 := lt_up Lo_5 h5; have HD_6 := hH (HD_5.out.later h5); clear h5)))
       go_ret
       exact ⟨rfl, HB_7.out⟩

theorem cmdBallots_lifted (os : Os) (started : os.Started) (H : Type) (enc : TypeId × Value → H) :
  ReturnsInHanded {} Tryz.checked os 6 .any (Rows.cmdBallotsSpec.pre6 enc Tryz.prog Tryz.f6 Rows.cmdBallotsRow.domain false) (Rows.cmdBallotsSpec.post enc Tryz.prog Tryz.f6 false true false false) := by
 refine law_lift_sized (C := Tryz.checked) own0 started (by kernel_rfl) Tryz.func6 laid0 rfl (by kernel_rfl) (fun _ _ _ _ => trodAll_mk1 (shut_bool Tryz.underlying4 true)) (fun ds h => match ds, h with | [_, _, _, _, _], _ => ⟨rfl, rfl, rfl⟩)
  (ChangeSpec.witness6 (enc := enc) (C := Tryz.checked) false ⟨#[], #[.agg #[.int .i64 0, .int .i64 0], .agg #[.int .i64 0, .int .i64 0], .agg #[.int .i64 0, .int .i64 0], .agg #[.bool false, .int .i64 0, .int .i64 0, .slice none 0 0], .agg #[.int .i64 0, .int .i64 0]], []⟩ 8 (by kernel_rfl) (by kernel_rfl) (by kernel_rfl) (by kernel_rfl)) ?_
 intro W base args ds before hval0 hA0 hlt hsz
 have hval : ∀ (j : Nat) t v, Tryz.f6.params[j]? = some t → args[j]? = some v → Value.okWide Tryz.prog W .any base t v := hval0
 have hA : DataW.TrodAll enc Tryz.prog W 0 (fun _ => true) true Tryz.f6.params.toList args.toList ds before := hA0
 rw [Tryz.params6] at hA hval
 obtain ⟨v0, v1, v2, v3, v4, d0, d1, d2, d3, d4, p0, p1, p2, p3, p4, rfl, rfl, rfl, h0, h1, h2, h3, h4⟩ := trodAll_five9 hA
 obtain ⟨i1, i2, rfl, _, _⟩ := S1.open_stamp (hval 0 23 v0 rfl rfl) h0
 obtain ⟨a1, a2, rfl, _, _⟩ := S1.open_stamp (hval 1 23 v1 rfl rfl) h1
 obtain ⟨b1, b2, rfl, _, _⟩ := S1.open_stamp (hval 2 23 v2 rfl rfl) h2
 obtain ⟨g, t1, t2, da, F, dc, rfl, hl, hm, hdn, hwf, hr⟩ := open_value9 (hval 3 27 v3 rfl rfl) h3
 obtain ⟨o1, o2, rfl, _, _⟩ := S1.open_stamp (hval 4 23 v4 rfl rfl) h4
 exact cmdBallots_walk (i1, i2) (a1, a2) (b1, b2) (o1, o2) g (t1, t2) da dc F W hm (hr _ _ 3 hsz (by kernel_rfl) rfl) hl hdn
theorem cmdBallots_f_inPlace : (Rows.cmdBallotsRow.inPlace == Tryz.prog.inPlace 6) = true := by kernel_rfl
theorem cmdBallots_f_unfollowed : (Rows.cmdBallotsRow.unfollowed == Tryz.prog.unfollowed 6) = true := by kernel_rfl
theorem cmdBallots_f_recurses : (Rows.cmdBallotsRow.recurses == Tryz.prog.recurses 6) = true := by kernel_rfl
theorem cmdBallots_f_named : (Rows.cmdBallotsRow.named == Tryz.prog.varsNamed 6) = true := by kernel_rfl
theorem cmdBallots_laid : laidOutB Tryz.prog = true := by kernel_rfl
theorem cmdBallots_rowed : mapsRowed Tryz.prog = true := by kernel_rfl
theorem cmdBallots_closed : joinedFacts Tryz.prog 6 Tryz.f6 Rows.cmdBallotsSpec Rows.cmdBallotsRow = true := by
 unfold joinedFacts
 rw [cmdBallots_laid, cmdBallots_rowed, cmdBallots_f_inPlace, cmdBallots_f_unfollowed, cmdBallots_f_recurses, cmdBallots_f_named]
 kernel_rfl
theorem cmdBallots_holds : Rows.CmdBallotsSaid :=
 OpenClaim.holds_of_wide 6 Tryz.f6 rfl rfl rfl rfl rfl rfl rfl ⟨rfl, rfl, rfl, rfl, rfl⟩ rfl rfl rfl rfl rfl (by kernel_rfl) Tryz.func6 cmdBallots_closed
  (of_decide_eq_true (by kernel_rfl)) (by unfold Func.isWrapper; rw [if_neg (of_decide_eq_false (by kernel_rfl))]; exact ⟨rfl, rfl⟩)
  (fun os started H enc _ => cmdBallots_lifted os started H enc)
#print axioms cmdBallots_holds
end SC
end Go.Proofs.YtmpbpeelankihaaGreat
