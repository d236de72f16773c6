/- live of stage 12. Conditions: none. -/
import Derived.Test.YtpdfcojcmhadnaaGreatMg51
set_option maxRecDepth 100000
set_option maxHeartbeats 16000000
set_option linter.unusedVariables false
set_option linter.unusedSimpArgs false
namespace Go.Proofs.YtpdfcojcmhadnaaGreat
open S3 SC SN SP
namespace SB
open Go.ChangeShapes Go.WideShapes Go.ChangeAt Go.RowKit Go.Joins Go.Deep
theorem box5B (W : World) (a b c d f : Obj) : ∃ w0 : World, w0 = ((((W.alloc a).alloc b).alloc c).alloc d).alloc f ∧ Hid (w0.heap[W.heap.size]? = some a) ∧ Hid (w0.heap[W.heap.size + 1]? = some b) ∧ Hid (w0.heap[W.heap.size + 1 + 1]? = some c) ∧ Hid (w0.heap[W.heap.size + 1 + 1 + 1]? = some d) ∧ Hid (w0.heap[W.heap.size + 1 + 1 + 1 + 1]? = some f) ∧ Hid (Below W.heap.size W w0) :=
 ⟨_, rfl, (nth_boxB W [a, b, c, d, f] 0 a rfl).1, (nth_boxB W [a, b, c, d, f] 1 b rfl).1, (nth_boxB W [a, b, c, d, f] 2 c rfl).1, (nth_boxB W [a, b, c, d, f] 3 d rfl).1, (nth_boxB W [a, b, c, d, f] 4 f rfl).1, blAlloc (blAlloc (blAlloc (blAlloc (blAlloc (Below.refl _ _) _) _) _) _) _⟩
theorem live12_any (W : World) : Calls Tryz.prog 7 #[] W fun e w' => e = .returned (.bool true) ∧ Below W.heap.size W w' := by
 obtain ⟨w0, he0, K0, K1, K2, K3, K4, HB0⟩ := box5B W (.cells #[.int .i64 1, .int .i64 2, .int .i64 3] 3) (.cells #[.string ⟨#[]⟩, .string ⟨#[]⟩, .slice (some ⟨W.heap.size, 0, none⟩) 3 3] 59) (.cells #[.int .i64 3, .int .i64 1] 24) (.cells #[.int .i64 9, .int .i64 2] 24) (.cells #[.int .i64 1, .slice none 0 0, .int .i64 3, .int .i64 1, .bool true, .slice none 0 0, .bool false, .int .i64 0, .int .i64 0, .bool false, .int .i64 0, .int .i64 0, .slice none 0 0, .int .i64 2, .slice none 0 0, .int .i64 3, .int .i64 1, .bool true, .slice none 0 0, .bool false, .int .i64 0, .int .i64 0, .bool false, .int .i64 0, .int .i64 0, .slice none 0 0] 40)
 have HT := Lib.hid (sh_hl K0.out K1.out)
 have HX := Lib.hid (list_GB eT xB K4.out rfl 2 rfl)
 have L2 := Lib.hid (lt_of_block K2.out)
 have L3 := Lib.hid (lt_of_block K3.out)
 go_enter Tryz.func7, Tryz.ntmps7
 go_upto_region 5 with fail
 rw [← he0]
 clear he0 K0 K1 K4
 have HP : Hid (S4.Il (w0.alloc (.cells #[.int .i64 0] 3)) (some ⟨w0.heap.size, 0, none⟩) 1 [0]) := Lib.hid (S4.one_newI _ _ _ rfl)
 have HF : Hid (Calls Tryz.prog 11 #[.slice (some ⟨W.heap.size + 1, 0, none⟩) 1 1, .agg #[.int .i64 3, .int .i64 1], .slice (some ⟨w0.heap.size, 0, none⟩) 1 1, .slice (some ⟨W.heap.size + 1 + 1 + 1 + 1, 0, none⟩) 2 2] (w0.alloc (.cells #[.int .i64 0] 3)) (RetF (w0.alloc (.cells #[.int .i64 0] 3)) 3 1 true)) := by
  have h := fast_any 3 1 (some ⟨W.heap.size + 1, 0, none⟩) 1 (shB W.heap.size) (some ⟨w0.heap.size, 0, none⟩) 1 [0] (.slice (some ⟨W.heap.size + 1 + 1 + 1 + 1, 0, none⟩) 2 2) xB (w0.alloc (.cells #[.int .i64 0] 3)) (by decide) (HX.out.later (blAlloc (Below.refl _ _) _)) (by show (1 : Nat) ≤ 1000; decide) (sh_n5 _) (HT.out.later (blAlloc (Below.refl _ _) _)) (by decide) HP.out
  rw [live_fast] at h
  exact h
 clear HP
 go_upto_region 6 with (first
  | go_skip
  | ((with_reducible refine atW w0 ?_); refine wpList_load_part _ _ rfl (by rfl) _ 0 rfl K2.out Tryz.underlying24 rfl #[.int .i64 3, .int .i64 1] (by kernel_rfl) (two_at rfl rfl) ?_)
  | (go_at_call 11; go_must (refine HF.out.mono ?_; rintro e w1 ⟨fa, fn, fc, he, h⟩; subst he; simp only [if_true, reduceIte]; have hq : Below w0.heap.size w0 w1 := blThen (blAlloc (Below.refl _ _) _) h; have K2 := row_upB K2 L2 hq; have K3 := row_upB K3 L3 hq; have L2 := lt_upB L2 hq; have L3 := lt_upB L3 hq; have HT := Lib.hid (HT.out.later hq); have HX := Lib.hid (HX.out.later hq); have HB1 := Lib.hid (blThen HB0.out hq); clear h hq)))
 have HD : Hid (∃ wD : World, wD = w1.alloc (.cells #[.bool false, .int .i64 3, .int .i64 1, .slice fa fn fc] 38)) := Lib.hid ⟨_, rfl⟩
 obtain ⟨wD, heD⟩ := HD.out
 rw [← heD]
 have hq : Below w1.heap.size w1 wD := by rw [heD]; exact blAlloc (Below.refl _ _) _
 have K5 : Hid (wD.heap[w1.heap.size]? = some (.cells #[.bool false, .int .i64 3, .int .i64 1, .slice fa fn fc] 38 (0, 0))) := by
  have h := new_blockB w1 #[.bool false, .int .i64 3, .int .i64 1, .slice fa fn fc] 38
  rw [← heD] at h
  exact h
 have L5 := Lib.hid (lt_of_block K5.out)
 have K2D := row_upB K2 L2 hq
 have K3D := row_upB K3 L3 hq
 have L2D := lt_upB L2 hq
 have L3D := lt_upB L3 hq
 have HTD := Lib.hid (HT.out.later hq)
 have HXD := Lib.hid (HX.out.later hq)
 have HBD := Lib.hid (blThen HB1.out hq)
 clear heD hq HD K2 K3 L2 L3 HT HX HF HB1 HB0
 generalize w1.heap.size = b5 at *
 have k3a := cell_rowB K3D.out 0 _ rfl
 have k3b := cell_rowB K3D.out 1 _ rfl
 have l3 := L3D.out
 go_cut [7] from 29 to 35 (fun s7 wx => ∃ av cv, s7 = .slice av 3 cv ∧ SlG eT wx (.slice av 3 cv) (xB ++ [lateB]) ∧ Below wD.heap.size wD wx)
 case first =>
  go_region_law (first
   | ((refine step_GB 35 _ 152 info_T Tryz.underlying35 rfl (by decide) rfl (.tmp 29) (.tmp 30) rfl wD.heap.size (v := .slice (some ⟨wD.heap.size, 0, none⟩) 0 0) (d := []) rfl (own_emptyG wD.drew _ _ wD.heap.size rfl (Nat.le_refl _)) (xv := .slice (some ⟨W.heap.size + 1 + 1 + 1 + 1, 0, none⟩) 2 2) (l := xB) rfl (HXD.out.later (by repeat (first | with_reducible exact Below.refl _ _ | with_reducible refine blAlloc ?_ _ | with_reducible refine Below.drew ?_))) (by decide) (by (try simp only [World.size_alloc, World.size_drew]); omega) ?_); intro v1 w8 h1 h2; obtain ⟨a8, c8, rfl⟩ := h1.form; have HO8 : Hid (OwnG eT 40 w8 wD.heap.size (.slice a8 2 c8) xB) := Lib.hid h1; have HB8 : Hid (Below wD.heap.size wD w8) := Lib.hid (Below.grown (show Below wD.heap.size wD _ by repeat (first | with_reducible exact Below.refl _ _ | with_reducible refine blAlloc ?_ _ | with_reducible refine Below.drew ?_)) h2 (by (try simp only [World.size_alloc, World.size_drew]); omega) (fun j hj => by simp [Value.ownBlock] at hj; omega)); have k3a8 := cell_in HB8.out l3 k3a; have k3b8 := cell_in HB8.out l3 k3b; have l38 := Nat.lt_of_lt_of_le l3 HB8.out.size; clear h1 h2)
   | ((refine step_GB 35 _ 152 info_T Tryz.underlying35 rfl (by decide) rfl (.tmp 29) (.tmp 30) rfl wD.heap.size (v := .slice (some ⟨wD.heap.size, 0, none⟩) 0 0) (d := []) rfl ((own_emptyG wD.drew _ _ wD.heap.size rfl (Nat.le_refl _)).later (blAlloc (Below.refl _ _) _)) (xv := .slice (some ⟨W.heap.size + 1 + 1 + 1 + 1, 0, none⟩) 2 2) (l := xB) rfl (HXD.out.later (by repeat (first | with_reducible exact Below.refl _ _ | with_reducible refine blAlloc ?_ _ | with_reducible refine Below.drew ?_))) (by decide) (by (try simp only [World.size_alloc, World.size_drew]); omega) ?_); intro v1 w8 h1 h2; obtain ⟨a8, c8, rfl⟩ := h1.form; have HO8 : Hid (OwnG eT 40 w8 wD.heap.size (.slice a8 2 c8) xB) := Lib.hid h1; have HB8 : Hid (Below wD.heap.size wD w8) := Lib.hid (Below.grown (show Below wD.heap.size wD _ by repeat (first | with_reducible exact Below.refl _ _ | with_reducible refine blAlloc ?_ _ | with_reducible refine Below.drew ?_)) h2 (by (try simp only [World.size_alloc, World.size_drew]); omega) (fun j hj => by simp [Value.ownBlock] at hj; omega)); have k3a8 := cell_in HB8.out l3 k3a; have k3b8 := cell_in HB8.out l3 k3b; have l38 := Nat.lt_of_lt_of_le l3 HB8.out.size; have q8 : Hid (w8.heap[wD.heap.size + 1]? = some (.cells #[.int .i64 3, .slice none 0 0, .int .i64 9, .int .i64 2, .bool true, .slice none 0 0, .bool false, .int .i64 0, .int .i64 0, .bool false, .int .i64 0, .int .i64 0, .slice none 0 0] 40)) := Lib.hid ((h2.block (wD.heap.size + 1) (by simp) (by simp [Value.ownBlock])).trans (nth_boxB wD.drew [(.cells #[] 40), (.cells #[.int .i64 3, .slice none 0 0, .int .i64 9, .int .i64 2, .bool true, .slice none 0 0, .bool false, .int .i64 0, .int .i64 0, .bool false, .int .i64 0, .int .i64 0, .slice none 0 0] 40)] 1 _ rfl).1); clear h1 h2)
   | ((refine step_GB 35 _ 152 info_T Tryz.underlying35 rfl (by decide) rfl (.tmp 29) (.tmp 30) rfl wD.heap.size (v := .slice (some ⟨wD.heap.size + 1, 0, none⟩) 0 0) (d := []) rfl (own_emptyG (wD.drew.alloc (.cells #[.int .i64 3, .slice none 0 0, .int .i64 9, .int .i64 2, .bool true, .slice none 0 0, .bool false, .int .i64 0, .int .i64 0, .bool false, .int .i64 0, .int .i64 0, .slice none 0 0] 40)) _ _ wD.heap.size (by simp) (by simp)) (xv := .slice (some ⟨W.heap.size + 1 + 1 + 1 + 1, 0, none⟩) 2 2) (l := xB) rfl (HXD.out.later (by repeat (first | with_reducible exact Below.refl _ _ | with_reducible refine blAlloc ?_ _ | with_reducible refine Below.drew ?_))) (by decide) (by (try simp only [World.size_alloc, World.size_drew]); omega) ?_); intro v1 w8 h1 h2; obtain ⟨a8, c8, rfl⟩ := h1.form; have HO8 : Hid (OwnG eT 40 w8 wD.heap.size (.slice a8 2 c8) xB) := Lib.hid h1; have HB8 : Hid (Below wD.heap.size wD w8) := Lib.hid (Below.grown (show Below wD.heap.size wD _ by repeat (first | with_reducible exact Below.refl _ _ | with_reducible refine blAlloc ?_ _ | with_reducible refine Below.drew ?_)) h2 (by (try simp only [World.size_alloc, World.size_drew]); omega) (fun j hj => by simp [Value.ownBlock] at hj; omega)); have k3a8 := cell_in HB8.out l3 k3a; have k3b8 := cell_in HB8.out l3 k3b; have l38 := Nat.lt_of_lt_of_le l3 HB8.out.size; have q8 : Hid (w8.heap[wD.heap.size]? = some (.cells #[.int .i64 3, .slice none 0 0, .int .i64 9, .int .i64 2, .bool true, .slice none 0 0, .bool false, .int .i64 0, .int .i64 0, .bool false, .int .i64 0, .int .i64 0, .slice none 0 0] 40)) := Lib.hid ((h2.block wD.heap.size (by simp; omega) (by simp [Value.ownBlock])).trans (nth_boxB wD.drew [(.cells #[.int .i64 3, .slice none 0 0, .int .i64 9, .int .i64 2, .bool true, .slice none 0 0, .bool false, .int .i64 0, .int .i64 0, .bool false, .int .i64 0, .int .i64 0, .slice none 0 0] 40), (.cells #[] 40)] 0 _ rfl).1); clear h1 h2)
   | ((refine step_GB 35 _ 152 info_T Tryz.underlying35 rfl (by decide) rfl (.tmp 31) (.tmp 34) rfl wD.heap.size (v := .slice a8 xB.length c8) (d := xB) rfl (HO8.out.later (blAlloc (Below.refl _ _) _)) (xv := .slice (some ⟨w8.heap.size, 0, none⟩) 1 1) (l := [lateB]) rfl (one_GB w8 _ lateB _ _ rfl rfl) (by decide) (by have := HB8.out.size; (try simp only [World.size_alloc]); omega) ?_); intro v2 w9 h1 h2; obtain ⟨a9, c9, rfl⟩ := h1.form; have HO9 : Hid (OwnG eT 40 w9 wD.heap.size (.slice a9 3 c9) (xB ++ [lateB])) := Lib.hid h1;  have HB9 : Hid (Below wD.heap.size wD w9) := Lib.hid (Below.grown (show Below wD.heap.size wD _ by repeat (first | with_reducible exact HB8.out | with_reducible refine blAlloc ?_ _)) h2 (by have := HB8.out.size; (try simp only [World.size_alloc]); omega) (fun j hj => (HO8.out.block j hj).1)); clear h1 h2)
   | ((refine step_GB 35 _ 152 info_T Tryz.underlying35 rfl (by decide) rfl (.tmp 31) (.tmp 34) rfl wD.heap.size (v := .slice a8 xB.length c8) (d := xB) rfl (HO8.out) (xv := .slice (some ⟨wD.heap.size + 1, 0, none⟩) 1 1) (l := [lateB]) rfl (list_GB eT [lateB] q8.out rfl 1 rfl) (by decide) (by have := HB8.out.size; (try simp only [World.size_alloc]); omega) ?_); intro v2 w9 h1 h2; obtain ⟨a9, c9, rfl⟩ := h1.form; have HO9 : Hid (OwnG eT 40 w9 wD.heap.size (.slice a9 3 c9) (xB ++ [lateB])) := Lib.hid h1;  have HB9 : Hid (Below wD.heap.size wD w9) := Lib.hid (Below.grown (show Below wD.heap.size wD _ by repeat (first | with_reducible exact HB8.out | with_reducible refine blAlloc ?_ _)) h2 (by have := HB8.out.size; (try simp only [World.size_alloc]); omega) (fun j hj => (HO8.out.block j hj).1)); clear h1 h2)
   | ((refine step_GB 35 _ 152 info_T Tryz.underlying35 rfl (by decide) rfl (.tmp 31) (.tmp 34) rfl wD.heap.size (v := .slice a8 xB.length c8) (d := xB) rfl (HO8.out) (xv := .slice (some ⟨wD.heap.size, 0, none⟩) 1 1) (l := [lateB]) rfl (list_GB eT [lateB] q8.out rfl 1 rfl) (by decide) (by have := HB8.out.size; (try simp only [World.size_alloc]); omega) ?_); intro v2 w9 h1 h2; obtain ⟨a9, c9, rfl⟩ := h1.form; have HO9 : Hid (OwnG eT 40 w9 wD.heap.size (.slice a9 3 c9) (xB ++ [lateB])) := Lib.hid h1;  have HB9 : Hid (Below wD.heap.size wD w9) := Lib.hid (Below.grown (show Below wD.heap.size wD _ by repeat (first | with_reducible exact HB8.out | with_reducible refine blAlloc ?_ _)) h2 (by have := HB8.out.size; (try simp only [World.size_alloc]); omega) (fun j hj => (HO8.out.block j hj).1)); clear h1 h2))
  all_goals
   go_wp2_with fail
   go_meet
   exact ⟨a9, c9, rfl, HO9.out.sl, HB9.out⟩
 case rest =>
  obtain ⟨a7, c7, e7, hs7, hb7⟩ := hcut
  rename World => D
  rw [e7]
  clear e7 k3a k3b l3
  have K2 := row_upB K2D L2D hb7
  have K3 := row_upB K3D L3D hb7
  have K5 := row_upB K5 L5 hb7
  have L2 := lt_upB L2D hb7
  have L3 := lt_upB L3D hb7
  have L5 := lt_upB L5 hb7
  have HB7 := Lib.hid (blThen HBD.out hb7)
  have HT := Lib.hid (HTD.out.later hb7)
  have HX := Lib.hid (HXD.out.later hb7)
  have HY := Lib.hid hs7
  clear K2D K3D L2D L3D HBD HTD HXD hs7 hb7
  have KS : Hid (∀ Y : World, Below D.heap.size D Y → Y.heap[W.heap.size + 1 + 1]? = some (.cells #[.int .i64 3, .int .i64 1] 24 (0, 0))) := Lib.hid (fun Y hY => (hY.block _ L2.out).trans K2.out)
  have HR1 : Hid (∀ (Y : World) (gb : Nat), Below D.heap.size D Y → SlG eO Y (.slice (some ⟨gb, 0, none⟩) 1 1) [opB] → Calls Tryz.prog 12 #[.slice (some ⟨W.heap.size + 1, 0, none⟩) 1 1, .agg #[.int .i64 3, .int .i64 1], .slice (some ⟨gb, 0, none⟩) 1 1, .slice (some ⟨W.heap.size + 1 + 1 + 1 + 1, 0, none⟩) 2 2] Y fun e w' => (∃ (fa : Option Addr) (fn fc : Nat), e = .returned (.agg #[.int .i64 1, .bool false, .int .i64 3, .int .i64 1, .slice fa fn fc, .int .i64 0, .int .i64 0, .slice none 0 0])) ∧ Below Y.heap.size Y w') := Lib.hid (fun Y gb hY ho =>
   recover_fast 3 1 (some ⟨W.heap.size + 1, 0, none⟩) 1 (shB W.heap.size) _ [opB] _ xB Y (by decide) (HX.out.later hY) (by show (1 : Nat) ≤ 1000; decide) (sh_n5 _) (HT.out.later hY) (sh_full _) (by decide) (by simp) (fun o ho => by rcases List.mem_singleton.1 ho with rfl; exact opB_ok) ho (live_rec _))
  have HR2 : Hid (∀ (Y : World) (gb : Nat), Below D.heap.size D Y → SlG eO Y (.slice (some ⟨gb, 0, none⟩) 1 1) [opB] → Calls Tryz.prog 12 #[.slice (some ⟨W.heap.size + 1, 0, none⟩) 1 1, .agg #[.int .i64 3, .int .i64 1], .slice (some ⟨gb, 0, none⟩) 1 1, .slice a7 3 c7] Y fun e w' => e = .returned (.agg #[.int .i64 2, .bool false, .int .i64 0, .int .i64 0, .slice none 0 0, .int .i64 9, .int .i64 2, .slice none 0 0]) ∧ Below Y.heap.size Y w') := Lib.hid (fun Y gb hY ho => by
   have h := recover_bind 3 1 (some ⟨W.heap.size + 1, 0, none⟩) 1 (shB W.heap.size) _ [opB] _ (xB ++ [lateB]) Y (by decide) (HY.out.later hY) (by show (1 : Nat) ≤ 1000; decide) (sh_n5 _) (HT.out.later hY) (sh_full _) (by decide) (by simp) (fun o ho => by rcases List.mem_singleton.1 ho with rfl; exact opB_ok) ho (live_bind _)
   rw [live_top] at h
   exact h)
  go_upto_region 7 with fail
  go_cut [8, 9] from 36 to 45 (fun s8 s9 wx => ∃ (b8 b9 : Nat) (fa : Option Addr) (fn fc : Nat), s8 = .pointer (some ⟨b8, 0, none⟩) ∧ s9 = .pointer (some ⟨b9, 0, none⟩) ∧ D.heap.size ≤ b8 ∧ D.heap.size ≤ b9 ∧ wx.heap[b8]? = some (.cells #[.int .i64 1, .bool false, .int .i64 3, .int .i64 1, .slice fa fn fc, .int .i64 0, .int .i64 0, .slice none 0 0] 44 (0, 0)) ∧ wx.heap[b9]? = some (.cells #[.int .i64 2, .bool false, .int .i64 0, .int .i64 0, .slice none 0 0, .int .i64 9, .int .i64 2, .slice none 0 0] 44 (0, 0)) ∧ Below D.heap.size D wx)
  case first =>
   refine wp_region_held_drew (S := fun Y => Y.heap[W.heap.size + 1 + 1]? = some (.cells #[.int .i64 3, .int .i64 1] 24 (0, 0))) (by kernel_rfl) (KS.out _ (Below.refl D.heap.size D).drew) (fun hHeld => ?_)
   have HX0 : Hid (Below D.heap.size D D.drew) := Lib.hid (Below.refl _ _).drew
   have HB_z0 := HX0
   clear HX0
   generalize D.drew = z0 at *
   refine wpAnyH_take (i := 0) (oi := ⟨_, _, _, _, _, _⟩) (v := ?_) rfl (by kernel_rfl) (by kernel_rfl) (by kernel_rfl) (fun _ _ _ h => h) (Or.inl ⟨by rfl, ?_⟩) (by assumption) ?_
   rotate_left
   ·intro w hSw
    try dsimp only at hSw
    go_simp
    try with_reducible rfl
   try simp only [Act.put, List.setIfInBounds_toArray, List.set_cons_zero, List.set_cons_succ]
   refine wpAnyH_take (i := 1) (oi := ⟨_, _, _, _, _, _⟩) (v := _) rfl (by kernel_rfl) (by kernel_rfl) (by kernel_rfl) (fun _ _ _ h => h) (yields_rowB (by rfl) _ _ rfl _ 0 rfl (fun w h => h) Tryz.underlying24 rfl #[.int .i64 3, .int .i64 1] (by kernel_rfl) (two_at rfl rfl)) (by assumption) ?_
   try simp only [Act.put, List.setIfInBounds_toArray, List.set_cons_zero, List.set_cons_succ]
   refine wpAnyH_take (i := 3) (oi := ⟨_, _, _, _, _, _⟩) (v := ?_) rfl (by kernel_rfl) (by kernel_rfl) (by kernel_rfl) (fun _ _ _ h => h) (Or.inl ⟨by rfl, ?_⟩) (by assumption) ?_
   rotate_left
   ·intro w hSw
    try dsimp only at hSw
    go_simp
    try with_reducible rfl
   try simp only [Act.put, List.setIfInBounds_toArray, List.set_cons_zero, List.set_cons_succ]
   refine wpAnyH_take (i := 5) (oi := ⟨_, _, _, _, _, _⟩) (v := ?_) rfl (by kernel_rfl) (by kernel_rfl) (by kernel_rfl) (fun _ _ _ h => h) (Or.inl ⟨by rfl, ?_⟩) (by assumption) ?_
   rotate_left
   ·intro w hSw
    try dsimp only at hSw
    go_simp
    try with_reducible rfl
   try simp only [Act.put, List.setIfInBounds_toArray, List.set_cons_zero, List.set_cons_succ]
   refine wpAnyH_take (i := 6) (oi := ⟨_, _, _, _, _, _⟩) (v := _) rfl (by kernel_rfl) (by kernel_rfl) (by kernel_rfl) (fun _ _ _ h => h) (yields_rowB (by rfl) _ _ rfl _ 0 rfl (fun w h => h) Tryz.underlying24 rfl #[.int .i64 3, .int .i64 1] (by kernel_rfl) (two_at rfl rfl)) (by assumption) ?_
   try simp only [Act.put, List.setIfInBounds_toArray, List.set_cons_zero, List.set_cons_succ]
   refine wpAnyH_take (i := 8) (oi := ⟨_, _, _, _, _, _⟩) (v := ?_) rfl (by kernel_rfl) (by kernel_rfl) (by kernel_rfl) (fun _ _ _ h => h) (Or.inl ⟨by rfl, ?_⟩) (by assumption) ?_
   rotate_left
   ·intro w hSw
    try dsimp only at hSw
    go_simp
    try with_reducible rfl
   try simp only [Act.put, List.setIfInBounds_toArray, List.set_cons_zero, List.set_cons_succ]
   refine wpAnyH_ready (rs := [2, 10, 11]) (by kernel_rfl) (by simp) ?_
   refine (AllReadyH.cons (o := ⟨_, _, _, _, _, _⟩) rfl (fun K hK => ?_) (AllReadyH.cons (o := ⟨_, _, _, _, _, _⟩) rfl (fun K hK => ?_) (AllReadyH.cons (o := ⟨_, _, _, _, _, _⟩) rfl (fun K hK => ?_) AllReadyH.nil)))
   ·go_simp
    go_at_call 20
    refine (get_op z0).mono ?_
    rintro e zw1 ⟨gb1, rfl, hg, h5⟩
    have HX : Hid (Below z0.heap.size z0 zw1) := Lib.hid h5
    have HB_zw1 : Hid (Below D.heap.size D zw1) := Lib.hid (blThen HB_z0.out HX.out)
    have HG1 := Lib.hid hg
    clear hg
    refine hK.out _ _ (KS.out _ HB_zw1.out) (fun hHeld => ?_)
    clear hK K HX h5
    try simp only [Act.put, List.setIfInBounds_toArray, List.set_cons_zero, List.set_cons_succ]
    refine wpAnyH_ready (rs := [4, 10, 11]) (by kernel_rfl) (by simp) ?_
    refine (AllReadyH.cons (o := ⟨_, _, _, _, _, _⟩) rfl (fun K hK => ?_) (AllReadyH.cons (o := ⟨_, _, _, _, _, _⟩) rfl (fun K hK => ?_) (AllReadyH.cons (o := ⟨_, _, _, _, _, _⟩) rfl (fun K hK => ?_) AllReadyH.nil)))
    ·go_simp
     go_at_call 12
     refine (HR1.out zw1 gb1 HB_zw1.out HG1.out).mono ?_
     rintro e zw2 ⟨⟨fa, fn, fc, rfl⟩, h5⟩
     have HX : Hid (Below zw1.heap.size zw1 zw2) := Lib.hid h5
     have HB_zw2 : Hid (Below D.heap.size D zw2) := Lib.hid (blThen HB_zw1.out HX.out)
     refine hK.out _ _ (KS.out _ HB_zw2.out) (fun hHeld => ?_)
     clear hK K HX h5
     try simp only [Act.put, List.setIfInBounds_toArray, List.set_cons_zero, List.set_cons_succ]
     refine wpAnyH_ready (rs := [7, 10, 11]) (by kernel_rfl) (by simp) ?_
     refine (AllReadyH.cons (o := ⟨_, _, _, _, _, _⟩) rfl (fun K hK => ?_) (AllReadyH.cons (o := ⟨_, _, _, _, _, _⟩) rfl (fun K hK => ?_) (AllReadyH.cons (o := ⟨_, _, _, _, _, _⟩) rfl (fun K hK => ?_) AllReadyH.nil)))
     ·go_simp
      go_at_call 20
      refine (get_op zw2).mono ?_
      rintro e zw3 ⟨gb2, rfl, hg, h5⟩
      have HX : Hid (Below zw2.heap.size zw2 zw3) := Lib.hid h5
      have HB_zw3 : Hid (Below D.heap.size D zw3) := Lib.hid (blThen HB_zw2.out HX.out)
      have HG2 := Lib.hid hg
      clear hg
      refine hK.out _ _ (KS.out _ HB_zw3.out) (fun hHeld => ?_)
      clear hK K HX h5
      try simp only [Act.put, List.setIfInBounds_toArray, List.set_cons_zero, List.set_cons_succ]
      refine wpAnyH_ready (rs := [9, 10, 11]) (by kernel_rfl) (by simp) ?_
      refine (AllReadyH.cons (o := ⟨_, _, _, _, _, _⟩) rfl (fun K hK => ?_) (AllReadyH.cons (o := ⟨_, _, _, _, _, _⟩) rfl (fun K hK => ?_) (AllReadyH.cons (o := ⟨_, _, _, _, _, _⟩) rfl (fun K hK => ?_) AllReadyH.nil)))
      ·go_simp
       go_at_call 12
       refine (HR2.out zw3 gb2 HB_zw3.out HG2.out).mono ?_
       rintro e zw4 ⟨rfl, h5⟩
       have HX : Hid (Below zw3.heap.size zw3 zw4) := Lib.hid h5
       have HB_zw4 : Hid (Below D.heap.size D zw4) := Lib.hid (blThen HB_zw3.out HX.out)
       refine hK.out _ _ (KS.out _ HB_zw4.out) (fun hHeld => ?_)
       clear hK K HX h5
       try simp only [Act.put, List.setIfInBounds_toArray, List.set_cons_zero, List.set_cons_succ]
       refine wpAnyH_ready (rs := [10, 11]) (by kernel_rfl) (by simp) ?_
       refine (AllReadyH.cons (o := ⟨_, _, _, _, _, _⟩) rfl (fun K hK => ?_) (AllReadyH.cons (o := ⟨_, _, _, _, _, _⟩) rfl (fun K hK => ?_) AllReadyH.nil))
       ·go_simp
        have HX : Hid (Below zw4.heap.size zw4 (zw4.alloc (.cells #[.int .i64 0, .bool false, .int .i64 0, .int .i64 0, .slice none 0 0, .int .i64 0, .int .i64 0, .slice none 0 0] 44))) := Lib.hid (blAlloc (Below.refl _ _) _)
        have HB_zw5 : Hid (Below D.heap.size D (zw4.alloc (.cells #[.int .i64 0, .bool false, .int .i64 0, .int .i64 0, .slice none 0 0, .int .i64 0, .int .i64 0, .slice none 0 0] 44))) := Lib.hid (blThen HB_zw4.out HX.out)
        have K8 : Hid ((zw4.alloc (.cells #[.int .i64 0, .bool false, .int .i64 0, .int .i64 0, .slice none 0 0, .int .i64 0, .int .i64 0, .slice none 0 0] 44)).heap[zw4.heap.size]? = some (.cells #[.int .i64 0, .bool false, .int .i64 0, .int .i64 0, .slice none 0 0, .int .i64 0, .int .i64 0, .slice none 0 0] 44 (0, 0))) := Lib.hid (new_blockB zw4 #[.int .i64 0, .bool false, .int .i64 0, .int .i64 0, .slice none 0 0, .int .i64 0, .int .i64 0, .slice none 0 0] 44)
        have L8 : Hid (zw4.heap.size < (zw4.alloc (.cells #[.int .i64 0, .bool false, .int .i64 0, .int .i64 0, .slice none 0 0, .int .i64 0, .int .i64 0, .slice none 0 0] 44)).heap.size) := Lib.hid (by simp)
        have G8 : Hid (D.heap.size ≤ zw4.heap.size) := Lib.hid HB_zw4.out.size
        refine hK.out _ _ (KS.out _ HB_zw5.out) (fun hHeld => ?_)
        clear hK K HX
        try simp only [Act.put, List.setIfInBounds_toArray, List.set_cons_zero, List.set_cons_succ]
        generalize (zw4.alloc (.cells #[.int .i64 0, .bool false, .int .i64 0, .int .i64 0, .slice none 0 0, .int .i64 0, .int .i64 0, .slice none 0 0] 44)) = zw5 at *
        refine wpAnyH_ready (rs := [11]) (by kernel_rfl) (by simp) ?_
        refine (AllReadyH.cons (o := ⟨_, _, _, _, _, _⟩) rfl (fun K hK => ?_) AllReadyH.nil)
        ·go_simp
         have HX : Hid (Below zw5.heap.size zw5 (zw5.alloc (.cells #[.int .i64 0, .bool false, .int .i64 0, .int .i64 0, .slice none 0 0, .int .i64 0, .int .i64 0, .slice none 0 0] 44))) := Lib.hid (blAlloc (Below.refl _ _) _)
         have HB_zw6 : Hid (Below D.heap.size D (zw5.alloc (.cells #[.int .i64 0, .bool false, .int .i64 0, .int .i64 0, .slice none 0 0, .int .i64 0, .int .i64 0, .slice none 0 0] 44))) := Lib.hid (blThen HB_zw5.out HX.out)
         have NE : Hid (zw4.heap.size < zw5.heap.size) := L8
         have K8 := row_upB K8 L8 HX.out
         have L8 := lt_upB L8 HX.out
         have K9 : Hid ((zw5.alloc (.cells #[.int .i64 0, .bool false, .int .i64 0, .int .i64 0, .slice none 0 0, .int .i64 0, .int .i64 0, .slice none 0 0] 44)).heap[zw5.heap.size]? = some (.cells #[.int .i64 0, .bool false, .int .i64 0, .int .i64 0, .slice none 0 0, .int .i64 0, .int .i64 0, .slice none 0 0] 44 (0, 0))) := Lib.hid (new_blockB zw5 #[.int .i64 0, .bool false, .int .i64 0, .int .i64 0, .slice none 0 0, .int .i64 0, .int .i64 0, .slice none 0 0] 44)
         have L9 : Hid (zw5.heap.size < (zw5.alloc (.cells #[.int .i64 0, .bool false, .int .i64 0, .int .i64 0, .slice none 0 0, .int .i64 0, .int .i64 0, .slice none 0 0] 44)).heap.size) := Lib.hid (by simp)
         have G9 : Hid (D.heap.size ≤ zw5.heap.size) := Lib.hid HB_zw5.out.size
         refine hK.out _ _ (KS.out _ HB_zw6.out) (fun hHeld => ?_)
         clear hK K HX
         try simp only [Act.put, List.setIfInBounds_toArray, List.set_cons_zero, List.set_cons_succ]
         generalize (zw5.alloc (.cells #[.int .i64 0, .bool false, .int .i64 0, .int .i64 0, .slice none 0 0, .int .i64 0, .int .i64 0, .slice none 0 0] 44)) = zw6 at *
         refine wpAnyH_ready (rs := [12]) (by kernel_rfl) (by simp) ?_
         refine AllReadyH.cons (o := ⟨_, _, _, _, _, _⟩) rfl (fun K hK => ?_) AllReadyH.nil
         refine ite_yesB (by rfl) ?_
         refine wp_store_rowB _ _ _ rfl _ rfl (cells := #[.int .i64 1, .bool false, .int .i64 3, .int .i64 1, .slice fa fn fc, .int .i64 0, .int .i64 0, .slice none 0 0]) rfl K8.out szPlB rfl (by simp [Value.oneCell']) ?_
         intro za h1 h2
         have HB_za : Hid (Below D.heap.size D za) := Lib.hid (below_grownB HB_zw6.out h2 G8.out)
         have K9 := grown_otherB K9 h2 L9.out (fun e => absurd e.symm (Nat.ne_of_lt NE.out))
         have K8 := Lib.hid h1
         have L8 : Hid (zw4.heap.size < za.heap.size) := Lib.hid (lt_of_block h1)
         have L9 : Hid (zw5.heap.size < za.heap.size) := Lib.hid (lt_of_block K9.out)
         clear h1 h2
         refine hK.out _ _ (KS.out _ HB_za.out) (fun hHeld => ?_)
         clear hK K
         try simp only [Act.put, List.setIfInBounds_toArray, List.set_cons_zero, List.set_cons_succ]
         refine wpAnyH_ready (rs := [13]) (by kernel_rfl) (by simp) ?_
         refine AllReadyH.cons (o := ⟨_, _, _, _, _, _⟩) rfl (fun K hK => ?_) AllReadyH.nil
         refine ite_yesB (by rfl) ?_
         refine wp_store_rowB _ _ _ rfl _ rfl (cells := #[.int .i64 2, .bool false, .int .i64 0, .int .i64 0, .slice none 0 0, .int .i64 9, .int .i64 2, .slice none 0 0]) rfl K9.out szPlB rfl (by simp [Value.oneCell']) ?_
         intro zb h1 h2
         have HB_zb : Hid (Below D.heap.size D zb) := Lib.hid (below_grownB HB_za.out h2 G9.out)
         have K8 := grown_otherB K8 h2 L8.out (Nat.ne_of_lt NE.out)
         have K9 := Lib.hid h1
         clear h1 h2
         refine hK.out _ _ (KS.out _ HB_zb.out) (fun hHeld => ?_)
         clear hK K
         try simp only [Act.put, List.setIfInBounds_toArray, List.set_cons_zero, List.set_cons_succ]
         refine wpAnyH_done (by kernel_rfl) ?_ _
         go_wp2_with fail
         go_meet
         exact ⟨_, _, fa, fn, fc, rfl, rfl, G8.out, G9.out, K8.out, K9.out, HB_zb.out⟩
       ·go_simp
        have HX : Hid (Below zw4.heap.size zw4 (zw4.alloc (.cells #[.int .i64 0, .bool false, .int .i64 0, .int .i64 0, .slice none 0 0, .int .i64 0, .int .i64 0, .slice none 0 0] 44))) := Lib.hid (blAlloc (Below.refl _ _) _)
        have HB_zw7 : Hid (Below D.heap.size D (zw4.alloc (.cells #[.int .i64 0, .bool false, .int .i64 0, .int .i64 0, .slice none 0 0, .int .i64 0, .int .i64 0, .slice none 0 0] 44))) := Lib.hid (blThen HB_zw4.out HX.out)
        have K9 : Hid ((zw4.alloc (.cells #[.int .i64 0, .bool false, .int .i64 0, .int .i64 0, .slice none 0 0, .int .i64 0, .int .i64 0, .slice none 0 0] 44)).heap[zw4.heap.size]? = some (.cells #[.int .i64 0, .bool false, .int .i64 0, .int .i64 0, .slice none 0 0, .int .i64 0, .int .i64 0, .slice none 0 0] 44 (0, 0))) := Lib.hid (new_blockB zw4 #[.int .i64 0, .bool false, .int .i64 0, .int .i64 0, .slice none 0 0, .int .i64 0, .int .i64 0, .slice none 0 0] 44)
        have L9 : Hid (zw4.heap.size < (zw4.alloc (.cells #[.int .i64 0, .bool false, .int .i64 0, .int .i64 0, .slice none 0 0, .int .i64 0, .int .i64 0, .slice none 0 0] 44)).heap.size) := Lib.hid (by simp)
        have G9 : Hid (D.heap.size ≤ zw4.heap.size) := Lib.hid HB_zw4.out.size
        refine hK.out _ _ (KS.out _ HB_zw7.out) (fun hHeld => ?_)
        clear hK K HX
        try simp only [Act.put, List.setIfInBounds_toArray, List.set_cons_zero, List.set_cons_succ]
        generalize (zw4.alloc (.cells #[.int .i64 0, .bool false, .int .i64 0, .int .i64 0, .slice none 0 0, .int .i64 0, .int .i64 0, .slice none 0 0] 44)) = zw7 at *
        refine wpAnyH_ready (rs := [10]) (by kernel_rfl) (by simp) ?_
        refine (AllReadyH.cons (o := ⟨_, _, _, _, _, _⟩) rfl (fun K hK => ?_) AllReadyH.nil)
        ·go_simp
         have HX : Hid (Below zw7.heap.size zw7 (zw7.alloc (.cells #[.int .i64 0, .bool false, .int .i64 0, .int .i64 0, .slice none 0 0, .int .i64 0, .int .i64 0, .slice none 0 0] 44))) := Lib.hid (blAlloc (Below.refl _ _) _)
         have HB_zw8 : Hid (Below D.heap.size D (zw7.alloc (.cells #[.int .i64 0, .bool false, .int .i64 0, .int .i64 0, .slice none 0 0, .int .i64 0, .int .i64 0, .slice none 0 0] 44))) := Lib.hid (blThen HB_zw7.out HX.out)
         have NE : Hid (zw4.heap.size < zw7.heap.size) := L9
         have K9 := row_upB K9 L9 HX.out
         have L9 := lt_upB L9 HX.out
         have K8 : Hid ((zw7.alloc (.cells #[.int .i64 0, .bool false, .int .i64 0, .int .i64 0, .slice none 0 0, .int .i64 0, .int .i64 0, .slice none 0 0] 44)).heap[zw7.heap.size]? = some (.cells #[.int .i64 0, .bool false, .int .i64 0, .int .i64 0, .slice none 0 0, .int .i64 0, .int .i64 0, .slice none 0 0] 44 (0, 0))) := Lib.hid (new_blockB zw7 #[.int .i64 0, .bool false, .int .i64 0, .int .i64 0, .slice none 0 0, .int .i64 0, .int .i64 0, .slice none 0 0] 44)
         have L8 : Hid (zw7.heap.size < (zw7.alloc (.cells #[.int .i64 0, .bool false, .int .i64 0, .int .i64 0, .slice none 0 0, .int .i64 0, .int .i64 0, .slice none 0 0] 44)).heap.size) := Lib.hid (by simp)
         have G8 : Hid (D.heap.size ≤ zw7.heap.size) := Lib.hid HB_zw7.out.size
         refine hK.out _ _ (KS.out _ HB_zw8.out) (fun hHeld => ?_)
         clear hK K HX
         try simp only [Act.put, List.setIfInBounds_toArray, List.set_cons_zero, List.set_cons_succ]
         generalize (zw7.alloc (.cells #[.int .i64 0, .bool false, .int .i64 0, .int .i64 0, .slice none 0 0, .int .i64 0, .int .i64 0, .slice none 0 0] 44)) = zw8 at *
         refine wpAnyH_ready (rs := [12]) (by kernel_rfl) (by simp) ?_
         refine AllReadyH.cons (o := ⟨_, _, _, _, _, _⟩) rfl (fun K hK => ?_) AllReadyH.nil
         refine ite_yesB (by rfl) ?_
         refine wp_store_rowB _ _ _ rfl _ rfl (cells := #[.int .i64 1, .bool false, .int .i64 3, .int .i64 1, .slice fa fn fc, .int .i64 0, .int .i64 0, .slice none 0 0]) rfl K8.out szPlB rfl (by simp [Value.oneCell']) ?_
         intro za h1 h2
         have HB_za : Hid (Below D.heap.size D za) := Lib.hid (below_grownB HB_zw8.out h2 G8.out)
         have K9 := grown_otherB K9 h2 L9.out (fun e => absurd e.symm (Nat.ne_of_gt NE.out))
         have K8 := Lib.hid h1
         have L8 : Hid (zw7.heap.size < za.heap.size) := Lib.hid (lt_of_block h1)
         have L9 : Hid (zw4.heap.size < za.heap.size) := Lib.hid (lt_of_block K9.out)
         clear h1 h2
         refine hK.out _ _ (KS.out _ HB_za.out) (fun hHeld => ?_)
         clear hK K
         try simp only [Act.put, List.setIfInBounds_toArray, List.set_cons_zero, List.set_cons_succ]
         refine wpAnyH_ready (rs := [13]) (by kernel_rfl) (by simp) ?_
         refine AllReadyH.cons (o := ⟨_, _, _, _, _, _⟩) rfl (fun K hK => ?_) AllReadyH.nil
         refine ite_yesB (by rfl) ?_
         refine wp_store_rowB _ _ _ rfl _ rfl (cells := #[.int .i64 2, .bool false, .int .i64 0, .int .i64 0, .slice none 0 0, .int .i64 9, .int .i64 2, .slice none 0 0]) rfl K9.out szPlB rfl (by simp [Value.oneCell']) ?_
         intro zb h1 h2
         have HB_zb : Hid (Below D.heap.size D zb) := Lib.hid (below_grownB HB_za.out h2 G9.out)
         have K8 := grown_otherB K8 h2 L8.out (Nat.ne_of_gt NE.out)
         have K9 := Lib.hid h1
         clear h1 h2
         refine hK.out _ _ (KS.out _ HB_zb.out) (fun hHeld => ?_)
         clear hK K
         try simp only [Act.put, List.setIfInBounds_toArray, List.set_cons_zero, List.set_cons_succ]
         refine wpAnyH_done (by kernel_rfl) ?_ _
         go_wp2_with fail
         go_meet
         exact ⟨_, _, fa, fn, fc, rfl, rfl, G8.out, G9.out, K8.out, K9.out, HB_zb.out⟩
      ·go_simp
       have HX : Hid (Below zw3.heap.size zw3 (zw3.alloc (.cells #[.int .i64 0, .bool false, .int .i64 0, .int .i64 0, .slice none 0 0, .int .i64 0, .int .i64 0, .slice none 0 0] 44))) := Lib.hid (blAlloc (Below.refl _ _) _)
       have HB_zw9 : Hid (Below D.heap.size D (zw3.alloc (.cells #[.int .i64 0, .bool false, .int .i64 0, .int .i64 0, .slice none 0 0, .int .i64 0, .int .i64 0, .slice none 0 0] 44))) := Lib.hid (blThen HB_zw3.out HX.out)
       have HG2 := Lib.hid (HG2.out.later HX.out)
       have K8 : Hid ((zw3.alloc (.cells #[.int .i64 0, .bool false, .int .i64 0, .int .i64 0, .slice none 0 0, .int .i64 0, .int .i64 0, .slice none 0 0] 44)).heap[zw3.heap.size]? = some (.cells #[.int .i64 0, .bool false, .int .i64 0, .int .i64 0, .slice none 0 0, .int .i64 0, .int .i64 0, .slice none 0 0] 44 (0, 0))) := Lib.hid (new_blockB zw3 #[.int .i64 0, .bool false, .int .i64 0, .int .i64 0, .slice none 0 0, .int .i64 0, .int .i64 0, .slice none 0 0] 44)
       have L8 : Hid (zw3.heap.size < (zw3.alloc (.cells #[.int .i64 0, .bool false, .int .i64 0, .int .i64 0, .slice none 0 0, .int .i64 0, .int .i64 0, .slice none 0 0] 44)).heap.size) := Lib.hid (by simp)
       have G8 : Hid (D.heap.size ≤ zw3.heap.size) := Lib.hid HB_zw3.out.size
       refine hK.out _ _ (KS.out _ HB_zw9.out) (fun hHeld => ?_)
       clear hK K HX
       try simp only [Act.put, List.setIfInBounds_toArray, List.set_cons_zero, List.set_cons_succ]
       generalize (zw3.alloc (.cells #[.int .i64 0, .bool false, .int .i64 0, .int .i64 0, .slice none 0 0, .int .i64 0, .int .i64 0, .slice none 0 0] 44)) = zw9 at *
       refine wpAnyH_ready (rs := [9, 11]) (by kernel_rfl) (by simp) ?_
       refine (AllReadyH.cons (o := ⟨_, _, _, _, _, _⟩) rfl (fun K hK => ?_) (AllReadyH.cons (o := ⟨_, _, _, _, _, _⟩) rfl (fun K hK => ?_) AllReadyH.nil))
       ·go_simp
        go_at_call 12
        refine (HR2.out zw9 gb2 HB_zw9.out HG2.out).mono ?_
        rintro e zw10 ⟨rfl, h5⟩
        have HX : Hid (Below zw9.heap.size zw9 zw10) := Lib.hid h5
        have HB_zw10 : Hid (Below D.heap.size D zw10) := Lib.hid (blThen HB_zw9.out HX.out)
        have K8 := row_upB K8 L8 HX.out
        have L8 := lt_upB L8 HX.out
        refine hK.out _ _ (KS.out _ HB_zw10.out) (fun hHeld => ?_)
        clear hK K HX h5
        try simp only [Act.put, List.setIfInBounds_toArray, List.set_cons_zero, List.set_cons_succ]
        refine wpAnyH_ready (rs := [11]) (by kernel_rfl) (by simp) ?_
        refine (AllReadyH.cons (o := ⟨_, _, _, _, _, _⟩) rfl (fun K hK => ?_) AllReadyH.nil)
        ·go_simp
         have HX : Hid (Below zw10.heap.size zw10 (zw10.alloc (.cells #[.int .i64 0, .bool false, .int .i64 0, .int .i64 0, .slice none 0 0, .int .i64 0, .int .i64 0, .slice none 0 0] 44))) := Lib.hid (blAlloc (Below.refl _ _) _)
         have HB_zw11 : Hid (Below D.heap.size D (zw10.alloc (.cells #[.int .i64 0, .bool false, .int .i64 0, .int .i64 0, .slice none 0 0, .int .i64 0, .int .i64 0, .slice none 0 0] 44))) := Lib.hid (blThen HB_zw10.out HX.out)
         have NE : Hid (zw3.heap.size < zw10.heap.size) := L8
         have K8 := row_upB K8 L8 HX.out
         have L8 := lt_upB L8 HX.out
         have K9 : Hid ((zw10.alloc (.cells #[.int .i64 0, .bool false, .int .i64 0, .int .i64 0, .slice none 0 0, .int .i64 0, .int .i64 0, .slice none 0 0] 44)).heap[zw10.heap.size]? = some (.cells #[.int .i64 0, .bool false, .int .i64 0, .int .i64 0, .slice none 0 0, .int .i64 0, .int .i64 0, .slice none 0 0] 44 (0, 0))) := Lib.hid (new_blockB zw10 #[.int .i64 0, .bool false, .int .i64 0, .int .i64 0, .slice none 0 0, .int .i64 0, .int .i64 0, .slice none 0 0] 44)
         have L9 : Hid (zw10.heap.size < (zw10.alloc (.cells #[.int .i64 0, .bool false, .int .i64 0, .int .i64 0, .slice none 0 0, .int .i64 0, .int .i64 0, .slice none 0 0] 44)).heap.size) := Lib.hid (by simp)
         have G9 : Hid (D.heap.size ≤ zw10.heap.size) := Lib.hid HB_zw10.out.size
         refine hK.out _ _ (KS.out _ HB_zw11.out) (fun hHeld => ?_)
         clear hK K HX
         try simp only [Act.put, List.setIfInBounds_toArray, List.set_cons_zero, List.set_cons_succ]
         generalize (zw10.alloc (.cells #[.int .i64 0, .bool false, .int .i64 0, .int .i64 0, .slice none 0 0, .int .i64 0, .int .i64 0, .slice none 0 0] 44)) = zw11 at *
         refine wpAnyH_ready (rs := [12]) (by kernel_rfl) (by simp) ?_
         refine AllReadyH.cons (o := ⟨_, _, _, _, _, _⟩) rfl (fun K hK => ?_) AllReadyH.nil
         refine ite_yesB (by rfl) ?_
         refine wp_store_rowB _ _ _ rfl _ rfl (cells := #[.int .i64 1, .bool false, .int .i64 3, .int .i64 1, .slice fa fn fc, .int .i64 0, .int .i64 0, .slice none 0 0]) rfl K8.out szPlB rfl (by simp [Value.oneCell']) ?_
         intro za h1 h2
         have HB_za : Hid (Below D.heap.size D za) := Lib.hid (below_grownB HB_zw11.out h2 G8.out)
         have K9 := grown_otherB K9 h2 L9.out (fun e => absurd e.symm (Nat.ne_of_lt NE.out))
         have K8 := Lib.hid h1
         have L8 : Hid (zw3.heap.size < za.heap.size) := Lib.hid (lt_of_block h1)
         have L9 : Hid (zw10.heap.size < za.heap.size) := Lib.hid (lt_of_block K9.out)
         clear h1 h2
         refine hK.out _ _ (KS.out _ HB_za.out) (fun hHeld => ?_)
         clear hK K
         try simp only [Act.put, List.setIfInBounds_toArray, List.set_cons_zero, List.set_cons_succ]
         refine wpAnyH_ready (rs := [13]) (by kernel_rfl) (by simp) ?_
         refine AllReadyH.cons (o := ⟨_, _, _, _, _, _⟩) rfl (fun K hK => ?_) AllReadyH.nil
         refine ite_yesB (by rfl) ?_
         refine wp_store_rowB _ _ _ rfl _ rfl (cells := #[.int .i64 2, .bool false, .int .i64 0, .int .i64 0, .slice none 0 0, .int .i64 9, .int .i64 2, .slice none 0 0]) rfl K9.out szPlB rfl (by simp [Value.oneCell']) ?_
         intro zb h1 h2
         have HB_zb : Hid (Below D.heap.size D zb) := Lib.hid (below_grownB HB_za.out h2 G9.out)
         have K8 := grown_otherB K8 h2 L8.out (Nat.ne_of_lt NE.out)
         have K9 := Lib.hid h1
         clear h1 h2
         refine hK.out _ _ (KS.out _ HB_zb.out) (fun hHeld => ?_)
         clear hK K
         try simp only [Act.put, List.setIfInBounds_toArray, List.set_cons_zero, List.set_cons_succ]
         refine wpAnyH_done (by kernel_rfl) ?_ _
         go_wp2_with fail
         go_meet
         exact ⟨_, _, fa, fn, fc, rfl, rfl, G8.out, G9.out, K8.out, K9.out, HB_zb.out⟩
       ·go_simp
        have HX : Hid (Below zw9.heap.size zw9 (zw9.alloc (.cells #[.int .i64 0, .bool false, .int .i64 0, .int .i64 0, .slice none 0 0, .int .i64 0, .int .i64 0, .slice none 0 0] 44))) := Lib.hid (blAlloc (Below.refl _ _) _)
        have HB_zw12 : Hid (Below D.heap.size D (zw9.alloc (.cells #[.int .i64 0, .bool false, .int .i64 0, .int .i64 0, .slice none 0 0, .int .i64 0, .int .i64 0, .slice none 0 0] 44))) := Lib.hid (blThen HB_zw9.out HX.out)
        have NE : Hid (zw3.heap.size < zw9.heap.size) := L8
        have K8 := row_upB K8 L8 HX.out
        have L8 := lt_upB L8 HX.out
        have HG2 := Lib.hid (HG2.out.later HX.out)
        have K9 : Hid ((zw9.alloc (.cells #[.int .i64 0, .bool false, .int .i64 0, .int .i64 0, .slice none 0 0, .int .i64 0, .int .i64 0, .slice none 0 0] 44)).heap[zw9.heap.size]? = some (.cells #[.int .i64 0, .bool false, .int .i64 0, .int .i64 0, .slice none 0 0, .int .i64 0, .int .i64 0, .slice none 0 0] 44 (0, 0))) := Lib.hid (new_blockB zw9 #[.int .i64 0, .bool false, .int .i64 0, .int .i64 0, .slice none 0 0, .int .i64 0, .int .i64 0, .slice none 0 0] 44)
        have L9 : Hid (zw9.heap.size < (zw9.alloc (.cells #[.int .i64 0, .bool false, .int .i64 0, .int .i64 0, .slice none 0 0, .int .i64 0, .int .i64 0, .slice none 0 0] 44)).heap.size) := Lib.hid (by simp)
        have G9 : Hid (D.heap.size ≤ zw9.heap.size) := Lib.hid HB_zw9.out.size
        refine hK.out _ _ (KS.out _ HB_zw12.out) (fun hHeld => ?_)
        clear hK K HX
        try simp only [Act.put, List.setIfInBounds_toArray, List.set_cons_zero, List.set_cons_succ]
        generalize (zw9.alloc (.cells #[.int .i64 0, .bool false, .int .i64 0, .int .i64 0, .slice none 0 0, .int .i64 0, .int .i64 0, .slice none 0 0] 44)) = zw12 at *
        refine wpAnyH_ready (rs := [9]) (by kernel_rfl) (by simp) ?_
        refine (AllReadyH.cons (o := ⟨_, _, _, _, _, _⟩) rfl (fun K hK => ?_) AllReadyH.nil)
        ·go_simp
         go_at_call 12
         refine (HR2.out zw12 gb2 HB_zw12.out HG2.out).mono ?_
         rintro e zw13 ⟨rfl, h5⟩
         have HX : Hid (Below zw12.heap.size zw12 zw13) := Lib.hid h5
         have HB_zw13 : Hid (Below D.heap.size D zw13) := Lib.hid (blThen HB_zw12.out HX.out)
         have K8 := row_upB K8 L8 HX.out
         have L8 := lt_upB L8 HX.out
         have K9 := row_upB K9 L9 HX.out
         have L9 := lt_upB L9 HX.out
         refine hK.out _ _ (KS.out _ HB_zw13.out) (fun hHeld => ?_)
         clear hK K HX h5
         try simp only [Act.put, List.setIfInBounds_toArray, List.set_cons_zero, List.set_cons_succ]
         refine wpAnyH_ready (rs := [12]) (by kernel_rfl) (by simp) ?_
         refine AllReadyH.cons (o := ⟨_, _, _, _, _, _⟩) rfl (fun K hK => ?_) AllReadyH.nil
         refine ite_yesB (by rfl) ?_
         refine wp_store_rowB _ _ _ rfl _ rfl (cells := #[.int .i64 1, .bool false, .int .i64 3, .int .i64 1, .slice fa fn fc, .int .i64 0, .int .i64 0, .slice none 0 0]) rfl K8.out szPlB rfl (by simp [Value.oneCell']) ?_
         intro za h1 h2
         have HB_za : Hid (Below D.heap.size D za) := Lib.hid (below_grownB HB_zw13.out h2 G8.out)
         have K9 := grown_otherB K9 h2 L9.out (fun e => absurd e.symm (Nat.ne_of_lt NE.out))
         have K8 := Lib.hid h1
         have L8 : Hid (zw3.heap.size < za.heap.size) := Lib.hid (lt_of_block h1)
         have L9 : Hid (zw9.heap.size < za.heap.size) := Lib.hid (lt_of_block K9.out)
         clear h1 h2
         refine hK.out _ _ (KS.out _ HB_za.out) (fun hHeld => ?_)
         clear hK K
         try simp only [Act.put, List.setIfInBounds_toArray, List.set_cons_zero, List.set_cons_succ]
         refine wpAnyH_ready (rs := [13]) (by kernel_rfl) (by simp) ?_
         refine AllReadyH.cons (o := ⟨_, _, _, _, _, _⟩) rfl (fun K hK => ?_) AllReadyH.nil
         refine ite_yesB (by rfl) ?_
         refine wp_store_rowB _ _ _ rfl _ rfl (cells := #[.int .i64 2, .bool false, .int .i64 0, .int .i64 0, .slice none 0 0, .int .i64 9, .int .i64 2, .slice none 0 0]) rfl K9.out szPlB rfl (by simp [Value.oneCell']) ?_
         intro zb h1 h2
         have HB_zb : Hid (Below D.heap.size D zb) := Lib.hid (below_grownB HB_za.out h2 G9.out)
         have K8 := grown_otherB K8 h2 L8.out (Nat.ne_of_lt NE.out)
         have K9 := Lib.hid h1
         clear h1 h2
         refine hK.out _ _ (KS.out _ HB_zb.out) (fun hHeld => ?_)
         clear hK K
         try simp only [Act.put, List.setIfInBounds_toArray, List.set_cons_zero, List.set_cons_succ]
         refine wpAnyH_done (by kernel_rfl) ?_ _
         go_wp2_with fail
         go_meet
         exact ⟨_, _, fa, fn, fc, rfl, rfl, G8.out, G9.out, K8.out, K9.out, HB_zb.out⟩
      ·go_simp
       have HX : Hid (Below zw3.heap.size zw3 (zw3.alloc (.cells #[.int .i64 0, .bool false, .int .i64 0, .int .i64 0, .slice none 0 0, .int .i64 0, .int .i64 0, .slice none 0 0] 44))) := Lib.hid (blAlloc (Below.refl _ _) _)
       have HB_zw14 : Hid (Below D.heap.size D (zw3.alloc (.cells #[.int .i64 0, .bool false, .int .i64 0, .int .i64 0, .slice none 0 0, .int .i64 0, .int .i64 0, .slice none 0 0] 44))) := Lib.hid (blThen HB_zw3.out HX.out)
       have HG2 := Lib.hid (HG2.out.later HX.out)
       have K9 : Hid ((zw3.alloc (.cells #[.int .i64 0, .bool false, .int .i64 0, .int .i64 0, .slice none 0 0, .int .i64 0, .int .i64 0, .slice none 0 0] 44)).heap[zw3.heap.size]? = some (.cells #[.int .i64 0, .bool false, .int .i64 0, .int .i64 0, .slice none 0 0, .int .i64 0, .int .i64 0, .slice none 0 0] 44 (0, 0))) := Lib.hid (new_blockB zw3 #[.int .i64 0, .bool false, .int .i64 0, .int .i64 0, .slice none 0 0, .int .i64 0, .int .i64 0, .slice none 0 0] 44)
       have L9 : Hid (zw3.heap.size < (zw3.alloc (.cells #[.int .i64 0, .bool false, .int .i64 0, .int .i64 0, .slice none 0 0, .int .i64 0, .int .i64 0, .slice none 0 0] 44)).heap.size) := Lib.hid (by simp)
       have G9 : Hid (D.heap.size ≤ zw3.heap.size) := Lib.hid HB_zw3.out.size
       refine hK.out _ _ (KS.out _ HB_zw14.out) (fun hHeld => ?_)
       clear hK K HX
       try simp only [Act.put, List.setIfInBounds_toArray, List.set_cons_zero, List.set_cons_succ]
       generalize (zw3.alloc (.cells #[.int .i64 0, .bool false, .int .i64 0, .int .i64 0, .slice none 0 0, .int .i64 0, .int .i64 0, .slice none 0 0] 44)) = zw14 at *
       refine wpAnyH_ready (rs := [9, 10]) (by kernel_rfl) (by simp) ?_
       refine (AllReadyH.cons (o := ⟨_, _, _, _, _, _⟩) rfl (fun K hK => ?_) (AllReadyH.cons (o := ⟨_, _, _, _, _, _⟩) rfl (fun K hK => ?_) AllReadyH.nil))
       ·go_simp
        go_at_call 12
        refine (HR2.out zw14 gb2 HB_zw14.out HG2.out).mono ?_
        rintro e zw15 ⟨rfl, h5⟩
        have HX : Hid (Below zw14.heap.size zw14 zw15) := Lib.hid h5
        have HB_zw15 : Hid (Below D.heap.size D zw15) := Lib.hid (blThen HB_zw14.out HX.out)
        have K9 := row_upB K9 L9 HX.out
        have L9 := lt_upB L9 HX.out
        refine hK.out _ _ (KS.out _ HB_zw15.out) (fun hHeld => ?_)
        clear hK K HX h5
        try simp only [Act.put, List.setIfInBounds_toArray, List.set_cons_zero, List.set_cons_succ]
        refine wpAnyH_ready (rs := [10]) (by kernel_rfl) (by simp) ?_
        refine (AllReadyH.cons (o := ⟨_, _, _, _, _, _⟩) rfl (fun K hK => ?_) AllReadyH.nil)
        ·go_simp
         have HX : Hid (Below zw15.heap.size zw15 (zw15.alloc (.cells #[.int .i64 0, .bool false, .int .i64 0, .int .i64 0, .slice none 0 0, .int .i64 0, .int .i64 0, .slice none 0 0] 44))) := Lib.hid (blAlloc (Below.refl _ _) _)
         have HB_zw16 : Hid (Below D.heap.size D (zw15.alloc (.cells #[.int .i64 0, .bool false, .int .i64 0, .int .i64 0, .slice none 0 0, .int .i64 0, .int .i64 0, .slice none 0 0] 44))) := Lib.hid (blThen HB_zw15.out HX.out)
         have NE : Hid (zw3.heap.size < zw15.heap.size) := L9
         have K9 := row_upB K9 L9 HX.out
         have L9 := lt_upB L9 HX.out
         have K8 : Hid ((zw15.alloc (.cells #[.int .i64 0, .bool false, .int .i64 0, .int .i64 0, .slice none 0 0, .int .i64 0, .int .i64 0, .slice none 0 0] 44)).heap[zw15.heap.size]? = some (.cells #[.int .i64 0, .bool false, .int .i64 0, .int .i64 0, .slice none 0 0, .int .i64 0, .int .i64 0, .slice none 0 0] 44 (0, 0))) := Lib.hid (new_blockB zw15 #[.int .i64 0, .bool false, .int .i64 0, .int .i64 0, .slice none 0 0, .int .i64 0, .int .i64 0, .slice none 0 0] 44)
         have L8 : Hid (zw15.heap.size < (zw15.alloc (.cells #[.int .i64 0, .bool false, .int .i64 0, .int .i64 0, .slice none 0 0, .int .i64 0, .int .i64 0, .slice none 0 0] 44)).heap.size) := Lib.hid (by simp)
         have G8 : Hid (D.heap.size ≤ zw15.heap.size) := Lib.hid HB_zw15.out.size
         refine hK.out _ _ (KS.out _ HB_zw16.out) (fun hHeld => ?_)
         clear hK K HX
         try simp only [Act.put, List.setIfInBounds_toArray, List.set_cons_zero, List.set_cons_succ]
         generalize (zw15.alloc (.cells #[.int .i64 0, .bool false, .int .i64 0, .int .i64 0, .slice none 0 0, .int .i64 0, .int .i64 0, .slice none 0 0] 44)) = zw16 at *
         refine wpAnyH_ready (rs := [12]) (by kernel_rfl) (by simp) ?_
         refine AllReadyH.cons (o := ⟨_, _, _, _, _, _⟩) rfl (fun K hK => ?_) AllReadyH.nil
         refine ite_yesB (by rfl) ?_
         refine wp_store_rowB _ _ _ rfl _ rfl (cells := #[.int .i64 1, .bool false, .int .i64 3, .int .i64 1, .slice fa fn fc, .int .i64 0, .int .i64 0, .slice none 0 0]) rfl K8.out szPlB rfl (by simp [Value.oneCell']) ?_
         intro za h1 h2
         have HB_za : Hid (Below D.heap.size D za) := Lib.hid (below_grownB HB_zw16.out h2 G8.out)
         have K9 := grown_otherB K9 h2 L9.out (fun e => absurd e.symm (Nat.ne_of_gt NE.out))
         have K8 := Lib.hid h1
         have L8 : Hid (zw15.heap.size < za.heap.size) := Lib.hid (lt_of_block h1)
         have L9 : Hid (zw3.heap.size < za.heap.size) := Lib.hid (lt_of_block K9.out)
         clear h1 h2
         refine hK.out _ _ (KS.out _ HB_za.out) (fun hHeld => ?_)
         clear hK K
         try simp only [Act.put, List.setIfInBounds_toArray, List.set_cons_zero, List.set_cons_succ]
         refine wpAnyH_ready (rs := [13]) (by kernel_rfl) (by simp) ?_
         refine AllReadyH.cons (o := ⟨_, _, _, _, _, _⟩) rfl (fun K hK => ?_) AllReadyH.nil
         refine ite_yesB (by rfl) ?_
         refine wp_store_rowB _ _ _ rfl _ rfl (cells := #[.int .i64 2, .bool false, .int .i64 0, .int .i64 0, .slice none 0 0, .int .i64 9, .int .i64 2, .slice none 0 0]) rfl K9.out szPlB rfl (by simp [Value.oneCell']) ?_
         intro zb h1 h2
         have HB_zb : Hid (Below D.heap.size D zb) := Lib.hid (below_grownB HB_za.out h2 G9.out)
         have K8 := grown_otherB K8 h2 L8.out (Nat.ne_of_gt NE.out)
         have K9 := Lib.hid h1
         clear h1 h2
         refine hK.out _ _ (KS.out _ HB_zb.out) (fun hHeld => ?_)
         clear hK K
         try simp only [Act.put, List.setIfInBounds_toArray, List.set_cons_zero, List.set_cons_succ]
         refine wpAnyH_done (by kernel_rfl) ?_ _
         go_wp2_with fail
         go_meet
         exact ⟨_, _, fa, fn, fc, rfl, rfl, G8.out, G9.out, K8.out, K9.out, HB_zb.out⟩
       ·go_simp
        have HX : Hid (Below zw14.heap.size zw14 (zw14.alloc (.cells #[.int .i64 0, .bool false, .int .i64 0, .int .i64 0, .slice none 0 0, .int .i64 0, .int .i64 0, .slice none 0 0] 44))) := Lib.hid (blAlloc (Below.refl _ _) _)
        have HB_zw17 : Hid (Below D.heap.size D (zw14.alloc (.cells #[.int .i64 0, .bool false, .int .i64 0, .int .i64 0, .slice none 0 0, .int .i64 0, .int .i64 0, .slice none 0 0] 44))) := Lib.hid (blThen HB_zw14.out HX.out)
        have NE : Hid (zw3.heap.size < zw14.heap.size) := L9
        have K9 := row_upB K9 L9 HX.out
        have L9 := lt_upB L9 HX.out
        have HG2 := Lib.hid (HG2.out.later HX.out)
        have K8 : Hid ((zw14.alloc (.cells #[.int .i64 0, .bool false, .int .i64 0, .int .i64 0, .slice none 0 0, .int .i64 0, .int .i64 0, .slice none 0 0] 44)).heap[zw14.heap.size]? = some (.cells #[.int .i64 0, .bool false, .int .i64 0, .int .i64 0, .slice none 0 0, .int .i64 0, .int .i64 0, .slice none 0 0] 44 (0, 0))) := Lib.hid (new_blockB zw14 #[.int .i64 0, .bool false, .int .i64 0, .int .i64 0, .slice none 0 0, .int .i64 0, .int .i64 0, .slice none 0 0] 44)
        have L8 : Hid (zw14.heap.size < (zw14.alloc (.cells #[.int .i64 0, .bool false, .int .i64 0, .int .i64 0, .slice none 0 0, .int .i64 0, .int .i64 0, .slice none 0 0] 44)).heap.size) := Lib.hid (by simp)
        have G8 : Hid (D.heap.size ≤ zw14.heap.size) := Lib.hid HB_zw14.out.size
        refine hK.out _ _ (KS.out _ HB_zw17.out) (fun hHeld => ?_)
        clear hK K HX
        try simp only [Act.put, List.setIfInBounds_toArray, List.set_cons_zero, List.set_cons_succ]
        generalize (zw14.alloc (.cells #[.int .i64 0, .bool false, .int .i64 0, .int .i64 0, .slice none 0 0, .int .i64 0, .int .i64 0, .slice none 0 0] 44)) = zw17 at *
        refine wpAnyH_ready (rs := [9]) (by kernel_rfl) (by simp) ?_
        refine (AllReadyH.cons (o := ⟨_, _, _, _, _, _⟩) rfl (fun K hK => ?_) AllReadyH.nil)
        ·go_simp
         go_at_call 12
         refine (HR2.out zw17 gb2 HB_zw17.out HG2.out).mono ?_
         rintro e zw18 ⟨rfl, h5⟩
         have HX : Hid (Below zw17.heap.size zw17 zw18) := Lib.hid h5
         have HB_zw18 : Hid (Below D.heap.size D zw18) := Lib.hid (blThen HB_zw17.out HX.out)
         have K9 := row_upB K9 L9 HX.out
         have L9 := lt_upB L9 HX.out
         have K8 := row_upB K8 L8 HX.out
         have L8 := lt_upB L8 HX.out
         refine hK.out _ _ (KS.out _ HB_zw18.out) (fun hHeld => ?_)
         clear hK K HX h5
         try simp only [Act.put, List.setIfInBounds_toArray, List.set_cons_zero, List.set_cons_succ]
         refine wpAnyH_ready (rs := [12]) (by kernel_rfl) (by simp) ?_
         refine AllReadyH.cons (o := ⟨_, _, _, _, _, _⟩) rfl (fun K hK => ?_) AllReadyH.nil
         refine ite_yesB (by rfl) ?_
         refine wp_store_rowB _ _ _ rfl _ rfl (cells := #[.int .i64 1, .bool false, .int .i64 3, .int .i64 1, .slice fa fn fc, .int .i64 0, .int .i64 0, .slice none 0 0]) rfl K8.out szPlB rfl (by simp [Value.oneCell']) ?_
         intro za h1 h2
         have HB_za : Hid (Below D.heap.size D za) := Lib.hid (below_grownB HB_zw18.out h2 G8.out)
         have K9 := grown_otherB K9 h2 L9.out (fun e => absurd e.symm (Nat.ne_of_gt NE.out))
         have K8 := Lib.hid h1
         have L8 : Hid (zw14.heap.size < za.heap.size) := Lib.hid (lt_of_block h1)
         have L9 : Hid (zw3.heap.size < za.heap.size) := Lib.hid (lt_of_block K9.out)
         clear h1 h2
         refine hK.out _ _ (KS.out _ HB_za.out) (fun hHeld => ?_)
         clear hK K
         try simp only [Act.put, List.setIfInBounds_toArray, List.set_cons_zero, List.set_cons_succ]
         refine wpAnyH_ready (rs := [13]) (by kernel_rfl) (by simp) ?_
         refine AllReadyH.cons (o := ⟨_, _, _, _, _, _⟩) rfl (fun K hK => ?_) AllReadyH.nil
         refine ite_yesB (by rfl) ?_
         refine wp_store_rowB _ _ _ rfl _ rfl (cells := #[.int .i64 2, .bool false, .int .i64 0, .int .i64 0, .slice none 0 0, .int .i64 9, .int .i64 2, .slice none 0 0]) rfl K9.out szPlB rfl (by simp [Value.oneCell']) ?_
         intro zb h1 h2
         have HB_zb : Hid (Below D.heap.size D zb) := Lib.hid (below_grownB HB_za.out h2 G9.out)
         have K8 := grown_otherB K8 h2 L8.out (Nat.ne_of_gt NE.out)
         have K9 := Lib.hid h1
         clear h1 h2
         refine hK.out _ _ (KS.out _ HB_zb.out) (fun hHeld => ?_)
         clear hK K
         try simp only [Act.put, List.setIfInBounds_toArray, List.set_cons_zero, List.set_cons_succ]
         refine wpAnyH_done (by kernel_rfl) ?_ _
         go_wp2_with fail
         go_meet
         exact ⟨_, _, fa, fn, fc, rfl, rfl, G8.out, G9.out, K8.out, K9.out, HB_zb.out⟩
     ·go_simp
      have HX : Hid (Below zw2.heap.size zw2 (zw2.alloc (.cells #[.int .i64 0, .bool false, .int .i64 0, .int .i64 0, .slice none 0 0, .int .i64 0, .int .i64 0, .slice none 0 0] 44))) := Lib.hid (blAlloc (Below.refl _ _) _)
      have HB_zw19 : Hid (Below D.heap.size D (zw2.alloc (.cells #[.int .i64 0, .bool false, .int .i64 0, .int .i64 0, .slice none 0 0, .int .i64 0, .int .i64 0, .slice none 0 0] 44))) := Lib.hid (blThen HB_zw2.out HX.out)
      have K8 : Hid ((zw2.alloc (.cells #[.int .i64 0, .bool false, .int .i64 0, .int .i64 0, .slice none 0 0, .int .i64 0, .int .i64 0, .slice none 0 0] 44)).heap[zw2.heap.size]? = some (.cells #[.int .i64 0, .bool false, .int .i64 0, .int .i64 0, .slice none 0 0, .int .i64 0, .int .i64 0, .slice none 0 0] 44 (0, 0))) := Lib.hid (new_blockB zw2 #[.int .i64 0, .bool false, .int .i64 0, .int .i64 0, .slice none 0 0, .int .i64 0, .int .i64 0, .slice none 0 0] 44)
      have L8 : Hid (zw2.heap.size < (zw2.alloc (.cells #[.int .i64 0, .bool false, .int .i64 0, .int .i64 0, .slice none 0 0, .int .i64 0, .int .i64 0, .slice none 0 0] 44)).heap.size) := Lib.hid (by simp)
      have G8 : Hid (D.heap.size ≤ zw2.heap.size) := Lib.hid HB_zw2.out.size
      refine hK.out _ _ (KS.out _ HB_zw19.out) (fun hHeld => ?_)
      clear hK K HX
      try simp only [Act.put, List.setIfInBounds_toArray, List.set_cons_zero, List.set_cons_succ]
      generalize (zw2.alloc (.cells #[.int .i64 0, .bool false, .int .i64 0, .int .i64 0, .slice none 0 0, .int .i64 0, .int .i64 0, .slice none 0 0] 44)) = zw19 at *
      refine wpAnyH_ready (rs := [7, 11]) (by kernel_rfl) (by simp) ?_
      refine (AllReadyH.cons (o := ⟨_, _, _, _, _, _⟩) rfl (fun K hK => ?_) (AllReadyH.cons (o := ⟨_, _, _, _, _, _⟩) rfl (fun K hK => ?_) AllReadyH.nil))
      ·go_simp
       go_at_call 20
       refine (get_op zw19).mono ?_
       rintro e zw20 ⟨gb2, rfl, hg, h5⟩
       have HX : Hid (Below zw19.heap.size zw19 zw20) := Lib.hid h5
       have HB_zw20 : Hid (Below D.heap.size D zw20) := Lib.hid (blThen HB_zw19.out HX.out)
       have K8 := row_upB K8 L8 HX.out
       have L8 := lt_upB L8 HX.out
       have HG2 := Lib.hid hg
       clear hg
       refine hK.out _ _ (KS.out _ HB_zw20.out) (fun hHeld => ?_)
       clear hK K HX h5
       try simp only [Act.put, List.setIfInBounds_toArray, List.set_cons_zero, List.set_cons_succ]
       refine wpAnyH_ready (rs := [9, 11]) (by kernel_rfl) (by simp) ?_
       refine (AllReadyH.cons (o := ⟨_, _, _, _, _, _⟩) rfl (fun K hK => ?_) (AllReadyH.cons (o := ⟨_, _, _, _, _, _⟩) rfl (fun K hK => ?_) AllReadyH.nil))
       ·go_simp
        go_at_call 12
        refine (HR2.out zw20 gb2 HB_zw20.out HG2.out).mono ?_
        rintro e zw21 ⟨rfl, h5⟩
        have HX : Hid (Below zw20.heap.size zw20 zw21) := Lib.hid h5
        have HB_zw21 : Hid (Below D.heap.size D zw21) := Lib.hid (blThen HB_zw20.out HX.out)
        have K8 := row_upB K8 L8 HX.out
        have L8 := lt_upB L8 HX.out
        refine hK.out _ _ (KS.out _ HB_zw21.out) (fun hHeld => ?_)
        clear hK K HX h5
        try simp only [Act.put, List.setIfInBounds_toArray, List.set_cons_zero, List.set_cons_succ]
        refine wpAnyH_ready (rs := [11]) (by kernel_rfl) (by simp) ?_
        refine (AllReadyH.cons (o := ⟨_, _, _, _, _, _⟩) rfl (fun K hK => ?_) AllReadyH.nil)
        ·go_simp
         have HX : Hid (Below zw21.heap.size zw21 (zw21.alloc (.cells #[.int .i64 0, .bool false, .int .i64 0, .int .i64 0, .slice none 0 0, .int .i64 0, .int .i64 0, .slice none 0 0] 44))) := Lib.hid (blAlloc (Below.refl _ _) _)
         have HB_zw22 : Hid (Below D.heap.size D (zw21.alloc (.cells #[.int .i64 0, .bool false, .int .i64 0, .int .i64 0, .slice none 0 0, .int .i64 0, .int .i64 0, .slice none 0 0] 44))) := Lib.hid (blThen HB_zw21.out HX.out)
         have NE : Hid (zw2.heap.size < zw21.heap.size) := L8
         have K8 := row_upB K8 L8 HX.out
         have L8 := lt_upB L8 HX.out
         have K9 : Hid ((zw21.alloc (.cells #[.int .i64 0, .bool false, .int .i64 0, .int .i64 0, .slice none 0 0, .int .i64 0, .int .i64 0, .slice none 0 0] 44)).heap[zw21.heap.size]? = some (.cells #[.int .i64 0, .bool false, .int .i64 0, .int .i64 0, .slice none 0 0, .int .i64 0, .int .i64 0, .slice none 0 0] 44 (0, 0))) := Lib.hid (new_blockB zw21 #[.int .i64 0, .bool false, .int .i64 0, .int .i64 0, .slice none 0 0, .int .i64 0, .int .i64 0, .slice none 0 0] 44)
         have L9 : Hid (zw21.heap.size < (zw21.alloc (.cells #[.int .i64 0, .bool false, .int .i64 0, .int .i64 0, .slice none 0 0, .int .i64 0, .int .i64 0, .slice none 0 0] 44)).heap.size) := Lib.hid (by simp)
         have G9 : Hid (D.heap.size ≤ zw21.heap.size) := Lib.hid HB_zw21.out.size
         refine hK.out _ _ (KS.out _ HB_zw22.out) (fun hHeld => ?_)
         clear hK K HX
         try simp only [Act.put, List.setIfInBounds_toArray, List.set_cons_zero, List.set_cons_succ]
         generalize (zw21.alloc (.cells #[.int .i64 0, .bool false, .int .i64 0, .int .i64 0, .slice none 0 0, .int .i64 0, .int .i64 0, .slice none 0 0] 44)) = zw22 at *
         refine wpAnyH_ready (rs := [12]) (by kernel_rfl) (by simp) ?_
         refine AllReadyH.cons (o := ⟨_, _, _, _, _, _⟩) rfl (fun K hK => ?_) AllReadyH.nil
         refine ite_yesB (by rfl) ?_
         refine wp_store_rowB _ _ _ rfl _ rfl (cells := #[.int .i64 1, .bool false, .int .i64 3, .int .i64 1, .slice fa fn fc, .int .i64 0, .int .i64 0, .slice none 0 0]) rfl K8.out szPlB rfl (by simp [Value.oneCell']) ?_
         intro za h1 h2
         have HB_za : Hid (Below D.heap.size D za) := Lib.hid (below_grownB HB_zw22.out h2 G8.out)
         have K9 := grown_otherB K9 h2 L9.out (fun e => absurd e.symm (Nat.ne_of_lt NE.out))
         have K8 := Lib.hid h1
         have L8 : Hid (zw2.heap.size < za.heap.size) := Lib.hid (lt_of_block h1)
         have L9 : Hid (zw21.heap.size < za.heap.size) := Lib.hid (lt_of_block K9.out)
         clear h1 h2
         refine hK.out _ _ (KS.out _ HB_za.out) (fun hHeld => ?_)
         clear hK K
         try simp only [Act.put, List.setIfInBounds_toArray, List.set_cons_zero, List.set_cons_succ]
         refine wpAnyH_ready (rs := [13]) (by kernel_rfl) (by simp) ?_
         refine AllReadyH.cons (o := ⟨_, _, _, _, _, _⟩) rfl (fun K hK => ?_) AllReadyH.nil
         refine ite_yesB (by rfl) ?_
         refine wp_store_rowB _ _ _ rfl _ rfl (cells := #[.int .i64 2, .bool false, .int .i64 0, .int .i64 0, .slice none 0 0, .int .i64 9, .int .i64 2, .slice none 0 0]) rfl K9.out szPlB rfl (by simp [Value.oneCell']) ?_
         intro zb h1 h2
         have HB_zb : Hid (Below D.heap.size D zb) := Lib.hid (below_grownB HB_za.out h2 G9.out)
         have K8 := grown_otherB K8 h2 L8.out (Nat.ne_of_lt NE.out)
         have K9 := Lib.hid h1
         clear h1 h2
         refine hK.out _ _ (KS.out _ HB_zb.out) (fun hHeld => ?_)
         clear hK K
         try simp only [Act.put, List.setIfInBounds_toArray, List.set_cons_zero, List.set_cons_succ]
         refine wpAnyH_done (by kernel_rfl) ?_ _
         go_wp2_with fail
         go_meet
         exact ⟨_, _, fa, fn, fc, rfl, rfl, G8.out, G9.out, K8.out, K9.out, HB_zb.out⟩
       ·go_simp
        have HX : Hid (Below zw20.heap.size zw20 (zw20.alloc (.cells #[.int .i64 0, .bool false, .int .i64 0, .int .i64 0, .slice none 0 0, .int .i64 0, .int .i64 0, .slice none 0 0] 44))) := Lib.hid (blAlloc (Below.refl _ _) _)
        have HB_zw23 : Hid (Below D.heap.size D (zw20.alloc (.cells #[.int .i64 0, .bool false, .int .i64 0, .int .i64 0, .slice none 0 0, .int .i64 0, .int .i64 0, .slice none 0 0] 44))) := Lib.hid (blThen HB_zw20.out HX.out)
        have NE : Hid (zw2.heap.size < zw20.heap.size) := L8
        have K8 := row_upB K8 L8 HX.out
        have L8 := lt_upB L8 HX.out
        have HG2 := Lib.hid (HG2.out.later HX.out)
        have K9 : Hid ((zw20.alloc (.cells #[.int .i64 0, .bool false, .int .i64 0, .int .i64 0, .slice none 0 0, .int .i64 0, .int .i64 0, .slice none 0 0] 44)).heap[zw20.heap.size]? = some (.cells #[.int .i64 0, .bool false, .int .i64 0, .int .i64 0, .slice none 0 0, .int .i64 0, .int .i64 0, .slice none 0 0] 44 (0, 0))) := Lib.hid (new_blockB zw20 #[.int .i64 0, .bool false, .int .i64 0, .int .i64 0, .slice none 0 0, .int .i64 0, .int .i64 0, .slice none 0 0] 44)
        have L9 : Hid (zw20.heap.size < (zw20.alloc (.cells #[.int .i64 0, .bool false, .int .i64 0, .int .i64 0, .slice none 0 0, .int .i64 0, .int .i64 0, .slice none 0 0] 44)).heap.size) := Lib.hid (by simp)
        have G9 : Hid (D.heap.size ≤ zw20.heap.size) := Lib.hid HB_zw20.out.size
        refine hK.out _ _ (KS.out _ HB_zw23.out) (fun hHeld => ?_)
        clear hK K HX
        try simp only [Act.put, List.setIfInBounds_toArray, List.set_cons_zero, List.set_cons_succ]
        generalize (zw20.alloc (.cells #[.int .i64 0, .bool false, .int .i64 0, .int .i64 0, .slice none 0 0, .int .i64 0, .int .i64 0, .slice none 0 0] 44)) = zw23 at *
        refine wpAnyH_ready (rs := [9]) (by kernel_rfl) (by simp) ?_
        refine (AllReadyH.cons (o := ⟨_, _, _, _, _, _⟩) rfl (fun K hK => ?_) AllReadyH.nil)
        ·go_simp
         go_at_call 12
         refine (HR2.out zw23 gb2 HB_zw23.out HG2.out).mono ?_
         rintro e zw24 ⟨rfl, h5⟩
         have HX : Hid (Below zw23.heap.size zw23 zw24) := Lib.hid h5
         have HB_zw24 : Hid (Below D.heap.size D zw24) := Lib.hid (blThen HB_zw23.out HX.out)
         have K8 := row_upB K8 L8 HX.out
         have L8 := lt_upB L8 HX.out
         have K9 := row_upB K9 L9 HX.out
         have L9 := lt_upB L9 HX.out
         refine hK.out _ _ (KS.out _ HB_zw24.out) (fun hHeld => ?_)
         clear hK K HX h5
         try simp only [Act.put, List.setIfInBounds_toArray, List.set_cons_zero, List.set_cons_succ]
         refine wpAnyH_ready (rs := [12]) (by kernel_rfl) (by simp) ?_
         refine AllReadyH.cons (o := ⟨_, _, _, _, _, _⟩) rfl (fun K hK => ?_) AllReadyH.nil
         refine ite_yesB (by rfl) ?_
         refine wp_store_rowB _ _ _ rfl _ rfl (cells := #[.int .i64 1, .bool false, .int .i64 3, .int .i64 1, .slice fa fn fc, .int .i64 0, .int .i64 0, .slice none 0 0]) rfl K8.out szPlB rfl (by simp [Value.oneCell']) ?_
         intro za h1 h2
         have HB_za : Hid (Below D.heap.size D za) := Lib.hid (below_grownB HB_zw24.out h2 G8.out)
         have K9 := grown_otherB K9 h2 L9.out (fun e => absurd e.symm (Nat.ne_of_lt NE.out))
         have K8 := Lib.hid h1
         have L8 : Hid (zw2.heap.size < za.heap.size) := Lib.hid (lt_of_block h1)
         have L9 : Hid (zw20.heap.size < za.heap.size) := Lib.hid (lt_of_block K9.out)
         clear h1 h2
         refine hK.out _ _ (KS.out _ HB_za.out) (fun hHeld => ?_)
         clear hK K
         try simp only [Act.put, List.setIfInBounds_toArray, List.set_cons_zero, List.set_cons_succ]
         refine wpAnyH_ready (rs := [13]) (by kernel_rfl) (by simp) ?_
         refine AllReadyH.cons (o := ⟨_, _, _, _, _, _⟩) rfl (fun K hK => ?_) AllReadyH.nil
         refine ite_yesB (by rfl) ?_
         refine wp_store_rowB _ _ _ rfl _ rfl (cells := #[.int .i64 2, .bool false, .int .i64 0, .int .i64 0, .slice none 0 0, .int .i64 9, .int .i64 2, .slice none 0 0]) rfl K9.out szPlB rfl (by simp [Value.oneCell']) ?_
         intro zb h1 h2
         have HB_zb : Hid (Below D.heap.size D zb) := Lib.hid (below_grownB HB_za.out h2 G9.out)
         have K8 := grown_otherB K8 h2 L8.out (Nat.ne_of_lt NE.out)
         have K9 := Lib.hid h1
         clear h1 h2
         refine hK.out _ _ (KS.out _ HB_zb.out) (fun hHeld => ?_)
         clear hK K
         try simp only [Act.put, List.setIfInBounds_toArray, List.set_cons_zero, List.set_cons_succ]
         refine wpAnyH_done (by kernel_rfl) ?_ _
         go_wp2_with fail
         go_meet
         exact ⟨_, _, fa, fn, fc, rfl, rfl, G8.out, G9.out, K8.out, K9.out, HB_zb.out⟩
      ·go_simp
       have HX : Hid (Below zw19.heap.size zw19 (zw19.alloc (.cells #[.int .i64 0, .bool false, .int .i64 0, .int .i64 0, .slice none 0 0, .int .i64 0, .int .i64 0, .slice none 0 0] 44))) := Lib.hid (blAlloc (Below.refl _ _) _)
       have HB_zw25 : Hid (Below D.heap.size D (zw19.alloc (.cells #[.int .i64 0, .bool false, .int .i64 0, .int .i64 0, .slice none 0 0, .int .i64 0, .int .i64 0, .slice none 0 0] 44))) := Lib.hid (blThen HB_zw19.out HX.out)
       have NE : Hid (zw2.heap.size < zw19.heap.size) := L8
       have K8 := row_upB K8 L8 HX.out
       have L8 := lt_upB L8 HX.out
       have K9 : Hid ((zw19.alloc (.cells #[.int .i64 0, .bool false, .int .i64 0, .int .i64 0, .slice none 0 0, .int .i64 0, .int .i64 0, .slice none 0 0] 44)).heap[zw19.heap.size]? = some (.cells #[.int .i64 0, .bool false, .int .i64 0, .int .i64 0, .slice none 0 0, .int .i64 0, .int .i64 0, .slice none 0 0] 44 (0, 0))) := Lib.hid (new_blockB zw19 #[.int .i64 0, .bool false, .int .i64 0, .int .i64 0, .slice none 0 0, .int .i64 0, .int .i64 0, .slice none 0 0] 44)
       have L9 : Hid (zw19.heap.size < (zw19.alloc (.cells #[.int .i64 0, .bool false, .int .i64 0, .int .i64 0, .slice none 0 0, .int .i64 0, .int .i64 0, .slice none 0 0] 44)).heap.size) := Lib.hid (by simp)
       have G9 : Hid (D.heap.size ≤ zw19.heap.size) := Lib.hid HB_zw19.out.size
       refine hK.out _ _ (KS.out _ HB_zw25.out) (fun hHeld => ?_)
       clear hK K HX
       try simp only [Act.put, List.setIfInBounds_toArray, List.set_cons_zero, List.set_cons_succ]
       generalize (zw19.alloc (.cells #[.int .i64 0, .bool false, .int .i64 0, .int .i64 0, .slice none 0 0, .int .i64 0, .int .i64 0, .slice none 0 0] 44)) = zw25 at *
       refine wpAnyH_ready (rs := [7]) (by kernel_rfl) (by simp) ?_
       refine (AllReadyH.cons (o := ⟨_, _, _, _, _, _⟩) rfl (fun K hK => ?_) AllReadyH.nil)
       ·go_simp
        go_at_call 20
        refine (get_op zw25).mono ?_
        rintro e zw26 ⟨gb2, rfl, hg, h5⟩
        have HX : Hid (Below zw25.heap.size zw25 zw26) := Lib.hid h5
        have HB_zw26 : Hid (Below D.heap.size D zw26) := Lib.hid (blThen HB_zw25.out HX.out)
        have K8 := row_upB K8 L8 HX.out
        have L8 := lt_upB L8 HX.out
        have K9 := row_upB K9 L9 HX.out
        have L9 := lt_upB L9 HX.out
        have HG2 := Lib.hid hg
        clear hg
        refine hK.out _ _ (KS.out _ HB_zw26.out) (fun hHeld => ?_)
        clear hK K HX h5
        try simp only [Act.put, List.setIfInBounds_toArray, List.set_cons_zero, List.set_cons_succ]
        refine wpAnyH_ready (rs := [9]) (by kernel_rfl) (by simp) ?_
        refine (AllReadyH.cons (o := ⟨_, _, _, _, _, _⟩) rfl (fun K hK => ?_) AllReadyH.nil)
        ·go_simp
         go_at_call 12
         refine (HR2.out zw26 gb2 HB_zw26.out HG2.out).mono ?_
         rintro e zw27 ⟨rfl, h5⟩
         have HX : Hid (Below zw26.heap.size zw26 zw27) := Lib.hid h5
         have HB_zw27 : Hid (Below D.heap.size D zw27) := Lib.hid (blThen HB_zw26.out HX.out)
         have K8 := row_upB K8 L8 HX.out
         have L8 := lt_upB L8 HX.out
         have K9 := row_upB K9 L9 HX.out
         have L9 := lt_upB L9 HX.out
         refine hK.out _ _ (KS.out _ HB_zw27.out) (fun hHeld => ?_)
         clear hK K HX h5
         try simp only [Act.put, List.setIfInBounds_toArray, List.set_cons_zero, List.set_cons_succ]
         refine wpAnyH_ready (rs := [12]) (by kernel_rfl) (by simp) ?_
         refine AllReadyH.cons (o := ⟨_, _, _, _, _, _⟩) rfl (fun K hK => ?_) AllReadyH.nil
         refine ite_yesB (by rfl) ?_
         refine wp_store_rowB _ _ _ rfl _ rfl (cells := #[.int .i64 1, .bool false, .int .i64 3, .int .i64 1, .slice fa fn fc, .int .i64 0, .int .i64 0, .slice none 0 0]) rfl K8.out szPlB rfl (by simp [Value.oneCell']) ?_
         intro za h1 h2
         have HB_za : Hid (Below D.heap.size D za) := Lib.hid (below_grownB HB_zw27.out h2 G8.out)
         have K9 := grown_otherB K9 h2 L9.out (fun e => absurd e.symm (Nat.ne_of_lt NE.out))
         have K8 := Lib.hid h1
         have L8 : Hid (zw2.heap.size < za.heap.size) := Lib.hid (lt_of_block h1)
         have L9 : Hid (zw19.heap.size < za.heap.size) := Lib.hid (lt_of_block K9.out)
         clear h1 h2
         refine hK.out _ _ (KS.out _ HB_za.out) (fun hHeld => ?_)
         clear hK K
         try simp only [Act.put, List.setIfInBounds_toArray, List.set_cons_zero, List.set_cons_succ]
         refine wpAnyH_ready (rs := [13]) (by kernel_rfl) (by simp) ?_
         refine AllReadyH.cons (o := ⟨_, _, _, _, _, _⟩) rfl (fun K hK => ?_) AllReadyH.nil
         refine ite_yesB (by rfl) ?_
         refine wp_store_rowB _ _ _ rfl _ rfl (cells := #[.int .i64 2, .bool false, .int .i64 0, .int .i64 0, .slice none 0 0, .int .i64 9, .int .i64 2, .slice none 0 0]) rfl K9.out szPlB rfl (by simp [Value.oneCell']) ?_
         intro zb h1 h2
         have HB_zb : Hid (Below D.heap.size D zb) := Lib.hid (below_grownB HB_za.out h2 G9.out)
         have K8 := grown_otherB K8 h2 L8.out (Nat.ne_of_lt NE.out)
         have K9 := Lib.hid h1
         clear h1 h2
         refine hK.out _ _ (KS.out _ HB_zb.out) (fun hHeld => ?_)
         clear hK K
         try simp only [Act.put, List.setIfInBounds_toArray, List.set_cons_zero, List.set_cons_succ]
         refine wpAnyH_done (by kernel_rfl) ?_ _
         go_wp2_with fail
         go_meet
         exact ⟨_, _, fa, fn, fc, rfl, rfl, G8.out, G9.out, K8.out, K9.out, HB_zb.out⟩
     ·go_simp
      have HX : Hid (Below zw2.heap.size zw2 (zw2.alloc (.cells #[.int .i64 0, .bool false, .int .i64 0, .int .i64 0, .slice none 0 0, .int .i64 0, .int .i64 0, .slice none 0 0] 44))) := Lib.hid (blAlloc (Below.refl _ _) _)
      have HB_zw28 : Hid (Below D.heap.size D (zw2.alloc (.cells #[.int .i64 0, .bool false, .int .i64 0, .int .i64 0, .slice none 0 0, .int .i64 0, .int .i64 0, .slice none 0 0] 44))) := Lib.hid (blThen HB_zw2.out HX.out)
      have K9 : Hid ((zw2.alloc (.cells #[.int .i64 0, .bool false, .int .i64 0, .int .i64 0, .slice none 0 0, .int .i64 0, .int .i64 0, .slice none 0 0] 44)).heap[zw2.heap.size]? = some (.cells #[.int .i64 0, .bool false, .int .i64 0, .int .i64 0, .slice none 0 0, .int .i64 0, .int .i64 0, .slice none 0 0] 44 (0, 0))) := Lib.hid (new_blockB zw2 #[.int .i64 0, .bool false, .int .i64 0, .int .i64 0, .slice none 0 0, .int .i64 0, .int .i64 0, .slice none 0 0] 44)
      have L9 : Hid (zw2.heap.size < (zw2.alloc (.cells #[.int .i64 0, .bool false, .int .i64 0, .int .i64 0, .slice none 0 0, .int .i64 0, .int .i64 0, .slice none 0 0] 44)).heap.size) := Lib.hid (by simp)
      have G9 : Hid (D.heap.size ≤ zw2.heap.size) := Lib.hid HB_zw2.out.size
      refine hK.out _ _ (KS.out _ HB_zw28.out) (fun hHeld => ?_)
      clear hK K HX
      try simp only [Act.put, List.setIfInBounds_toArray, List.set_cons_zero, List.set_cons_succ]
      generalize (zw2.alloc (.cells #[.int .i64 0, .bool false, .int .i64 0, .int .i64 0, .slice none 0 0, .int .i64 0, .int .i64 0, .slice none 0 0] 44)) = zw28 at *
      refine wpAnyH_ready (rs := [7, 10]) (by kernel_rfl) (by simp) ?_
      refine (AllReadyH.cons (o := ⟨_, _, _, _, _, _⟩) rfl (fun K hK => ?_) (AllReadyH.cons (o := ⟨_, _, _, _, _, _⟩) rfl (fun K hK => ?_) AllReadyH.nil))
      ·go_simp
       go_at_call 20
       refine (get_op zw28).mono ?_
       rintro e zw29 ⟨gb2, rfl, hg, h5⟩
       have HX : Hid (Below zw28.heap.size zw28 zw29) := Lib.hid h5
       have HB_zw29 : Hid (Below D.heap.size D zw29) := Lib.hid (blThen HB_zw28.out HX.out)
       have K9 := row_upB K9 L9 HX.out
       have L9 := lt_upB L9 HX.out
       have HG2 := Lib.hid hg
       clear hg
       refine hK.out _ _ (KS.out _ HB_zw29.out) (fun hHeld => ?_)
       clear hK K HX h5
       try simp only [Act.put, List.setIfInBounds_toArray, List.set_cons_zero, List.set_cons_succ]
       refine wpAnyH_ready (rs := [9, 10]) (by kernel_rfl) (by simp) ?_
       refine (AllReadyH.cons (o := ⟨_, _, _, _, _, _⟩) rfl (fun K hK => ?_) (AllReadyH.cons (o := ⟨_, _, _, _, _, _⟩) rfl (fun K hK => ?_) AllReadyH.nil))
       ·go_simp
        go_at_call 12
        refine (HR2.out zw29 gb2 HB_zw29.out HG2.out).mono ?_
        rintro e zw30 ⟨rfl, h5⟩
        have HX : Hid (Below zw29.heap.size zw29 zw30) := Lib.hid h5
        have HB_zw30 : Hid (Below D.heap.size D zw30) := Lib.hid (blThen HB_zw29.out HX.out)
        have K9 := row_upB K9 L9 HX.out
        have L9 := lt_upB L9 HX.out
        refine hK.out _ _ (KS.out _ HB_zw30.out) (fun hHeld => ?_)
        clear hK K HX h5
        try simp only [Act.put, List.setIfInBounds_toArray, List.set_cons_zero, List.set_cons_succ]
        refine wpAnyH_ready (rs := [10]) (by kernel_rfl) (by simp) ?_
        refine (AllReadyH.cons (o := ⟨_, _, _, _, _, _⟩) rfl (fun K hK => ?_) AllReadyH.nil)
        ·go_simp
         have HX : Hid (Below zw30.heap.size zw30 (zw30.alloc (.cells #[.int .i64 0, .bool false, .int .i64 0, .int .i64 0, .slice none 0 0, .int .i64 0, .int .i64 0, .slice none 0 0] 44))) := Lib.hid (blAlloc (Below.refl _ _) _)
         have HB_zw31 : Hid (Below D.heap.size D (zw30.alloc (.cells #[.int .i64 0, .bool false, .int .i64 0, .int .i64 0, .slice none 0 0, .int .i64 0, .int .i64 0, .slice none 0 0] 44))) := Lib.hid (blThen HB_zw30.out HX.out)
         have NE : Hid (zw2.heap.size < zw30.heap.size) := L9
         have K9 := row_upB K9 L9 HX.out
         have L9 := lt_upB L9 HX.out
         have K8 : Hid ((zw30.alloc (.cells #[.int .i64 0, .bool false, .int .i64 0, .int .i64 0, .slice none 0 0, .int .i64 0, .int .i64 0, .slice none 0 0] 44)).heap[zw30.heap.size]? = some (.cells #[.int .i64 0, .bool false, .int .i64 0, .int .i64 0, .slice none 0 0, .int .i64 0, .int .i64 0, .slice none 0 0] 44 (0, 0))) := Lib.hid (new_blockB zw30 #[.int .i64 0, .bool false, .int .i64 0, .int .i64 0, .slice none 0 0, .int .i64 0, .int .i64 0, .slice none 0 0] 44)
         have L8 : Hid (zw30.heap.size < (zw30.alloc (.cells #[.int .i64 0, .bool false, .int .i64 0, .int .i64 0, .slice none 0 0, .int .i64 0, .int .i64 0, .slice none 0 0] 44)).heap.size) := Lib.hid (by simp)
         have G8 : Hid (D.heap.size ≤ zw30.heap.size) := Lib.hid HB_zw30.out.size
         refine hK.out _ _ (KS.out _ HB_zw31.out) (fun hHeld => ?_)
         clear hK K HX
         try simp only [Act.put, List.setIfInBounds_toArray, List.set_cons_zero, List.set_cons_succ]
         generalize (zw30.alloc (.cells #[.int .i64 0, .bool false, .int .i64 0, .int .i64 0, .slice none 0 0, .int .i64 0, .int .i64 0, .slice none 0 0] 44)) = zw31 at *
         refine wpAnyH_ready (rs := [12]) (by kernel_rfl) (by simp) ?_
         refine AllReadyH.cons (o := ⟨_, _, _, _, _, _⟩) rfl (fun K hK => ?_) AllReadyH.nil
         refine ite_yesB (by rfl) ?_
         refine wp_store_rowB _ _ _ rfl _ rfl (cells := #[.int .i64 1, .bool false, .int .i64 3, .int .i64 1, .slice fa fn fc, .int .i64 0, .int .i64 0, .slice none 0 0]) rfl K8.out szPlB rfl (by simp [Value.oneCell']) ?_
         intro za h1 h2
         have HB_za : Hid (Below D.heap.size D za) := Lib.hid (below_grownB HB_zw31.out h2 G8.out)
         have K9 := grown_otherB K9 h2 L9.out (fun e => absurd e.symm (Nat.ne_of_gt NE.out))
         have K8 := Lib.hid h1
         have L8 : Hid (zw30.heap.size < za.heap.size) := Lib.hid (lt_of_block h1)
         have L9 : Hid (zw2.heap.size < za.heap.size) := Lib.hid (lt_of_block K9.out)
         clear h1 h2
         refine hK.out _ _ (KS.out _ HB_za.out) (fun hHeld => ?_)
         clear hK K
         try simp only [Act.put, List.setIfInBounds_toArray, List.set_cons_zero, List.set_cons_succ]
         refine wpAnyH_ready (rs := [13]) (by kernel_rfl) (by simp) ?_
         refine AllReadyH.cons (o := ⟨_, _, _, _, _, _⟩) rfl (fun K hK => ?_) AllReadyH.nil
         refine ite_yesB (by rfl) ?_
         refine wp_store_rowB _ _ _ rfl _ rfl (cells := #[.int .i64 2, .bool false, .int .i64 0, .int .i64 0, .slice none 0 0, .int .i64 9, .int .i64 2, .slice none 0 0]) rfl K9.out szPlB rfl (by simp [Value.oneCell']) ?_
         intro zb h1 h2
         have HB_zb : Hid (Below D.heap.size D zb) := Lib.hid (below_grownB HB_za.out h2 G9.out)
         have K8 := grown_otherB K8 h2 L8.out (Nat.ne_of_gt NE.out)
         have K9 := Lib.hid h1
         clear h1 h2
         refine hK.out _ _ (KS.out _ HB_zb.out) (fun hHeld => ?_)
         clear hK K
         try simp only [Act.put, List.setIfInBounds_toArray, List.set_cons_zero, List.set_cons_succ]
         refine wpAnyH_done (by kernel_rfl) ?_ _
         go_wp2_with fail
         go_meet
         exact ⟨_, _, fa, fn, fc, rfl, rfl, G8.out, G9.out, K8.out, K9.out, HB_zb.out⟩
       ·go_simp
        have HX : Hid (Below zw29.heap.size zw29 (zw29.alloc (.cells #[.int .i64 0, .bool false, .int .i64 0, .int .i64 0, .slice none 0 0, .int .i64 0, .int .i64 0, .slice none 0 0] 44))) := Lib.hid (blAlloc (Below.refl _ _) _)
        have HB_zw32 : Hid (Below D.heap.size D (zw29.alloc (.cells #[.int .i64 0, .bool false, .int .i64 0, .int .i64 0, .slice none 0 0, .int .i64 0, .int .i64 0, .slice none 0 0] 44))) := Lib.hid (blThen HB_zw29.out HX.out)
        have NE : Hid (zw2.heap.size < zw29.heap.size) := L9
        have K9 := row_upB K9 L9 HX.out
        have L9 := lt_upB L9 HX.out
        have HG2 := Lib.hid (HG2.out.later HX.out)
        have K8 : Hid ((zw29.alloc (.cells #[.int .i64 0, .bool false, .int .i64 0, .int .i64 0, .slice none 0 0, .int .i64 0, .int .i64 0, .slice none 0 0] 44)).heap[zw29.heap.size]? = some (.cells #[.int .i64 0, .bool false, .int .i64 0, .int .i64 0, .slice none 0 0, .int .i64 0, .int .i64 0, .slice none 0 0] 44 (0, 0))) := Lib.hid (new_blockB zw29 #[.int .i64 0, .bool false, .int .i64 0, .int .i64 0, .slice none 0 0, .int .i64 0, .int .i64 0, .slice none 0 0] 44)
        have L8 : Hid (zw29.heap.size < (zw29.alloc (.cells #[.int .i64 0, .bool false, .int .i64 0, .int .i64 0, .slice none 0 0, .int .i64 0, .int .i64 0, .slice none 0 0] 44)).heap.size) := Lib.hid (by simp)
        have G8 : Hid (D.heap.size ≤ zw29.heap.size) := Lib.hid HB_zw29.out.size
        refine hK.out _ _ (KS.out _ HB_zw32.out) (fun hHeld => ?_)
        clear hK K HX
        try simp only [Act.put, List.setIfInBounds_toArray, List.set_cons_zero, List.set_cons_succ]
        generalize (zw29.alloc (.cells #[.int .i64 0, .bool false, .int .i64 0, .int .i64 0, .slice none 0 0, .int .i64 0, .int .i64 0, .slice none 0 0] 44)) = zw32 at *
        refine wpAnyH_ready (rs := [9]) (by kernel_rfl) (by simp) ?_
        refine (AllReadyH.cons (o := ⟨_, _, _, _, _, _⟩) rfl (fun K hK => ?_) AllReadyH.nil)
        ·go_simp
         go_at_call 12
         refine (HR2.out zw32 gb2 HB_zw32.out HG2.out).mono ?_
         rintro e zw33 ⟨rfl, h5⟩
         have HX : Hid (Below zw32.heap.size zw32 zw33) := Lib.hid h5
         have HB_zw33 : Hid (Below D.heap.size D zw33) := Lib.hid (blThen HB_zw32.out HX.out)
         have K9 := row_upB K9 L9 HX.out
         have L9 := lt_upB L9 HX.out
         have K8 := row_upB K8 L8 HX.out
         have L8 := lt_upB L8 HX.out
         refine hK.out _ _ (KS.out _ HB_zw33.out) (fun hHeld => ?_)
         clear hK K HX h5
         try simp only [Act.put, List.setIfInBounds_toArray, List.set_cons_zero, List.set_cons_succ]
         refine wpAnyH_ready (rs := [12]) (by kernel_rfl) (by simp) ?_
         refine AllReadyH.cons (o := ⟨_, _, _, _, _, _⟩) rfl (fun K hK => ?_) AllReadyH.nil
         refine ite_yesB (by rfl) ?_
         refine wp_store_rowB _ _ _ rfl _ rfl (cells := #[.int .i64 1, .bool false, .int .i64 3, .int .i64 1, .slice fa fn fc, .int .i64 0, .int .i64 0, .slice none 0 0]) rfl K8.out szPlB rfl (by simp [Value.oneCell']) ?_
         intro za h1 h2
         have HB_za : Hid (Below D.heap.size D za) := Lib.hid (below_grownB HB_zw33.out h2 G8.out)
         have K9 := grown_otherB K9 h2 L9.out (fun e => absurd e.symm (Nat.ne_of_gt NE.out))
         have K8 := Lib.hid h1
         have L8 : Hid (zw29.heap.size < za.heap.size) := Lib.hid (lt_of_block h1)
         have L9 : Hid (zw2.heap.size < za.heap.size) := Lib.hid (lt_of_block K9.out)
         clear h1 h2
         refine hK.out _ _ (KS.out _ HB_za.out) (fun hHeld => ?_)
         clear hK K
         try simp only [Act.put, List.setIfInBounds_toArray, List.set_cons_zero, List.set_cons_succ]
         refine wpAnyH_ready (rs := [13]) (by kernel_rfl) (by simp) ?_
         refine AllReadyH.cons (o := ⟨_, _, _, _, _, _⟩) rfl (fun K hK => ?_) AllReadyH.nil
         refine ite_yesB (by rfl) ?_
         refine wp_store_rowB _ _ _ rfl _ rfl (cells := #[.int .i64 2, .bool false, .int .i64 0, .int .i64 0, .slice none 0 0, .int .i64 9, .int .i64 2, .slice none 0 0]) rfl K9.out szPlB rfl (by simp [Value.oneCell']) ?_
         intro zb h1 h2
         have HB_zb : Hid (Below D.heap.size D zb) := Lib.hid (below_grownB HB_za.out h2 G9.out)
         have K8 := grown_otherB K8 h2 L8.out (Nat.ne_of_gt NE.out)
         have K9 := Lib.hid h1
         clear h1 h2
         refine hK.out _ _ (KS.out _ HB_zb.out) (fun hHeld => ?_)
         clear hK K
         try simp only [Act.put, List.setIfInBounds_toArray, List.set_cons_zero, List.set_cons_succ]
         refine wpAnyH_done (by kernel_rfl) ?_ _
         go_wp2_with fail
         go_meet
         exact ⟨_, _, fa, fn, fc, rfl, rfl, G8.out, G9.out, K8.out, K9.out, HB_zb.out⟩
      ·go_simp
       have HX : Hid (Below zw28.heap.size zw28 (zw28.alloc (.cells #[.int .i64 0, .bool false, .int .i64 0, .int .i64 0, .slice none 0 0, .int .i64 0, .int .i64 0, .slice none 0 0] 44))) := Lib.hid (blAlloc (Below.refl _ _) _)
       have HB_zw34 : Hid (Below D.heap.size D (zw28.alloc (.cells #[.int .i64 0, .bool false, .int .i64 0, .int .i64 0, .slice none 0 0, .int .i64 0, .int .i64 0, .slice none 0 0] 44))) := Lib.hid (blThen HB_zw28.out HX.out)
       have NE : Hid (zw2.heap.size < zw28.heap.size) := L9
       have K9 := row_upB K9 L9 HX.out
       have L9 := lt_upB L9 HX.out
       have K8 : Hid ((zw28.alloc (.cells #[.int .i64 0, .bool false, .int .i64 0, .int .i64 0, .slice none 0 0, .int .i64 0, .int .i64 0, .slice none 0 0] 44)).heap[zw28.heap.size]? = some (.cells #[.int .i64 0, .bool false, .int .i64 0, .int .i64 0, .slice none 0 0, .int .i64 0, .int .i64 0, .slice none 0 0] 44 (0, 0))) := Lib.hid (new_blockB zw28 #[.int .i64 0, .bool false, .int .i64 0, .int .i64 0, .slice none 0 0, .int .i64 0, .int .i64 0, .slice none 0 0] 44)
       have L8 : Hid (zw28.heap.size < (zw28.alloc (.cells #[.int .i64 0, .bool false, .int .i64 0, .int .i64 0, .slice none 0 0, .int .i64 0, .int .i64 0, .slice none 0 0] 44)).heap.size) := Lib.hid (by simp)
       have G8 : Hid (D.heap.size ≤ zw28.heap.size) := Lib.hid HB_zw28.out.size
       refine hK.out _ _ (KS.out _ HB_zw34.out) (fun hHeld => ?_)
       clear hK K HX
       try simp only [Act.put, List.setIfInBounds_toArray, List.set_cons_zero, List.set_cons_succ]
       generalize (zw28.alloc (.cells #[.int .i64 0, .bool false, .int .i64 0, .int .i64 0, .slice none 0 0, .int .i64 0, .int .i64 0, .slice none 0 0] 44)) = zw34 at *
       refine wpAnyH_ready (rs := [7]) (by kernel_rfl) (by simp) ?_
       refine (AllReadyH.cons (o := ⟨_, _, _, _, _, _⟩) rfl (fun K hK => ?_) AllReadyH.nil)
       ·go_simp
        go_at_call 20
        refine (get_op zw34).mono ?_
        rintro e zw35 ⟨gb2, rfl, hg, h5⟩
        have HX : Hid (Below zw34.heap.size zw34 zw35) := Lib.hid h5
        have HB_zw35 : Hid (Below D.heap.size D zw35) := Lib.hid (blThen HB_zw34.out HX.out)
        have K9 := row_upB K9 L9 HX.out
        have L9 := lt_upB L9 HX.out
        have K8 := row_upB K8 L8 HX.out
        have L8 := lt_upB L8 HX.out
        have HG2 := Lib.hid hg
        clear hg
        refine hK.out _ _ (KS.out _ HB_zw35.out) (fun hHeld => ?_)
        clear hK K HX h5
        try simp only [Act.put, List.setIfInBounds_toArray, List.set_cons_zero, List.set_cons_succ]
        refine wpAnyH_ready (rs := [9]) (by kernel_rfl) (by simp) ?_
        refine (AllReadyH.cons (o := ⟨_, _, _, _, _, _⟩) rfl (fun K hK => ?_) AllReadyH.nil)
        ·go_simp
         go_at_call 12
         refine (HR2.out zw35 gb2 HB_zw35.out HG2.out).mono ?_
         rintro e zw36 ⟨rfl, h5⟩
         have HX : Hid (Below zw35.heap.size zw35 zw36) := Lib.hid h5
         have HB_zw36 : Hid (Below D.heap.size D zw36) := Lib.hid (blThen HB_zw35.out HX.out)
         have K9 := row_upB K9 L9 HX.out
         have L9 := lt_upB L9 HX.out
         have K8 := row_upB K8 L8 HX.out
         have L8 := lt_upB L8 HX.out
         refine hK.out _ _ (KS.out _ HB_zw36.out) (fun hHeld => ?_)
         clear hK K HX h5
         try simp only [Act.put, List.setIfInBounds_toArray, List.set_cons_zero, List.set_cons_succ]
         refine wpAnyH_ready (rs := [12]) (by kernel_rfl) (by simp) ?_
         refine AllReadyH.cons (o := ⟨_, _, _, _, _, _⟩) rfl (fun K hK => ?_) AllReadyH.nil
         refine ite_yesB (by rfl) ?_
         refine wp_store_rowB _ _ _ rfl _ rfl (cells := #[.int .i64 1, .bool false, .int .i64 3, .int .i64 1, .slice fa fn fc, .int .i64 0, .int .i64 0, .slice none 0 0]) rfl K8.out szPlB rfl (by simp [Value.oneCell']) ?_
         intro za h1 h2
         have HB_za : Hid (Below D.heap.size D za) := Lib.hid (below_grownB HB_zw36.out h2 G8.out)
         have K9 := grown_otherB K9 h2 L9.out (fun e => absurd e.symm (Nat.ne_of_gt NE.out))
         have K8 := Lib.hid h1
         have L8 : Hid (zw28.heap.size < za.heap.size) := Lib.hid (lt_of_block h1)
         have L9 : Hid (zw2.heap.size < za.heap.size) := Lib.hid (lt_of_block K9.out)
         clear h1 h2
         refine hK.out _ _ (KS.out _ HB_za.out) (fun hHeld => ?_)
         clear hK K
         try simp only [Act.put, List.setIfInBounds_toArray, List.set_cons_zero, List.set_cons_succ]
         refine wpAnyH_ready (rs := [13]) (by kernel_rfl) (by simp) ?_
         refine AllReadyH.cons (o := ⟨_, _, _, _, _, _⟩) rfl (fun K hK => ?_) AllReadyH.nil
         refine ite_yesB (by rfl) ?_
         refine wp_store_rowB _ _ _ rfl _ rfl (cells := #[.int .i64 2, .bool false, .int .i64 0, .int .i64 0, .slice none 0 0, .int .i64 9, .int .i64 2, .slice none 0 0]) rfl K9.out szPlB rfl (by simp [Value.oneCell']) ?_
         intro zb h1 h2
         have HB_zb : Hid (Below D.heap.size D zb) := Lib.hid (below_grownB HB_za.out h2 G9.out)
         have K8 := grown_otherB K8 h2 L8.out (Nat.ne_of_gt NE.out)
         have K9 := Lib.hid h1
         clear h1 h2
         refine hK.out _ _ (KS.out _ HB_zb.out) (fun hHeld => ?_)
         clear hK K
         try simp only [Act.put, List.setIfInBounds_toArray, List.set_cons_zero, List.set_cons_succ]
         refine wpAnyH_done (by kernel_rfl) ?_ _
         go_wp2_with fail
         go_meet
         exact ⟨_, _, fa, fn, fc, rfl, rfl, G8.out, G9.out, K8.out, K9.out, HB_zb.out⟩
    ·go_simp
     have HX : Hid (Below zw1.heap.size zw1 (zw1.alloc (.cells #[.int .i64 0, .bool false, .int .i64 0, .int .i64 0, .slice none 0 0, .int .i64 0, .int .i64 0, .slice none 0 0] 44))) := Lib.hid (blAlloc (Below.refl _ _) _)
     have HB_zw37 : Hid (Below D.heap.size D (zw1.alloc (.cells #[.int .i64 0, .bool false, .int .i64 0, .int .i64 0, .slice none 0 0, .int .i64 0, .int .i64 0, .slice none 0 0] 44))) := Lib.hid (blThen HB_zw1.out HX.out)
     have HG1 := Lib.hid (HG1.out.later HX.out)
     have K8 : Hid ((zw1.alloc (.cells #[.int .i64 0, .bool false, .int .i64 0, .int .i64 0, .slice none 0 0, .int .i64 0, .int .i64 0, .slice none 0 0] 44)).heap[zw1.heap.size]? = some (.cells #[.int .i64 0, .bool false, .int .i64 0, .int .i64 0, .slice none 0 0, .int .i64 0, .int .i64 0, .slice none 0 0] 44 (0, 0))) := Lib.hid (new_blockB zw1 #[.int .i64 0, .bool false, .int .i64 0, .int .i64 0, .slice none 0 0, .int .i64 0, .int .i64 0, .slice none 0 0] 44)
     have L8 : Hid (zw1.heap.size < (zw1.alloc (.cells #[.int .i64 0, .bool false, .int .i64 0, .int .i64 0, .slice none 0 0, .int .i64 0, .int .i64 0, .slice none 0 0] 44)).heap.size) := Lib.hid (by simp)
     have G8 : Hid (D.heap.size ≤ zw1.heap.size) := Lib.hid HB_zw1.out.size
     refine hK.out _ _ (KS.out _ HB_zw37.out) (fun hHeld => ?_)
     clear hK K HX
     try simp only [Act.put, List.setIfInBounds_toArray, List.set_cons_zero, List.set_cons_succ]
     generalize (zw1.alloc (.cells #[.int .i64 0, .bool false, .int .i64 0, .int .i64 0, .slice none 0 0, .int .i64 0, .int .i64 0, .slice none 0 0] 44)) = zw37 at *
     refine wpAnyH_ready (rs := [4, 11]) (by kernel_rfl) (by simp) ?_
     refine (AllReadyH.cons (o := ⟨_, _, _, _, _, _⟩) rfl (fun K hK => ?_) (AllReadyH.cons (o := ⟨_, _, _, _, _, _⟩) rfl (fun K hK => ?_) AllReadyH.nil))
     ·go_simp
      go_at_call 12
      refine (HR1.out zw37 gb1 HB_zw37.out HG1.out).mono ?_
      rintro e zw38 ⟨⟨fa, fn, fc, rfl⟩, h5⟩
      have HX : Hid (Below zw37.heap.size zw37 zw38) := Lib.hid h5
      have HB_zw38 : Hid (Below D.heap.size D zw38) := Lib.hid (blThen HB_zw37.out HX.out)
      have K8 := row_upB K8 L8 HX.out
      have L8 := lt_upB L8 HX.out
      refine hK.out _ _ (KS.out _ HB_zw38.out) (fun hHeld => ?_)
      clear hK K HX h5
      try simp only [Act.put, List.setIfInBounds_toArray, List.set_cons_zero, List.set_cons_succ]
      refine wpAnyH_ready (rs := [7, 11]) (by kernel_rfl) (by simp) ?_
      refine (AllReadyH.cons (o := ⟨_, _, _, _, _, _⟩) rfl (fun K hK => ?_) (AllReadyH.cons (o := ⟨_, _, _, _, _, _⟩) rfl (fun K hK => ?_) AllReadyH.nil))
      ·go_simp
       go_at_call 20
       refine (get_op zw38).mono ?_
       rintro e zw39 ⟨gb2, rfl, hg, h5⟩
       have HX : Hid (Below zw38.heap.size zw38 zw39) := Lib.hid h5
       have HB_zw39 : Hid (Below D.heap.size D zw39) := Lib.hid (blThen HB_zw38.out HX.out)
       have K8 := row_upB K8 L8 HX.out
       have L8 := lt_upB L8 HX.out
       have HG2 := Lib.hid hg
       clear hg
       refine hK.out _ _ (KS.out _ HB_zw39.out) (fun hHeld => ?_)
       clear hK K HX h5
       try simp only [Act.put, List.setIfInBounds_toArray, List.set_cons_zero, List.set_cons_succ]
       refine wpAnyH_ready (rs := [9, 11]) (by kernel_rfl) (by simp) ?_
       refine (AllReadyH.cons (o := ⟨_, _, _, _, _, _⟩) rfl (fun K hK => ?_) (AllReadyH.cons (o := ⟨_, _, _, _, _, _⟩) rfl (fun K hK => ?_) AllReadyH.nil))
       ·go_simp
        go_at_call 12
        refine (HR2.out zw39 gb2 HB_zw39.out HG2.out).mono ?_
        rintro e zw40 ⟨rfl, h5⟩
        have HX : Hid (Below zw39.heap.size zw39 zw40) := Lib.hid h5
        have HB_zw40 : Hid (Below D.heap.size D zw40) := Lib.hid (blThen HB_zw39.out HX.out)
        have K8 := row_upB K8 L8 HX.out
        have L8 := lt_upB L8 HX.out
        refine hK.out _ _ (KS.out _ HB_zw40.out) (fun hHeld => ?_)
        clear hK K HX h5
        try simp only [Act.put, List.setIfInBounds_toArray, List.set_cons_zero, List.set_cons_succ]
        refine wpAnyH_ready (rs := [11]) (by kernel_rfl) (by simp) ?_
        refine (AllReadyH.cons (o := ⟨_, _, _, _, _, _⟩) rfl (fun K hK => ?_) AllReadyH.nil)
        ·go_simp
         have HX : Hid (Below zw40.heap.size zw40 (zw40.alloc (.cells #[.int .i64 0, .bool false, .int .i64 0, .int .i64 0, .slice none 0 0, .int .i64 0, .int .i64 0, .slice none 0 0] 44))) := Lib.hid (blAlloc (Below.refl _ _) _)
         have HB_zw41 : Hid (Below D.heap.size D (zw40.alloc (.cells #[.int .i64 0, .bool false, .int .i64 0, .int .i64 0, .slice none 0 0, .int .i64 0, .int .i64 0, .slice none 0 0] 44))) := Lib.hid (blThen HB_zw40.out HX.out)
         have NE : Hid (zw1.heap.size < zw40.heap.size) := L8
         have K8 := row_upB K8 L8 HX.out
         have L8 := lt_upB L8 HX.out
         have K9 : Hid ((zw40.alloc (.cells #[.int .i64 0, .bool false, .int .i64 0, .int .i64 0, .slice none 0 0, .int .i64 0, .int .i64 0, .slice none 0 0] 44)).heap[zw40.heap.size]? = some (.cells #[.int .i64 0, .bool false, .int .i64 0, .int .i64 0, .slice none 0 0, .int .i64 0, .int .i64 0, .slice none 0 0] 44 (0, 0))) := Lib.hid (new_blockB zw40 #[.int .i64 0, .bool false, .int .i64 0, .int .i64 0, .slice none 0 0, .int .i64 0, .int .i64 0, .slice none 0 0] 44)
         have L9 : Hid (zw40.heap.size < (zw40.alloc (.cells #[.int .i64 0, .bool false, .int .i64 0, .int .i64 0, .slice none 0 0, .int .i64 0, .int .i64 0, .slice none 0 0] 44)).heap.size) := Lib.hid (by simp)
         have G9 : Hid (D.heap.size ≤ zw40.heap.size) := Lib.hid HB_zw40.out.size
         refine hK.out _ _ (KS.out _ HB_zw41.out) (fun hHeld => ?_)
         clear hK K HX
         try simp only [Act.put, List.setIfInBounds_toArray, List.set_cons_zero, List.set_cons_succ]
         generalize (zw40.alloc (.cells #[.int .i64 0, .bool false, .int .i64 0, .int .i64 0, .slice none 0 0, .int .i64 0, .int .i64 0, .slice none 0 0] 44)) = zw41 at *
         refine wpAnyH_ready (rs := [12]) (by kernel_rfl) (by simp) ?_
         refine AllReadyH.cons (o := ⟨_, _, _, _, _, _⟩) rfl (fun K hK => ?_) AllReadyH.nil
         refine ite_yesB (by rfl) ?_
         refine wp_store_rowB _ _ _ rfl _ rfl (cells := #[.int .i64 1, .bool false, .int .i64 3, .int .i64 1, .slice fa fn fc, .int .i64 0, .int .i64 0, .slice none 0 0]) rfl K8.out szPlB rfl (by simp [Value.oneCell']) ?_
         intro za h1 h2
         have HB_za : Hid (Below D.heap.size D za) := Lib.hid (below_grownB HB_zw41.out h2 G8.out)
         have K9 := grown_otherB K9 h2 L9.out (fun e => absurd e.symm (Nat.ne_of_lt NE.out))
         have K8 := Lib.hid h1
         have L8 : Hid (zw1.heap.size < za.heap.size) := Lib.hid (lt_of_block h1)
         have L9 : Hid (zw40.heap.size < za.heap.size) := Lib.hid (lt_of_block K9.out)
         clear h1 h2
         refine hK.out _ _ (KS.out _ HB_za.out) (fun hHeld => ?_)
         clear hK K
         try simp only [Act.put, List.setIfInBounds_toArray, List.set_cons_zero, List.set_cons_succ]
         refine wpAnyH_ready (rs := [13]) (by kernel_rfl) (by simp) ?_
         refine AllReadyH.cons (o := ⟨_, _, _, _, _, _⟩) rfl (fun K hK => ?_) AllReadyH.nil
         refine ite_yesB (by rfl) ?_
         refine wp_store_rowB _ _ _ rfl _ rfl (cells := #[.int .i64 2, .bool false, .int .i64 0, .int .i64 0, .slice none 0 0, .int .i64 9, .int .i64 2, .slice none 0 0]) rfl K9.out szPlB rfl (by simp [Value.oneCell']) ?_
         intro zb h1 h2
         have HB_zb : Hid (Below D.heap.size D zb) := Lib.hid (below_grownB HB_za.out h2 G9.out)
         have K8 := grown_otherB K8 h2 L8.out (Nat.ne_of_lt NE.out)
         have K9 := Lib.hid h1
         clear h1 h2
         refine hK.out _ _ (KS.out _ HB_zb.out) (fun hHeld => ?_)
         clear hK K
         try simp only [Act.put, List.setIfInBounds_toArray, List.set_cons_zero, List.set_cons_succ]
         refine wpAnyH_done (by kernel_rfl) ?_ _
         go_wp2_with fail
         go_meet
         exact ⟨_, _, fa, fn, fc, rfl, rfl, G8.out, G9.out, K8.out, K9.out, HB_zb.out⟩
       ·go_simp
        have HX : Hid (Below zw39.heap.size zw39 (zw39.alloc (.cells #[.int .i64 0, .bool false, .int .i64 0, .int .i64 0, .slice none 0 0, .int .i64 0, .int .i64 0, .slice none 0 0] 44))) := Lib.hid (blAlloc (Below.refl _ _) _)
        have HB_zw42 : Hid (Below D.heap.size D (zw39.alloc (.cells #[.int .i64 0, .bool false, .int .i64 0, .int .i64 0, .slice none 0 0, .int .i64 0, .int .i64 0, .slice none 0 0] 44))) := Lib.hid (blThen HB_zw39.out HX.out)
        have NE : Hid (zw1.heap.size < zw39.heap.size) := L8
        have K8 := row_upB K8 L8 HX.out
        have L8 := lt_upB L8 HX.out
        have HG2 := Lib.hid (HG2.out.later HX.out)
        have K9 : Hid ((zw39.alloc (.cells #[.int .i64 0, .bool false, .int .i64 0, .int .i64 0, .slice none 0 0, .int .i64 0, .int .i64 0, .slice none 0 0] 44)).heap[zw39.heap.size]? = some (.cells #[.int .i64 0, .bool false, .int .i64 0, .int .i64 0, .slice none 0 0, .int .i64 0, .int .i64 0, .slice none 0 0] 44 (0, 0))) := Lib.hid (new_blockB zw39 #[.int .i64 0, .bool false, .int .i64 0, .int .i64 0, .slice none 0 0, .int .i64 0, .int .i64 0, .slice none 0 0] 44)
        have L9 : Hid (zw39.heap.size < (zw39.alloc (.cells #[.int .i64 0, .bool false, .int .i64 0, .int .i64 0, .slice none 0 0, .int .i64 0, .int .i64 0, .slice none 0 0] 44)).heap.size) := Lib.hid (by simp)
        have G9 : Hid (D.heap.size ≤ zw39.heap.size) := Lib.hid HB_zw39.out.size
        refine hK.out _ _ (KS.out _ HB_zw42.out) (fun hHeld => ?_)
        clear hK K HX
        try simp only [Act.put, List.setIfInBounds_toArray, List.set_cons_zero, List.set_cons_succ]
        generalize (zw39.alloc (.cells #[.int .i64 0, .bool false, .int .i64 0, .int .i64 0, .slice none 0 0, .int .i64 0, .int .i64 0, .slice none 0 0] 44)) = zw42 at *
        refine wpAnyH_ready (rs := [9]) (by kernel_rfl) (by simp) ?_
        refine (AllReadyH.cons (o := ⟨_, _, _, _, _, _⟩) rfl (fun K hK => ?_) AllReadyH.nil)
        ·go_simp
         go_at_call 12
         refine (HR2.out zw42 gb2 HB_zw42.out HG2.out).mono ?_
         rintro e zw43 ⟨rfl, h5⟩
         have HX : Hid (Below zw42.heap.size zw42 zw43) := Lib.hid h5
         have HB_zw43 : Hid (Below D.heap.size D zw43) := Lib.hid (blThen HB_zw42.out HX.out)
         have K8 := row_upB K8 L8 HX.out
         have L8 := lt_upB L8 HX.out
         have K9 := row_upB K9 L9 HX.out
         have L9 := lt_upB L9 HX.out
         refine hK.out _ _ (KS.out _ HB_zw43.out) (fun hHeld => ?_)
         clear hK K HX h5
         try simp only [Act.put, List.setIfInBounds_toArray, List.set_cons_zero, List.set_cons_succ]
         refine wpAnyH_ready (rs := [12]) (by kernel_rfl) (by simp) ?_
         refine AllReadyH.cons (o := ⟨_, _, _, _, _, _⟩) rfl (fun K hK => ?_) AllReadyH.nil
         refine ite_yesB (by rfl) ?_
         refine wp_store_rowB _ _ _ rfl _ rfl (cells := #[.int .i64 1, .bool false, .int .i64 3, .int .i64 1, .slice fa fn fc, .int .i64 0, .int .i64 0, .slice none 0 0]) rfl K8.out szPlB rfl (by simp [Value.oneCell']) ?_
         intro za h1 h2
         have HB_za : Hid (Below D.heap.size D za) := Lib.hid (below_grownB HB_zw43.out h2 G8.out)
         have K9 := grown_otherB K9 h2 L9.out (fun e => absurd e.symm (Nat.ne_of_lt NE.out))
         have K8 := Lib.hid h1
         have L8 : Hid (zw1.heap.size < za.heap.size) := Lib.hid (lt_of_block h1)
         have L9 : Hid (zw39.heap.size < za.heap.size) := Lib.hid (lt_of_block K9.out)
         clear h1 h2
         refine hK.out _ _ (KS.out _ HB_za.out) (fun hHeld => ?_)
         clear hK K
         try simp only [Act.put, List.setIfInBounds_toArray, List.set_cons_zero, List.set_cons_succ]
         refine wpAnyH_ready (rs := [13]) (by kernel_rfl) (by simp) ?_
         refine AllReadyH.cons (o := ⟨_, _, _, _, _, _⟩) rfl (fun K hK => ?_) AllReadyH.nil
         refine ite_yesB (by rfl) ?_
         refine wp_store_rowB _ _ _ rfl _ rfl (cells := #[.int .i64 2, .bool false, .int .i64 0, .int .i64 0, .slice none 0 0, .int .i64 9, .int .i64 2, .slice none 0 0]) rfl K9.out szPlB rfl (by simp [Value.oneCell']) ?_
         intro zb h1 h2
         have HB_zb : Hid (Below D.heap.size D zb) := Lib.hid (below_grownB HB_za.out h2 G9.out)
         have K8 := grown_otherB K8 h2 L8.out (Nat.ne_of_lt NE.out)
         have K9 := Lib.hid h1
         clear h1 h2
         refine hK.out _ _ (KS.out _ HB_zb.out) (fun hHeld => ?_)
         clear hK K
         try simp only [Act.put, List.setIfInBounds_toArray, List.set_cons_zero, List.set_cons_succ]
         refine wpAnyH_done (by kernel_rfl) ?_ _
         go_wp2_with fail
         go_meet
         exact ⟨_, _, fa, fn, fc, rfl, rfl, G8.out, G9.out, K8.out, K9.out, HB_zb.out⟩
      ·go_simp
       have HX : Hid (Below zw38.heap.size zw38 (zw38.alloc (.cells #[.int .i64 0, .bool false, .int .i64 0, .int .i64 0, .slice none 0 0, .int .i64 0, .int .i64 0, .slice none 0 0] 44))) := Lib.hid (blAlloc (Below.refl _ _) _)
       have HB_zw44 : Hid (Below D.heap.size D (zw38.alloc (.cells #[.int .i64 0, .bool false, .int .i64 0, .int .i64 0, .slice none 0 0, .int .i64 0, .int .i64 0, .slice none 0 0] 44))) := Lib.hid (blThen HB_zw38.out HX.out)
       have NE : Hid (zw1.heap.size < zw38.heap.size) := L8
       have K8 := row_upB K8 L8 HX.out
       have L8 := lt_upB L8 HX.out
       have K9 : Hid ((zw38.alloc (.cells #[.int .i64 0, .bool false, .int .i64 0, .int .i64 0, .slice none 0 0, .int .i64 0, .int .i64 0, .slice none 0 0] 44)).heap[zw38.heap.size]? = some (.cells #[.int .i64 0, .bool false, .int .i64 0, .int .i64 0, .slice none 0 0, .int .i64 0, .int .i64 0, .slice none 0 0] 44 (0, 0))) := Lib.hid (new_blockB zw38 #[.int .i64 0, .bool false, .int .i64 0, .int .i64 0, .slice none 0 0, .int .i64 0, .int .i64 0, .slice none 0 0] 44)
       have L9 : Hid (zw38.heap.size < (zw38.alloc (.cells #[.int .i64 0, .bool false, .int .i64 0, .int .i64 0, .slice none 0 0, .int .i64 0, .int .i64 0, .slice none 0 0] 44)).heap.size) := Lib.hid (by simp)
       have G9 : Hid (D.heap.size ≤ zw38.heap.size) := Lib.hid HB_zw38.out.size
       refine hK.out _ _ (KS.out _ HB_zw44.out) (fun hHeld => ?_)
       clear hK K HX
       try simp only [Act.put, List.setIfInBounds_toArray, List.set_cons_zero, List.set_cons_succ]
       generalize (zw38.alloc (.cells #[.int .i64 0, .bool false, .int .i64 0, .int .i64 0, .slice none 0 0, .int .i64 0, .int .i64 0, .slice none 0 0] 44)) = zw44 at *
       refine wpAnyH_ready (rs := [7]) (by kernel_rfl) (by simp) ?_
       refine (AllReadyH.cons (o := ⟨_, _, _, _, _, _⟩) rfl (fun K hK => ?_) AllReadyH.nil)
       ·go_simp
        go_at_call 20
        refine (get_op zw44).mono ?_
        rintro e zw45 ⟨gb2, rfl, hg, h5⟩
        have HX : Hid (Below zw44.heap.size zw44 zw45) := Lib.hid h5
        have HB_zw45 : Hid (Below D.heap.size D zw45) := Lib.hid (blThen HB_zw44.out HX.out)
        have K8 := row_upB K8 L8 HX.out
        have L8 := lt_upB L8 HX.out
        have K9 := row_upB K9 L9 HX.out
        have L9 := lt_upB L9 HX.out
        have HG2 := Lib.hid hg
        clear hg
        refine hK.out _ _ (KS.out _ HB_zw45.out) (fun hHeld => ?_)
        clear hK K HX h5
        try simp only [Act.put, List.setIfInBounds_toArray, List.set_cons_zero, List.set_cons_succ]
        refine wpAnyH_ready (rs := [9]) (by kernel_rfl) (by simp) ?_
        refine (AllReadyH.cons (o := ⟨_, _, _, _, _, _⟩) rfl (fun K hK => ?_) AllReadyH.nil)
        ·go_simp
         go_at_call 12
         refine (HR2.out zw45 gb2 HB_zw45.out HG2.out).mono ?_
         rintro e zw46 ⟨rfl, h5⟩
         have HX : Hid (Below zw45.heap.size zw45 zw46) := Lib.hid h5
         have HB_zw46 : Hid (Below D.heap.size D zw46) := Lib.hid (blThen HB_zw45.out HX.out)
         have K8 := row_upB K8 L8 HX.out
         have L8 := lt_upB L8 HX.out
         have K9 := row_upB K9 L9 HX.out
         have L9 := lt_upB L9 HX.out
         refine hK.out _ _ (KS.out _ HB_zw46.out) (fun hHeld => ?_)
         clear hK K HX h5
         try simp only [Act.put, List.setIfInBounds_toArray, List.set_cons_zero, List.set_cons_succ]
         refine wpAnyH_ready (rs := [12]) (by kernel_rfl) (by simp) ?_
         refine AllReadyH.cons (o := ⟨_, _, _, _, _, _⟩) rfl (fun K hK => ?_) AllReadyH.nil
         refine ite_yesB (by rfl) ?_
         refine wp_store_rowB _ _ _ rfl _ rfl (cells := #[.int .i64 1, .bool false, .int .i64 3, .int .i64 1, .slice fa fn fc, .int .i64 0, .int .i64 0, .slice none 0 0]) rfl K8.out szPlB rfl (by simp [Value.oneCell']) ?_
         intro za h1 h2
         have HB_za : Hid (Below D.heap.size D za) := Lib.hid (below_grownB HB_zw46.out h2 G8.out)
         have K9 := grown_otherB K9 h2 L9.out (fun e => absurd e.symm (Nat.ne_of_lt NE.out))
         have K8 := Lib.hid h1
         have L8 : Hid (zw1.heap.size < za.heap.size) := Lib.hid (lt_of_block h1)
         have L9 : Hid (zw38.heap.size < za.heap.size) := Lib.hid (lt_of_block K9.out)
         clear h1 h2
         refine hK.out _ _ (KS.out _ HB_za.out) (fun hHeld => ?_)
         clear hK K
         try simp only [Act.put, List.setIfInBounds_toArray, List.set_cons_zero, List.set_cons_succ]
         refine wpAnyH_ready (rs := [13]) (by kernel_rfl) (by simp) ?_
         refine AllReadyH.cons (o := ⟨_, _, _, _, _, _⟩) rfl (fun K hK => ?_) AllReadyH.nil
         refine ite_yesB (by rfl) ?_
         refine wp_store_rowB _ _ _ rfl _ rfl (cells := #[.int .i64 2, .bool false, .int .i64 0, .int .i64 0, .slice none 0 0, .int .i64 9, .int .i64 2, .slice none 0 0]) rfl K9.out szPlB rfl (by simp [Value.oneCell']) ?_
         intro zb h1 h2
         have HB_zb : Hid (Below D.heap.size D zb) := Lib.hid (below_grownB HB_za.out h2 G9.out)
         have K8 := grown_otherB K8 h2 L8.out (Nat.ne_of_lt NE.out)
         have K9 := Lib.hid h1
         clear h1 h2
         refine hK.out _ _ (KS.out _ HB_zb.out) (fun hHeld => ?_)
         clear hK K
         try simp only [Act.put, List.setIfInBounds_toArray, List.set_cons_zero, List.set_cons_succ]
         refine wpAnyH_done (by kernel_rfl) ?_ _
         go_wp2_with fail
         go_meet
         exact ⟨_, _, fa, fn, fc, rfl, rfl, G8.out, G9.out, K8.out, K9.out, HB_zb.out⟩
     ·go_simp
      have HX : Hid (Below zw37.heap.size zw37 (zw37.alloc (.cells #[.int .i64 0, .bool false, .int .i64 0, .int .i64 0, .slice none 0 0, .int .i64 0, .int .i64 0, .slice none 0 0] 44))) := Lib.hid (blAlloc (Below.refl _ _) _)
      have HB_zw47 : Hid (Below D.heap.size D (zw37.alloc (.cells #[.int .i64 0, .bool false, .int .i64 0, .int .i64 0, .slice none 0 0, .int .i64 0, .int .i64 0, .slice none 0 0] 44))) := Lib.hid (blThen HB_zw37.out HX.out)
      have NE : Hid (zw1.heap.size < zw37.heap.size) := L8
      have K8 := row_upB K8 L8 HX.out
      have L8 := lt_upB L8 HX.out
      have HG1 := Lib.hid (HG1.out.later HX.out)
      have K9 : Hid ((zw37.alloc (.cells #[.int .i64 0, .bool false, .int .i64 0, .int .i64 0, .slice none 0 0, .int .i64 0, .int .i64 0, .slice none 0 0] 44)).heap[zw37.heap.size]? = some (.cells #[.int .i64 0, .bool false, .int .i64 0, .int .i64 0, .slice none 0 0, .int .i64 0, .int .i64 0, .slice none 0 0] 44 (0, 0))) := Lib.hid (new_blockB zw37 #[.int .i64 0, .bool false, .int .i64 0, .int .i64 0, .slice none 0 0, .int .i64 0, .int .i64 0, .slice none 0 0] 44)
      have L9 : Hid (zw37.heap.size < (zw37.alloc (.cells #[.int .i64 0, .bool false, .int .i64 0, .int .i64 0, .slice none 0 0, .int .i64 0, .int .i64 0, .slice none 0 0] 44)).heap.size) := Lib.hid (by simp)
      have G9 : Hid (D.heap.size ≤ zw37.heap.size) := Lib.hid HB_zw37.out.size
      refine hK.out _ _ (KS.out _ HB_zw47.out) (fun hHeld => ?_)
      clear hK K HX
      try simp only [Act.put, List.setIfInBounds_toArray, List.set_cons_zero, List.set_cons_succ]
      generalize (zw37.alloc (.cells #[.int .i64 0, .bool false, .int .i64 0, .int .i64 0, .slice none 0 0, .int .i64 0, .int .i64 0, .slice none 0 0] 44)) = zw47 at *
      refine wpAnyH_ready (rs := [4]) (by kernel_rfl) (by simp) ?_
      refine (AllReadyH.cons (o := ⟨_, _, _, _, _, _⟩) rfl (fun K hK => ?_) AllReadyH.nil)
      ·go_simp
       go_at_call 12
       refine (HR1.out zw47 gb1 HB_zw47.out HG1.out).mono ?_
       rintro e zw48 ⟨⟨fa, fn, fc, rfl⟩, h5⟩
       have HX : Hid (Below zw47.heap.size zw47 zw48) := Lib.hid h5
       have HB_zw48 : Hid (Below D.heap.size D zw48) := Lib.hid (blThen HB_zw47.out HX.out)
       have K8 := row_upB K8 L8 HX.out
       have L8 := lt_upB L8 HX.out
       have K9 := row_upB K9 L9 HX.out
       have L9 := lt_upB L9 HX.out
       refine hK.out _ _ (KS.out _ HB_zw48.out) (fun hHeld => ?_)
       clear hK K HX h5
       try simp only [Act.put, List.setIfInBounds_toArray, List.set_cons_zero, List.set_cons_succ]
       refine wpAnyH_ready (rs := [7]) (by kernel_rfl) (by simp) ?_
       refine (AllReadyH.cons (o := ⟨_, _, _, _, _, _⟩) rfl (fun K hK => ?_) AllReadyH.nil)
       ·go_simp
        go_at_call 20
        refine (get_op zw48).mono ?_
        rintro e zw49 ⟨gb2, rfl, hg, h5⟩
        have HX : Hid (Below zw48.heap.size zw48 zw49) := Lib.hid h5
        have HB_zw49 : Hid (Below D.heap.size D zw49) := Lib.hid (blThen HB_zw48.out HX.out)
        have K8 := row_upB K8 L8 HX.out
        have L8 := lt_upB L8 HX.out
        have K9 := row_upB K9 L9 HX.out
        have L9 := lt_upB L9 HX.out
        have HG2 := Lib.hid hg
        clear hg
        refine hK.out _ _ (KS.out _ HB_zw49.out) (fun hHeld => ?_)
        clear hK K HX h5
        try simp only [Act.put, List.setIfInBounds_toArray, List.set_cons_zero, List.set_cons_succ]
        refine wpAnyH_ready (rs := [9]) (by kernel_rfl) (by simp) ?_
        refine (AllReadyH.cons (o := ⟨_, _, _, _, _, _⟩) rfl (fun K hK => ?_) AllReadyH.nil)
        ·go_simp
         go_at_call 12
         refine (HR2.out zw49 gb2 HB_zw49.out HG2.out).mono ?_
         rintro e zw50 ⟨rfl, h5⟩
         have HX : Hid (Below zw49.heap.size zw49 zw50) := Lib.hid h5
         have HB_zw50 : Hid (Below D.heap.size D zw50) := Lib.hid (blThen HB_zw49.out HX.out)
         have K8 := row_upB K8 L8 HX.out
         have L8 := lt_upB L8 HX.out
         have K9 := row_upB K9 L9 HX.out
         have L9 := lt_upB L9 HX.out
         refine hK.out _ _ (KS.out _ HB_zw50.out) (fun hHeld => ?_)
         clear hK K HX h5
         try simp only [Act.put, List.setIfInBounds_toArray, List.set_cons_zero, List.set_cons_succ]
         refine wpAnyH_ready (rs := [12]) (by kernel_rfl) (by simp) ?_
         refine AllReadyH.cons (o := ⟨_, _, _, _, _, _⟩) rfl (fun K hK => ?_) AllReadyH.nil
         refine ite_yesB (by rfl) ?_
         refine wp_store_rowB _ _ _ rfl _ rfl (cells := #[.int .i64 1, .bool false, .int .i64 3, .int .i64 1, .slice fa fn fc, .int .i64 0, .int .i64 0, .slice none 0 0]) rfl K8.out szPlB rfl (by simp [Value.oneCell']) ?_
         intro za h1 h2
         have HB_za : Hid (Below D.heap.size D za) := Lib.hid (below_grownB HB_zw50.out h2 G8.out)
         have K9 := grown_otherB K9 h2 L9.out (fun e => absurd e.symm (Nat.ne_of_lt NE.out))
         have K8 := Lib.hid h1
         have L8 : Hid (zw1.heap.size < za.heap.size) := Lib.hid (lt_of_block h1)
         have L9 : Hid (zw37.heap.size < za.heap.size) := Lib.hid (lt_of_block K9.out)
         clear h1 h2
         refine hK.out _ _ (KS.out _ HB_za.out) (fun hHeld => ?_)
         clear hK K
         try simp only [Act.put, List.setIfInBounds_toArray, List.set_cons_zero, List.set_cons_succ]
         refine wpAnyH_ready (rs := [13]) (by kernel_rfl) (by simp) ?_
         refine AllReadyH.cons (o := ⟨_, _, _, _, _, _⟩) rfl (fun K hK => ?_) AllReadyH.nil
         refine ite_yesB (by rfl) ?_
         refine wp_store_rowB _ _ _ rfl _ rfl (cells := #[.int .i64 2, .bool false, .int .i64 0, .int .i64 0, .slice none 0 0, .int .i64 9, .int .i64 2, .slice none 0 0]) rfl K9.out szPlB rfl (by simp [Value.oneCell']) ?_
         intro zb h1 h2
         have HB_zb : Hid (Below D.heap.size D zb) := Lib.hid (below_grownB HB_za.out h2 G9.out)
         have K8 := grown_otherB K8 h2 L8.out (Nat.ne_of_lt NE.out)
         have K9 := Lib.hid h1
         clear h1 h2
         refine hK.out _ _ (KS.out _ HB_zb.out) (fun hHeld => ?_)
         clear hK K
         try simp only [Act.put, List.setIfInBounds_toArray, List.set_cons_zero, List.set_cons_succ]
         refine wpAnyH_done (by kernel_rfl) ?_ _
         go_wp2_with fail
         go_meet
         exact ⟨_, _, fa, fn, fc, rfl, rfl, G8.out, G9.out, K8.out, K9.out, HB_zb.out⟩
    ·go_simp
     have HX : Hid (Below zw1.heap.size zw1 (zw1.alloc (.cells #[.int .i64 0, .bool false, .int .i64 0, .int .i64 0, .slice none 0 0, .int .i64 0, .int .i64 0, .slice none 0 0] 44))) := Lib.hid (blAlloc (Below.refl _ _) _)
     have HB_zw51 : Hid (Below D.heap.size D (zw1.alloc (.cells #[.int .i64 0, .bool false, .int .i64 0, .int .i64 0, .slice none 0 0, .int .i64 0, .int .i64 0, .slice none 0 0] 44))) := Lib.hid (blThen HB_zw1.out HX.out)
     have HG1 := Lib.hid (HG1.out.later HX.out)
     have K9 : Hid ((zw1.alloc (.cells #[.int .i64 0, .bool false, .int .i64 0, .int .i64 0, .slice none 0 0, .int .i64 0, .int .i64 0, .slice none 0 0] 44)).heap[zw1.heap.size]? = some (.cells #[.int .i64 0, .bool false, .int .i64 0, .int .i64 0, .slice none 0 0, .int .i64 0, .int .i64 0, .slice none 0 0] 44 (0, 0))) := Lib.hid (new_blockB zw1 #[.int .i64 0, .bool false, .int .i64 0, .int .i64 0, .slice none 0 0, .int .i64 0, .int .i64 0, .slice none 0 0] 44)
     have L9 : Hid (zw1.heap.size < (zw1.alloc (.cells #[.int .i64 0, .bool false, .int .i64 0, .int .i64 0, .slice none 0 0, .int .i64 0, .int .i64 0, .slice none 0 0] 44)).heap.size) := Lib.hid (by simp)
     have G9 : Hid (D.heap.size ≤ zw1.heap.size) := Lib.hid HB_zw1.out.size
     refine hK.out _ _ (KS.out _ HB_zw51.out) (fun hHeld => ?_)
     clear hK K HX
     try simp only [Act.put, List.setIfInBounds_toArray, List.set_cons_zero, List.set_cons_succ]
     generalize (zw1.alloc (.cells #[.int .i64 0, .bool false, .int .i64 0, .int .i64 0, .slice none 0 0, .int .i64 0, .int .i64 0, .slice none 0 0] 44)) = zw51 at *
     refine wpAnyH_ready (rs := [4, 10]) (by kernel_rfl) (by simp) ?_
     refine (AllReadyH.cons (o := ⟨_, _, _, _, _, _⟩) rfl (fun K hK => ?_) (AllReadyH.cons (o := ⟨_, _, _, _, _, _⟩) rfl (fun K hK => ?_) AllReadyH.nil))
     ·go_simp
      go_at_call 12
      refine (HR1.out zw51 gb1 HB_zw51.out HG1.out).mono ?_
      rintro e zw52 ⟨⟨fa, fn, fc, rfl⟩, h5⟩
      have HX : Hid (Below zw51.heap.size zw51 zw52) := Lib.hid h5
      have HB_zw52 : Hid (Below D.heap.size D zw52) := Lib.hid (blThen HB_zw51.out HX.out)
      have K9 := row_upB K9 L9 HX.out
      have L9 := lt_upB L9 HX.out
      refine hK.out _ _ (KS.out _ HB_zw52.out) (fun hHeld => ?_)
      clear hK K HX h5
      try simp only [Act.put, List.setIfInBounds_toArray, List.set_cons_zero, List.set_cons_succ]
      refine wpAnyH_ready (rs := [7, 10]) (by kernel_rfl) (by simp) ?_
      refine (AllReadyH.cons (o := ⟨_, _, _, _, _, _⟩) rfl (fun K hK => ?_) (AllReadyH.cons (o := ⟨_, _, _, _, _, _⟩) rfl (fun K hK => ?_) AllReadyH.nil))
      ·go_simp
       go_at_call 20
       refine (get_op zw52).mono ?_
       rintro e zw53 ⟨gb2, rfl, hg, h5⟩
       have HX : Hid (Below zw52.heap.size zw52 zw53) := Lib.hid h5
       have HB_zw53 : Hid (Below D.heap.size D zw53) := Lib.hid (blThen HB_zw52.out HX.out)
       have K9 := row_upB K9 L9 HX.out
       have L9 := lt_upB L9 HX.out
       have HG2 := Lib.hid hg
       clear hg
       refine hK.out _ _ (KS.out _ HB_zw53.out) (fun hHeld => ?_)
       clear hK K HX h5
       try simp only [Act.put, List.setIfInBounds_toArray, List.set_cons_zero, List.set_cons_succ]
       refine wpAnyH_ready (rs := [9, 10]) (by kernel_rfl) (by simp) ?_
       refine (AllReadyH.cons (o := ⟨_, _, _, _, _, _⟩) rfl (fun K hK => ?_) (AllReadyH.cons (o := ⟨_, _, _, _, _, _⟩) rfl (fun K hK => ?_) AllReadyH.nil))
       ·go_simp
        go_at_call 12
        refine (HR2.out zw53 gb2 HB_zw53.out HG2.out).mono ?_
        rintro e zw54 ⟨rfl, h5⟩
        have HX : Hid (Below zw53.heap.size zw53 zw54) := Lib.hid h5
        have HB_zw54 : Hid (Below D.heap.size D zw54) := Lib.hid (blThen HB_zw53.out HX.out)
        have K9 := row_upB K9 L9 HX.out
        have L9 := lt_upB L9 HX.out
        refine hK.out _ _ (KS.out _ HB_zw54.out) (fun hHeld => ?_)
        clear hK K HX h5
        try simp only [Act.put, List.setIfInBounds_toArray, List.set_cons_zero, List.set_cons_succ]
        refine wpAnyH_ready (rs := [10]) (by kernel_rfl) (by simp) ?_
        refine (AllReadyH.cons (o := ⟨_, _, _, _, _, _⟩) rfl (fun K hK => ?_) AllReadyH.nil)
        ·go_simp
         have HX : Hid (Below zw54.heap.size zw54 (zw54.alloc (.cells #[.int .i64 0, .bool false, .int .i64 0, .int .i64 0, .slice none 0 0, .int .i64 0, .int .i64 0, .slice none 0 0] 44))) := Lib.hid (blAlloc (Below.refl _ _) _)
         have HB_zw55 : Hid (Below D.heap.size D (zw54.alloc (.cells #[.int .i64 0, .bool false, .int .i64 0, .int .i64 0, .slice none 0 0, .int .i64 0, .int .i64 0, .slice none 0 0] 44))) := Lib.hid (blThen HB_zw54.out HX.out)
         have NE : Hid (zw1.heap.size < zw54.heap.size) := L9
         have K9 := row_upB K9 L9 HX.out
         have L9 := lt_upB L9 HX.out
         have K8 : Hid ((zw54.alloc (.cells #[.int .i64 0, .bool false, .int .i64 0, .int .i64 0, .slice none 0 0, .int .i64 0, .int .i64 0, .slice none 0 0] 44)).heap[zw54.heap.size]? = some (.cells #[.int .i64 0, .bool false, .int .i64 0, .int .i64 0, .slice none 0 0, .int .i64 0, .int .i64 0, .slice none 0 0] 44 (0, 0))) := Lib.hid (new_blockB zw54 #[.int .i64 0, .bool false, .int .i64 0, .int .i64 0, .slice none 0 0, .int .i64 0, .int .i64 0, .slice none 0 0] 44)
         have L8 : Hid (zw54.heap.size < (zw54.alloc (.cells #[.int .i64 0, .bool false, .int .i64 0, .int .i64 0, .slice none 0 0, .int .i64 0, .int .i64 0, .slice none 0 0] 44)).heap.size) := Lib.hid (by simp)
         have G8 : Hid (D.heap.size ≤ zw54.heap.size) := Lib.hid HB_zw54.out.size
         refine hK.out _ _ (KS.out _ HB_zw55.out) (fun hHeld => ?_)
         clear hK K HX
         try simp only [Act.put, List.setIfInBounds_toArray, List.set_cons_zero, List.set_cons_succ]
         generalize (zw54.alloc (.cells #[.int .i64 0, .bool false, .int .i64 0, .int .i64 0, .slice none 0 0, .int .i64 0, .int .i64 0, .slice none 0 0] 44)) = zw55 at *
         refine wpAnyH_ready (rs := [12]) (by kernel_rfl) (by simp) ?_
         refine AllReadyH.cons (o := ⟨_, _, _, _, _, _⟩) rfl (fun K hK => ?_) AllReadyH.nil
         refine ite_yesB (by rfl) ?_
         refine wp_store_rowB _ _ _ rfl _ rfl (cells := #[.int .i64 1, .bool false, .int .i64 3, .int .i64 1, .slice fa fn fc, .int .i64 0, .int .i64 0, .slice none 0 0]) rfl K8.out szPlB rfl (by simp [Value.oneCell']) ?_
         intro za h1 h2
         have HB_za : Hid (Below D.heap.size D za) := Lib.hid (below_grownB HB_zw55.out h2 G8.out)
         have K9 := grown_otherB K9 h2 L9.out (fun e => absurd e.symm (Nat.ne_of_gt NE.out))
         have K8 := Lib.hid h1
         have L8 : Hid (zw54.heap.size < za.heap.size) := Lib.hid (lt_of_block h1)
         have L9 : Hid (zw1.heap.size < za.heap.size) := Lib.hid (lt_of_block K9.out)
         clear h1 h2
         refine hK.out _ _ (KS.out _ HB_za.out) (fun hHeld => ?_)
         clear hK K
         try simp only [Act.put, List.setIfInBounds_toArray, List.set_cons_zero, List.set_cons_succ]
         refine wpAnyH_ready (rs := [13]) (by kernel_rfl) (by simp) ?_
         refine AllReadyH.cons (o := ⟨_, _, _, _, _, _⟩) rfl (fun K hK => ?_) AllReadyH.nil
         refine ite_yesB (by rfl) ?_
         refine wp_store_rowB _ _ _ rfl _ rfl (cells := #[.int .i64 2, .bool false, .int .i64 0, .int .i64 0, .slice none 0 0, .int .i64 9, .int .i64 2, .slice none 0 0]) rfl K9.out szPlB rfl (by simp [Value.oneCell']) ?_
         intro zb h1 h2
         have HB_zb : Hid (Below D.heap.size D zb) := Lib.hid (below_grownB HB_za.out h2 G9.out)
         have K8 := grown_otherB K8 h2 L8.out (Nat.ne_of_gt NE.out)
         have K9 := Lib.hid h1
         clear h1 h2
         refine hK.out _ _ (KS.out _ HB_zb.out) (fun hHeld => ?_)
         clear hK K
         try simp only [Act.put, List.setIfInBounds_toArray, List.set_cons_zero, List.set_cons_succ]
         refine wpAnyH_done (by kernel_rfl) ?_ _
         go_wp2_with fail
         go_meet
         exact ⟨_, _, fa, fn, fc, rfl, rfl, G8.out, G9.out, K8.out, K9.out, HB_zb.out⟩
       ·go_simp
        have HX : Hid (Below zw53.heap.size zw53 (zw53.alloc (.cells #[.int .i64 0, .bool false, .int .i64 0, .int .i64 0, .slice none 0 0, .int .i64 0, .int .i64 0, .slice none 0 0] 44))) := Lib.hid (blAlloc (Below.refl _ _) _)
        have HB_zw56 : Hid (Below D.heap.size D (zw53.alloc (.cells #[.int .i64 0, .bool false, .int .i64 0, .int .i64 0, .slice none 0 0, .int .i64 0, .int .i64 0, .slice none 0 0] 44))) := Lib.hid (blThen HB_zw53.out HX.out)
        have NE : Hid (zw1.heap.size < zw53.heap.size) := L9
        have K9 := row_upB K9 L9 HX.out
        have L9 := lt_upB L9 HX.out
        have HG2 := Lib.hid (HG2.out.later HX.out)
        have K8 : Hid ((zw53.alloc (.cells #[.int .i64 0, .bool false, .int .i64 0, .int .i64 0, .slice none 0 0, .int .i64 0, .int .i64 0, .slice none 0 0] 44)).heap[zw53.heap.size]? = some (.cells #[.int .i64 0, .bool false, .int .i64 0, .int .i64 0, .slice none 0 0, .int .i64 0, .int .i64 0, .slice none 0 0] 44 (0, 0))) := Lib.hid (new_blockB zw53 #[.int .i64 0, .bool false, .int .i64 0, .int .i64 0, .slice none 0 0, .int .i64 0, .int .i64 0, .slice none 0 0] 44)
        have L8 : Hid (zw53.heap.size < (zw53.alloc (.cells #[.int .i64 0, .bool false, .int .i64 0, .int .i64 0, .slice none 0 0, .int .i64 0, .int .i64 0, .slice none 0 0] 44)).heap.size) := Lib.hid (by simp)
        have G8 : Hid (D.heap.size ≤ zw53.heap.size) := Lib.hid HB_zw53.out.size
        refine hK.out _ _ (KS.out _ HB_zw56.out) (fun hHeld => ?_)
        clear hK K HX
        try simp only [Act.put, List.setIfInBounds_toArray, List.set_cons_zero, List.set_cons_succ]
        generalize (zw53.alloc (.cells #[.int .i64 0, .bool false, .int .i64 0, .int .i64 0, .slice none 0 0, .int .i64 0, .int .i64 0, .slice none 0 0] 44)) = zw56 at *
        refine wpAnyH_ready (rs := [9]) (by kernel_rfl) (by simp) ?_
        refine (AllReadyH.cons (o := ⟨_, _, _, _, _, _⟩) rfl (fun K hK => ?_) AllReadyH.nil)
        ·go_simp
         go_at_call 12
         refine (HR2.out zw56 gb2 HB_zw56.out HG2.out).mono ?_
         rintro e zw57 ⟨rfl, h5⟩
         have HX : Hid (Below zw56.heap.size zw56 zw57) := Lib.hid h5
         have HB_zw57 : Hid (Below D.heap.size D zw57) := Lib.hid (blThen HB_zw56.out HX.out)
         have K9 := row_upB K9 L9 HX.out
         have L9 := lt_upB L9 HX.out
         have K8 := row_upB K8 L8 HX.out
         have L8 := lt_upB L8 HX.out
         refine hK.out _ _ (KS.out _ HB_zw57.out) (fun hHeld => ?_)
         clear hK K HX h5
         try simp only [Act.put, List.setIfInBounds_toArray, List.set_cons_zero, List.set_cons_succ]
         refine wpAnyH_ready (rs := [12]) (by kernel_rfl) (by simp) ?_
         refine AllReadyH.cons (o := ⟨_, _, _, _, _, _⟩) rfl (fun K hK => ?_) AllReadyH.nil
         refine ite_yesB (by rfl) ?_
         refine wp_store_rowB _ _ _ rfl _ rfl (cells := #[.int .i64 1, .bool false, .int .i64 3, .int .i64 1, .slice fa fn fc, .int .i64 0, .int .i64 0, .slice none 0 0]) rfl K8.out szPlB rfl (by simp [Value.oneCell']) ?_
         intro za h1 h2
         have HB_za : Hid (Below D.heap.size D za) := Lib.hid (below_grownB HB_zw57.out h2 G8.out)
         have K9 := grown_otherB K9 h2 L9.out (fun e => absurd e.symm (Nat.ne_of_gt NE.out))
         have K8 := Lib.hid h1
         have L8 : Hid (zw53.heap.size < za.heap.size) := Lib.hid (lt_of_block h1)
         have L9 : Hid (zw1.heap.size < za.heap.size) := Lib.hid (lt_of_block K9.out)
         clear h1 h2
         refine hK.out _ _ (KS.out _ HB_za.out) (fun hHeld => ?_)
         clear hK K
         try simp only [Act.put, List.setIfInBounds_toArray, List.set_cons_zero, List.set_cons_succ]
         refine wpAnyH_ready (rs := [13]) (by kernel_rfl) (by simp) ?_
         refine AllReadyH.cons (o := ⟨_, _, _, _, _, _⟩) rfl (fun K hK => ?_) AllReadyH.nil
         refine ite_yesB (by rfl) ?_
         refine wp_store_rowB _ _ _ rfl _ rfl (cells := #[.int .i64 2, .bool false, .int .i64 0, .int .i64 0, .slice none 0 0, .int .i64 9, .int .i64 2, .slice none 0 0]) rfl K9.out szPlB rfl (by simp [Value.oneCell']) ?_
         intro zb h1 h2
         have HB_zb : Hid (Below D.heap.size D zb) := Lib.hid (below_grownB HB_za.out h2 G9.out)
         have K8 := grown_otherB K8 h2 L8.out (Nat.ne_of_gt NE.out)
         have K9 := Lib.hid h1
         clear h1 h2
         refine hK.out _ _ (KS.out _ HB_zb.out) (fun hHeld => ?_)
         clear hK K
         try simp only [Act.put, List.setIfInBounds_toArray, List.set_cons_zero, List.set_cons_succ]
         refine wpAnyH_done (by kernel_rfl) ?_ _
         go_wp2_with fail
         go_meet
         exact ⟨_, _, fa, fn, fc, rfl, rfl, G8.out, G9.out, K8.out, K9.out, HB_zb.out⟩
      ·go_simp
       have HX : Hid (Below zw52.heap.size zw52 (zw52.alloc (.cells #[.int .i64 0, .bool false, .int .i64 0, .int .i64 0, .slice none 0 0, .int .i64 0, .int .i64 0, .slice none 0 0] 44))) := Lib.hid (blAlloc (Below.refl _ _) _)
       have HB_zw58 : Hid (Below D.heap.size D (zw52.alloc (.cells #[.int .i64 0, .bool false, .int .i64 0, .int .i64 0, .slice none 0 0, .int .i64 0, .int .i64 0, .slice none 0 0] 44))) := Lib.hid (blThen HB_zw52.out HX.out)
       have NE : Hid (zw1.heap.size < zw52.heap.size) := L9
       have K9 := row_upB K9 L9 HX.out
       have L9 := lt_upB L9 HX.out
       have K8 : Hid ((zw52.alloc (.cells #[.int .i64 0, .bool false, .int .i64 0, .int .i64 0, .slice none 0 0, .int .i64 0, .int .i64 0, .slice none 0 0] 44)).heap[zw52.heap.size]? = some (.cells #[.int .i64 0, .bool false, .int .i64 0, .int .i64 0, .slice none 0 0, .int .i64 0, .int .i64 0, .slice none 0 0] 44 (0, 0))) := Lib.hid (new_blockB zw52 #[.int .i64 0, .bool false, .int .i64 0, .int .i64 0, .slice none 0 0, .int .i64 0, .int .i64 0, .slice none 0 0] 44)
       have L8 : Hid (zw52.heap.size < (zw52.alloc (.cells #[.int .i64 0, .bool false, .int .i64 0, .int .i64 0, .slice none 0 0, .int .i64 0, .int .i64 0, .slice none 0 0] 44)).heap.size) := Lib.hid (by simp)
       have G8 : Hid (D.heap.size ≤ zw52.heap.size) := Lib.hid HB_zw52.out.size
       refine hK.out _ _ (KS.out _ HB_zw58.out) (fun hHeld => ?_)
       clear hK K HX
       try simp only [Act.put, List.setIfInBounds_toArray, List.set_cons_zero, List.set_cons_succ]
       generalize (zw52.alloc (.cells #[.int .i64 0, .bool false, .int .i64 0, .int .i64 0, .slice none 0 0, .int .i64 0, .int .i64 0, .slice none 0 0] 44)) = zw58 at *
       refine wpAnyH_ready (rs := [7]) (by kernel_rfl) (by simp) ?_
       refine (AllReadyH.cons (o := ⟨_, _, _, _, _, _⟩) rfl (fun K hK => ?_) AllReadyH.nil)
       ·go_simp
        go_at_call 20
        refine (get_op zw58).mono ?_
        rintro e zw59 ⟨gb2, rfl, hg, h5⟩
        have HX : Hid (Below zw58.heap.size zw58 zw59) := Lib.hid h5
        have HB_zw59 : Hid (Below D.heap.size D zw59) := Lib.hid (blThen HB_zw58.out HX.out)
        have K9 := row_upB K9 L9 HX.out
        have L9 := lt_upB L9 HX.out
        have K8 := row_upB K8 L8 HX.out
        have L8 := lt_upB L8 HX.out
        have HG2 := Lib.hid hg
        clear hg
        refine hK.out _ _ (KS.out _ HB_zw59.out) (fun hHeld => ?_)
        clear hK K HX h5
        try simp only [Act.put, List.setIfInBounds_toArray, List.set_cons_zero, List.set_cons_succ]
        refine wpAnyH_ready (rs := [9]) (by kernel_rfl) (by simp) ?_
        refine (AllReadyH.cons (o := ⟨_, _, _, _, _, _⟩) rfl (fun K hK => ?_) AllReadyH.nil)
        ·go_simp
         go_at_call 12
         refine (HR2.out zw59 gb2 HB_zw59.out HG2.out).mono ?_
         rintro e zw60 ⟨rfl, h5⟩
         have HX : Hid (Below zw59.heap.size zw59 zw60) := Lib.hid h5
         have HB_zw60 : Hid (Below D.heap.size D zw60) := Lib.hid (blThen HB_zw59.out HX.out)
         have K9 := row_upB K9 L9 HX.out
         have L9 := lt_upB L9 HX.out
         have K8 := row_upB K8 L8 HX.out
         have L8 := lt_upB L8 HX.out
         refine hK.out _ _ (KS.out _ HB_zw60.out) (fun hHeld => ?_)
         clear hK K HX h5
         try simp only [Act.put, List.setIfInBounds_toArray, List.set_cons_zero, List.set_cons_succ]
         refine wpAnyH_ready (rs := [12]) (by kernel_rfl) (by simp) ?_
         refine AllReadyH.cons (o := ⟨_, _, _, _, _, _⟩) rfl (fun K hK => ?_) AllReadyH.nil
         refine ite_yesB (by rfl) ?_
         refine wp_store_rowB _ _ _ rfl _ rfl (cells := #[.int .i64 1, .bool false, .int .i64 3, .int .i64 1, .slice fa fn fc, .int .i64 0, .int .i64 0, .slice none 0 0]) rfl K8.out szPlB rfl (by simp [Value.oneCell']) ?_
         intro za h1 h2
         have HB_za : Hid (Below D.heap.size D za) := Lib.hid (below_grownB HB_zw60.out h2 G8.out)
         have K9 := grown_otherB K9 h2 L9.out (fun e => absurd e.symm (Nat.ne_of_gt NE.out))
         have K8 := Lib.hid h1
         have L8 : Hid (zw52.heap.size < za.heap.size) := Lib.hid (lt_of_block h1)
         have L9 : Hid (zw1.heap.size < za.heap.size) := Lib.hid (lt_of_block K9.out)
         clear h1 h2
         refine hK.out _ _ (KS.out _ HB_za.out) (fun hHeld => ?_)
         clear hK K
         try simp only [Act.put, List.setIfInBounds_toArray, List.set_cons_zero, List.set_cons_succ]
         refine wpAnyH_ready (rs := [13]) (by kernel_rfl) (by simp) ?_
         refine AllReadyH.cons (o := ⟨_, _, _, _, _, _⟩) rfl (fun K hK => ?_) AllReadyH.nil
         refine ite_yesB (by rfl) ?_
         refine wp_store_rowB _ _ _ rfl _ rfl (cells := #[.int .i64 2, .bool false, .int .i64 0, .int .i64 0, .slice none 0 0, .int .i64 9, .int .i64 2, .slice none 0 0]) rfl K9.out szPlB rfl (by simp [Value.oneCell']) ?_
         intro zb h1 h2
         have HB_zb : Hid (Below D.heap.size D zb) := Lib.hid (below_grownB HB_za.out h2 G9.out)
         have K8 := grown_otherB K8 h2 L8.out (Nat.ne_of_gt NE.out)
         have K9 := Lib.hid h1
         clear h1 h2
         refine hK.out _ _ (KS.out _ HB_zb.out) (fun hHeld => ?_)
         clear hK K
         try simp only [Act.put, List.setIfInBounds_toArray, List.set_cons_zero, List.set_cons_succ]
         refine wpAnyH_done (by kernel_rfl) ?_ _
         go_wp2_with fail
         go_meet
         exact ⟨_, _, fa, fn, fc, rfl, rfl, G8.out, G9.out, K8.out, K9.out, HB_zb.out⟩
     ·go_simp
      have HX : Hid (Below zw51.heap.size zw51 (zw51.alloc (.cells #[.int .i64 0, .bool false, .int .i64 0, .int .i64 0, .slice none 0 0, .int .i64 0, .int .i64 0, .slice none 0 0] 44))) := Lib.hid (blAlloc (Below.refl _ _) _)
      have HB_zw61 : Hid (Below D.heap.size D (zw51.alloc (.cells #[.int .i64 0, .bool false, .int .i64 0, .int .i64 0, .slice none 0 0, .int .i64 0, .int .i64 0, .slice none 0 0] 44))) := Lib.hid (blThen HB_zw51.out HX.out)
      have NE : Hid (zw1.heap.size < zw51.heap.size) := L9
      have K9 := row_upB K9 L9 HX.out
      have L9 := lt_upB L9 HX.out
      have HG1 := Lib.hid (HG1.out.later HX.out)
      have K8 : Hid ((zw51.alloc (.cells #[.int .i64 0, .bool false, .int .i64 0, .int .i64 0, .slice none 0 0, .int .i64 0, .int .i64 0, .slice none 0 0] 44)).heap[zw51.heap.size]? = some (.cells #[.int .i64 0, .bool false, .int .i64 0, .int .i64 0, .slice none 0 0, .int .i64 0, .int .i64 0, .slice none 0 0] 44 (0, 0))) := Lib.hid (new_blockB zw51 #[.int .i64 0, .bool false, .int .i64 0, .int .i64 0, .slice none 0 0, .int .i64 0, .int .i64 0, .slice none 0 0] 44)
      have L8 : Hid (zw51.heap.size < (zw51.alloc (.cells #[.int .i64 0, .bool false, .int .i64 0, .int .i64 0, .slice none 0 0, .int .i64 0, .int .i64 0, .slice none 0 0] 44)).heap.size) := Lib.hid (by simp)
      have G8 : Hid (D.heap.size ≤ zw51.heap.size) := Lib.hid HB_zw51.out.size
      refine hK.out _ _ (KS.out _ HB_zw61.out) (fun hHeld => ?_)
      clear hK K HX
      try simp only [Act.put, List.setIfInBounds_toArray, List.set_cons_zero, List.set_cons_succ]
      generalize (zw51.alloc (.cells #[.int .i64 0, .bool false, .int .i64 0, .int .i64 0, .slice none 0 0, .int .i64 0, .int .i64 0, .slice none 0 0] 44)) = zw61 at *
      refine wpAnyH_ready (rs := [4]) (by kernel_rfl) (by simp) ?_
      refine (AllReadyH.cons (o := ⟨_, _, _, _, _, _⟩) rfl (fun K hK => ?_) AllReadyH.nil)
      ·go_simp
       go_at_call 12
       refine (HR1.out zw61 gb1 HB_zw61.out HG1.out).mono ?_
       rintro e zw62 ⟨⟨fa, fn, fc, rfl⟩, h5⟩
       have HX : Hid (Below zw61.heap.size zw61 zw62) := Lib.hid h5
       have HB_zw62 : Hid (Below D.heap.size D zw62) := Lib.hid (blThen HB_zw61.out HX.out)
       have K9 := row_upB K9 L9 HX.out
       have L9 := lt_upB L9 HX.out
       have K8 := row_upB K8 L8 HX.out
       have L8 := lt_upB L8 HX.out
       refine hK.out _ _ (KS.out _ HB_zw62.out) (fun hHeld => ?_)
       clear hK K HX h5
       try simp only [Act.put, List.setIfInBounds_toArray, List.set_cons_zero, List.set_cons_succ]
       refine wpAnyH_ready (rs := [7]) (by kernel_rfl) (by simp) ?_
       refine (AllReadyH.cons (o := ⟨_, _, _, _, _, _⟩) rfl (fun K hK => ?_) AllReadyH.nil)
       ·go_simp
        go_at_call 20
        refine (get_op zw62).mono ?_
        rintro e zw63 ⟨gb2, rfl, hg, h5⟩
        have HX : Hid (Below zw62.heap.size zw62 zw63) := Lib.hid h5
        have HB_zw63 : Hid (Below D.heap.size D zw63) := Lib.hid (blThen HB_zw62.out HX.out)
        have K9 := row_upB K9 L9 HX.out
        have L9 := lt_upB L9 HX.out
        have K8 := row_upB K8 L8 HX.out
        have L8 := lt_upB L8 HX.out
        have HG2 := Lib.hid hg
        clear hg
        refine hK.out _ _ (KS.out _ HB_zw63.out) (fun hHeld => ?_)
        clear hK K HX h5
        try simp only [Act.put, List.setIfInBounds_toArray, List.set_cons_zero, List.set_cons_succ]
        refine wpAnyH_ready (rs := [9]) (by kernel_rfl) (by simp) ?_
        refine (AllReadyH.cons (o := ⟨_, _, _, _, _, _⟩) rfl (fun K hK => ?_) AllReadyH.nil)
        ·go_simp
         go_at_call 12
         refine (HR2.out zw63 gb2 HB_zw63.out HG2.out).mono ?_
         rintro e zw64 ⟨rfl, h5⟩
         have HX : Hid (Below zw63.heap.size zw63 zw64) := Lib.hid h5
         have HB_zw64 : Hid (Below D.heap.size D zw64) := Lib.hid (blThen HB_zw63.out HX.out)
         have K9 := row_upB K9 L9 HX.out
         have L9 := lt_upB L9 HX.out
         have K8 := row_upB K8 L8 HX.out
         have L8 := lt_upB L8 HX.out
         refine hK.out _ _ (KS.out _ HB_zw64.out) (fun hHeld => ?_)
         clear hK K HX h5
         try simp only [Act.put, List.setIfInBounds_toArray, List.set_cons_zero, List.set_cons_succ]
         refine wpAnyH_ready (rs := [12]) (by kernel_rfl) (by simp) ?_
         refine AllReadyH.cons (o := ⟨_, _, _, _, _, _⟩) rfl (fun K hK => ?_) AllReadyH.nil
         refine ite_yesB (by rfl) ?_
         refine wp_store_rowB _ _ _ rfl _ rfl (cells := #[.int .i64 1, .bool false, .int .i64 3, .int .i64 1, .slice fa fn fc, .int .i64 0, .int .i64 0, .slice none 0 0]) rfl K8.out szPlB rfl (by simp [Value.oneCell']) ?_
         intro za h1 h2
         have HB_za : Hid (Below D.heap.size D za) := Lib.hid (below_grownB HB_zw64.out h2 G8.out)
         have K9 := grown_otherB K9 h2 L9.out (fun e => absurd e.symm (Nat.ne_of_gt NE.out))
         have K8 := Lib.hid h1
         have L8 : Hid (zw51.heap.size < za.heap.size) := Lib.hid (lt_of_block h1)
         have L9 : Hid (zw1.heap.size < za.heap.size) := Lib.hid (lt_of_block K9.out)
         clear h1 h2
         refine hK.out _ _ (KS.out _ HB_za.out) (fun hHeld => ?_)
         clear hK K
         try simp only [Act.put, List.setIfInBounds_toArray, List.set_cons_zero, List.set_cons_succ]
         refine wpAnyH_ready (rs := [13]) (by kernel_rfl) (by simp) ?_
         refine AllReadyH.cons (o := ⟨_, _, _, _, _, _⟩) rfl (fun K hK => ?_) AllReadyH.nil
         refine ite_yesB (by rfl) ?_
         refine wp_store_rowB _ _ _ rfl _ rfl (cells := #[.int .i64 2, .bool false, .int .i64 0, .int .i64 0, .slice none 0 0, .int .i64 9, .int .i64 2, .slice none 0 0]) rfl K9.out szPlB rfl (by simp [Value.oneCell']) ?_
         intro zb h1 h2
         have HB_zb : Hid (Below D.heap.size D zb) := Lib.hid (below_grownB HB_za.out h2 G9.out)
         have K8 := grown_otherB K8 h2 L8.out (Nat.ne_of_gt NE.out)
         have K9 := Lib.hid h1
         clear h1 h2
         refine hK.out _ _ (KS.out _ HB_zb.out) (fun hHeld => ?_)
         clear hK K
         try simp only [Act.put, List.setIfInBounds_toArray, List.set_cons_zero, List.set_cons_succ]
         refine wpAnyH_done (by kernel_rfl) ?_ _
         go_wp2_with fail
         go_meet
         exact ⟨_, _, fa, fn, fc, rfl, rfl, G8.out, G9.out, K8.out, K9.out, HB_zb.out⟩
   ·go_simp
    have HX : Hid (Below z0.heap.size z0 (z0.alloc (.cells #[.int .i64 0, .bool false, .int .i64 0, .int .i64 0, .slice none 0 0, .int .i64 0, .int .i64 0, .slice none 0 0] 44))) := Lib.hid (blAlloc (Below.refl _ _) _)
    have HB_zw65 : Hid (Below D.heap.size D (z0.alloc (.cells #[.int .i64 0, .bool false, .int .i64 0, .int .i64 0, .slice none 0 0, .int .i64 0, .int .i64 0, .slice none 0 0] 44))) := Lib.hid (blThen HB_z0.out HX.out)
    have K8 : Hid ((z0.alloc (.cells #[.int .i64 0, .bool false, .int .i64 0, .int .i64 0, .slice none 0 0, .int .i64 0, .int .i64 0, .slice none 0 0] 44)).heap[z0.heap.size]? = some (.cells #[.int .i64 0, .bool false, .int .i64 0, .int .i64 0, .slice none 0 0, .int .i64 0, .int .i64 0, .slice none 0 0] 44 (0, 0))) := Lib.hid (new_blockB z0 #[.int .i64 0, .bool false, .int .i64 0, .int .i64 0, .slice none 0 0, .int .i64 0, .int .i64 0, .slice none 0 0] 44)
    have L8 : Hid (z0.heap.size < (z0.alloc (.cells #[.int .i64 0, .bool false, .int .i64 0, .int .i64 0, .slice none 0 0, .int .i64 0, .int .i64 0, .slice none 0 0] 44)).heap.size) := Lib.hid (by simp)
    have G8 : Hid (D.heap.size ≤ z0.heap.size) := Lib.hid HB_z0.out.size
    refine hK.out _ _ (KS.out _ HB_zw65.out) (fun hHeld => ?_)
    clear hK K HX
    try simp only [Act.put, List.setIfInBounds_toArray, List.set_cons_zero, List.set_cons_succ]
    generalize (z0.alloc (.cells #[.int .i64 0, .bool false, .int .i64 0, .int .i64 0, .slice none 0 0, .int .i64 0, .int .i64 0, .slice none 0 0] 44)) = zw65 at *
    refine wpAnyH_ready (rs := [2, 11]) (by kernel_rfl) (by simp) ?_
    refine (AllReadyH.cons (o := ⟨_, _, _, _, _, _⟩) rfl (fun K hK => ?_) (AllReadyH.cons (o := ⟨_, _, _, _, _, _⟩) rfl (fun K hK => ?_) AllReadyH.nil))
    ·go_simp
     go_at_call 20
     refine (get_op zw65).mono ?_
     rintro e zw66 ⟨gb1, rfl, hg, h5⟩
     have HX : Hid (Below zw65.heap.size zw65 zw66) := Lib.hid h5
     have HB_zw66 : Hid (Below D.heap.size D zw66) := Lib.hid (blThen HB_zw65.out HX.out)
     have K8 := row_upB K8 L8 HX.out
     have L8 := lt_upB L8 HX.out
     have HG1 := Lib.hid hg
     clear hg
     refine hK.out _ _ (KS.out _ HB_zw66.out) (fun hHeld => ?_)
     clear hK K HX h5
     try simp only [Act.put, List.setIfInBounds_toArray, List.set_cons_zero, List.set_cons_succ]
     refine wpAnyH_ready (rs := [4, 11]) (by kernel_rfl) (by simp) ?_
     refine (AllReadyH.cons (o := ⟨_, _, _, _, _, _⟩) rfl (fun K hK => ?_) (AllReadyH.cons (o := ⟨_, _, _, _, _, _⟩) rfl (fun K hK => ?_) AllReadyH.nil))
     ·go_simp
      go_at_call 12
      refine (HR1.out zw66 gb1 HB_zw66.out HG1.out).mono ?_
      rintro e zw67 ⟨⟨fa, fn, fc, rfl⟩, h5⟩
      have HX : Hid (Below zw66.heap.size zw66 zw67) := Lib.hid h5
      have HB_zw67 : Hid (Below D.heap.size D zw67) := Lib.hid (blThen HB_zw66.out HX.out)
      have K8 := row_upB K8 L8 HX.out
      have L8 := lt_upB L8 HX.out
      refine hK.out _ _ (KS.out _ HB_zw67.out) (fun hHeld => ?_)
      clear hK K HX h5
      try simp only [Act.put, List.setIfInBounds_toArray, List.set_cons_zero, List.set_cons_succ]
      refine wpAnyH_ready (rs := [7, 11]) (by kernel_rfl) (by simp) ?_
      refine (AllReadyH.cons (o := ⟨_, _, _, _, _, _⟩) rfl (fun K hK => ?_) (AllReadyH.cons (o := ⟨_, _, _, _, _, _⟩) rfl (fun K hK => ?_) AllReadyH.nil))
      ·go_simp
       go_at_call 20
       refine (get_op zw67).mono ?_
       rintro e zw68 ⟨gb2, rfl, hg, h5⟩
       have HX : Hid (Below zw67.heap.size zw67 zw68) := Lib.hid h5
       have HB_zw68 : Hid (Below D.heap.size D zw68) := Lib.hid (blThen HB_zw67.out HX.out)
       have K8 := row_upB K8 L8 HX.out
       have L8 := lt_upB L8 HX.out
       have HG2 := Lib.hid hg
       clear hg
       refine hK.out _ _ (KS.out _ HB_zw68.out) (fun hHeld => ?_)
       clear hK K HX h5
       try simp only [Act.put, List.setIfInBounds_toArray, List.set_cons_zero, List.set_cons_succ]
       refine wpAnyH_ready (rs := [9, 11]) (by kernel_rfl) (by simp) ?_
       refine (AllReadyH.cons (o := ⟨_, _, _, _, _, _⟩) rfl (fun K hK => ?_) (AllReadyH.cons (o := ⟨_, _, _, _, _, _⟩) rfl (fun K hK => ?_) AllReadyH.nil))
       ·go_simp
        go_at_call 12
        refine (HR2.out zw68 gb2 HB_zw68.out HG2.out).mono ?_
        rintro e zw69 ⟨rfl, h5⟩
        have HX : Hid (Below zw68.heap.size zw68 zw69) := Lib.hid h5
        have HB_zw69 : Hid (Below D.heap.size D zw69) := Lib.hid (blThen HB_zw68.out HX.out)
        have K8 := row_upB K8 L8 HX.out
        have L8 := lt_upB L8 HX.out
        refine hK.out _ _ (KS.out _ HB_zw69.out) (fun hHeld => ?_)
        clear hK K HX h5
        try simp only [Act.put, List.setIfInBounds_toArray, List.set_cons_zero, List.set_cons_succ]
        refine wpAnyH_ready (rs := [11]) (by kernel_rfl) (by simp) ?_
        refine (AllReadyH.cons (o := ⟨_, _, _, _, _, _⟩) rfl (fun K hK => ?_) AllReadyH.nil)
        ·go_simp
         have HX : Hid (Below zw69.heap.size zw69 (zw69.alloc (.cells #[.int .i64 0, .bool false, .int .i64 0, .int .i64 0, .slice none 0 0, .int .i64 0, .int .i64 0, .slice none 0 0] 44))) := Lib.hid (blAlloc (Below.refl _ _) _)
         have HB_zw70 : Hid (Below D.heap.size D (zw69.alloc (.cells #[.int .i64 0, .bool false, .int .i64 0, .int .i64 0, .slice none 0 0, .int .i64 0, .int .i64 0, .slice none 0 0] 44))) := Lib.hid (blThen HB_zw69.out HX.out)
         have NE : Hid (z0.heap.size < zw69.heap.size) := L8
         have K8 := row_upB K8 L8 HX.out
         have L8 := lt_upB L8 HX.out
         have K9 : Hid ((zw69.alloc (.cells #[.int .i64 0, .bool false, .int .i64 0, .int .i64 0, .slice none 0 0, .int .i64 0, .int .i64 0, .slice none 0 0] 44)).heap[zw69.heap.size]? = some (.cells #[.int .i64 0, .bool false, .int .i64 0, .int .i64 0, .slice none 0 0, .int .i64 0, .int .i64 0, .slice none 0 0] 44 (0, 0))) := Lib.hid (new_blockB zw69 #[.int .i64 0, .bool false, .int .i64 0, .int .i64 0, .slice none 0 0, .int .i64 0, .int .i64 0, .slice none 0 0] 44)
         have L9 : Hid (zw69.heap.size < (zw69.alloc (.cells #[.int .i64 0, .bool false, .int .i64 0, .int .i64 0, .slice none 0 0, .int .i64 0, .int .i64 0, .slice none 0 0] 44)).heap.size) := Lib.hid (by simp)
         have G9 : Hid (D.heap.size ≤ zw69.heap.size) := Lib.hid HB_zw69.out.size
         refine hK.out _ _ (KS.out _ HB_zw70.out) (fun hHeld => ?_)
         clear hK K HX
         try simp only [Act.put, List.setIfInBounds_toArray, List.set_cons_zero, List.set_cons_succ]
         generalize (zw69.alloc (.cells #[.int .i64 0, .bool false, .int .i64 0, .int .i64 0, .slice none 0 0, .int .i64 0, .int .i64 0, .slice none 0 0] 44)) = zw70 at *
         refine wpAnyH_ready (rs := [12]) (by kernel_rfl) (by simp) ?_
         refine AllReadyH.cons (o := ⟨_, _, _, _, _, _⟩) rfl (fun K hK => ?_) AllReadyH.nil
         refine ite_yesB (by rfl) ?_
         refine wp_store_rowB _ _ _ rfl _ rfl (cells := #[.int .i64 1, .bool false, .int .i64 3, .int .i64 1, .slice fa fn fc, .int .i64 0, .int .i64 0, .slice none 0 0]) rfl K8.out szPlB rfl (by simp [Value.oneCell']) ?_
         intro za h1 h2
         have HB_za : Hid (Below D.heap.size D za) := Lib.hid (below_grownB HB_zw70.out h2 G8.out)
         have K9 := grown_otherB K9 h2 L9.out (fun e => absurd e.symm (Nat.ne_of_lt NE.out))
         have K8 := Lib.hid h1
         have L8 : Hid (z0.heap.size < za.heap.size) := Lib.hid (lt_of_block h1)
         have L9 : Hid (zw69.heap.size < za.heap.size) := Lib.hid (lt_of_block K9.out)
         clear h1 h2
         refine hK.out _ _ (KS.out _ HB_za.out) (fun hHeld => ?_)
         clear hK K
         try simp only [Act.put, List.setIfInBounds_toArray, List.set_cons_zero, List.set_cons_succ]
         refine wpAnyH_ready (rs := [13]) (by kernel_rfl) (by simp) ?_
         refine AllReadyH.cons (o := ⟨_, _, _, _, _, _⟩) rfl (fun K hK => ?_) AllReadyH.nil
         refine ite_yesB (by rfl) ?_
         refine wp_store_rowB _ _ _ rfl _ rfl (cells := #[.int .i64 2, .bool false, .int .i64 0, .int .i64 0, .slice none 0 0, .int .i64 9, .int .i64 2, .slice none 0 0]) rfl K9.out szPlB rfl (by simp [Value.oneCell']) ?_
         intro zb h1 h2
         have HB_zb : Hid (Below D.heap.size D zb) := Lib.hid (below_grownB HB_za.out h2 G9.out)
         have K8 := grown_otherB K8 h2 L8.out (Nat.ne_of_lt NE.out)
         have K9 := Lib.hid h1
         clear h1 h2
         refine hK.out _ _ (KS.out _ HB_zb.out) (fun hHeld => ?_)
         clear hK K
         try simp only [Act.put, List.setIfInBounds_toArray, List.set_cons_zero, List.set_cons_succ]
         refine wpAnyH_done (by kernel_rfl) ?_ _
         go_wp2_with fail
         go_meet
         exact ⟨_, _, fa, fn, fc, rfl, rfl, G8.out, G9.out, K8.out, K9.out, HB_zb.out⟩
       ·go_simp
        have HX : Hid (Below zw68.heap.size zw68 (zw68.alloc (.cells #[.int .i64 0, .bool false, .int .i64 0, .int .i64 0, .slice none 0 0, .int .i64 0, .int .i64 0, .slice none 0 0] 44))) := Lib.hid (blAlloc (Below.refl _ _) _)
        have HB_zw71 : Hid (Below D.heap.size D (zw68.alloc (.cells #[.int .i64 0, .bool false, .int .i64 0, .int .i64 0, .slice none 0 0, .int .i64 0, .int .i64 0, .slice none 0 0] 44))) := Lib.hid (blThen HB_zw68.out HX.out)
        have NE : Hid (z0.heap.size < zw68.heap.size) := L8
        have K8 := row_upB K8 L8 HX.out
        have L8 := lt_upB L8 HX.out
        have HG2 := Lib.hid (HG2.out.later HX.out)
        have K9 : Hid ((zw68.alloc (.cells #[.int .i64 0, .bool false, .int .i64 0, .int .i64 0, .slice none 0 0, .int .i64 0, .int .i64 0, .slice none 0 0] 44)).heap[zw68.heap.size]? = some (.cells #[.int .i64 0, .bool false, .int .i64 0, .int .i64 0, .slice none 0 0, .int .i64 0, .int .i64 0, .slice none 0 0] 44 (0, 0))) := Lib.hid (new_blockB zw68 #[.int .i64 0, .bool false, .int .i64 0, .int .i64 0, .slice none 0 0, .int .i64 0, .int .i64 0, .slice none 0 0] 44)
        have L9 : Hid (zw68.heap.size < (zw68.alloc (.cells #[.int .i64 0, .bool false, .int .i64 0, .int .i64 0, .slice none 0 0, .int .i64 0, .int .i64 0, .slice none 0 0] 44)).heap.size) := Lib.hid (by simp)
        have G9 : Hid (D.heap.size ≤ zw68.heap.size) := Lib.hid HB_zw68.out.size
        refine hK.out _ _ (KS.out _ HB_zw71.out) (fun hHeld => ?_)
        clear hK K HX
        try simp only [Act.put, List.setIfInBounds_toArray, List.set_cons_zero, List.set_cons_succ]
        generalize (zw68.alloc (.cells #[.int .i64 0, .bool false, .int .i64 0, .int .i64 0, .slice none 0 0, .int .i64 0, .int .i64 0, .slice none 0 0] 44)) = zw71 at *
        refine wpAnyH_ready (rs := [9]) (by kernel_rfl) (by simp) ?_
        refine (AllReadyH.cons (o := ⟨_, _, _, _, _, _⟩) rfl (fun K hK => ?_) AllReadyH.nil)
        ·go_simp
         go_at_call 12
         refine (HR2.out zw71 gb2 HB_zw71.out HG2.out).mono ?_
         rintro e zw72 ⟨rfl, h5⟩
         have HX : Hid (Below zw71.heap.size zw71 zw72) := Lib.hid h5
         have HB_zw72 : Hid (Below D.heap.size D zw72) := Lib.hid (blThen HB_zw71.out HX.out)
         have K8 := row_upB K8 L8 HX.out
         have L8 := lt_upB L8 HX.out
         have K9 := row_upB K9 L9 HX.out
         have L9 := lt_upB L9 HX.out
         refine hK.out _ _ (KS.out _ HB_zw72.out) (fun hHeld => ?_)
         clear hK K HX h5
         try simp only [Act.put, List.setIfInBounds_toArray, List.set_cons_zero, List.set_cons_succ]
         refine wpAnyH_ready (rs := [12]) (by kernel_rfl) (by simp) ?_
         refine AllReadyH.cons (o := ⟨_, _, _, _, _, _⟩) rfl (fun K hK => ?_) AllReadyH.nil
         refine ite_yesB (by rfl) ?_
         refine wp_store_rowB _ _ _ rfl _ rfl (cells := #[.int .i64 1, .bool false, .int .i64 3, .int .i64 1, .slice fa fn fc, .int .i64 0, .int .i64 0, .slice none 0 0]) rfl K8.out szPlB rfl (by simp [Value.oneCell']) ?_
         intro za h1 h2
         have HB_za : Hid (Below D.heap.size D za) := Lib.hid (below_grownB HB_zw72.out h2 G8.out)
         have K9 := grown_otherB K9 h2 L9.out (fun e => absurd e.symm (Nat.ne_of_lt NE.out))
         have K8 := Lib.hid h1
         have L8 : Hid (z0.heap.size < za.heap.size) := Lib.hid (lt_of_block h1)
         have L9 : Hid (zw68.heap.size < za.heap.size) := Lib.hid (lt_of_block K9.out)
         clear h1 h2
         refine hK.out _ _ (KS.out _ HB_za.out) (fun hHeld => ?_)
         clear hK K
         try simp only [Act.put, List.setIfInBounds_toArray, List.set_cons_zero, List.set_cons_succ]
         refine wpAnyH_ready (rs := [13]) (by kernel_rfl) (by simp) ?_
         refine AllReadyH.cons (o := ⟨_, _, _, _, _, _⟩) rfl (fun K hK => ?_) AllReadyH.nil
         refine ite_yesB (by rfl) ?_
         refine wp_store_rowB _ _ _ rfl _ rfl (cells := #[.int .i64 2, .bool false, .int .i64 0, .int .i64 0, .slice none 0 0, .int .i64 9, .int .i64 2, .slice none 0 0]) rfl K9.out szPlB rfl (by simp [Value.oneCell']) ?_
         intro zb h1 h2
         have HB_zb : Hid (Below D.heap.size D zb) := Lib.hid (below_grownB HB_za.out h2 G9.out)
         have K8 := grown_otherB K8 h2 L8.out (Nat.ne_of_lt NE.out)
         have K9 := Lib.hid h1
         clear h1 h2
         refine hK.out _ _ (KS.out _ HB_zb.out) (fun hHeld => ?_)
         clear hK K
         try simp only [Act.put, List.setIfInBounds_toArray, List.set_cons_zero, List.set_cons_succ]
         refine wpAnyH_done (by kernel_rfl) ?_ _
         go_wp2_with fail
         go_meet
         exact ⟨_, _, fa, fn, fc, rfl, rfl, G8.out, G9.out, K8.out, K9.out, HB_zb.out⟩
      ·go_simp
       have HX : Hid (Below zw67.heap.size zw67 (zw67.alloc (.cells #[.int .i64 0, .bool false, .int .i64 0, .int .i64 0, .slice none 0 0, .int .i64 0, .int .i64 0, .slice none 0 0] 44))) := Lib.hid (blAlloc (Below.refl _ _) _)
       have HB_zw73 : Hid (Below D.heap.size D (zw67.alloc (.cells #[.int .i64 0, .bool false, .int .i64 0, .int .i64 0, .slice none 0 0, .int .i64 0, .int .i64 0, .slice none 0 0] 44))) := Lib.hid (blThen HB_zw67.out HX.out)
       have NE : Hid (z0.heap.size < zw67.heap.size) := L8
       have K8 := row_upB K8 L8 HX.out
       have L8 := lt_upB L8 HX.out
       have K9 : Hid ((zw67.alloc (.cells #[.int .i64 0, .bool false, .int .i64 0, .int .i64 0, .slice none 0 0, .int .i64 0, .int .i64 0, .slice none 0 0] 44)).heap[zw67.heap.size]? = some (.cells #[.int .i64 0, .bool false, .int .i64 0, .int .i64 0, .slice none 0 0, .int .i64 0, .int .i64 0, .slice none 0 0] 44 (0, 0))) := Lib.hid (new_blockB zw67 #[.int .i64 0, .bool false, .int .i64 0, .int .i64 0, .slice none 0 0, .int .i64 0, .int .i64 0, .slice none 0 0] 44)
       have L9 : Hid (zw67.heap.size < (zw67.alloc (.cells #[.int .i64 0, .bool false, .int .i64 0, .int .i64 0, .slice none 0 0, .int .i64 0, .int .i64 0, .slice none 0 0] 44)).heap.size) := Lib.hid (by simp)
       have G9 : Hid (D.heap.size ≤ zw67.heap.size) := Lib.hid HB_zw67.out.size
       refine hK.out _ _ (KS.out _ HB_zw73.out) (fun hHeld => ?_)
       clear hK K HX
       try simp only [Act.put, List.setIfInBounds_toArray, List.set_cons_zero, List.set_cons_succ]
       generalize (zw67.alloc (.cells #[.int .i64 0, .bool false, .int .i64 0, .int .i64 0, .slice none 0 0, .int .i64 0, .int .i64 0, .slice none 0 0] 44)) = zw73 at *
       refine wpAnyH_ready (rs := [7]) (by kernel_rfl) (by simp) ?_
       refine (AllReadyH.cons (o := ⟨_, _, _, _, _, _⟩) rfl (fun K hK => ?_) AllReadyH.nil)
       ·go_simp
        go_at_call 20
        refine (get_op zw73).mono ?_
        rintro e zw74 ⟨gb2, rfl, hg, h5⟩
        have HX : Hid (Below zw73.heap.size zw73 zw74) := Lib.hid h5
        have HB_zw74 : Hid (Below D.heap.size D zw74) := Lib.hid (blThen HB_zw73.out HX.out)
        have K8 := row_upB K8 L8 HX.out
        have L8 := lt_upB L8 HX.out
        have K9 := row_upB K9 L9 HX.out
        have L9 := lt_upB L9 HX.out
        have HG2 := Lib.hid hg
        clear hg
        refine hK.out _ _ (KS.out _ HB_zw74.out) (fun hHeld => ?_)
        clear hK K HX h5
        try simp only [Act.put, List.setIfInBounds_toArray, List.set_cons_zero, List.set_cons_succ]
        refine wpAnyH_ready (rs := [9]) (by kernel_rfl) (by simp) ?_
        refine (AllReadyH.cons (o := ⟨_, _, _, _, _, _⟩) rfl (fun K hK => ?_) AllReadyH.nil)
        ·go_simp
         go_at_call 12
         refine (HR2.out zw74 gb2 HB_zw74.out HG2.out).mono ?_
         rintro e zw75 ⟨rfl, h5⟩
         have HX : Hid (Below zw74.heap.size zw74 zw75) := Lib.hid h5
         have HB_zw75 : Hid (Below D.heap.size D zw75) := Lib.hid (blThen HB_zw74.out HX.out)
         have K8 := row_upB K8 L8 HX.out
         have L8 := lt_upB L8 HX.out
         have K9 := row_upB K9 L9 HX.out
         have L9 := lt_upB L9 HX.out
         refine hK.out _ _ (KS.out _ HB_zw75.out) (fun hHeld => ?_)
         clear hK K HX h5
         try simp only [Act.put, List.setIfInBounds_toArray, List.set_cons_zero, List.set_cons_succ]
         refine wpAnyH_ready (rs := [12]) (by kernel_rfl) (by simp) ?_
         refine AllReadyH.cons (o := ⟨_, _, _, _, _, _⟩) rfl (fun K hK => ?_) AllReadyH.nil
         refine ite_yesB (by rfl) ?_
         refine wp_store_rowB _ _ _ rfl _ rfl (cells := #[.int .i64 1, .bool false, .int .i64 3, .int .i64 1, .slice fa fn fc, .int .i64 0, .int .i64 0, .slice none 0 0]) rfl K8.out szPlB rfl (by simp [Value.oneCell']) ?_
         intro za h1 h2
         have HB_za : Hid (Below D.heap.size D za) := Lib.hid (below_grownB HB_zw75.out h2 G8.out)
         have K9 := grown_otherB K9 h2 L9.out (fun e => absurd e.symm (Nat.ne_of_lt NE.out))
         have K8 := Lib.hid h1
         have L8 : Hid (z0.heap.size < za.heap.size) := Lib.hid (lt_of_block h1)
         have L9 : Hid (zw67.heap.size < za.heap.size) := Lib.hid (lt_of_block K9.out)
         clear h1 h2
         refine hK.out _ _ (KS.out _ HB_za.out) (fun hHeld => ?_)
         clear hK K
         try simp only [Act.put, List.setIfInBounds_toArray, List.set_cons_zero, List.set_cons_succ]
         refine wpAnyH_ready (rs := [13]) (by kernel_rfl) (by simp) ?_
         refine AllReadyH.cons (o := ⟨_, _, _, _, _, _⟩) rfl (fun K hK => ?_) AllReadyH.nil
         refine ite_yesB (by rfl) ?_
         refine wp_store_rowB _ _ _ rfl _ rfl (cells := #[.int .i64 2, .bool false, .int .i64 0, .int .i64 0, .slice none 0 0, .int .i64 9, .int .i64 2, .slice none 0 0]) rfl K9.out szPlB rfl (by simp [Value.oneCell']) ?_
         intro zb h1 h2
         have HB_zb : Hid (Below D.heap.size D zb) := Lib.hid (below_grownB HB_za.out h2 G9.out)
         have K8 := grown_otherB K8 h2 L8.out (Nat.ne_of_lt NE.out)
         have K9 := Lib.hid h1
         clear h1 h2
         refine hK.out _ _ (KS.out _ HB_zb.out) (fun hHeld => ?_)
         clear hK K
         try simp only [Act.put, List.setIfInBounds_toArray, List.set_cons_zero, List.set_cons_succ]
         refine wpAnyH_done (by kernel_rfl) ?_ _
         go_wp2_with fail
         go_meet
         exact ⟨_, _, fa, fn, fc, rfl, rfl, G8.out, G9.out, K8.out, K9.out, HB_zb.out⟩
     ·go_simp
      have HX : Hid (Below zw66.heap.size zw66 (zw66.alloc (.cells #[.int .i64 0, .bool false, .int .i64 0, .int .i64 0, .slice none 0 0, .int .i64 0, .int .i64 0, .slice none 0 0] 44))) := Lib.hid (blAlloc (Below.refl _ _) _)
      have HB_zw76 : Hid (Below D.heap.size D (zw66.alloc (.cells #[.int .i64 0, .bool false, .int .i64 0, .int .i64 0, .slice none 0 0, .int .i64 0, .int .i64 0, .slice none 0 0] 44))) := Lib.hid (blThen HB_zw66.out HX.out)
      have NE : Hid (z0.heap.size < zw66.heap.size) := L8
      have K8 := row_upB K8 L8 HX.out
      have L8 := lt_upB L8 HX.out
      have HG1 := Lib.hid (HG1.out.later HX.out)
      have K9 : Hid ((zw66.alloc (.cells #[.int .i64 0, .bool false, .int .i64 0, .int .i64 0, .slice none 0 0, .int .i64 0, .int .i64 0, .slice none 0 0] 44)).heap[zw66.heap.size]? = some (.cells #[.int .i64 0, .bool false, .int .i64 0, .int .i64 0, .slice none 0 0, .int .i64 0, .int .i64 0, .slice none 0 0] 44 (0, 0))) := Lib.hid (new_blockB zw66 #[.int .i64 0, .bool false, .int .i64 0, .int .i64 0, .slice none 0 0, .int .i64 0, .int .i64 0, .slice none 0 0] 44)
      have L9 : Hid (zw66.heap.size < (zw66.alloc (.cells #[.int .i64 0, .bool false, .int .i64 0, .int .i64 0, .slice none 0 0, .int .i64 0, .int .i64 0, .slice none 0 0] 44)).heap.size) := Lib.hid (by simp)
      have G9 : Hid (D.heap.size ≤ zw66.heap.size) := Lib.hid HB_zw66.out.size
      refine hK.out _ _ (KS.out _ HB_zw76.out) (fun hHeld => ?_)
      clear hK K HX
      try simp only [Act.put, List.setIfInBounds_toArray, List.set_cons_zero, List.set_cons_succ]
      generalize (zw66.alloc (.cells #[.int .i64 0, .bool false, .int .i64 0, .int .i64 0, .slice none 0 0, .int .i64 0, .int .i64 0, .slice none 0 0] 44)) = zw76 at *
      refine wpAnyH_ready (rs := [4]) (by kernel_rfl) (by simp) ?_
      refine (AllReadyH.cons (o := ⟨_, _, _, _, _, _⟩) rfl (fun K hK => ?_) AllReadyH.nil)
      ·go_simp
       go_at_call 12
       refine (HR1.out zw76 gb1 HB_zw76.out HG1.out).mono ?_
       rintro e zw77 ⟨⟨fa, fn, fc, rfl⟩, h5⟩
       have HX : Hid (Below zw76.heap.size zw76 zw77) := Lib.hid h5
       have HB_zw77 : Hid (Below D.heap.size D zw77) := Lib.hid (blThen HB_zw76.out HX.out)
       have K8 := row_upB K8 L8 HX.out
       have L8 := lt_upB L8 HX.out
       have K9 := row_upB K9 L9 HX.out
       have L9 := lt_upB L9 HX.out
       refine hK.out _ _ (KS.out _ HB_zw77.out) (fun hHeld => ?_)
       clear hK K HX h5
       try simp only [Act.put, List.setIfInBounds_toArray, List.set_cons_zero, List.set_cons_succ]
       refine wpAnyH_ready (rs := [7]) (by kernel_rfl) (by simp) ?_
       refine (AllReadyH.cons (o := ⟨_, _, _, _, _, _⟩) rfl (fun K hK => ?_) AllReadyH.nil)
       ·go_simp
        go_at_call 20
        refine (get_op zw77).mono ?_
        rintro e zw78 ⟨gb2, rfl, hg, h5⟩
        have HX : Hid (Below zw77.heap.size zw77 zw78) := Lib.hid h5
        have HB_zw78 : Hid (Below D.heap.size D zw78) := Lib.hid (blThen HB_zw77.out HX.out)
        have K8 := row_upB K8 L8 HX.out
        have L8 := lt_upB L8 HX.out
        have K9 := row_upB K9 L9 HX.out
        have L9 := lt_upB L9 HX.out
        have HG2 := Lib.hid hg
        clear hg
        refine hK.out _ _ (KS.out _ HB_zw78.out) (fun hHeld => ?_)
        clear hK K HX h5
        try simp only [Act.put, List.setIfInBounds_toArray, List.set_cons_zero, List.set_cons_succ]
        refine wpAnyH_ready (rs := [9]) (by kernel_rfl) (by simp) ?_
        refine (AllReadyH.cons (o := ⟨_, _, _, _, _, _⟩) rfl (fun K hK => ?_) AllReadyH.nil)
        ·go_simp
         go_at_call 12
         refine (HR2.out zw78 gb2 HB_zw78.out HG2.out).mono ?_
         rintro e zw79 ⟨rfl, h5⟩
         have HX : Hid (Below zw78.heap.size zw78 zw79) := Lib.hid h5
         have HB_zw79 : Hid (Below D.heap.size D zw79) := Lib.hid (blThen HB_zw78.out HX.out)
         have K8 := row_upB K8 L8 HX.out
         have L8 := lt_upB L8 HX.out
         have K9 := row_upB K9 L9 HX.out
         have L9 := lt_upB L9 HX.out
         refine hK.out _ _ (KS.out _ HB_zw79.out) (fun hHeld => ?_)
         clear hK K HX h5
         try simp only [Act.put, List.setIfInBounds_toArray, List.set_cons_zero, List.set_cons_succ]
         refine wpAnyH_ready (rs := [12]) (by kernel_rfl) (by simp) ?_
         refine AllReadyH.cons (o := ⟨_, _, _, _, _, _⟩) rfl (fun K hK => ?_) AllReadyH.nil
         refine ite_yesB (by rfl) ?_
         refine wp_store_rowB _ _ _ rfl _ rfl (cells := #[.int .i64 1, .bool false, .int .i64 3, .int .i64 1, .slice fa fn fc, .int .i64 0, .int .i64 0, .slice none 0 0]) rfl K8.out szPlB rfl (by simp [Value.oneCell']) ?_
         intro za h1 h2
         have HB_za : Hid (Below D.heap.size D za) := Lib.hid (below_grownB HB_zw79.out h2 G8.out)
         have K9 := grown_otherB K9 h2 L9.out (fun e => absurd e.symm (Nat.ne_of_lt NE.out))
         have K8 := Lib.hid h1
         have L8 : Hid (z0.heap.size < za.heap.size) := Lib.hid (lt_of_block h1)
         have L9 : Hid (zw66.heap.size < za.heap.size) := Lib.hid (lt_of_block K9.out)
         clear h1 h2
         refine hK.out _ _ (KS.out _ HB_za.out) (fun hHeld => ?_)
         clear hK K
         try simp only [Act.put, List.setIfInBounds_toArray, List.set_cons_zero, List.set_cons_succ]
         refine wpAnyH_ready (rs := [13]) (by kernel_rfl) (by simp) ?_
         refine AllReadyH.cons (o := ⟨_, _, _, _, _, _⟩) rfl (fun K hK => ?_) AllReadyH.nil
         refine ite_yesB (by rfl) ?_
         refine wp_store_rowB _ _ _ rfl _ rfl (cells := #[.int .i64 2, .bool false, .int .i64 0, .int .i64 0, .slice none 0 0, .int .i64 9, .int .i64 2, .slice none 0 0]) rfl K9.out szPlB rfl (by simp [Value.oneCell']) ?_
         intro zb h1 h2
         have HB_zb : Hid (Below D.heap.size D zb) := Lib.hid (below_grownB HB_za.out h2 G9.out)
         have K8 := grown_otherB K8 h2 L8.out (Nat.ne_of_lt NE.out)
         have K9 := Lib.hid h1
         clear h1 h2
         refine hK.out _ _ (KS.out _ HB_zb.out) (fun hHeld => ?_)
         clear hK K
         try simp only [Act.put, List.setIfInBounds_toArray, List.set_cons_zero, List.set_cons_succ]
         refine wpAnyH_done (by kernel_rfl) ?_ _
         go_wp2_with fail
         go_meet
         exact ⟨_, _, fa, fn, fc, rfl, rfl, G8.out, G9.out, K8.out, K9.out, HB_zb.out⟩
    ·go_simp
     have HX : Hid (Below zw65.heap.size zw65 (zw65.alloc (.cells #[.int .i64 0, .bool false, .int .i64 0, .int .i64 0, .slice none 0 0, .int .i64 0, .int .i64 0, .slice none 0 0] 44))) := Lib.hid (blAlloc (Below.refl _ _) _)
     have HB_zw80 : Hid (Below D.heap.size D (zw65.alloc (.cells #[.int .i64 0, .bool false, .int .i64 0, .int .i64 0, .slice none 0 0, .int .i64 0, .int .i64 0, .slice none 0 0] 44))) := Lib.hid (blThen HB_zw65.out HX.out)
     have NE : Hid (z0.heap.size < zw65.heap.size) := L8
     have K8 := row_upB K8 L8 HX.out
     have L8 := lt_upB L8 HX.out
     have K9 : Hid ((zw65.alloc (.cells #[.int .i64 0, .bool false, .int .i64 0, .int .i64 0, .slice none 0 0, .int .i64 0, .int .i64 0, .slice none 0 0] 44)).heap[zw65.heap.size]? = some (.cells #[.int .i64 0, .bool false, .int .i64 0, .int .i64 0, .slice none 0 0, .int .i64 0, .int .i64 0, .slice none 0 0] 44 (0, 0))) := Lib.hid (new_blockB zw65 #[.int .i64 0, .bool false, .int .i64 0, .int .i64 0, .slice none 0 0, .int .i64 0, .int .i64 0, .slice none 0 0] 44)
     have L9 : Hid (zw65.heap.size < (zw65.alloc (.cells #[.int .i64 0, .bool false, .int .i64 0, .int .i64 0, .slice none 0 0, .int .i64 0, .int .i64 0, .slice none 0 0] 44)).heap.size) := Lib.hid (by simp)
     have G9 : Hid (D.heap.size ≤ zw65.heap.size) := Lib.hid HB_zw65.out.size
     refine hK.out _ _ (KS.out _ HB_zw80.out) (fun hHeld => ?_)
     clear hK K HX
     try simp only [Act.put, List.setIfInBounds_toArray, List.set_cons_zero, List.set_cons_succ]
     generalize (zw65.alloc (.cells #[.int .i64 0, .bool false, .int .i64 0, .int .i64 0, .slice none 0 0, .int .i64 0, .int .i64 0, .slice none 0 0] 44)) = zw80 at *
     refine wpAnyH_ready (rs := [2]) (by kernel_rfl) (by simp) ?_
     refine (AllReadyH.cons (o := ⟨_, _, _, _, _, _⟩) rfl (fun K hK => ?_) AllReadyH.nil)
     ·go_simp
      go_at_call 20
      refine (get_op zw80).mono ?_
      rintro e zw81 ⟨gb1, rfl, hg, h5⟩
      have HX : Hid (Below zw80.heap.size zw80 zw81) := Lib.hid h5
      have HB_zw81 : Hid (Below D.heap.size D zw81) := Lib.hid (blThen HB_zw80.out HX.out)
      have K8 := row_upB K8 L8 HX.out
      have L8 := lt_upB L8 HX.out
      have K9 := row_upB K9 L9 HX.out
      have L9 := lt_upB L9 HX.out
      have HG1 := Lib.hid hg
      clear hg
      refine hK.out _ _ (KS.out _ HB_zw81.out) (fun hHeld => ?_)
      clear hK K HX h5
      try simp only [Act.put, List.setIfInBounds_toArray, List.set_cons_zero, List.set_cons_succ]
      refine wpAnyH_ready (rs := [4]) (by kernel_rfl) (by simp) ?_
      refine (AllReadyH.cons (o := ⟨_, _, _, _, _, _⟩) rfl (fun K hK => ?_) AllReadyH.nil)
      ·go_simp
       go_at_call 12
       refine (HR1.out zw81 gb1 HB_zw81.out HG1.out).mono ?_
       rintro e zw82 ⟨⟨fa, fn, fc, rfl⟩, h5⟩
       have HX : Hid (Below zw81.heap.size zw81 zw82) := Lib.hid h5
       have HB_zw82 : Hid (Below D.heap.size D zw82) := Lib.hid (blThen HB_zw81.out HX.out)
       have K8 := row_upB K8 L8 HX.out
       have L8 := lt_upB L8 HX.out
       have K9 := row_upB K9 L9 HX.out
       have L9 := lt_upB L9 HX.out
       refine hK.out _ _ (KS.out _ HB_zw82.out) (fun hHeld => ?_)
       clear hK K HX h5
       try simp only [Act.put, List.setIfInBounds_toArray, List.set_cons_zero, List.set_cons_succ]
       refine wpAnyH_ready (rs := [7]) (by kernel_rfl) (by simp) ?_
       refine (AllReadyH.cons (o := ⟨_, _, _, _, _, _⟩) rfl (fun K hK => ?_) AllReadyH.nil)
       ·go_simp
        go_at_call 20
        refine (get_op zw82).mono ?_
        rintro e zw83 ⟨gb2, rfl, hg, h5⟩
        have HX : Hid (Below zw82.heap.size zw82 zw83) := Lib.hid h5
        have HB_zw83 : Hid (Below D.heap.size D zw83) := Lib.hid (blThen HB_zw82.out HX.out)
        have K8 := row_upB K8 L8 HX.out
        have L8 := lt_upB L8 HX.out
        have K9 := row_upB K9 L9 HX.out
        have L9 := lt_upB L9 HX.out
        have HG2 := Lib.hid hg
        clear hg
        refine hK.out _ _ (KS.out _ HB_zw83.out) (fun hHeld => ?_)
        clear hK K HX h5
        try simp only [Act.put, List.setIfInBounds_toArray, List.set_cons_zero, List.set_cons_succ]
        refine wpAnyH_ready (rs := [9]) (by kernel_rfl) (by simp) ?_
        refine (AllReadyH.cons (o := ⟨_, _, _, _, _, _⟩) rfl (fun K hK => ?_) AllReadyH.nil)
        ·go_simp
         go_at_call 12
         refine (HR2.out zw83 gb2 HB_zw83.out HG2.out).mono ?_
         rintro e zw84 ⟨rfl, h5⟩
         have HX : Hid (Below zw83.heap.size zw83 zw84) := Lib.hid h5
         have HB_zw84 : Hid (Below D.heap.size D zw84) := Lib.hid (blThen HB_zw83.out HX.out)
         have K8 := row_upB K8 L8 HX.out
         have L8 := lt_upB L8 HX.out
         have K9 := row_upB K9 L9 HX.out
         have L9 := lt_upB L9 HX.out
         refine hK.out _ _ (KS.out _ HB_zw84.out) (fun hHeld => ?_)
         clear hK K HX h5
         try simp only [Act.put, List.setIfInBounds_toArray, List.set_cons_zero, List.set_cons_succ]
         refine wpAnyH_ready (rs := [12]) (by kernel_rfl) (by simp) ?_
         refine AllReadyH.cons (o := ⟨_, _, _, _, _, _⟩) rfl (fun K hK => ?_) AllReadyH.nil
         refine ite_yesB (by rfl) ?_
         refine wp_store_rowB _ _ _ rfl _ rfl (cells := #[.int .i64 1, .bool false, .int .i64 3, .int .i64 1, .slice fa fn fc, .int .i64 0, .int .i64 0, .slice none 0 0]) rfl K8.out szPlB rfl (by simp [Value.oneCell']) ?_
         intro za h1 h2
         have HB_za : Hid (Below D.heap.size D za) := Lib.hid (below_grownB HB_zw84.out h2 G8.out)
         have K9 := grown_otherB K9 h2 L9.out (fun e => absurd e.symm (Nat.ne_of_lt NE.out))
         have K8 := Lib.hid h1
         have L8 : Hid (z0.heap.size < za.heap.size) := Lib.hid (lt_of_block h1)
         have L9 : Hid (zw65.heap.size < za.heap.size) := Lib.hid (lt_of_block K9.out)
         clear h1 h2
         refine hK.out _ _ (KS.out _ HB_za.out) (fun hHeld => ?_)
         clear hK K
         try simp only [Act.put, List.setIfInBounds_toArray, List.set_cons_zero, List.set_cons_succ]
         refine wpAnyH_ready (rs := [13]) (by kernel_rfl) (by simp) ?_
         refine AllReadyH.cons (o := ⟨_, _, _, _, _, _⟩) rfl (fun K hK => ?_) AllReadyH.nil
         refine ite_yesB (by rfl) ?_
         refine wp_store_rowB _ _ _ rfl _ rfl (cells := #[.int .i64 2, .bool false, .int .i64 0, .int .i64 0, .slice none 0 0, .int .i64 9, .int .i64 2, .slice none 0 0]) rfl K9.out szPlB rfl (by simp [Value.oneCell']) ?_
         intro zb h1 h2
         have HB_zb : Hid (Below D.heap.size D zb) := Lib.hid (below_grownB HB_za.out h2 G9.out)
         have K8 := grown_otherB K8 h2 L8.out (Nat.ne_of_lt NE.out)
         have K9 := Lib.hid h1
         clear h1 h2
         refine hK.out _ _ (KS.out _ HB_zb.out) (fun hHeld => ?_)
         clear hK K
         try simp only [Act.put, List.setIfInBounds_toArray, List.set_cons_zero, List.set_cons_succ]
         refine wpAnyH_done (by kernel_rfl) ?_ _
         go_wp2_with fail
         go_meet
         exact ⟨_, _, fa, fn, fc, rfl, rfl, G8.out, G9.out, K8.out, K9.out, HB_zb.out⟩
   ·go_simp
    have HX : Hid (Below z0.heap.size z0 (z0.alloc (.cells #[.int .i64 0, .bool false, .int .i64 0, .int .i64 0, .slice none 0 0, .int .i64 0, .int .i64 0, .slice none 0 0] 44))) := Lib.hid (blAlloc (Below.refl _ _) _)
    have HB_zw85 : Hid (Below D.heap.size D (z0.alloc (.cells #[.int .i64 0, .bool false, .int .i64 0, .int .i64 0, .slice none 0 0, .int .i64 0, .int .i64 0, .slice none 0 0] 44))) := Lib.hid (blThen HB_z0.out HX.out)
    have K9 : Hid ((z0.alloc (.cells #[.int .i64 0, .bool false, .int .i64 0, .int .i64 0, .slice none 0 0, .int .i64 0, .int .i64 0, .slice none 0 0] 44)).heap[z0.heap.size]? = some (.cells #[.int .i64 0, .bool false, .int .i64 0, .int .i64 0, .slice none 0 0, .int .i64 0, .int .i64 0, .slice none 0 0] 44 (0, 0))) := Lib.hid (new_blockB z0 #[.int .i64 0, .bool false, .int .i64 0, .int .i64 0, .slice none 0 0, .int .i64 0, .int .i64 0, .slice none 0 0] 44)
    have L9 : Hid (z0.heap.size < (z0.alloc (.cells #[.int .i64 0, .bool false, .int .i64 0, .int .i64 0, .slice none 0 0, .int .i64 0, .int .i64 0, .slice none 0 0] 44)).heap.size) := Lib.hid (by simp)
    have G9 : Hid (D.heap.size ≤ z0.heap.size) := Lib.hid HB_z0.out.size
    refine hK.out _ _ (KS.out _ HB_zw85.out) (fun hHeld => ?_)
    clear hK K HX
    try simp only [Act.put, List.setIfInBounds_toArray, List.set_cons_zero, List.set_cons_succ]
    generalize (z0.alloc (.cells #[.int .i64 0, .bool false, .int .i64 0, .int .i64 0, .slice none 0 0, .int .i64 0, .int .i64 0, .slice none 0 0] 44)) = zw85 at *
    refine wpAnyH_ready (rs := [2, 10]) (by kernel_rfl) (by simp) ?_
    refine (AllReadyH.cons (o := ⟨_, _, _, _, _, _⟩) rfl (fun K hK => ?_) (AllReadyH.cons (o := ⟨_, _, _, _, _, _⟩) rfl (fun K hK => ?_) AllReadyH.nil))
    ·go_simp
     go_at_call 20
     refine (get_op zw85).mono ?_
     rintro e zw86 ⟨gb1, rfl, hg, h5⟩
     have HX : Hid (Below zw85.heap.size zw85 zw86) := Lib.hid h5
     have HB_zw86 : Hid (Below D.heap.size D zw86) := Lib.hid (blThen HB_zw85.out HX.out)
     have K9 := row_upB K9 L9 HX.out
     have L9 := lt_upB L9 HX.out
     have HG1 := Lib.hid hg
     clear hg
     refine hK.out _ _ (KS.out _ HB_zw86.out) (fun hHeld => ?_)
     clear hK K HX h5
     try simp only [Act.put, List.setIfInBounds_toArray, List.set_cons_zero, List.set_cons_succ]
     refine wpAnyH_ready (rs := [4, 10]) (by kernel_rfl) (by simp) ?_
     refine (AllReadyH.cons (o := ⟨_, _, _, _, _, _⟩) rfl (fun K hK => ?_) (AllReadyH.cons (o := ⟨_, _, _, _, _, _⟩) rfl (fun K hK => ?_) AllReadyH.nil))
     ·go_simp
      go_at_call 12
      refine (HR1.out zw86 gb1 HB_zw86.out HG1.out).mono ?_
      rintro e zw87 ⟨⟨fa, fn, fc, rfl⟩, h5⟩
      have HX : Hid (Below zw86.heap.size zw86 zw87) := Lib.hid h5
      have HB_zw87 : Hid (Below D.heap.size D zw87) := Lib.hid (blThen HB_zw86.out HX.out)
      have K9 := row_upB K9 L9 HX.out
      have L9 := lt_upB L9 HX.out
      refine hK.out _ _ (KS.out _ HB_zw87.out) (fun hHeld => ?_)
      clear hK K HX h5
      try simp only [Act.put, List.setIfInBounds_toArray, List.set_cons_zero, List.set_cons_succ]
      refine wpAnyH_ready (rs := [7, 10]) (by kernel_rfl) (by simp) ?_
      refine (AllReadyH.cons (o := ⟨_, _, _, _, _, _⟩) rfl (fun K hK => ?_) (AllReadyH.cons (o := ⟨_, _, _, _, _, _⟩) rfl (fun K hK => ?_) AllReadyH.nil))
      ·go_simp
       go_at_call 20
       refine (get_op zw87).mono ?_
       rintro e zw88 ⟨gb2, rfl, hg, h5⟩
       have HX : Hid (Below zw87.heap.size zw87 zw88) := Lib.hid h5
       have HB_zw88 : Hid (Below D.heap.size D zw88) := Lib.hid (blThen HB_zw87.out HX.out)
       have K9 := row_upB K9 L9 HX.out
       have L9 := lt_upB L9 HX.out
       have HG2 := Lib.hid hg
       clear hg
       refine hK.out _ _ (KS.out _ HB_zw88.out) (fun hHeld => ?_)
       clear hK K HX h5
       try simp only [Act.put, List.setIfInBounds_toArray, List.set_cons_zero, List.set_cons_succ]
       refine wpAnyH_ready (rs := [9, 10]) (by kernel_rfl) (by simp) ?_
       refine (AllReadyH.cons (o := ⟨_, _, _, _, _, _⟩) rfl (fun K hK => ?_) (AllReadyH.cons (o := ⟨_, _, _, _, _, _⟩) rfl (fun K hK => ?_) AllReadyH.nil))
       ·go_simp
        go_at_call 12
        refine (HR2.out zw88 gb2 HB_zw88.out HG2.out).mono ?_
        rintro e zw89 ⟨rfl, h5⟩
        have HX : Hid (Below zw88.heap.size zw88 zw89) := Lib.hid h5
        have HB_zw89 : Hid (Below D.heap.size D zw89) := Lib.hid (blThen HB_zw88.out HX.out)
        have K9 := row_upB K9 L9 HX.out
        have L9 := lt_upB L9 HX.out
        refine hK.out _ _ (KS.out _ HB_zw89.out) (fun hHeld => ?_)
        clear hK K HX h5
        try simp only [Act.put, List.setIfInBounds_toArray, List.set_cons_zero, List.set_cons_succ]
        refine wpAnyH_ready (rs := [10]) (by kernel_rfl) (by simp) ?_
        refine (AllReadyH.cons (o := ⟨_, _, _, _, _, _⟩) rfl (fun K hK => ?_) AllReadyH.nil)
        ·go_simp
         have HX : Hid (Below zw89.heap.size zw89 (zw89.alloc (.cells #[.int .i64 0, .bool false, .int .i64 0, .int .i64 0, .slice none 0 0, .int .i64 0, .int .i64 0, .slice none 0 0] 44))) := Lib.hid (blAlloc (Below.refl _ _) _)
         have HB_zw90 : Hid (Below D.heap.size D (zw89.alloc (.cells #[.int .i64 0, .bool false, .int .i64 0, .int .i64 0, .slice none 0 0, .int .i64 0, .int .i64 0, .slice none 0 0] 44))) := Lib.hid (blThen HB_zw89.out HX.out)
         have NE : Hid (z0.heap.size < zw89.heap.size) := L9
         have K9 := row_upB K9 L9 HX.out
         have L9 := lt_upB L9 HX.out
         have K8 : Hid ((zw89.alloc (.cells #[.int .i64 0, .bool false, .int .i64 0, .int .i64 0, .slice none 0 0, .int .i64 0, .int .i64 0, .slice none 0 0] 44)).heap[zw89.heap.size]? = some (.cells #[.int .i64 0, .bool false, .int .i64 0, .int .i64 0, .slice none 0 0, .int .i64 0, .int .i64 0, .slice none 0 0] 44 (0, 0))) := Lib.hid (new_blockB zw89 #[.int .i64 0, .bool false, .int .i64 0, .int .i64 0, .slice none 0 0, .int .i64 0, .int .i64 0, .slice none 0 0] 44)
         have L8 : Hid (zw89.heap.size < (zw89.alloc (.cells #[.int .i64 0, .bool false, .int .i64 0, .int .i64 0, .slice none 0 0, .int .i64 0, .int .i64 0, .slice none 0 0] 44)).heap.size) := Lib.hid (by simp)
         have G8 : Hid (D.heap.size ≤ zw89.heap.size) := Lib.hid HB_zw89.out.size
         refine hK.out _ _ (KS.out _ HB_zw90.out) (fun hHeld => ?_)
         clear hK K HX
         try simp only [Act.put, List.setIfInBounds_toArray, List.set_cons_zero, List.set_cons_succ]
         generalize (zw89.alloc (.cells #[.int .i64 0, .bool false, .int .i64 0, .int .i64 0, .slice none 0 0, .int .i64 0, .int .i64 0, .slice none 0 0] 44)) = zw90 at *
         refine wpAnyH_ready (rs := [12]) (by kernel_rfl) (by simp) ?_
         refine AllReadyH.cons (o := ⟨_, _, _, _, _, _⟩) rfl (fun K hK => ?_) AllReadyH.nil
         refine ite_yesB (by rfl) ?_
         refine wp_store_rowB _ _ _ rfl _ rfl (cells := #[.int .i64 1, .bool false, .int .i64 3, .int .i64 1, .slice fa fn fc, .int .i64 0, .int .i64 0, .slice none 0 0]) rfl K8.out szPlB rfl (by simp [Value.oneCell']) ?_
         intro za h1 h2
         have HB_za : Hid (Below D.heap.size D za) := Lib.hid (below_grownB HB_zw90.out h2 G8.out)
         have K9 := grown_otherB K9 h2 L9.out (fun e => absurd e.symm (Nat.ne_of_gt NE.out))
         have K8 := Lib.hid h1
         have L8 : Hid (zw89.heap.size < za.heap.size) := Lib.hid (lt_of_block h1)
         have L9 : Hid (z0.heap.size < za.heap.size) := Lib.hid (lt_of_block K9.out)
         clear h1 h2
         refine hK.out _ _ (KS.out _ HB_za.out) (fun hHeld => ?_)
         clear hK K
         try simp only [Act.put, List.setIfInBounds_toArray, List.set_cons_zero, List.set_cons_succ]
         refine wpAnyH_ready (rs := [13]) (by kernel_rfl) (by simp) ?_
         refine AllReadyH.cons (o := ⟨_, _, _, _, _, _⟩) rfl (fun K hK => ?_) AllReadyH.nil
         refine ite_yesB (by rfl) ?_
         refine wp_store_rowB _ _ _ rfl _ rfl (cells := #[.int .i64 2, .bool false, .int .i64 0, .int .i64 0, .slice none 0 0, .int .i64 9, .int .i64 2, .slice none 0 0]) rfl K9.out szPlB rfl (by simp [Value.oneCell']) ?_
         intro zb h1 h2
         have HB_zb : Hid (Below D.heap.size D zb) := Lib.hid (below_grownB HB_za.out h2 G9.out)
         have K8 := grown_otherB K8 h2 L8.out (Nat.ne_of_gt NE.out)
         have K9 := Lib.hid h1
         clear h1 h2
         refine hK.out _ _ (KS.out _ HB_zb.out) (fun hHeld => ?_)
         clear hK K
         try simp only [Act.put, List.setIfInBounds_toArray, List.set_cons_zero, List.set_cons_succ]
         refine wpAnyH_done (by kernel_rfl) ?_ _
         go_wp2_with fail
         go_meet
         exact ⟨_, _, fa, fn, fc, rfl, rfl, G8.out, G9.out, K8.out, K9.out, HB_zb.out⟩
       ·go_simp
        have HX : Hid (Below zw88.heap.size zw88 (zw88.alloc (.cells #[.int .i64 0, .bool false, .int .i64 0, .int .i64 0, .slice none 0 0, .int .i64 0, .int .i64 0, .slice none 0 0] 44))) := Lib.hid (blAlloc (Below.refl _ _) _)
        have HB_zw91 : Hid (Below D.heap.size D (zw88.alloc (.cells #[.int .i64 0, .bool false, .int .i64 0, .int .i64 0, .slice none 0 0, .int .i64 0, .int .i64 0, .slice none 0 0] 44))) := Lib.hid (blThen HB_zw88.out HX.out)
        have NE : Hid (z0.heap.size < zw88.heap.size) := L9
        have K9 := row_upB K9 L9 HX.out
        have L9 := lt_upB L9 HX.out
        have HG2 := Lib.hid (HG2.out.later HX.out)
        have K8 : Hid ((zw88.alloc (.cells #[.int .i64 0, .bool false, .int .i64 0, .int .i64 0, .slice none 0 0, .int .i64 0, .int .i64 0, .slice none 0 0] 44)).heap[zw88.heap.size]? = some (.cells #[.int .i64 0, .bool false, .int .i64 0, .int .i64 0, .slice none 0 0, .int .i64 0, .int .i64 0, .slice none 0 0] 44 (0, 0))) := Lib.hid (new_blockB zw88 #[.int .i64 0, .bool false, .int .i64 0, .int .i64 0, .slice none 0 0, .int .i64 0, .int .i64 0, .slice none 0 0] 44)
        have L8 : Hid (zw88.heap.size < (zw88.alloc (.cells #[.int .i64 0, .bool false, .int .i64 0, .int .i64 0, .slice none 0 0, .int .i64 0, .int .i64 0, .slice none 0 0] 44)).heap.size) := Lib.hid (by simp)
        have G8 : Hid (D.heap.size ≤ zw88.heap.size) := Lib.hid HB_zw88.out.size
        refine hK.out _ _ (KS.out _ HB_zw91.out) (fun hHeld => ?_)
        clear hK K HX
        try simp only [Act.put, List.setIfInBounds_toArray, List.set_cons_zero, List.set_cons_succ]
        generalize (zw88.alloc (.cells #[.int .i64 0, .bool false, .int .i64 0, .int .i64 0, .slice none 0 0, .int .i64 0, .int .i64 0, .slice none 0 0] 44)) = zw91 at *
        refine wpAnyH_ready (rs := [9]) (by kernel_rfl) (by simp) ?_
        refine (AllReadyH.cons (o := ⟨_, _, _, _, _, _⟩) rfl (fun K hK => ?_) AllReadyH.nil)
        ·go_simp
         go_at_call 12
         refine (HR2.out zw91 gb2 HB_zw91.out HG2.out).mono ?_
         rintro e zw92 ⟨rfl, h5⟩
         have HX : Hid (Below zw91.heap.size zw91 zw92) := Lib.hid h5
         have HB_zw92 : Hid (Below D.heap.size D zw92) := Lib.hid (blThen HB_zw91.out HX.out)
         have K9 := row_upB K9 L9 HX.out
         have L9 := lt_upB L9 HX.out
         have K8 := row_upB K8 L8 HX.out
         have L8 := lt_upB L8 HX.out
         refine hK.out _ _ (KS.out _ HB_zw92.out) (fun hHeld => ?_)
         clear hK K HX h5
         try simp only [Act.put, List.setIfInBounds_toArray, List.set_cons_zero, List.set_cons_succ]
         refine wpAnyH_ready (rs := [12]) (by kernel_rfl) (by simp) ?_
         refine AllReadyH.cons (o := ⟨_, _, _, _, _, _⟩) rfl (fun K hK => ?_) AllReadyH.nil
         refine ite_yesB (by rfl) ?_
         refine wp_store_rowB _ _ _ rfl _ rfl (cells := #[.int .i64 1, .bool false, .int .i64 3, .int .i64 1, .slice fa fn fc, .int .i64 0, .int .i64 0, .slice none 0 0]) rfl K8.out szPlB rfl (by simp [Value.oneCell']) ?_
         intro za h1 h2
         have HB_za : Hid (Below D.heap.size D za) := Lib.hid (below_grownB HB_zw92.out h2 G8.out)
         have K9 := grown_otherB K9 h2 L9.out (fun e => absurd e.symm (Nat.ne_of_gt NE.out))
         have K8 := Lib.hid h1
         have L8 : Hid (zw88.heap.size < za.heap.size) := Lib.hid (lt_of_block h1)
         have L9 : Hid (z0.heap.size < za.heap.size) := Lib.hid (lt_of_block K9.out)
         clear h1 h2
         refine hK.out _ _ (KS.out _ HB_za.out) (fun hHeld => ?_)
         clear hK K
         try simp only [Act.put, List.setIfInBounds_toArray, List.set_cons_zero, List.set_cons_succ]
         refine wpAnyH_ready (rs := [13]) (by kernel_rfl) (by simp) ?_
         refine AllReadyH.cons (o := ⟨_, _, _, _, _, _⟩) rfl (fun K hK => ?_) AllReadyH.nil
         refine ite_yesB (by rfl) ?_
         refine wp_store_rowB _ _ _ rfl _ rfl (cells := #[.int .i64 2, .bool false, .int .i64 0, .int .i64 0, .slice none 0 0, .int .i64 9, .int .i64 2, .slice none 0 0]) rfl K9.out szPlB rfl (by simp [Value.oneCell']) ?_
         intro zb h1 h2
         have HB_zb : Hid (Below D.heap.size D zb) := Lib.hid (below_grownB HB_za.out h2 G9.out)
         have K8 := grown_otherB K8 h2 L8.out (Nat.ne_of_gt NE.out)
         have K9 := Lib.hid h1
         clear h1 h2
         refine hK.out _ _ (KS.out _ HB_zb.out) (fun hHeld => ?_)
         clear hK K
         try simp only [Act.put, List.setIfInBounds_toArray, List.set_cons_zero, List.set_cons_succ]
         refine wpAnyH_done (by kernel_rfl) ?_ _
         go_wp2_with fail
         go_meet
         exact ⟨_, _, fa, fn, fc, rfl, rfl, G8.out, G9.out, K8.out, K9.out, HB_zb.out⟩
      ·go_simp
       have HX : Hid (Below zw87.heap.size zw87 (zw87.alloc (.cells #[.int .i64 0, .bool false, .int .i64 0, .int .i64 0, .slice none 0 0, .int .i64 0, .int .i64 0, .slice none 0 0] 44))) := Lib.hid (blAlloc (Below.refl _ _) _)
       have HB_zw93 : Hid (Below D.heap.size D (zw87.alloc (.cells #[.int .i64 0, .bool false, .int .i64 0, .int .i64 0, .slice none 0 0, .int .i64 0, .int .i64 0, .slice none 0 0] 44))) := Lib.hid (blThen HB_zw87.out HX.out)
       have NE : Hid (z0.heap.size < zw87.heap.size) := L9
       have K9 := row_upB K9 L9 HX.out
       have L9 := lt_upB L9 HX.out
       have K8 : Hid ((zw87.alloc (.cells #[.int .i64 0, .bool false, .int .i64 0, .int .i64 0, .slice none 0 0, .int .i64 0, .int .i64 0, .slice none 0 0] 44)).heap[zw87.heap.size]? = some (.cells #[.int .i64 0, .bool false, .int .i64 0, .int .i64 0, .slice none 0 0, .int .i64 0, .int .i64 0, .slice none 0 0] 44 (0, 0))) := Lib.hid (new_blockB zw87 #[.int .i64 0, .bool false, .int .i64 0, .int .i64 0, .slice none 0 0, .int .i64 0, .int .i64 0, .slice none 0 0] 44)
       have L8 : Hid (zw87.heap.size < (zw87.alloc (.cells #[.int .i64 0, .bool false, .int .i64 0, .int .i64 0, .slice none 0 0, .int .i64 0, .int .i64 0, .slice none 0 0] 44)).heap.size) := Lib.hid (by simp)
       have G8 : Hid (D.heap.size ≤ zw87.heap.size) := Lib.hid HB_zw87.out.size
       refine hK.out _ _ (KS.out _ HB_zw93.out) (fun hHeld => ?_)
       clear hK K HX
       try simp only [Act.put, List.setIfInBounds_toArray, List.set_cons_zero, List.set_cons_succ]
       generalize (zw87.alloc (.cells #[.int .i64 0, .bool false, .int .i64 0, .int .i64 0, .slice none 0 0, .int .i64 0, .int .i64 0, .slice none 0 0] 44)) = zw93 at *
       refine wpAnyH_ready (rs := [7]) (by kernel_rfl) (by simp) ?_
       refine (AllReadyH.cons (o := ⟨_, _, _, _, _, _⟩) rfl (fun K hK => ?_) AllReadyH.nil)
       ·go_simp
        go_at_call 20
        refine (get_op zw93).mono ?_
        rintro e zw94 ⟨gb2, rfl, hg, h5⟩
        have HX : Hid (Below zw93.heap.size zw93 zw94) := Lib.hid h5
        have HB_zw94 : Hid (Below D.heap.size D zw94) := Lib.hid (blThen HB_zw93.out HX.out)
        have K9 := row_upB K9 L9 HX.out
        have L9 := lt_upB L9 HX.out
        have K8 := row_upB K8 L8 HX.out
        have L8 := lt_upB L8 HX.out
        have HG2 := Lib.hid hg
        clear hg
        refine hK.out _ _ (KS.out _ HB_zw94.out) (fun hHeld => ?_)
        clear hK K HX h5
        try simp only [Act.put, List.setIfInBounds_toArray, List.set_cons_zero, List.set_cons_succ]
        refine wpAnyH_ready (rs := [9]) (by kernel_rfl) (by simp) ?_
        refine (AllReadyH.cons (o := ⟨_, _, _, _, _, _⟩) rfl (fun K hK => ?_) AllReadyH.nil)
        ·go_simp
         go_at_call 12
         refine (HR2.out zw94 gb2 HB_zw94.out HG2.out).mono ?_
         rintro e zw95 ⟨rfl, h5⟩
         have HX : Hid (Below zw94.heap.size zw94 zw95) := Lib.hid h5
         have HB_zw95 : Hid (Below D.heap.size D zw95) := Lib.hid (blThen HB_zw94.out HX.out)
         have K9 := row_upB K9 L9 HX.out
         have L9 := lt_upB L9 HX.out
         have K8 := row_upB K8 L8 HX.out
         have L8 := lt_upB L8 HX.out
         refine hK.out _ _ (KS.out _ HB_zw95.out) (fun hHeld => ?_)
         clear hK K HX h5
         try simp only [Act.put, List.setIfInBounds_toArray, List.set_cons_zero, List.set_cons_succ]
         refine wpAnyH_ready (rs := [12]) (by kernel_rfl) (by simp) ?_
         refine AllReadyH.cons (o := ⟨_, _, _, _, _, _⟩) rfl (fun K hK => ?_) AllReadyH.nil
         refine ite_yesB (by rfl) ?_
         refine wp_store_rowB _ _ _ rfl _ rfl (cells := #[.int .i64 1, .bool false, .int .i64 3, .int .i64 1, .slice fa fn fc, .int .i64 0, .int .i64 0, .slice none 0 0]) rfl K8.out szPlB rfl (by simp [Value.oneCell']) ?_
         intro za h1 h2
         have HB_za : Hid (Below D.heap.size D za) := Lib.hid (below_grownB HB_zw95.out h2 G8.out)
         have K9 := grown_otherB K9 h2 L9.out (fun e => absurd e.symm (Nat.ne_of_gt NE.out))
         have K8 := Lib.hid h1
         have L8 : Hid (zw87.heap.size < za.heap.size) := Lib.hid (lt_of_block h1)
         have L9 : Hid (z0.heap.size < za.heap.size) := Lib.hid (lt_of_block K9.out)
         clear h1 h2
         refine hK.out _ _ (KS.out _ HB_za.out) (fun hHeld => ?_)
         clear hK K
         try simp only [Act.put, List.setIfInBounds_toArray, List.set_cons_zero, List.set_cons_succ]
         refine wpAnyH_ready (rs := [13]) (by kernel_rfl) (by simp) ?_
         refine AllReadyH.cons (o := ⟨_, _, _, _, _, _⟩) rfl (fun K hK => ?_) AllReadyH.nil
         refine ite_yesB (by rfl) ?_
         refine wp_store_rowB _ _ _ rfl _ rfl (cells := #[.int .i64 2, .bool false, .int .i64 0, .int .i64 0, .slice none 0 0, .int .i64 9, .int .i64 2, .slice none 0 0]) rfl K9.out szPlB rfl (by simp [Value.oneCell']) ?_
         intro zb h1 h2
         have HB_zb : Hid (Below D.heap.size D zb) := Lib.hid (below_grownB HB_za.out h2 G9.out)
         have K8 := grown_otherB K8 h2 L8.out (Nat.ne_of_gt NE.out)
         have K9 := Lib.hid h1
         clear h1 h2
         refine hK.out _ _ (KS.out _ HB_zb.out) (fun hHeld => ?_)
         clear hK K
         try simp only [Act.put, List.setIfInBounds_toArray, List.set_cons_zero, List.set_cons_succ]
         refine wpAnyH_done (by kernel_rfl) ?_ _
         go_wp2_with fail
         go_meet
         exact ⟨_, _, fa, fn, fc, rfl, rfl, G8.out, G9.out, K8.out, K9.out, HB_zb.out⟩
     ·go_simp
      have HX : Hid (Below zw86.heap.size zw86 (zw86.alloc (.cells #[.int .i64 0, .bool false, .int .i64 0, .int .i64 0, .slice none 0 0, .int .i64 0, .int .i64 0, .slice none 0 0] 44))) := Lib.hid (blAlloc (Below.refl _ _) _)
      have HB_zw96 : Hid (Below D.heap.size D (zw86.alloc (.cells #[.int .i64 0, .bool false, .int .i64 0, .int .i64 0, .slice none 0 0, .int .i64 0, .int .i64 0, .slice none 0 0] 44))) := Lib.hid (blThen HB_zw86.out HX.out)
      have NE : Hid (z0.heap.size < zw86.heap.size) := L9
      have K9 := row_upB K9 L9 HX.out
      have L9 := lt_upB L9 HX.out
      have HG1 := Lib.hid (HG1.out.later HX.out)
      have K8 : Hid ((zw86.alloc (.cells #[.int .i64 0, .bool false, .int .i64 0, .int .i64 0, .slice none 0 0, .int .i64 0, .int .i64 0, .slice none 0 0] 44)).heap[zw86.heap.size]? = some (.cells #[.int .i64 0, .bool false, .int .i64 0, .int .i64 0, .slice none 0 0, .int .i64 0, .int .i64 0, .slice none 0 0] 44 (0, 0))) := Lib.hid (new_blockB zw86 #[.int .i64 0, .bool false, .int .i64 0, .int .i64 0, .slice none 0 0, .int .i64 0, .int .i64 0, .slice none 0 0] 44)
      have L8 : Hid (zw86.heap.size < (zw86.alloc (.cells #[.int .i64 0, .bool false, .int .i64 0, .int .i64 0, .slice none 0 0, .int .i64 0, .int .i64 0, .slice none 0 0] 44)).heap.size) := Lib.hid (by simp)
      have G8 : Hid (D.heap.size ≤ zw86.heap.size) := Lib.hid HB_zw86.out.size
      refine hK.out _ _ (KS.out _ HB_zw96.out) (fun hHeld => ?_)
      clear hK K HX
      try simp only [Act.put, List.setIfInBounds_toArray, List.set_cons_zero, List.set_cons_succ]
      generalize (zw86.alloc (.cells #[.int .i64 0, .bool false, .int .i64 0, .int .i64 0, .slice none 0 0, .int .i64 0, .int .i64 0, .slice none 0 0] 44)) = zw96 at *
      refine wpAnyH_ready (rs := [4]) (by kernel_rfl) (by simp) ?_
      refine (AllReadyH.cons (o := ⟨_, _, _, _, _, _⟩) rfl (fun K hK => ?_) AllReadyH.nil)
      ·go_simp
       go_at_call 12
       refine (HR1.out zw96 gb1 HB_zw96.out HG1.out).mono ?_
       rintro e zw97 ⟨⟨fa, fn, fc, rfl⟩, h5⟩
       have HX : Hid (Below zw96.heap.size zw96 zw97) := Lib.hid h5
       have HB_zw97 : Hid (Below D.heap.size D zw97) := Lib.hid (blThen HB_zw96.out HX.out)
       have K9 := row_upB K9 L9 HX.out
       have L9 := lt_upB L9 HX.out
       have K8 := row_upB K8 L8 HX.out
       have L8 := lt_upB L8 HX.out
       refine hK.out _ _ (KS.out _ HB_zw97.out) (fun hHeld => ?_)
       clear hK K HX h5
       try simp only [Act.put, List.setIfInBounds_toArray, List.set_cons_zero, List.set_cons_succ]
       refine wpAnyH_ready (rs := [7]) (by kernel_rfl) (by simp) ?_
       refine (AllReadyH.cons (o := ⟨_, _, _, _, _, _⟩) rfl (fun K hK => ?_) AllReadyH.nil)
       ·go_simp
        go_at_call 20
        refine (get_op zw97).mono ?_
        rintro e zw98 ⟨gb2, rfl, hg, h5⟩
        have HX : Hid (Below zw97.heap.size zw97 zw98) := Lib.hid h5
        have HB_zw98 : Hid (Below D.heap.size D zw98) := Lib.hid (blThen HB_zw97.out HX.out)
        have K9 := row_upB K9 L9 HX.out
        have L9 := lt_upB L9 HX.out
        have K8 := row_upB K8 L8 HX.out
        have L8 := lt_upB L8 HX.out
        have HG2 := Lib.hid hg
        clear hg
        refine hK.out _ _ (KS.out _ HB_zw98.out) (fun hHeld => ?_)
        clear hK K HX h5
        try simp only [Act.put, List.setIfInBounds_toArray, List.set_cons_zero, List.set_cons_succ]
        refine wpAnyH_ready (rs := [9]) (by kernel_rfl) (by simp) ?_
        refine (AllReadyH.cons (o := ⟨_, _, _, _, _, _⟩) rfl (fun K hK => ?_) AllReadyH.nil)
        ·go_simp
         go_at_call 12
         refine (HR2.out zw98 gb2 HB_zw98.out HG2.out).mono ?_
         rintro e zw99 ⟨rfl, h5⟩
         have HX : Hid (Below zw98.heap.size zw98 zw99) := Lib.hid h5
         have HB_zw99 : Hid (Below D.heap.size D zw99) := Lib.hid (blThen HB_zw98.out HX.out)
         have K9 := row_upB K9 L9 HX.out
         have L9 := lt_upB L9 HX.out
         have K8 := row_upB K8 L8 HX.out
         have L8 := lt_upB L8 HX.out
         refine hK.out _ _ (KS.out _ HB_zw99.out) (fun hHeld => ?_)
         clear hK K HX h5
         try simp only [Act.put, List.setIfInBounds_toArray, List.set_cons_zero, List.set_cons_succ]
         refine wpAnyH_ready (rs := [12]) (by kernel_rfl) (by simp) ?_
         refine AllReadyH.cons (o := ⟨_, _, _, _, _, _⟩) rfl (fun K hK => ?_) AllReadyH.nil
         refine ite_yesB (by rfl) ?_
         refine wp_store_rowB _ _ _ rfl _ rfl (cells := #[.int .i64 1, .bool false, .int .i64 3, .int .i64 1, .slice fa fn fc, .int .i64 0, .int .i64 0, .slice none 0 0]) rfl K8.out szPlB rfl (by simp [Value.oneCell']) ?_
         intro za h1 h2
         have HB_za : Hid (Below D.heap.size D za) := Lib.hid (below_grownB HB_zw99.out h2 G8.out)
         have K9 := grown_otherB K9 h2 L9.out (fun e => absurd e.symm (Nat.ne_of_gt NE.out))
         have K8 := Lib.hid h1
         have L8 : Hid (zw86.heap.size < za.heap.size) := Lib.hid (lt_of_block h1)
         have L9 : Hid (z0.heap.size < za.heap.size) := Lib.hid (lt_of_block K9.out)
         clear h1 h2
         refine hK.out _ _ (KS.out _ HB_za.out) (fun hHeld => ?_)
         clear hK K
         try simp only [Act.put, List.setIfInBounds_toArray, List.set_cons_zero, List.set_cons_succ]
         refine wpAnyH_ready (rs := [13]) (by kernel_rfl) (by simp) ?_
         refine AllReadyH.cons (o := ⟨_, _, _, _, _, _⟩) rfl (fun K hK => ?_) AllReadyH.nil
         refine ite_yesB (by rfl) ?_
         refine wp_store_rowB _ _ _ rfl _ rfl (cells := #[.int .i64 2, .bool false, .int .i64 0, .int .i64 0, .slice none 0 0, .int .i64 9, .int .i64 2, .slice none 0 0]) rfl K9.out szPlB rfl (by simp [Value.oneCell']) ?_
         intro zb h1 h2
         have HB_zb : Hid (Below D.heap.size D zb) := Lib.hid (below_grownB HB_za.out h2 G9.out)
         have K8 := grown_otherB K8 h2 L8.out (Nat.ne_of_gt NE.out)
         have K9 := Lib.hid h1
         clear h1 h2
         refine hK.out _ _ (KS.out _ HB_zb.out) (fun hHeld => ?_)
         clear hK K
         try simp only [Act.put, List.setIfInBounds_toArray, List.set_cons_zero, List.set_cons_succ]
         refine wpAnyH_done (by kernel_rfl) ?_ _
         go_wp2_with fail
         go_meet
         exact ⟨_, _, fa, fn, fc, rfl, rfl, G8.out, G9.out, K8.out, K9.out, HB_zb.out⟩
    ·go_simp
     have HX : Hid (Below zw85.heap.size zw85 (zw85.alloc (.cells #[.int .i64 0, .bool false, .int .i64 0, .int .i64 0, .slice none 0 0, .int .i64 0, .int .i64 0, .slice none 0 0] 44))) := Lib.hid (blAlloc (Below.refl _ _) _)
     have HB_zw100 : Hid (Below D.heap.size D (zw85.alloc (.cells #[.int .i64 0, .bool false, .int .i64 0, .int .i64 0, .slice none 0 0, .int .i64 0, .int .i64 0, .slice none 0 0] 44))) := Lib.hid (blThen HB_zw85.out HX.out)
     have NE : Hid (z0.heap.size < zw85.heap.size) := L9
     have K9 := row_upB K9 L9 HX.out
     have L9 := lt_upB L9 HX.out
     have K8 : Hid ((zw85.alloc (.cells #[.int .i64 0, .bool false, .int .i64 0, .int .i64 0, .slice none 0 0, .int .i64 0, .int .i64 0, .slice none 0 0] 44)).heap[zw85.heap.size]? = some (.cells #[.int .i64 0, .bool false, .int .i64 0, .int .i64 0, .slice none 0 0, .int .i64 0, .int .i64 0, .slice none 0 0] 44 (0, 0))) := Lib.hid (new_blockB zw85 #[.int .i64 0, .bool false, .int .i64 0, .int .i64 0, .slice none 0 0, .int .i64 0, .int .i64 0, .slice none 0 0] 44)
     have L8 : Hid (zw85.heap.size < (zw85.alloc (.cells #[.int .i64 0, .bool false, .int .i64 0, .int .i64 0, .slice none 0 0, .int .i64 0, .int .i64 0, .slice none 0 0] 44)).heap.size) := Lib.hid (by simp)
     have G8 : Hid (D.heap.size ≤ zw85.heap.size) := Lib.hid HB_zw85.out.size
     refine hK.out _ _ (KS.out _ HB_zw100.out) (fun hHeld => ?_)
     clear hK K HX
     try simp only [Act.put, List.setIfInBounds_toArray, List.set_cons_zero, List.set_cons_succ]
     generalize (zw85.alloc (.cells #[.int .i64 0, .bool false, .int .i64 0, .int .i64 0, .slice none 0 0, .int .i64 0, .int .i64 0, .slice none 0 0] 44)) = zw100 at *
     refine wpAnyH_ready (rs := [2]) (by kernel_rfl) (by simp) ?_
     refine (AllReadyH.cons (o := ⟨_, _, _, _, _, _⟩) rfl (fun K hK => ?_) AllReadyH.nil)
     ·go_simp
      go_at_call 20
      refine (get_op zw100).mono ?_
      rintro e zw101 ⟨gb1, rfl, hg, h5⟩
      have HX : Hid (Below zw100.heap.size zw100 zw101) := Lib.hid h5
      have HB_zw101 : Hid (Below D.heap.size D zw101) := Lib.hid (blThen HB_zw100.out HX.out)
      have K9 := row_upB K9 L9 HX.out
      have L9 := lt_upB L9 HX.out
      have K8 := row_upB K8 L8 HX.out
      have L8 := lt_upB L8 HX.out
      have HG1 := Lib.hid hg
      clear hg
      refine hK.out _ _ (KS.out _ HB_zw101.out) (fun hHeld => ?_)
      clear hK K HX h5
      try simp only [Act.put, List.setIfInBounds_toArray, List.set_cons_zero, List.set_cons_succ]
      refine wpAnyH_ready (rs := [4]) (by kernel_rfl) (by simp) ?_
      refine (AllReadyH.cons (o := ⟨_, _, _, _, _, _⟩) rfl (fun K hK => ?_) AllReadyH.nil)
      ·go_simp
       go_at_call 12
       refine (HR1.out zw101 gb1 HB_zw101.out HG1.out).mono ?_
       rintro e zw102 ⟨⟨fa, fn, fc, rfl⟩, h5⟩
       have HX : Hid (Below zw101.heap.size zw101 zw102) := Lib.hid h5
       have HB_zw102 : Hid (Below D.heap.size D zw102) := Lib.hid (blThen HB_zw101.out HX.out)
       have K9 := row_upB K9 L9 HX.out
       have L9 := lt_upB L9 HX.out
       have K8 := row_upB K8 L8 HX.out
       have L8 := lt_upB L8 HX.out
       refine hK.out _ _ (KS.out _ HB_zw102.out) (fun hHeld => ?_)
       clear hK K HX h5
       try simp only [Act.put, List.setIfInBounds_toArray, List.set_cons_zero, List.set_cons_succ]
       refine wpAnyH_ready (rs := [7]) (by kernel_rfl) (by simp) ?_
       refine (AllReadyH.cons (o := ⟨_, _, _, _, _, _⟩) rfl (fun K hK => ?_) AllReadyH.nil)
       ·go_simp
        go_at_call 20
        refine (get_op zw102).mono ?_
        rintro e zw103 ⟨gb2, rfl, hg, h5⟩
        have HX : Hid (Below zw102.heap.size zw102 zw103) := Lib.hid h5
        have HB_zw103 : Hid (Below D.heap.size D zw103) := Lib.hid (blThen HB_zw102.out HX.out)
        have K9 := row_upB K9 L9 HX.out
        have L9 := lt_upB L9 HX.out
        have K8 := row_upB K8 L8 HX.out
        have L8 := lt_upB L8 HX.out
        have HG2 := Lib.hid hg
        clear hg
        refine hK.out _ _ (KS.out _ HB_zw103.out) (fun hHeld => ?_)
        clear hK K HX h5
        try simp only [Act.put, List.setIfInBounds_toArray, List.set_cons_zero, List.set_cons_succ]
        refine wpAnyH_ready (rs := [9]) (by kernel_rfl) (by simp) ?_
        refine (AllReadyH.cons (o := ⟨_, _, _, _, _, _⟩) rfl (fun K hK => ?_) AllReadyH.nil)
        ·go_simp
         go_at_call 12
         refine (HR2.out zw103 gb2 HB_zw103.out HG2.out).mono ?_
         rintro e zw104 ⟨rfl, h5⟩
         have HX : Hid (Below zw103.heap.size zw103 zw104) := Lib.hid h5
         have HB_zw104 : Hid (Below D.heap.size D zw104) := Lib.hid (blThen HB_zw103.out HX.out)
         have K9 := row_upB K9 L9 HX.out
         have L9 := lt_upB L9 HX.out
         have K8 := row_upB K8 L8 HX.out
         have L8 := lt_upB L8 HX.out
         refine hK.out _ _ (KS.out _ HB_zw104.out) (fun hHeld => ?_)
         clear hK K HX h5
         try simp only [Act.put, List.setIfInBounds_toArray, List.set_cons_zero, List.set_cons_succ]
         refine wpAnyH_ready (rs := [12]) (by kernel_rfl) (by simp) ?_
         refine AllReadyH.cons (o := ⟨_, _, _, _, _, _⟩) rfl (fun K hK => ?_) AllReadyH.nil
         refine ite_yesB (by rfl) ?_
         refine wp_store_rowB _ _ _ rfl _ rfl (cells := #[.int .i64 1, .bool false, .int .i64 3, .int .i64 1, .slice fa fn fc, .int .i64 0, .int .i64 0, .slice none 0 0]) rfl K8.out szPlB rfl (by simp [Value.oneCell']) ?_
         intro za h1 h2
         have HB_za : Hid (Below D.heap.size D za) := Lib.hid (below_grownB HB_zw104.out h2 G8.out)
         have K9 := grown_otherB K9 h2 L9.out (fun e => absurd e.symm (Nat.ne_of_gt NE.out))
         have K8 := Lib.hid h1
         have L8 : Hid (zw85.heap.size < za.heap.size) := Lib.hid (lt_of_block h1)
         have L9 : Hid (z0.heap.size < za.heap.size) := Lib.hid (lt_of_block K9.out)
         clear h1 h2
         refine hK.out _ _ (KS.out _ HB_za.out) (fun hHeld => ?_)
         clear hK K
         try simp only [Act.put, List.setIfInBounds_toArray, List.set_cons_zero, List.set_cons_succ]
         refine wpAnyH_ready (rs := [13]) (by kernel_rfl) (by simp) ?_
         refine AllReadyH.cons (o := ⟨_, _, _, _, _, _⟩) rfl (fun K hK => ?_) AllReadyH.nil
         refine ite_yesB (by rfl) ?_
         refine wp_store_rowB _ _ _ rfl _ rfl (cells := #[.int .i64 2, .bool false, .int .i64 0, .int .i64 0, .slice none 0 0, .int .i64 9, .int .i64 2, .slice none 0 0]) rfl K9.out szPlB rfl (by simp [Value.oneCell']) ?_
         intro zb h1 h2
         have HB_zb : Hid (Below D.heap.size D zb) := Lib.hid (below_grownB HB_za.out h2 G9.out)
         have K8 := grown_otherB K8 h2 L8.out (Nat.ne_of_gt NE.out)
         have K9 := Lib.hid h1
         clear h1 h2
         refine hK.out _ _ (KS.out _ HB_zb.out) (fun hHeld => ?_)
         clear hK K
         try simp only [Act.put, List.setIfInBounds_toArray, List.set_cons_zero, List.set_cons_succ]
         refine wpAnyH_done (by kernel_rfl) ?_ _
         go_wp2_with fail
         go_meet
         exact ⟨_, _, fa, fn, fc, rfl, rfl, G8.out, G9.out, K8.out, K9.out, HB_zb.out⟩
  case rest =>
   obtain ⟨b8, b9, ga, gn, gc, e8, e9, hg8, hg9, k8, k9, hb⟩ := hcut
   rename World => V
   rw [e8, e9]
   clear e8 e9 hg8 hg9 HR1 HR2 KS
   have K2 := row_upB K2 L2 hb
   have K3 := row_upB K3 L3 hb
   have K5 := row_upB K5 L5 hb
   have L2 := lt_upB L2 hb
   have L3 := lt_upB L3 hb
   have L5 := lt_upB L5 hb
   have K8 := Lib.hid k8
   have K9 := Lib.hid k9
   have L8 := Lib.hid (lt_of_block k8)
   have L9 := Lib.hid (lt_of_block k9)
   have HB8 := Lib.hid (blThen HB7.out hb)
   have HY := Lib.hid (HY.out.later hb)
   clear k8 k9 hb HT HX HB7
   go_upto_region 9 with (first
    | go_skip
    | ((with_reducible refine atW V ?_); refine wpList_load_part _ _ rfl (by rfl) _ 0 rfl K2.out Tryz.underlying24 rfl #[.int .i64 3, .int .i64 1] (by kernel_rfl) (two_at rfl rfl) ?_)
    | (go_at_call 12; go_must (refine (recover_gone 3 1 _ V).mono ?_; rintro e w1 ⟨rfl, hb⟩; have K2 := row_upB K2 L2 hb; have K3 := row_upB K3 L3 hb; have K5 := row_upB K5 L5 hb; have K8 := row_upB K8 L8 hb; have K9 := row_upB K9 L9 hb; have L2 := lt_upB L2 hb; have L3 := lt_upB L3 hb; have L5 := lt_upB L5 hb; have L8 := lt_upB L8 hb; have L9 := lt_upB L9 hb; have HB9 := Lib.hid (blThen HB8.out hb); have HY := Lib.hid (HY.out.later hb); clear hb)))
   have hb : Below w1.heap.size w1 (w1.alloc (.cells #[.int .i64 1, .bool true, .int .i64 0, .int .i64 0, .slice none 0 0, .int .i64 0, .int .i64 0, .slice none 0 0] 44)) := blAlloc (Below.refl _ _) _
   have K10 := new_blockB w1 #[.int .i64 1, .bool true, .int .i64 0, .int .i64 0, .slice none 0 0, .int .i64 0, .int .i64 0, .slice none 0 0] 44
   have l10 : w1.heap.size < (w1.alloc (.cells #[.int .i64 1, .bool true, .int .i64 0, .int .i64 0, .slice none 0 0, .int .i64 0, .int .i64 0, .slice none 0 0] 44)).heap.size := lt_of_block K10
   have HBE := Lib.hid (blThen HB9.out hb)
   have HYE := Lib.hid (HY.out.later hb)
   have K2 := (row_upB K2 L2 hb).out
   have K3 := (row_upB K3 L3 hb).out
   have K5 := (row_upB K5 L5 hb).out
   have K8 := (row_upB K8 L8 hb).out
   have K9 := (row_upB K9 L9 hb).out
   have l2 := lt_of_block K2
   have l3 := lt_of_block K3
   have l5 := lt_of_block K5
   have l8 := lt_of_block K8
   have l9 := lt_of_block K9
   generalize (w1.alloc (.cells #[.int .i64 1, .bool true, .int .i64 0, .int .i64 0, .slice none 0 0, .int .i64 0, .int .i64 0, .slice none 0 0] 44)) = wE at *
   generalize w1.heap.size = b10 at *
   have c20 := cell_rowB K2 0 _ rfl
   have c21 := cell_rowB K2 1 _ rfl
   have c30 := cell_rowB K3 0 _ rfl
   have c31 := cell_rowB K3 1 _ rfl
   have c51 := cell_rowB K5 1 _ rfl
   have c52 := cell_rowB K5 2 _ rfl
   have c80 := cell_rowB K8 0 _ rfl
   have c82 := cell_rowB K8 2 _ rfl
   have c83 := cell_rowB K8 3 _ rfl
   have c90 := cell_rowB K9 0 _ rfl
   have c95 := cell_rowB K9 5 _ rfl
   have c96 := cell_rowB K9 6 _ rfl
   have c10 := cell_rowB K10 0 _ rfl
   have c11 := cell_rowB K10 1 _ rfl
   have HAT : Hid (∀ z : S1.Aft wE, Calls Tryz.prog 14 #[.slice a7 3 c7] z.x fun e w' => e = .returned (.agg #[.int .i64 9, .int .i64 2]) ∧ Below z.x.heap.size z.x w') := Lib.hid (fun z => by
    have h := at_any (.slice a7 3 c7) (xB ++ [lateB]) z.x (by decide) (HYE.out.later z.h)
    rw [live_top] at h
    exact h)
   clear K2 K3 K5 K8 K9 K10 hb HY HYE
   refine S1.region_aft (by kernel_rfl) (by kernel_rfl) ?_
   repeat (go_big_quiet_step (first | (go_at_call 14; exact S1.aft_of (HAT.out _))))
   refine wpQuiet_nil ?_
   rintro w2 ⟨z, rfl⟩
   have HBF : Hid (Below W.heap.size W z.x) := Lib.hid (blThen HBE.out z.h)
   generalize z.x = wF at *
   go_wp2
   go_ret
   exact ⟨rfl, HBF.out⟩
end SB
end Go.Proofs.YtpdfcojcmhadnaaGreat
