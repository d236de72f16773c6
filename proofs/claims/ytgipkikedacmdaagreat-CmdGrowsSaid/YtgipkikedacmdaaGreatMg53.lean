/- CmdGrows. Conditions: none. -/
import Derived.Deep.DeepCutAuto
import Derived.WalkSpells
import Derived.SizedLaws
import Derived.Test.YtgipkikedacmdaaGreatMg52
import Derived.Test.YtgipkikedacmdaaGreatMg51
import Derived.Test.YtgipkikedacmdaaGreatMg43
import Derived.Test.YtgipkikedacmdaaGreatMg17
import Derived.Test.YtgipkikedacmdaaGreatMg36
import Derived.Test.YtgipkikedacmdaaGreatMg48
import Derived.Test.YtgipkikedacmdaaGreatMg13
set_option maxRecDepth 100000
set_option maxHeartbeats 16000000
set_option linter.unusedVariables false
set_option linter.unusedSimpArgs false
namespace Go.Proofs.YtgipkikedacmdaaGreat
open S3 SN SP
namespace SC
open Go.ChangeShapes Go.WideShapes Go.ChangeAt Go.RowKit Go.Joins Go.Deep
theorem len_no {α : Type} {l : List α} (h : l = []) : ¬ (0 : Int) < (l.length : Int) := by rw [h]; simp
theorem len_yes {α : Type} {l : List α} (h : ¬ l = []) : (0 : Int) < (l.length : Int) := by have := List.length_pos_iff.2 h; omega
theorem rsame9x {c d : Cm} (e : d = c) (l m : Pl) (W : World) (h : CmAt W d l) (h2 : CmAt W c m) (hf : FewC c) : Calls Tryz.prog 16 #[cmV d l, cmV c m] W fun e w' => e = .returned (.bool true) ∧ Below W.heap.size W w' := by
 subst e
 exact rsame9_any d l m W h h2 hf
theorem cmdGrows_walk (id : Stp) (va : Value) (L : List AcR) (W : World) (ha : SlG eX W va L) (hL : ∀ q ∈ L, NX W q ∧ InX q.x) :
  Calls Tryz.prog 5 #[.agg #[.int .i64 id.1, .int .i64 id.2], va] W fun e w' => e = .returned (.bool true) ∧ Below W.heap.size W w' := by
 obtain ⟨i1, i2⟩ := id
 obtain ⟨aa, ac, rfl⟩ := ha.form
 have HA0 := hH ha
 have HL := hH hL
 clear ha hL
 simp only
 have HN := hH (fun i o (h : ([(.cells #[.int .i64 i1, .int .i64 i2] 23)] : List Obj)[i]? = some o) => nth_box W [(.cells #[.int .i64 i1, .int .i64 i2] 23)] i o h)
 have HSZ : Hid (W.heap.size + 1 = (W.alloc (.cells #[.int .i64 i1, .int .i64 i2] 23)).heap.size) := hH (HN.out 0 _ rfl).2
 have Ki_0 : Hid ((W.alloc (.cells #[.int .i64 i1, .int .i64 i2] 23)).heap[W.heap.size]? = some (.cells #[.int .i64 i1, .int .i64 i2] 23 (0, 0))) := hH (HN.out 0 _ rfl).1
 have Li_0 : Hid (W.heap.size < (W.alloc (.cells #[.int .i64 i1, .int .i64 i2] 23)).heap.size) := hH (by have := HSZ.out; omega)
 have HB_0 : Hid (Below W.heap.size W (W.alloc (.cells #[.int .i64 i1, .int .i64 i2] 23))) := hH (blAlloc (Below.refl _ _) _)
 clear HN
 go_enter Tryz.func5, Tryz.ntmps5
 go_upto_region 1 with fail
 generalize (W.alloc (.cells #[.int .i64 i1, .int .i64 i2] 23)) = w0 at *
 have hsz0 : W.heap.size + 1 ≤ w0.heap.size := Nat.le_of_eq HSZ.out
 clear HSZ
 by_cases h40 : 40 < L.length
 ·have hb2 : (40 : Int) < (L.length : Int) := by omega
  have hb := decide_eq_true hb2
  go_wp2_with (first | go_skip | ((with_reducible refine atC w0 ?_); go_at_call 10; go_must (refine (live9_any w0).mono ?_; rintro e w1 ⟨rfl, h5⟩; have HB_1 : Hid (Below W.heap.size W w1) := hH (blThen HB_0.out h5); have Ki_1 := row_up Ki_0 Li_0 h5; have Li_1 := lt_up Li_0 h5; clear h5)))
  go_ret
  exact ⟨rfl, HB_1.out⟩
 have hb2 : ¬ (40 : Int) < (L.length : Int) := by omega
 have hb := decide_eq_false hb2
 go_wp2_with (first | go_skip | ((with_reducible refine atW w0 ?_); refine wpList_load_part _ _ rfl (by rfl) _ 0 rfl Ki_0.out Tryz.underlying23 rfl #[.int .i64 i1, .int .i64 i2] (by kernel_rfl) (two_at rfl rfl) ?_))
 cases hc : S1.isS (i1, i2)
 ·go_wp2_with (first | go_skip | ((with_reducible refine atC w1 ?_); go_at_call 10; go_must (refine (live9_any w1).mono ?_; rintro e w2 ⟨rfl, h5⟩; have HB_2 : Hid (Below W.heap.size W w2) := hH (blThen HB_1.out h5); have Ki_2 := row_up Ki_1 Li_1 h5; have Li_2 := lt_up Li_1 h5; clear h5)) | ((with_reducible refine atC w0 ?_); go_at_call 24; go_must (refine (S1.is_any i1 i2 w0).mono ?_; rw [hc]; rintro e w1 ⟨rfl, h5⟩; have h5 := below_grow (Below.refl _ _) h5; have HB_1 : Hid (Below W.heap.size W w1) := hH (blThen HB_0.out h5); have Ki_1 := row_up Ki_0 Li_0 h5; have Li_1 := lt_up Li_0 h5; clear h5)))
  go_ret
  exact ⟨rfl, HB_2.out⟩
 ·have HIS := hH hc
  clear hc
  go_upto_region 4 with (first | go_skip | ((with_reducible refine atW (w2.alloc (.cells z22 31)) ?_); refine store9 _ _ rfl (by rfl) _ rfl rfl (new_blockC w2 z22 31) rfl rfl (by simp [Value.oneCell']) ?_; intro w3 h1 h2; have h5 := below_grown9 (blAlloc (Below.refl _ _) _) h2 (Nat.le_refl _); have HB_3 : Hid (Below W.heap.size W w3) := hH (blThen HB_2.out h5); have Ki_3 := row_up Ki_2 Li_2 h5; have Li_3 := lt_up Li_2 h5; have Kc_3 := hH h1; have Lc_3 : Hid (w2.heap.size < w3.heap.size) := hH (by have := h2.size; simp only [World.size_alloc] at this; omega); clear h1 h2 h5) | ((with_reducible refine atC w1 ?_); go_at_call 17; go_must (refine (new9_any (i1, i2) w1).mono ?_; intro e w2 h; unfold RetL at h; obtain ⟨rfl, h5⟩ := h; simp only [cmV, newC, nilL, z2, val0]; have HB_2 : Hid (Below W.heap.size W w2) := hH (blThen HB_1.out h5); have Ki_2 := row_up Ki_1 Li_1 h5; have Li_2 := lt_up Li_1 h5; clear h5)) | ((with_reducible refine atW w1 ?_); refine wpList_load_part _ _ rfl (by rfl) _ 0 rfl Ki_1.out Tryz.underlying23 rfl #[.int .i64 i1, .int .i64 i2] (by kernel_rfl) (two_at rfl rfl) ?_) | ((with_reducible refine atC w0 ?_); go_at_call 24; go_must (refine (S1.is_any i1 i2 w0).mono ?_; rw [HIS.out]; rintro e w1 ⟨rfl, h5⟩; have h5 := below_grow (Below.refl _ _) h5; have HB_1 : Hid (Below W.heap.size W w1) := hH (blThen HB_0.out h5); have Ki_1 := row_up Ki_0 Li_0 h5; have Li_1 := lt_up Li_0 h5; clear h5)))
  have HG5 : Hid (W.heap.size ≤ w2.heap.size) := hH HB_2.out.size
  have HI5 : Hid (W.heap.size < w2.heap.size) := Li_2
  generalize w2.heap.size = b5 at *
  go_wp2
  go_loopw [6] (fun s6 wr => ∃ (k : Nat) (c : Cm) (l : Pl), k ≤ L.length ∧ s6 = .int .i64 k ∧ Below W.heap.size W wr ∧ wr.heap[W.heap.size]? = some (.cells #[.int .i64 i1, .int .i64 i2] 23 (0, 0)) ∧ W.heap.size < wr.heap.size ∧ wr.heap[b5]? = some (.cells (cmR c l) 31 (0, 0)) ∧ b5 < wr.heap.size ∧ CmS (S3 b5 b5 b5) wr c l ∧ FewC c ∧ checkB c = true ∧ c.id = (i1, i2)) (fun s6 _ => L.length - (RowKit.intOf s6).toNat)
  case atStart => exact ⟨0, newC (i1, i2), nilL, Nat.zero_le _, rfl, HB_3.out, Ki_3.out, Li_3.out, Kc_3.out, Lc_3.out, cms_new _ _ _, few_new9f _, new_may HIS.out, rfl⟩
  case round =>
   obtain ⟨k, c, l, hk, rfl, hb, hi, hli, h5, hl5, hc, hf, hm, hid⟩ := hrel
   obtain ⟨lo, ls, ld, lw, lp⟩ := l
   obtain ⟨oa, oc, rfl⟩ := hc.at.o.form
   have HB_0 := hH hb
   have Ki_0 := hH hi
   have Li_0 := hH hli
   have Kc_0 := hH h5
   have Lc_0 := hH hl5
   have HCc_0 := hH hc
   have HF := hH hf
   have HM := hH hm
   have HID := hH hid
   clear hb hi hli h5 hl5 hc hf hm hid
   by_cases hlt : k < L.length
   rotate_left
   ·have hge : ¬ (k : Int) < (L.length : Int) := by omega
    have hdk : decide ((k : Int) < (L.length : Int)) = false := decide_eq_false hge
    go_wp2_with (first | go_skip | ((with_reducible refine atC wr ?_); go_at_call 10; go_must (refine (live9_any wr).mono ?_; rintro e w1 ⟨rfl, h5⟩; have HB_1 : Hid (Below W.heap.size W w1) := hH (blThen HB_0.out h5); have Ki_1 := row_up Ki_0 Li_0 h5; have Li_1 := lt_up Li_0 h5; have Kc_1 := row_up Kc_0 Lc_0 h5; have Lc_1 := lt_up Lc_0 h5; have HCc_1 := hH (HCc_0.out.next h5); clear h5)))
    go_ret
    exact ⟨rfl, HB_1.out⟩
   have hk0 : (0 : Int) ≤ (k : Int) := by omega
   have hk1 : (k : Int) < (L.length : Int) := by omega
   have hdk : decide ((k : Int) < (L.length : Int)) = true := decide_eq_true hk1
   obtain ⟨q, hq⟩ := at_lt hlt
   obtain ⟨g, o, rfl, hrg⟩ := acts_at HA0.out hq
   have HR_0 := hH (RgX.lat hrg HB_0.out)
   have HNX := hH (HL.out q (List.mem_of_getElem? hq)).1
   have HIN := hH (HL.out q (List.mem_of_getElem? hq)).2
   clear hq hrg
   cases hright : rightB q.x (i1, i2)
   ·go_wp2_with fail
    refine wp_region_held_drew (S := fun Y => Y.heap[W.heap.size]? = some (.cells #[.int .i64 i1, .int .i64 i2] 23 (0, 0)) ∧ Y.rangeAt g (o + k * 14) (eX.enc q)) (by kernel_rfl) (⟨Ki_0.out, HR_0.out.r⟩) (fun hHeld => ?_)
    have h5 : Below wr.heap.size wr wr.drew := (Below.refl _ _).drew
    have HB_1 : Hid (Below W.heap.size W wr.drew) := hH (blThen HB_0.out h5)
    have Ki_1 := row_up Ki_0 Li_0 h5
    have Li_1 := lt_up Li_0 h5
    have Kc_1 := row_up Kc_0 Lc_0 h5
    have Lc_1 := lt_up Lc_0 h5
    have HCc_1 := hH (HCc_0.out.next h5)
    have HR_1 := hH (HR_0.out.later h5)
    clear h5
    generalize wr.drew = w1 at *
    refine wpAnyH_take (i := 0) (oi := ⟨_, _, _, _, _, _⟩) (v := ?_) rfl (by kernel_rfl) (by kernel_rfl) (by kernel_rfl) (fun _ _ _ h => h) (Or.inl ⟨by rfl, ?_⟩) (by assumption) ?_
    rotate_left
    ·intro w hSw
     try dsimp only at hSw
     go_simp
     try with_reducible rfl
    try simp only [Act.put, sA9, sZ9, sS9]
    refine wpAnyH_take (i := 1) (oi := ⟨_, _, _, _, _, _⟩) (v := ?_) rfl (by kernel_rfl) (by kernel_rfl) (by kernel_rfl) (fun _ _ _ h => h) (Or.inl ⟨by rfl, ?_⟩) (by assumption) ?_
    rotate_left
    ·intro w hSw
     try dsimp only at hSw
     go_simp
     try with_reducible rfl
    try simp only [Act.put, sA9, sZ9, sS9]
    refine wpAnyH_take (i := 2) (oi := ⟨_, _, _, _, _, _⟩) (v := ?_) rfl (by kernel_rfl) (by kernel_rfl) (by kernel_rfl) (fun _ _ _ h => h) (Or.inl ⟨by rfl, ?_⟩) (by assumption) ?_
    rotate_left
    ·intro w hSw
     try dsimp only at hSw
     go_simp
     try with_reducible rfl
    try simp only [Act.put, sA9, sZ9, sS9]
    refine wpAnyH_take (i := 3) (oi := ⟨_, _, _, _, _, _⟩) (v := _) rfl (by kernel_rfl) (by kernel_rfl) (by kernel_rfl) (fun _ _ _ h => h) (yieldsIf_load_mid (by rfl) _ _ rfl _ _ rfl (eX.enc q) _ (fun w h => h.2) Tryz.underlying53 rfl szAct) (by assumption) ?_
    try simp only [Act.put, sA9, sZ9, sS9]
    refine wpAnyH_take (i := 4) (oi := ⟨_, _, _, _, _, _⟩) (v := _) rfl (by kernel_rfl) (by kernel_rfl) (by kernel_rfl) (fun _ _ _ h => h) (yields_row (by rfl) _ _ rfl _ 0 rfl (fun w h => h.1) Tryz.underlying23 rfl #[.int .i64 i1, .int .i64 i2] (by kernel_rfl) (two_at rfl rfl)) (by assumption) ?_
    try simp only [Act.put, sA9, sZ9, sS9]
    refine wpAnyH_ready (rs := [5]) (by kernel_rfl) (by simp) ?_
    refine AllReadyH.cons (o := ⟨_, _, _, _, _, _⟩) rfl (fun K hK => ?_) ?_
    rotate_left
    ·exact AllReadyH.nil
    go_simp
    go_at_call 25
    refine (right9_any q.x q.l (i1, i2) w1 (HNX.out.at_.later HB_1.out) HIN.out).mono ?_
    rw [hright]
    rintro e w2 ⟨rfl, h5⟩
    have HB_2 : Hid (Below W.heap.size W w2) := hH (blThen HB_1.out h5)
    have Ki_2 := row_up Ki_1 Li_1 h5
    have Li_2 := lt_up Li_1 h5
    have Kc_2 := row_up Kc_1 Lc_1 h5
    have Lc_2 := lt_up Lc_1 h5
    have HCc_2 := hH (HCc_1.out.next h5)
    have HR_2 := hH (HR_1.out.later h5)
    refine hK.out _ _ (⟨Ki_2.out, HR_2.out.r⟩) (fun hHeld => ?_)
    clear hK K h5
    try simp only [Act.put, sA9, sZ9, sS9]
    refine wpAnyH_take (i := 6) (oi := ⟨_, _, _, _, _, _⟩) (v := ?_) rfl (by kernel_rfl) (by kernel_rfl) (by kernel_rfl) (fun _ _ _ h => h) (Or.inl ⟨by rfl, ?_⟩) (by assumption) ?_
    rotate_left
    ·intro w hSw
     try dsimp only at hSw
     go_simp
     try with_reducible rfl
    try simp only [Act.put, sA9, sZ9, sS9]
    refine wpAnyH_done (by kernel_rfl) ?_ _
    go_wp2_with (first | go_skip | ((with_reducible refine atC w2 ?_); go_at_call 10; go_must (refine (live9_any w2).mono ?_; rintro e w3 ⟨rfl, h5⟩; have HB_3 : Hid (Below W.heap.size W w3) := hH (blThen HB_2.out h5); have Ki_3 := row_up Ki_2 Li_2 h5; have Li_3 := lt_up Li_2 h5; have Kc_3 := row_up Kc_2 Lc_2 h5; have Lc_3 := lt_up Lc_2 h5; have HCc_3 := hH (HCc_2.out.next h5); have HR_3 := hH (HR_2.out.later h5); clear h5)))
    go_ret
    exact ⟨rfl, HB_3.out⟩
   ·go_wp2_with fail
    refine wp_region_held_drew (S := fun Y => Y.heap[W.heap.size]? = some (.cells #[.int .i64 i1, .int .i64 i2] 23 (0, 0)) ∧ Y.rangeAt g (o + k * 14) (eX.enc q)) (by kernel_rfl) (⟨Ki_0.out, HR_0.out.r⟩) (fun hHeld => ?_)
    have h5 : Below wr.heap.size wr wr.drew := (Below.refl _ _).drew
    have HB_1 : Hid (Below W.heap.size W wr.drew) := hH (blThen HB_0.out h5)
    have Ki_1 := row_up Ki_0 Li_0 h5
    have Li_1 := lt_up Li_0 h5
    have Kc_1 := row_up Kc_0 Lc_0 h5
    have Lc_1 := lt_up Lc_0 h5
    have HCc_1 := hH (HCc_0.out.next h5)
    have HR_1 := hH (HR_0.out.later h5)
    clear h5
    generalize wr.drew = w1 at *
    refine wpAnyH_take (i := 0) (oi := ⟨_, _, _, _, _, _⟩) (v := ?_) rfl (by kernel_rfl) (by kernel_rfl) (by kernel_rfl) (fun _ _ _ h => h) (Or.inl ⟨by rfl, ?_⟩) (by assumption) ?_
    rotate_left
    ·intro w hSw
     try dsimp only at hSw
     go_simp
     try with_reducible rfl
    try simp only [Act.put, sA9, sZ9, sS9]
    refine wpAnyH_take (i := 1) (oi := ⟨_, _, _, _, _, _⟩) (v := ?_) rfl (by kernel_rfl) (by kernel_rfl) (by kernel_rfl) (fun _ _ _ h => h) (Or.inl ⟨by rfl, ?_⟩) (by assumption) ?_
    rotate_left
    ·intro w hSw
     try dsimp only at hSw
     go_simp
     try with_reducible rfl
    try simp only [Act.put, sA9, sZ9, sS9]
    refine wpAnyH_take (i := 2) (oi := ⟨_, _, _, _, _, _⟩) (v := ?_) rfl (by kernel_rfl) (by kernel_rfl) (by kernel_rfl) (fun _ _ _ h => h) (Or.inl ⟨by rfl, ?_⟩) (by assumption) ?_
    rotate_left
    ·intro w hSw
     try dsimp only at hSw
     go_simp
     try with_reducible rfl
    try simp only [Act.put, sA9, sZ9, sS9]
    refine wpAnyH_take (i := 3) (oi := ⟨_, _, _, _, _, _⟩) (v := _) rfl (by kernel_rfl) (by kernel_rfl) (by kernel_rfl) (fun _ _ _ h => h) (yieldsIf_load_mid (by rfl) _ _ rfl _ _ rfl (eX.enc q) _ (fun w h => h.2) Tryz.underlying53 rfl szAct) (by assumption) ?_
    try simp only [Act.put, sA9, sZ9, sS9]
    refine wpAnyH_take (i := 4) (oi := ⟨_, _, _, _, _, _⟩) (v := _) rfl (by kernel_rfl) (by kernel_rfl) (by kernel_rfl) (fun _ _ _ h => h) (yields_row (by rfl) _ _ rfl _ 0 rfl (fun w h => h.1) Tryz.underlying23 rfl #[.int .i64 i1, .int .i64 i2] (by kernel_rfl) (two_at rfl rfl)) (by assumption) ?_
    try simp only [Act.put, sA9, sZ9, sS9]
    refine wpAnyH_ready (rs := [5]) (by kernel_rfl) (by simp) ?_
    refine AllReadyH.cons (o := ⟨_, _, _, _, _, _⟩) rfl (fun K hK => ?_) ?_
    rotate_left
    ·exact AllReadyH.nil
    go_simp
    go_at_call 25
    refine (right9_any q.x q.l (i1, i2) w1 (HNX.out.at_.later HB_1.out) HIN.out).mono ?_
    rw [hright]
    rintro e w2 ⟨rfl, h5⟩
    have HB_2 : Hid (Below W.heap.size W w2) := hH (blThen HB_1.out h5)
    have Ki_2 := row_up Ki_1 Li_1 h5
    have Li_2 := lt_up Li_1 h5
    have Kc_2 := row_up Kc_1 Lc_1 h5
    have Lc_2 := lt_up Lc_1 h5
    have HCc_2 := hH (HCc_1.out.next h5)
    have HR_2 := hH (HR_1.out.later h5)
    refine hK.out _ _ (⟨Ki_2.out, HR_2.out.r⟩) (fun hHeld => ?_)
    clear hK K h5
    try simp only [Act.put, sA9, sZ9, sS9]
    refine wpAnyH_take (i := 6) (oi := ⟨_, _, _, _, _, _⟩) (v := ?_) rfl (by kernel_rfl) (by kernel_rfl) (by kernel_rfl) (fun _ _ _ h => h) (Or.inl ⟨by rfl, ?_⟩) (by assumption) ?_
    rotate_left
    ·intro w hSw
     try dsimp only at hSw
     go_simp
     try with_reducible rfl
    try simp only [Act.put, sA9, sZ9, sS9]
    refine wpAnyH_done (by kernel_rfl) ?_ _
    have HFX := hH (right_few hright)
    have HMX := hH (right_may hright)
    clear hright
    go_wp2_with fail
    have KS : Hid (∀ Y : World, Below w2.heap.size w2 Y → Y.heap[b5]? = some (.cells (cmR c ⟨.slice oa c.ops.length oc, ls, ld, lw, lp⟩) 31 (0, 0)) ∧ Y.rangeAt g (o + k * 14) (eX.enc q)) := hH (fun Y hY => ⟨(hY.block _ Lc_2.out).trans Kc_2.out, (HR_2.out.later hY).r⟩)
    go_cut [7, 8] from 20 to 154 (fun sp sb wx => ∃ (bx : Nat) (lx : Pl), sp = .pointer (some ⟨bx, 0, none⟩) ∧ sb = .bool (actB c q.x) ∧ w2.heap.size ≤ bx ∧ bx < wx.heap.size ∧ wx.heap[bx]? = some (.cells (cmR (actC c q.x) lx) 31 (0, 0)) ∧ CmS (S3 b5 b5 b5) wx (actC c q.x) lx ∧ Below w2.heap.size w2 wx)
    case first =>
     as_aux_lemma =>
      refine wp_region_held_drew (S := fun Y => Y.heap[b5]? = some (.cells (cmR c ⟨.slice oa c.ops.length oc, ls, ld, lw, lp⟩) 31 (0, 0)) ∧ Y.rangeAt g (o + k * 14) (eX.enc q)) (by kernel_rfl) (KS.out _ (Below.refl w2.heap.size w2).drew) (fun hHeld => ?_)
      refine wpAnyH_take (i := 0) (oi := ⟨_, _, _, _, _, _⟩) (v := _) rfl (by kernel_rfl) (by kernel_rfl) (by kernel_rfl) (fun _ _ _ h => h) (yields_row (by rfl) _ _ rfl _ 0 rfl (fun w h => h.1) Tryz.underlying31 rfl (cmR c ⟨.slice oa c.ops.length oc, ls, ld, lw, lp⟩) szCmd all_at) (by assumption) ?_
      try simp only [Act.put, sA9, sZ9, sS9]
      refine wpAnyH_take (i := 1) (oi := ⟨_, _, _, _, _, _⟩) (v := ?_) rfl (by kernel_rfl) (by kernel_rfl) (by kernel_rfl) (fun _ _ _ h => h) (Or.inl ⟨by rfl, ?_⟩) (by assumption) ?_
      rotate_left
      ·intro w hSw
       try dsimp only at hSw
       go_simp
       try with_reducible rfl
      try simp only [Act.put, sA9, sZ9, sS9]
      refine wpAnyH_take (i := 2) (oi := ⟨_, _, _, _, _, _⟩) (v := ?_) rfl (by kernel_rfl) (by kernel_rfl) (by kernel_rfl) (fun _ _ _ h => h) (Or.inl ⟨by rfl, ?_⟩) (by assumption) ?_
      rotate_left
      ·intro w hSw
       try dsimp only at hSw
       go_simp
       try with_reducible rfl
      try simp only [Act.put, sA9, sZ9, sS9]
      refine wpAnyH_take (i := 3) (oi := ⟨_, _, _, _, _, _⟩) (v := ?_) rfl (by kernel_rfl) (by kernel_rfl) (by kernel_rfl) (fun _ _ _ h => h) (Or.inl ⟨by rfl, ?_⟩) (by assumption) ?_
      rotate_left
      ·intro w hSw
       try dsimp only at hSw
       go_simp
       try with_reducible rfl
      try simp only [Act.put, sA9, sZ9, sS9]
      refine wpAnyH_take (i := 4) (oi := ⟨_, _, _, _, _, _⟩) (v := _) rfl (by kernel_rfl) (by kernel_rfl) (by kernel_rfl) (fun _ _ _ h => h) (yieldsIf_load_mid (by rfl) _ _ rfl _ _ rfl (eX.enc q) _ (fun w h => h.2) Tryz.underlying53 rfl szAct) (by assumption) ?_
      try simp only [Act.put, sA9, sZ9, sS9]
      have HX : Hid (Below w2.heap.size w2 w2.drew) := hH (Below.refl _ _).drew
      have HB_z0 := HX
      clear HX
      generalize w2.drew = z0 at *
      refine wpAnyH_ready (rs := [5, 9]) (by kernel_rfl) (by simp) ?_
      refine (AllReadyH.cons (o := ⟨_, _, _, _, _, _⟩) rfl (fun K hK => ?_) (AllReadyH.cons (o := ⟨_, _, _, _, _, _⟩) rfl (fun K hK => ?_) AllReadyH.nil))
      ·go_simp
       go_at_call 26
       refine (does9_any c ⟨.slice oa c.ops.length oc, ls, ld, lw, lp⟩ q.x q.l z0 (S3 b5 b5 b5) (fun b hb => by have g5 := Nat.lt_of_lt_of_le Lc_2.out HB_z0.out.size; rcases hb with hb | hb | hb <;> omega) (HCc_2.out.next HB_z0.out) (acs_in HNX.out.at_ (blThen HB_2.out HB_z0.out) (fun b hb => by have g5 := HG5.out; rcases hb with hb | hb | hb <;> omega)) HFX.out.seen HIN.out.wf (Nat.le_trans HFX.out.writes (by decide)) (Nat.le_trans HFX.out.pairs (by decide))).mono ?_
       intro e zw1 h
       unfold RetCS at h
       obtain ⟨lx, rfl, hcx, h5⟩ := h
       have HCX := hH hcx
       clear hcx
       have HX : Hid (Below z0.heap.size z0 zw1) := hH h5
       have HB_zw1 : Hid (Below w2.heap.size w2 zw1) := hH (blThen HB_z0.out HX.out)
       have HBY := hH HX.out
       refine hK.out _ _ (KS.out _ HB_zw1.out) (fun hHeld => ?_)
       clear hK K HX h5
       try simp only [Act.put, sA9, sZ9, sS9]
       refine wpAnyH_take (i := 6) (oi := ⟨_, _, _, _, _, _⟩) (v := ?_) rfl (by kernel_rfl) (by kernel_rfl) (by kernel_rfl) (fun _ _ _ h => h) (Or.inl ⟨by rfl, ?_⟩) (by assumption) ?_
       rotate_left
       ·intro w hSw
        try dsimp only at hSw
        go_simp
        try with_reducible rfl
       try simp only [Act.put, sA9, sZ9, sS9]
       refine wpAnyH_take (i := 7) (oi := ⟨_, _, _, _, _, _⟩) (v := ?_) rfl (by kernel_rfl) (by kernel_rfl) (by kernel_rfl) (fun _ _ _ h => h) (Or.inl ⟨by rfl, ?_⟩) (by assumption) ?_
       rotate_left
       ·intro w hSw
        try dsimp only at hSw
        go_simp
        try with_reducible rfl
       try simp only [Act.put, sA9, sZ9, sS9]
       refine wpAnyH_take (i := 8) (oi := ⟨_, _, _, _, _, _⟩) (v := ?_) rfl (by kernel_rfl) (by kernel_rfl) (by kernel_rfl) (fun _ _ _ h => h) (Or.inl ⟨by rfl, ?_⟩) (by assumption) ?_
       rotate_left
       ·intro w hSw
        try dsimp only at hSw
        go_simp
        try with_reducible rfl
       try simp only [Act.put, sA9, sZ9, sS9]
       refine wpAnyH_ready (rs := [9]) (by kernel_rfl) (by simp) ?_
       refine (AllReadyH.cons (o := ⟨_, _, _, _, _, _⟩) rfl (fun K hK => ?_) AllReadyH.nil)
       go_simp
       have HX : Hid (Below zw1.heap.size zw1 (zw1.alloc (.cells z22 31))) := hH (blAlloc (Below.refl _ _) _)
       have HB_zw2 : Hid (Below w2.heap.size w2 (zw1.alloc (.cells z22 31))) := hH (blThen HB_zw1.out HX.out)
       have HBY := hH HX.out
       have KN : Hid ((zw1.alloc (.cells z22 31)).heap[zw1.heap.size]? = some (.cells z22 31 (0, 0))) := hH (new_blockC zw1 z22 31)
       have LN : Hid (zw1.heap.size < (zw1.alloc (.cells z22 31)).heap.size) := hH (by simp)
       have GN : Hid (w2.heap.size ≤ zw1.heap.size) := hH HB_zw1.out.size
       refine hK.out _ _ (KS.out _ HB_zw2.out) (fun hHeld => ?_)
       clear hK K HX
       try simp only [Act.put, sA9, sZ9, sS9]
       generalize (zw1.alloc (.cells z22 31)) = zw2 at *
       refine wpAnyH_ready (rs := [10]) (by kernel_rfl) (by simp) ?_
       refine AllReadyH.cons (o := ⟨_, _, _, _, _, _⟩) rfl (fun K hK => ?_) ?_
       rotate_left
       ·exact AllReadyH.nil
       refine ite_yes9 (by rfl) ?_
       refine wp_store9 _ _ rfl _ rfl (cells := cmR (actC c q.x) lx) rfl KN.out rfl rfl (cmR_one HCX.out.at) ?_
       intro zf h1 h2
       have HBF : Hid (Below w2.heap.size w2 zf) := hH (below_grown9 HB_zw2.out h2 GN.out)
       have KF := hH h1
       have LF := Nat.lt_of_lt_of_le LN.out h2.size
       have HCF := hH (HCX.out.next (below_grown9 HBY.out h2 (Nat.le_refl _)))
       clear h1 h2
       refine hK.out _ _ (KS.out _ HBF.out) (fun hHeld => ?_)
       clear hK K
       try simp only [Act.put, sA9, sZ9, sS9]
       refine wpAnyH_take (i := 11) (oi := ⟨_, _, _, _, _, _⟩) (v := ?_) rfl (by kernel_rfl) (by kernel_rfl) (by kernel_rfl) (fun _ _ _ h => h) (Or.inl ⟨by rfl, ?_⟩) (by assumption) ?_
       rotate_left
       ·intro w hSw
        try dsimp only at hSw
        go_simp
        try with_reducible rfl
       try simp only [Act.put, sA9, sZ9, sS9]
       refine wpAnyH_done (by kernel_rfl) ?_ _
       go_wp2_with fail
       go_meet
       exact ⟨zw1.heap.size, lx, rfl, rfl, GN.out, LF, KF.out, HCF.out, HBF.out⟩
      ·go_simp
       have HX : Hid (Below z0.heap.size z0 (z0.alloc (.cells z22 31))) := hH (blAlloc (Below.refl _ _) _)
       have HB_zw3 : Hid (Below w2.heap.size w2 (z0.alloc (.cells z22 31))) := hH (blThen HB_z0.out HX.out)
       have HBY := hH HX.out
       have KN : Hid ((z0.alloc (.cells z22 31)).heap[z0.heap.size]? = some (.cells z22 31 (0, 0))) := hH (new_blockC z0 z22 31)
       have LN : Hid (z0.heap.size < (z0.alloc (.cells z22 31)).heap.size) := hH (by simp)
       have GN : Hid (w2.heap.size ≤ z0.heap.size) := hH HB_z0.out.size
       refine hK.out _ _ (KS.out _ HB_zw3.out) (fun hHeld => ?_)
       clear hK K HX
       try simp only [Act.put, sA9, sZ9, sS9]
       generalize (z0.alloc (.cells z22 31)) = zw3 at *
       refine wpAnyH_ready (rs := [5]) (by kernel_rfl) (by simp) ?_
       refine (AllReadyH.cons (o := ⟨_, _, _, _, _, _⟩) rfl (fun K hK => ?_) AllReadyH.nil)
       go_simp
       go_at_call 26
       refine (does9_any c ⟨.slice oa c.ops.length oc, ls, ld, lw, lp⟩ q.x q.l zw3 (S3 b5 b5 z0.heap.size) (fun b hb => by have g5 := Nat.lt_of_lt_of_le Lc_2.out HB_zw3.out.size; have g7 := LN.out; rcases hb with hb | hb | hb <;> omega) (cms_more HCc_2.out HB_zw3.out GN.out) (acs_in HNX.out.at_ (blThen HB_2.out HB_zw3.out) (fun b hb => by have g5 := HG5.out; have g7 := Nat.le_trans HB_2.out.size GN.out; rcases hb with hb | hb | hb <;> omega)) HFX.out.seen HIN.out.wf (Nat.le_trans HFX.out.writes (by decide)) (Nat.le_trans HFX.out.pairs (by decide))).mono ?_
       intro e zw4 h
       unfold RetCS at h
       obtain ⟨lx, rfl, hcx, h5⟩ := h
       have HCX := hH hcx
       clear hcx
       have HX : Hid (Below zw3.heap.size zw3 zw4) := hH h5
       have HB_zw4 : Hid (Below w2.heap.size w2 zw4) := hH (blThen HB_zw3.out HX.out)
       have HBY := hH HX.out
       have KN := hH ((HX.out.block z0.heap.size LN.out).trans KN.out)
       have LN : Hid (z0.heap.size < zw4.heap.size) := hH (Nat.lt_of_lt_of_le LN.out HX.out.size)
       refine hK.out _ _ (KS.out _ HB_zw4.out) (fun hHeld => ?_)
       clear hK K HX h5
       try simp only [Act.put, sA9, sZ9, sS9]
       refine wpAnyH_take (i := 6) (oi := ⟨_, _, _, _, _, _⟩) (v := ?_) rfl (by kernel_rfl) (by kernel_rfl) (by kernel_rfl) (fun _ _ _ h => h) (Or.inl ⟨by rfl, ?_⟩) (by assumption) ?_
       rotate_left
       ·intro w hSw
        try dsimp only at hSw
        go_simp
        try with_reducible rfl
       try simp only [Act.put, sA9, sZ9, sS9]
       refine wpAnyH_take (i := 7) (oi := ⟨_, _, _, _, _, _⟩) (v := ?_) rfl (by kernel_rfl) (by kernel_rfl) (by kernel_rfl) (fun _ _ _ h => h) (Or.inl ⟨by rfl, ?_⟩) (by assumption) ?_
       rotate_left
       ·intro w hSw
        try dsimp only at hSw
        go_simp
        try with_reducible rfl
       try simp only [Act.put, sA9, sZ9, sS9]
       refine wpAnyH_take (i := 8) (oi := ⟨_, _, _, _, _, _⟩) (v := ?_) rfl (by kernel_rfl) (by kernel_rfl) (by kernel_rfl) (fun _ _ _ h => h) (Or.inl ⟨by rfl, ?_⟩) (by assumption) ?_
       rotate_left
       ·intro w hSw
        try dsimp only at hSw
        go_simp
        try with_reducible rfl
       try simp only [Act.put, sA9, sZ9, sS9]
       refine wpAnyH_ready (rs := [10]) (by kernel_rfl) (by simp) ?_
       refine AllReadyH.cons (o := ⟨_, _, _, _, _, _⟩) rfl (fun K hK => ?_) ?_
       rotate_left
       ·exact AllReadyH.nil
       refine ite_yes9 (by rfl) ?_
       refine wp_store9 _ _ rfl _ rfl (cells := cmR (actC c q.x) lx) rfl KN.out rfl rfl (cmR_one HCX.out.at) ?_
       intro zf h1 h2
       have HBF : Hid (Below w2.heap.size w2 zf) := hH (below_grown9 HB_zw4.out h2 GN.out)
       have KF := hH h1
       have LF := Nat.lt_of_lt_of_le LN.out h2.size
       have HCF := hH (cms_store HCX.out h2)
       clear h1 h2
       refine hK.out _ _ (KS.out _ HBF.out) (fun hHeld => ?_)
       clear hK K
       try simp only [Act.put, sA9, sZ9, sS9]
       refine wpAnyH_take (i := 11) (oi := ⟨_, _, _, _, _, _⟩) (v := ?_) rfl (by kernel_rfl) (by kernel_rfl) (by kernel_rfl) (fun _ _ _ h => h) (Or.inl ⟨by rfl, ?_⟩) (by assumption) ?_
       rotate_left
       ·intro w hSw
        try dsimp only at hSw
        go_simp
        try with_reducible rfl
       try simp only [Act.put, sA9, sZ9, sS9]
       refine wpAnyH_done (by kernel_rfl) ?_ _
       go_wp2_with fail
       go_meet
       exact ⟨z0.heap.size, lx, rfl, rfl, GN.out, LF, KF.out, HCF.out, HBF.out⟩
    case rest =>
     obtain ⟨px, lx, ep, eb, hgx, hlx, hrx, hcx, h5⟩ := hcut
     rename World => w3
     rw [ep, eb]
     clear ep eb KS
     have HB_3 : Hid (Below W.heap.size W w3) := hH (blThen HB_2.out h5)
     have Ki_3 := row_up Ki_2 Li_2 h5
     have Li_3 := lt_up Li_2 h5
     have Kc_3 := row_up Kc_2 Lc_2 h5
     have Lc_3 := lt_up Lc_2 h5
     have HCc_3 := hH (HCc_2.out.next h5)
     have HR_3 := hH (HR_2.out.later h5)
     have HGx : Hid (w2.heap.size ≤ px) := hH hgx
     have Kx_3 := hH hrx
     have Lx_3 := hH hlx
     have HCx_3 := hH hcx
     clear hgx hlx hrx hcx h5
     have HGR := hH (grow_act HM.out (by rw [HID.out]; exact HMX.out))
     have HTO := hH (fun h3 h4 => top_act HM.out (x := q.x) (by rw [HID.out]; exact HMX.out) h3 h4)
     have HAN := hH (fun h => act_no (c := c) (x := q.x) h)
     obtain ⟨cn, hcn⟩ : ∃ q_, q_ = actC c q.x := ⟨_, rfl⟩
     have HFN : Hid (FewC cn) := hH (by rw [hcn]; exact few_act HF.out HFX.out)
     rw [← hcn] at Kx_3 HCx_3 HGR HTO HAN
     clear hcn
     obtain ⟨bb, hbb⟩ : ∃ q_, q_ = actB c q.x := ⟨_, rfl⟩
     rw [← hbb]
     have HBB := hH hbb
     clear hbb
     obtain ⟨lxo, lxs, lxd, lxw, lxp⟩ := lx
     obtain ⟨xa, xc, rfl⟩ := HCx_3.out.at.o.form
     have HIDN : Hid (cn.id = (i1, i2)) := hH (HGR.out.id.trans HID.out)
     have HPR : Hid (S1.ltS (cn.prom.1, cn.prom.2) (c.prom.1, c.prom.2) = false) := hH HGR.out.prom
     have HBO : Hid (S1.ltS (cn.bound.1, cn.bound.2) (c.bound.1, c.bound.2) = false) := hH HGR.out.bound
     have HCK : Hid (checkC cn = 0) := hH (by unfold checkC; rw [if_pos HGR.out.may])
     have hid1 : cn.id.1 = i1 := congrArg Prod.fst HIDN.out
     have hid2 : cn.id.2 = i2 := congrArg Prod.snd HIDN.out
     have hph : ¬ cn.phase < c.phase := by have := HGR.out.phase; omega
     have hphd := decide_eq_false hph
     go_wp2_with fail
     go_cut [89] from 20 to 154 (fun s89 wx => s89 = .bool false ∧ Below w3.heap.size w3 wx)
     case first =>
      as_aux_lemma =>
       have HZ_3 : Hid (Below w3.heap.size w3 w3) := hH (Below.refl _ _)
       cases hlt2 : S1.ltS ((topC cn).1, (topC cn).2) ((topC c).1, (topC c).2)
       ·have HLT := hH hlt2
        clear hlt2
        refine wp_region_held_drew (S := fun Y => Y.heap[px]? = some (.cells (cmR cn ⟨.slice xa cn.ops.length xc, lxs, lxd, lxw, lxp⟩) 31 (0, 0)) ∧ Y.heap[b5]? = some (.cells (cmR c ⟨.slice oa c.ops.length oc, ls, ld, lw, lp⟩) 31 (0, 0)) ∧ Y.heap[W.heap.size]? = some (.cells #[.int .i64 i1, .int .i64 i2] 23 (0, 0)) ∧ Y.cell? ⟨g, o + k * 14, none⟩ = some (.int .i64 q.kind)) (by kernel_rfl) (⟨Kx_3.out, Kc_3.out, Ki_3.out, HR_3.out.r 0 _ rfl⟩) (fun hHeld => ?_)
        have h5 : Below w3.heap.size w3 w3.drew := (Below.refl _ _).drew
        have HB_4 : Hid (Below W.heap.size W w3.drew) := hH (blThen HB_3.out h5)
        have Ki_4 := row_up Ki_3 Li_3 h5
        have Li_4 := lt_up Li_3 h5
        have Kc_4 := row_up Kc_3 Lc_3 h5
        have Lc_4 := lt_up Lc_3 h5
        have Kx_4 := row_up Kx_3 Lx_3 h5
        have Lx_4 := lt_up Lx_3 h5
        have HCc_4 := hH (HCc_3.out.next h5)
        have HR_4 := hH (HR_3.out.later h5)
        have HCx_4 := hH (HCx_3.out.next h5)
        have HZ_4 := hH (blThen HZ_3.out h5)
        clear h5
        generalize w3.drew = w4 at *
        refine wpAnyH_take (i := 0) (oi := ⟨_, _, _, _, _, _⟩) (v := _) rfl (by kernel_rfl) (by kernel_rfl) (by kernel_rfl) (fun _ _ _ h => h) (yields_row (by rfl) _ _ rfl _ 0 rfl (fun w h => h.1) Tryz.underlying31 rfl (cmR cn ⟨.slice xa cn.ops.length xc, lxs, lxd, lxw, lxp⟩) szCmd all_at) (by assumption) ?_
        try simp only [Act.put, sA9, sZ9, sS9]
        refine wpAnyH_ready (rs := [1]) (by kernel_rfl) (by simp) ?_
        refine AllReadyH.cons (o := ⟨_, _, _, _, _, _⟩) rfl (fun K hK => ?_) ?_
        rotate_left
        ·exact AllReadyH.nil
        go_simp
        go_at_call 14
        refine (check9_any cn ⟨.slice xa cn.ops.length xc, lxs, lxd, lxw, lxp⟩ w4 HCx_4.out.at HFN.out).mono ?_
        rw [HCK.out]
        rintro e w5 ⟨rfl, h5⟩
        have HB_5 : Hid (Below W.heap.size W w5) := hH (blThen HB_4.out h5)
        have Ki_5 := row_up Ki_4 Li_4 h5
        have Li_5 := lt_up Li_4 h5
        have Kc_5 := row_up Kc_4 Lc_4 h5
        have Lc_5 := lt_up Lc_4 h5
        have Kx_5 := row_up Kx_4 Lx_4 h5
        have Lx_5 := lt_up Lx_4 h5
        have HCc_5 := hH (HCc_4.out.next h5)
        have HR_5 := hH (HR_4.out.later h5)
        have HCx_5 := hH (HCx_4.out.next h5)
        have HZ_5 := hH (blThen HZ_4.out h5)
        refine hK.out _ _ (⟨Kx_5.out, Kc_5.out, Ki_5.out, HR_5.out.r 0 _ rfl⟩) (fun hHeld => ?_)
        clear hK K h5
        try simp only [Act.put, sA9, sZ9, sS9]
        refine wpAnyH_ready (rs := [2]) (by kernel_rfl) (by simp) ?_
        refine AllReadyH.cons (o := ⟨_, _, _, _, _, _⟩) rfl (fun K hK => ?_) ?_
        rotate_left
        ·exact AllReadyH.nil
        go_simp
        go_at_call 13
        refine (num9_any _ _).mono ?_
        rintro e wq ⟨rfl, rfl⟩
        refine hK.out _ _ (⟨Kx_5.out, Kc_5.out, Ki_5.out, HR_5.out.r 0 _ rfl⟩) (fun hHeld => ?_)
        clear hK K
        try simp only [Act.put, sA9, sZ9, sS9]
        refine wpAnyH_take (i := 3) (oi := ⟨_, _, _, _, _, _⟩) (v := ?_) rfl (by kernel_rfl) (by kernel_rfl) (by kernel_rfl) (fun _ _ _ h => h) (Or.inl ⟨by rfl, ?_⟩) (by assumption) ?_
        rotate_left
        ·intro w hSw
         try dsimp only at hSw
         go_simp
         try with_reducible rfl
        try simp only [Act.put, sA9, sZ9, sS9]
        refine wpAnyH_take (i := 4) (oi := ⟨_, _, _, _, _, _⟩) (v := ?_) rfl (by kernel_rfl) (by kernel_rfl) (by kernel_rfl) (fun _ _ _ h => h) (Or.inl ⟨by rfl, ?_⟩) (by assumption) ?_
        rotate_left
        ·intro w hSw
         try dsimp only at hSw
         go_simp
         try with_reducible rfl
        try simp only [Act.put, sA9, sZ9, sS9]
        refine wpAnyH_take (i := 5) (oi := ⟨_, _, _, _, _, _⟩) (v := ?_) rfl (by kernel_rfl) (by kernel_rfl) (by kernel_rfl) (fun _ _ _ h => h) (Or.inl ⟨by rfl, ?_⟩) (by assumption) ?_
        rotate_left
        ·intro w hSw
         try dsimp only at hSw
         go_simp
         try with_reducible rfl
        try simp only [Act.put, sA9, sZ9, sS9]
        refine wpAnyH_take (i := 6) (oi := ⟨_, _, _, _, _, _⟩) (v := _) rfl (by kernel_rfl) (by kernel_rfl) (by kernel_rfl) (fun _ _ _ h => h) (yields_row (by rfl) _ _ rfl _ 0 rfl (fun w h => h.1) Tryz.underlying23 rfl #[.int .i64 cn.id.1, .int .i64 cn.id.2] (by kernel_rfl) (two_at rfl rfl)) (by assumption) ?_
        try simp only [Act.put, sA9, sZ9, sS9]
        refine wpAnyH_take (i := 7) (oi := ⟨_, _, _, _, _, _⟩) (v := _) rfl (by kernel_rfl) (by kernel_rfl) (by kernel_rfl) (fun _ _ _ h => h) (yields_row (by rfl) _ _ rfl _ 0 rfl (fun w h => h.2.2.1) Tryz.underlying23 rfl #[.int .i64 i1, .int .i64 i2] (by kernel_rfl) (two_at rfl rfl)) (by assumption) ?_
        try simp only [Act.put, sA9, sZ9, sS9]
        refine wpAnyH_take (i := 8) (oi := ⟨_, _, _, _, _, _⟩) (v := ?_) rfl (by kernel_rfl) (by kernel_rfl) (by kernel_rfl) (fun _ _ _ h => h) (Or.inl ⟨by rfl, ?_⟩) (by assumption) ?_
        rotate_left
        ·intro w hSw
         try dsimp only at hSw
         go_simp
         try with_reducible rfl
        try simp only [Act.put, sA9, sZ9, sS9]
        refine wpAnyH_take (i := 9) (oi := ⟨_, _, _, _, _, _⟩) (v := ?_) rfl (by kernel_rfl) (by kernel_rfl) (by kernel_rfl) (fun _ _ _ h => h) (Or.inl ⟨by rfl, ?_⟩) (by assumption) ?_
        rotate_left
        ·intro w hSw
         try dsimp only at hSw
         go_simp
         try with_reducible rfl
        try simp only [Act.put, sA9, sZ9, sS9]
        refine wpAnyH_take (i := 10) (oi := ⟨_, _, _, _, _, _⟩) (v := ?_) rfl (by kernel_rfl) (by kernel_rfl) (by kernel_rfl) (fun _ _ _ h => h) (Or.inl ⟨by rfl, ?_⟩) (by assumption) ?_
        rotate_left
        ·intro w hSw
         try dsimp only at hSw
         go_simp
         try with_reducible rfl
        try simp only [Act.put, sA9, sZ9, sS9]
        refine wpAnyH_take (i := 11) (oi := ⟨_, _, _, _, _, _⟩) (v := ?_) rfl (by kernel_rfl) (by kernel_rfl) (by kernel_rfl) (fun _ _ _ h => h) (Or.inl ⟨by rfl, ?_⟩) (by assumption) ?_
        rotate_left
        ·intro w hSw
         try dsimp only at hSw
         go_simp
         try with_reducible rfl
        try simp only [Act.put, sA9, sZ9, sS9]
        refine wpAnyH_take (i := 12) (oi := ⟨_, _, _, _, _, _⟩) (v := _) rfl (by kernel_rfl) (by kernel_rfl) (by kernel_rfl) (fun _ _ _ h => h) (yields_one (by rfl) _ _ rfl _ 3 rfl (fun w h => h.1) Tryz.underlying3 rfl (v := .int .i64 cn.phase) rfl) (by assumption) ?_
        try simp only [Act.put, sA9, sZ9, sS9]
        refine wpAnyH_take (i := 13) (oi := ⟨_, _, _, _, _, _⟩) (v := ?_) rfl (by kernel_rfl) (by kernel_rfl) (by kernel_rfl) (fun _ _ _ h => h) (Or.inl ⟨by rfl, ?_⟩) (by assumption) ?_
        rotate_left
        ·intro w hSw
         try dsimp only at hSw
         go_simp
         try with_reducible rfl
        try simp only [Act.put, sA9, sZ9, sS9]
        refine wpAnyH_take (i := 14) (oi := ⟨_, _, _, _, _, _⟩) (v := _) rfl (by kernel_rfl) (by kernel_rfl) (by kernel_rfl) (fun _ _ _ h => h) (yields_one (by rfl) _ _ rfl _ 3 rfl (fun w h => h.2.1) Tryz.underlying3 rfl (v := .int .i64 c.phase) rfl) (by assumption) ?_
        try simp only [Act.put, sA9, sZ9, sS9]
        refine wpAnyH_take (i := 15) (oi := ⟨_, _, _, _, _, _⟩) (v := ?_) rfl (by kernel_rfl) (by kernel_rfl) (by kernel_rfl) (fun _ _ _ h => h) (Or.inl ⟨by rfl, ?_⟩) (by assumption) ?_
        rotate_left
        ·intro w hSw
         try dsimp only at hSw
         go_simp
         try with_reducible rfl
        try simp only [Act.put, sA9, sZ9, sS9]
        refine wpAnyH_take (i := 16) (oi := ⟨_, _, _, _, _, _⟩) (v := ?_) rfl (by kernel_rfl) (by kernel_rfl) (by kernel_rfl) (fun _ _ _ h => h) (Or.inl ⟨by rfl, ?_⟩) (by assumption) ?_
        rotate_left
        ·intro w hSw
         try dsimp only at hSw
         go_simp
         try with_reducible rfl
        try simp only [Act.put, sA9, sZ9, sS9]
        refine wpAnyH_take (i := 17) (oi := ⟨_, _, _, _, _, _⟩) (v := ?_) rfl (by kernel_rfl) (by kernel_rfl) (by kernel_rfl) (fun _ _ _ h => h) (Or.inl ⟨by rfl, ?_⟩) (by assumption) ?_
        rotate_left
        ·intro w hSw
         try dsimp only at hSw
         go_simp
         try with_reducible rfl
        try simp only [Act.put, sA9, sZ9, sS9]
        refine wpAnyH_take (i := 18) (oi := ⟨_, _, _, _, _, _⟩) (v := ?_) rfl (by kernel_rfl) (by kernel_rfl) (by kernel_rfl) (fun _ _ _ h => h) (Or.inl ⟨by rfl, ?_⟩) (by assumption) ?_
        rotate_left
        ·intro w hSw
         try dsimp only at hSw
         go_simp
         try with_reducible rfl
        try simp only [Act.put, sA9, sZ9, sS9]
        refine wpAnyH_take (i := 19) (oi := ⟨_, _, _, _, _, _⟩) (v := _) rfl (by kernel_rfl) (by kernel_rfl) (by kernel_rfl) (fun _ _ _ h => h) (yields_row (by rfl) _ _ rfl _ 4 rfl (fun w h => h.1) Tryz.underlying23 rfl #[.int .i64 cn.prom.1, .int .i64 cn.prom.2] (by kernel_rfl) (two_at rfl rfl)) (by assumption) ?_
        try simp only [Act.put, sA9, sZ9, sS9]
        refine wpAnyH_take (i := 20) (oi := ⟨_, _, _, _, _, _⟩) (v := ?_) rfl (by kernel_rfl) (by kernel_rfl) (by kernel_rfl) (fun _ _ _ h => h) (Or.inl ⟨by rfl, ?_⟩) (by assumption) ?_
        rotate_left
        ·intro w hSw
         try dsimp only at hSw
         go_simp
         try with_reducible rfl
        try simp only [Act.put, sA9, sZ9, sS9]
        refine wpAnyH_take (i := 21) (oi := ⟨_, _, _, _, _, _⟩) (v := _) rfl (by kernel_rfl) (by kernel_rfl) (by kernel_rfl) (fun _ _ _ h => h) (yields_row (by rfl) _ _ rfl _ 4 rfl (fun w h => h.2.1) Tryz.underlying23 rfl #[.int .i64 c.prom.1, .int .i64 c.prom.2] (by kernel_rfl) (two_at rfl rfl)) (by assumption) ?_
        try simp only [Act.put, sA9, sZ9, sS9]
        refine wpAnyH_ready (rs := [22]) (by kernel_rfl) (by simp) ?_
        refine AllReadyH.cons (o := ⟨_, _, _, _, _, _⟩) rfl (fun K hK => ?_) ?_
        rotate_left
        ·exact AllReadyH.nil
        go_simp
        go_at_call 28
        refine (S1.less_any cn.prom.1 cn.prom.2 c.prom.1 c.prom.2 w5).mono ?_
        rw [HPR.out]
        rintro e w6 ⟨rfl, h5⟩
        have h5 := below_grow (Below.refl _ _) h5
        have HB_6 : Hid (Below W.heap.size W w6) := hH (blThen HB_5.out h5)
        have Ki_6 := row_up Ki_5 Li_5 h5
        have Li_6 := lt_up Li_5 h5
        have Kc_6 := row_up Kc_5 Lc_5 h5
        have Lc_6 := lt_up Lc_5 h5
        have Kx_6 := row_up Kx_5 Lx_5 h5
        have Lx_6 := lt_up Lx_5 h5
        have HCc_6 := hH (HCc_5.out.next h5)
        have HR_6 := hH (HR_5.out.later h5)
        have HCx_6 := hH (HCx_5.out.next h5)
        have HZ_6 := hH (blThen HZ_5.out h5)
        refine hK.out _ _ (⟨Kx_6.out, Kc_6.out, Ki_6.out, HR_6.out.r 0 _ rfl⟩) (fun hHeld => ?_)
        clear hK K h5
        try simp only [Act.put, sA9, sZ9, sS9]
        refine wpAnyH_take (i := 23) (oi := ⟨_, _, _, _, _, _⟩) (v := ?_) rfl (by kernel_rfl) (by kernel_rfl) (by kernel_rfl) (fun _ _ _ h => h) (Or.inl ⟨by rfl, ?_⟩) (by assumption) ?_
        rotate_left
        ·intro w hSw
         try dsimp only at hSw
         go_simp
         try with_reducible rfl
        try simp only [Act.put, sA9, sZ9, sS9]
        refine wpAnyH_take (i := 24) (oi := ⟨_, _, _, _, _, _⟩) (v := ?_) rfl (by kernel_rfl) (by kernel_rfl) (by kernel_rfl) (fun _ _ _ h => h) (Or.inl ⟨by rfl, ?_⟩) (by assumption) ?_
        rotate_left
        ·intro w hSw
         try dsimp only at hSw
         go_simp
         try with_reducible rfl
        try simp only [Act.put, sA9, sZ9, sS9]
        refine wpAnyH_take (i := 25) (oi := ⟨_, _, _, _, _, _⟩) (v := _) rfl (by kernel_rfl) (by kernel_rfl) (by kernel_rfl) (fun _ _ _ h => h) (yields_row (by rfl) _ _ rfl _ 0 rfl (fun w h => h.1) Tryz.underlying31 rfl (cmR cn ⟨.slice xa cn.ops.length xc, lxs, lxd, lxw, lxp⟩) szCmd all_at) (by assumption) ?_
        try simp only [Act.put, sA9, sZ9, sS9]
        refine wpAnyH_take (i := 27) (oi := ⟨_, _, _, _, _, _⟩) (v := _) rfl (by kernel_rfl) (by kernel_rfl) (by kernel_rfl) (fun _ _ _ h => h) (yields_row (by rfl) _ _ rfl _ 0 rfl (fun w h => h.2.1) Tryz.underlying31 rfl (cmR c ⟨.slice oa c.ops.length oc, ls, ld, lw, lp⟩) szCmd all_at) (by assumption) ?_
        try simp only [Act.put, sA9, sZ9, sS9]
        refine wpAnyH_ready (rs := [26]) (by kernel_rfl) (by simp) ?_
        refine AllReadyH.cons (o := ⟨_, _, _, _, _, _⟩) rfl (fun K hK => ?_) ?_
        rotate_left
        ·exact AllReadyH.nil
        go_simp
        go_at_call 20
        refine (top_any cn ⟨.slice xa cn.ops.length xc, lxs, lxd, lxw, lxp⟩ w6 HCx_6.out.at).mono ?_
        rintro e w7 ⟨rfl, h5⟩
        have Ki_7 := row_up Ki_6 Li_6 h5
        have Li_7 := lt_up Li_6 h5
        have Kc_7 := row_up Kc_6 Lc_6 h5
        have Lc_7 := lt_up Lc_6 h5
        have Kx_7 := row_up Kx_6 Lx_6 h5
        have Lx_7 := lt_up Lx_6 h5
        have HCc_7 := hH (HCc_6.out.next h5)
        have HR_7 := hH (HR_6.out.later h5)
        have HCx_7 := hH (HCx_6.out.next h5)
        have HZ_7 := hH (blThen HZ_6.out h5)
        refine hK.out _ _ (⟨Kx_7.out, Kc_7.out, Ki_7.out, HR_7.out.r 0 _ rfl⟩) (fun hHeld => ?_)
        clear hK K h5
        try simp only [Act.put, sA9, sZ9, sS9]
        refine wpAnyH_ready (rs := [28]) (by kernel_rfl) (by simp) ?_
        refine AllReadyH.cons (o := ⟨_, _, _, _, _, _⟩) rfl (fun K hK => ?_) ?_
        rotate_left
        ·exact AllReadyH.nil
        go_simp
        go_at_call 20
        refine (top_any c ⟨.slice oa c.ops.length oc, ls, ld, lw, lp⟩ w7 HCc_7.out.at).mono ?_
        rintro e w8 ⟨rfl, h5⟩
        have Ki_8 := row_up Ki_7 Li_7 h5
        have Li_8 := lt_up Li_7 h5
        have Kc_8 := row_up Kc_7 Lc_7 h5
        have Lc_8 := lt_up Lc_7 h5
        have Kx_8 := row_up Kx_7 Lx_7 h5
        have Lx_8 := lt_up Lx_7 h5
        have HCc_8 := hH (HCc_7.out.next h5)
        have HR_8 := hH (HR_7.out.later h5)
        have HCx_8 := hH (HCx_7.out.next h5)
        have HZ_8 := hH (blThen HZ_7.out h5)
        refine hK.out _ _ (⟨Kx_8.out, Kc_8.out, Ki_8.out, HR_8.out.r 0 _ rfl⟩) (fun hHeld => ?_)
        clear hK K h5
        try simp only [Act.put, sA9, sZ9, sS9]
        refine wpAnyH_ready (rs := [29]) (by kernel_rfl) (by simp) ?_
        refine AllReadyH.cons (o := ⟨_, _, _, _, _, _⟩) rfl (fun K hK => ?_) ?_
        rotate_left
        ·exact AllReadyH.nil
        go_simp
        go_at_call 28
        refine (S1.less_any (topC cn).1 (topC cn).2 (topC c).1 (topC c).2 w8).mono ?_
        rw [HLT.out]
        rintro e w9 ⟨rfl, h5⟩
        have h5 := below_grow (Below.refl _ _) h5
        have Ki_9 := row_up Ki_8 Li_8 h5
        have Kc_9 := row_up Kc_8 Lc_8 h5
        have Kx_9 := row_up Kx_8 Lx_8 h5
        have HR_9 := hH (HR_8.out.later h5)
        have HZ_9 := hH (blThen HZ_8.out h5)
        refine hK.out _ _ (⟨Kx_9.out, Kc_9.out, Ki_9.out, HR_9.out.r 0 _ rfl⟩) (fun hHeld => ?_)
        clear hK K h5
        try simp only [Act.put, sA9, sZ9, sS9]
        refine wpAnyH_take (i := 30) (oi := ⟨_, _, _, _, _, _⟩) (v := ?_) rfl (by kernel_rfl) (by kernel_rfl) (by kernel_rfl) (fun _ _ _ h => h) (Or.inl ⟨by rfl, ?_⟩) (by assumption) ?_
        rotate_left
        ·intro w hSw
         try dsimp only at hSw
         go_simp
         try with_reducible rfl
        try simp only [Act.put, sA9, sZ9, sS9]
        refine wpAnyH_take (i := 31) (oi := ⟨_, _, _, _, _, _⟩) (v := undef) rfl (by kernel_rfl) (by kernel_rfl) (by kernel_rfl) (fun _ _ _ h => h) (Or.inr ⟨by rfl, rfl⟩) (by assumption) ?_
        try simp only [Act.put, sA9, sZ9, sS9]
        refine wpAnyH_take (i := 32) (oi := ⟨_, _, _, _, _, _⟩) (v := undef) rfl (by kernel_rfl) (by kernel_rfl) (by kernel_rfl) (fun _ _ _ h => h) (Or.inr ⟨by rfl, rfl⟩) (by assumption) ?_
        try simp only [Act.put, sA9, sZ9, sS9]
        refine wpAnyH_take (i := 33) (oi := ⟨_, _, _, _, _, _⟩) (v := undef) rfl (by kernel_rfl) (by kernel_rfl) (by kernel_rfl) (fun _ _ _ h => h) (Or.inr ⟨by rfl, rfl⟩) (by assumption) ?_
        try simp only [Act.put, sA9, sZ9, sS9]
        refine wpAnyH_take (i := 34) (oi := ⟨_, _, _, _, _, _⟩) (v := undef) rfl (by kernel_rfl) (by kernel_rfl) (by kernel_rfl) (fun _ _ _ h => h) (Or.inr ⟨by rfl, rfl⟩) (by assumption) ?_
        try simp only [Act.put, sA9, sZ9, sS9]
        refine wpAnyH_take (i := 35) (oi := ⟨_, _, _, _, _, _⟩) (v := undef) rfl (by kernel_rfl) (by kernel_rfl) (by kernel_rfl) (fun _ _ _ h => h) (Or.inr ⟨by rfl, rfl⟩) (by assumption) ?_
        try simp only [Act.put, sA9, sZ9, sS9]
        refine wpAnyH_take (i := 36) (oi := ⟨_, _, _, _, _, _⟩) (v := undef) rfl (by kernel_rfl) (by kernel_rfl) (by kernel_rfl) (fun _ _ _ h => h) (Or.inr ⟨by rfl, rfl⟩) (by assumption) ?_
        try simp only [Act.put, sA9, sZ9, sS9]
        refine wpAnyH_take (i := 37) (oi := ⟨_, _, _, _, _, _⟩) (v := ?_) rfl (by kernel_rfl) (by kernel_rfl) (by kernel_rfl) (fun _ _ _ h => h) (Or.inl ⟨by rfl, ?_⟩) (by assumption) ?_
        rotate_left
        ·intro w hSw
         try dsimp only at hSw
         go_simp
         try with_reducible rfl
        try simp only [Act.put, sA9, sZ9, sS9]
        refine wpAnyH_take (i := 38) (oi := ⟨_, _, _, _, _, _⟩) (v := ?_) rfl (by kernel_rfl) (by kernel_rfl) (by kernel_rfl) (fun _ _ _ h => h) (Or.inl ⟨by rfl, ?_⟩) (by assumption) ?_
        rotate_left
        ·intro w hSw
         try dsimp only at hSw
         go_simp
         try with_reducible rfl
        try simp only [Act.put, sA9, sZ9, sS9]
        refine wpAnyH_take (i := 39) (oi := ⟨_, _, _, _, _, _⟩) (v := undef) rfl (by kernel_rfl) (by kernel_rfl) (by kernel_rfl) (fun _ _ _ h => h) (Or.inr ⟨by rfl, rfl⟩) (by assumption) ?_
        try simp only [Act.put, sA9, sZ9, sS9]
        refine wpAnyH_take (i := 40) (oi := ⟨_, _, _, _, _, _⟩) (v := undef) rfl (by kernel_rfl) (by kernel_rfl) (by kernel_rfl) (fun _ _ _ h => h) (Or.inr ⟨by rfl, rfl⟩) (by assumption) ?_
        try simp only [Act.put, sA9, sZ9, sS9]
        refine wpAnyH_take (i := 41) (oi := ⟨_, _, _, _, _, _⟩) (v := undef) rfl (by kernel_rfl) (by kernel_rfl) (by kernel_rfl) (fun _ _ _ h => h) (Or.inr ⟨by rfl, rfl⟩) (by assumption) ?_
        try simp only [Act.put, sA9, sZ9, sS9]
        refine wpAnyH_take (i := 42) (oi := ⟨_, _, _, _, _, _⟩) (v := undef) rfl (by kernel_rfl) (by kernel_rfl) (by kernel_rfl) (fun _ _ _ h => h) (Or.inr ⟨by rfl, rfl⟩) (by assumption) ?_
        try simp only [Act.put, sA9, sZ9, sS9]
        refine wpAnyH_take (i := 43) (oi := ⟨_, _, _, _, _, _⟩) (v := undef) rfl (by kernel_rfl) (by kernel_rfl) (by kernel_rfl) (fun _ _ _ h => h) (Or.inr ⟨by rfl, rfl⟩) (by assumption) ?_
        try simp only [Act.put, sA9, sZ9, sS9]
        refine wpAnyH_take (i := 44) (oi := ⟨_, _, _, _, _, _⟩) (v := undef) rfl (by kernel_rfl) (by kernel_rfl) (by kernel_rfl) (fun _ _ _ h => h) (Or.inr ⟨by rfl, rfl⟩) (by assumption) ?_
        try simp only [Act.put, sA9, sZ9, sS9]
        refine wpAnyH_take (i := 45) (oi := ⟨_, _, _, _, _, _⟩) (v := ?_) rfl (by kernel_rfl) (by kernel_rfl) (by kernel_rfl) (fun _ _ _ h => h) (Or.inl ⟨by rfl, ?_⟩) (by assumption) ?_
        rotate_left
        ·intro w hSw
         try dsimp only at hSw
         go_simp
         try with_reducible rfl
        try simp only [Act.put, sA9, sZ9, sS9]
        refine wpAnyH_take (i := 46) (oi := ⟨_, _, _, _, _, _⟩) (v := ?_) rfl (by kernel_rfl) (by kernel_rfl) (by kernel_rfl) (fun _ _ _ h => h) (Or.inl ⟨by rfl, ?_⟩) (by assumption) ?_
        rotate_left
        ·intro w hSw
         try dsimp only at hSw
         go_simp
         try with_reducible rfl
        try simp only [Act.put, sA9, sZ9, sS9]
        refine wpAnyH_done (by kernel_rfl) ?_ _
        go_wp2_with fail
        go_meet
        exact ⟨rfl, HZ_9.out⟩
       ·have HLT := hH hlt2
        clear hlt2
        by_cases hk3 : q.kind = 3
        ·have e3 : (q.kind == 3) = true := by simpa using hk3
         have e3n : (q.kind != 3) = false := by simpa using hk3
         refine wp_region_held_drew (S := fun Y => Y.heap[px]? = some (.cells (cmR cn ⟨.slice xa cn.ops.length xc, lxs, lxd, lxw, lxp⟩) 31 (0, 0)) ∧ Y.heap[b5]? = some (.cells (cmR c ⟨.slice oa c.ops.length oc, ls, ld, lw, lp⟩) 31 (0, 0)) ∧ Y.heap[W.heap.size]? = some (.cells #[.int .i64 i1, .int .i64 i2] 23 (0, 0)) ∧ Y.cell? ⟨g, o + k * 14, none⟩ = some (.int .i64 q.kind)) (by kernel_rfl) (⟨Kx_3.out, Kc_3.out, Ki_3.out, HR_3.out.r 0 _ rfl⟩) (fun hHeld => ?_)
         have h5 : Below w3.heap.size w3 w3.drew := (Below.refl _ _).drew
         have HB_4 : Hid (Below W.heap.size W w3.drew) := hH (blThen HB_3.out h5)
         have Ki_4 := row_up Ki_3 Li_3 h5
         have Li_4 := lt_up Li_3 h5
         have Kc_4 := row_up Kc_3 Lc_3 h5
         have Lc_4 := lt_up Lc_3 h5
         have Kx_4 := row_up Kx_3 Lx_3 h5
         have Lx_4 := lt_up Lx_3 h5
         have HCc_4 := hH (HCc_3.out.next h5)
         have HR_4 := hH (HR_3.out.later h5)
         have HCx_4 := hH (HCx_3.out.next h5)
         have HZ_4 := hH (blThen HZ_3.out h5)
         clear h5
         generalize w3.drew = w4 at *
         refine wpAnyH_take (i := 0) (oi := ⟨_, _, _, _, _, _⟩) (v := _) rfl (by kernel_rfl) (by kernel_rfl) (by kernel_rfl) (fun _ _ _ h => h) (yields_row (by rfl) _ _ rfl _ 0 rfl (fun w h => h.1) Tryz.underlying31 rfl (cmR cn ⟨.slice xa cn.ops.length xc, lxs, lxd, lxw, lxp⟩) szCmd all_at) (by assumption) ?_
         try simp only [Act.put, sA9, sZ9, sS9]
         refine wpAnyH_ready (rs := [1]) (by kernel_rfl) (by simp) ?_
         refine AllReadyH.cons (o := ⟨_, _, _, _, _, _⟩) rfl (fun K hK => ?_) ?_
         rotate_left
         ·exact AllReadyH.nil
         go_simp
         go_at_call 14
         refine (check9_any cn ⟨.slice xa cn.ops.length xc, lxs, lxd, lxw, lxp⟩ w4 HCx_4.out.at HFN.out).mono ?_
         rw [HCK.out]
         rintro e w5 ⟨rfl, h5⟩
         have HB_5 : Hid (Below W.heap.size W w5) := hH (blThen HB_4.out h5)
         have Ki_5 := row_up Ki_4 Li_4 h5
         have Li_5 := lt_up Li_4 h5
         have Kc_5 := row_up Kc_4 Lc_4 h5
         have Lc_5 := lt_up Lc_4 h5
         have Kx_5 := row_up Kx_4 Lx_4 h5
         have Lx_5 := lt_up Lx_4 h5
         have HCc_5 := hH (HCc_4.out.next h5)
         have HR_5 := hH (HR_4.out.later h5)
         have HCx_5 := hH (HCx_4.out.next h5)
         have HZ_5 := hH (blThen HZ_4.out h5)
         refine hK.out _ _ (⟨Kx_5.out, Kc_5.out, Ki_5.out, HR_5.out.r 0 _ rfl⟩) (fun hHeld => ?_)
         clear hK K h5
         try simp only [Act.put, sA9, sZ9, sS9]
         refine wpAnyH_ready (rs := [2]) (by kernel_rfl) (by simp) ?_
         refine AllReadyH.cons (o := ⟨_, _, _, _, _, _⟩) rfl (fun K hK => ?_) ?_
         rotate_left
         ·exact AllReadyH.nil
         go_simp
         go_at_call 13
         refine (num9_any _ _).mono ?_
         rintro e wq ⟨rfl, rfl⟩
         refine hK.out _ _ (⟨Kx_5.out, Kc_5.out, Ki_5.out, HR_5.out.r 0 _ rfl⟩) (fun hHeld => ?_)
         clear hK K
         try simp only [Act.put, sA9, sZ9, sS9]
         refine wpAnyH_take (i := 3) (oi := ⟨_, _, _, _, _, _⟩) (v := ?_) rfl (by kernel_rfl) (by kernel_rfl) (by kernel_rfl) (fun _ _ _ h => h) (Or.inl ⟨by rfl, ?_⟩) (by assumption) ?_
         rotate_left
         ·intro w hSw
          try dsimp only at hSw
          go_simp
          try with_reducible rfl
         try simp only [Act.put, sA9, sZ9, sS9]
         refine wpAnyH_take (i := 4) (oi := ⟨_, _, _, _, _, _⟩) (v := ?_) rfl (by kernel_rfl) (by kernel_rfl) (by kernel_rfl) (fun _ _ _ h => h) (Or.inl ⟨by rfl, ?_⟩) (by assumption) ?_
         rotate_left
         ·intro w hSw
          try dsimp only at hSw
          go_simp
          try with_reducible rfl
         try simp only [Act.put, sA9, sZ9, sS9]
         refine wpAnyH_take (i := 5) (oi := ⟨_, _, _, _, _, _⟩) (v := ?_) rfl (by kernel_rfl) (by kernel_rfl) (by kernel_rfl) (fun _ _ _ h => h) (Or.inl ⟨by rfl, ?_⟩) (by assumption) ?_
         rotate_left
         ·intro w hSw
          try dsimp only at hSw
          go_simp
          try with_reducible rfl
         try simp only [Act.put, sA9, sZ9, sS9]
         refine wpAnyH_take (i := 6) (oi := ⟨_, _, _, _, _, _⟩) (v := _) rfl (by kernel_rfl) (by kernel_rfl) (by kernel_rfl) (fun _ _ _ h => h) (yields_row (by rfl) _ _ rfl _ 0 rfl (fun w h => h.1) Tryz.underlying23 rfl #[.int .i64 cn.id.1, .int .i64 cn.id.2] (by kernel_rfl) (two_at rfl rfl)) (by assumption) ?_
         try simp only [Act.put, sA9, sZ9, sS9]
         refine wpAnyH_take (i := 7) (oi := ⟨_, _, _, _, _, _⟩) (v := _) rfl (by kernel_rfl) (by kernel_rfl) (by kernel_rfl) (fun _ _ _ h => h) (yields_row (by rfl) _ _ rfl _ 0 rfl (fun w h => h.2.2.1) Tryz.underlying23 rfl #[.int .i64 i1, .int .i64 i2] (by kernel_rfl) (two_at rfl rfl)) (by assumption) ?_
         try simp only [Act.put, sA9, sZ9, sS9]
         refine wpAnyH_take (i := 8) (oi := ⟨_, _, _, _, _, _⟩) (v := ?_) rfl (by kernel_rfl) (by kernel_rfl) (by kernel_rfl) (fun _ _ _ h => h) (Or.inl ⟨by rfl, ?_⟩) (by assumption) ?_
         rotate_left
         ·intro w hSw
          try dsimp only at hSw
          go_simp
          try with_reducible rfl
         try simp only [Act.put, sA9, sZ9, sS9]
         refine wpAnyH_take (i := 9) (oi := ⟨_, _, _, _, _, _⟩) (v := ?_) rfl (by kernel_rfl) (by kernel_rfl) (by kernel_rfl) (fun _ _ _ h => h) (Or.inl ⟨by rfl, ?_⟩) (by assumption) ?_
         rotate_left
         ·intro w hSw
          try dsimp only at hSw
          go_simp
          try with_reducible rfl
         try simp only [Act.put, sA9, sZ9, sS9]
         refine wpAnyH_take (i := 10) (oi := ⟨_, _, _, _, _, _⟩) (v := ?_) rfl (by kernel_rfl) (by kernel_rfl) (by kernel_rfl) (fun _ _ _ h => h) (Or.inl ⟨by rfl, ?_⟩) (by assumption) ?_
         rotate_left
         ·intro w hSw
          try dsimp only at hSw
          go_simp
          try with_reducible rfl
         try simp only [Act.put, sA9, sZ9, sS9]
         refine wpAnyH_take (i := 11) (oi := ⟨_, _, _, _, _, _⟩) (v := ?_) rfl (by kernel_rfl) (by kernel_rfl) (by kernel_rfl) (fun _ _ _ h => h) (Or.inl ⟨by rfl, ?_⟩) (by assumption) ?_
         rotate_left
         ·intro w hSw
          try dsimp only at hSw
          go_simp
          try with_reducible rfl
         try simp only [Act.put, sA9, sZ9, sS9]
         refine wpAnyH_take (i := 12) (oi := ⟨_, _, _, _, _, _⟩) (v := _) rfl (by kernel_rfl) (by kernel_rfl) (by kernel_rfl) (fun _ _ _ h => h) (yields_one (by rfl) _ _ rfl _ 3 rfl (fun w h => h.1) Tryz.underlying3 rfl (v := .int .i64 cn.phase) rfl) (by assumption) ?_
         try simp only [Act.put, sA9, sZ9, sS9]
         refine wpAnyH_take (i := 13) (oi := ⟨_, _, _, _, _, _⟩) (v := ?_) rfl (by kernel_rfl) (by kernel_rfl) (by kernel_rfl) (fun _ _ _ h => h) (Or.inl ⟨by rfl, ?_⟩) (by assumption) ?_
         rotate_left
         ·intro w hSw
          try dsimp only at hSw
          go_simp
          try with_reducible rfl
         try simp only [Act.put, sA9, sZ9, sS9]
         refine wpAnyH_take (i := 14) (oi := ⟨_, _, _, _, _, _⟩) (v := _) rfl (by kernel_rfl) (by kernel_rfl) (by kernel_rfl) (fun _ _ _ h => h) (yields_one (by rfl) _ _ rfl _ 3 rfl (fun w h => h.2.1) Tryz.underlying3 rfl (v := .int .i64 c.phase) rfl) (by assumption) ?_
         try simp only [Act.put, sA9, sZ9, sS9]
         refine wpAnyH_take (i := 15) (oi := ⟨_, _, _, _, _, _⟩) (v := ?_) rfl (by kernel_rfl) (by kernel_rfl) (by kernel_rfl) (fun _ _ _ h => h) (Or.inl ⟨by rfl, ?_⟩) (by assumption) ?_
         rotate_left
         ·intro w hSw
          try dsimp only at hSw
          go_simp
          try with_reducible rfl
         try simp only [Act.put, sA9, sZ9, sS9]
         refine wpAnyH_take (i := 16) (oi := ⟨_, _, _, _, _, _⟩) (v := ?_) rfl (by kernel_rfl) (by kernel_rfl) (by kernel_rfl) (fun _ _ _ h => h) (Or.inl ⟨by rfl, ?_⟩) (by assumption) ?_
         rotate_left
         ·intro w hSw
          try dsimp only at hSw
          go_simp
          try with_reducible rfl
         try simp only [Act.put, sA9, sZ9, sS9]
         refine wpAnyH_take (i := 17) (oi := ⟨_, _, _, _, _, _⟩) (v := ?_) rfl (by kernel_rfl) (by kernel_rfl) (by kernel_rfl) (fun _ _ _ h => h) (Or.inl ⟨by rfl, ?_⟩) (by assumption) ?_
         rotate_left
         ·intro w hSw
          try dsimp only at hSw
          go_simp
          try with_reducible rfl
         try simp only [Act.put, sA9, sZ9, sS9]
         refine wpAnyH_take (i := 18) (oi := ⟨_, _, _, _, _, _⟩) (v := ?_) rfl (by kernel_rfl) (by kernel_rfl) (by kernel_rfl) (fun _ _ _ h => h) (Or.inl ⟨by rfl, ?_⟩) (by assumption) ?_
         rotate_left
         ·intro w hSw
          try dsimp only at hSw
          go_simp
          try with_reducible rfl
         try simp only [Act.put, sA9, sZ9, sS9]
         refine wpAnyH_take (i := 19) (oi := ⟨_, _, _, _, _, _⟩) (v := _) rfl (by kernel_rfl) (by kernel_rfl) (by kernel_rfl) (fun _ _ _ h => h) (yields_row (by rfl) _ _ rfl _ 4 rfl (fun w h => h.1) Tryz.underlying23 rfl #[.int .i64 cn.prom.1, .int .i64 cn.prom.2] (by kernel_rfl) (two_at rfl rfl)) (by assumption) ?_
         try simp only [Act.put, sA9, sZ9, sS9]
         refine wpAnyH_take (i := 20) (oi := ⟨_, _, _, _, _, _⟩) (v := ?_) rfl (by kernel_rfl) (by kernel_rfl) (by kernel_rfl) (fun _ _ _ h => h) (Or.inl ⟨by rfl, ?_⟩) (by assumption) ?_
         rotate_left
         ·intro w hSw
          try dsimp only at hSw
          go_simp
          try with_reducible rfl
         try simp only [Act.put, sA9, sZ9, sS9]
         refine wpAnyH_take (i := 21) (oi := ⟨_, _, _, _, _, _⟩) (v := _) rfl (by kernel_rfl) (by kernel_rfl) (by kernel_rfl) (fun _ _ _ h => h) (yields_row (by rfl) _ _ rfl _ 4 rfl (fun w h => h.2.1) Tryz.underlying23 rfl #[.int .i64 c.prom.1, .int .i64 c.prom.2] (by kernel_rfl) (two_at rfl rfl)) (by assumption) ?_
         try simp only [Act.put, sA9, sZ9, sS9]
         refine wpAnyH_ready (rs := [22]) (by kernel_rfl) (by simp) ?_
         refine AllReadyH.cons (o := ⟨_, _, _, _, _, _⟩) rfl (fun K hK => ?_) ?_
         rotate_left
         ·exact AllReadyH.nil
         go_simp
         go_at_call 28
         refine (S1.less_any cn.prom.1 cn.prom.2 c.prom.1 c.prom.2 w5).mono ?_
         rw [HPR.out]
         rintro e w6 ⟨rfl, h5⟩
         have h5 := below_grow (Below.refl _ _) h5
         have HB_6 : Hid (Below W.heap.size W w6) := hH (blThen HB_5.out h5)
         have Ki_6 := row_up Ki_5 Li_5 h5
         have Li_6 := lt_up Li_5 h5
         have Kc_6 := row_up Kc_5 Lc_5 h5
         have Lc_6 := lt_up Lc_5 h5
         have Kx_6 := row_up Kx_5 Lx_5 h5
         have Lx_6 := lt_up Lx_5 h5
         have HCc_6 := hH (HCc_5.out.next h5)
         have HR_6 := hH (HR_5.out.later h5)
         have HCx_6 := hH (HCx_5.out.next h5)
         have HZ_6 := hH (blThen HZ_5.out h5)
         refine hK.out _ _ (⟨Kx_6.out, Kc_6.out, Ki_6.out, HR_6.out.r 0 _ rfl⟩) (fun hHeld => ?_)
         clear hK K h5
         try simp only [Act.put, sA9, sZ9, sS9]
         refine wpAnyH_take (i := 23) (oi := ⟨_, _, _, _, _, _⟩) (v := ?_) rfl (by kernel_rfl) (by kernel_rfl) (by kernel_rfl) (fun _ _ _ h => h) (Or.inl ⟨by rfl, ?_⟩) (by assumption) ?_
         rotate_left
         ·intro w hSw
          try dsimp only at hSw
          go_simp
          try with_reducible rfl
         try simp only [Act.put, sA9, sZ9, sS9]
         refine wpAnyH_take (i := 24) (oi := ⟨_, _, _, _, _, _⟩) (v := ?_) rfl (by kernel_rfl) (by kernel_rfl) (by kernel_rfl) (fun _ _ _ h => h) (Or.inl ⟨by rfl, ?_⟩) (by assumption) ?_
         rotate_left
         ·intro w hSw
          try dsimp only at hSw
          go_simp
          try with_reducible rfl
         try simp only [Act.put, sA9, sZ9, sS9]
         refine wpAnyH_take (i := 25) (oi := ⟨_, _, _, _, _, _⟩) (v := _) rfl (by kernel_rfl) (by kernel_rfl) (by kernel_rfl) (fun _ _ _ h => h) (yields_row (by rfl) _ _ rfl _ 0 rfl (fun w h => h.1) Tryz.underlying31 rfl (cmR cn ⟨.slice xa cn.ops.length xc, lxs, lxd, lxw, lxp⟩) szCmd all_at) (by assumption) ?_
         try simp only [Act.put, sA9, sZ9, sS9]
         refine wpAnyH_take (i := 27) (oi := ⟨_, _, _, _, _, _⟩) (v := _) rfl (by kernel_rfl) (by kernel_rfl) (by kernel_rfl) (fun _ _ _ h => h) (yields_row (by rfl) _ _ rfl _ 0 rfl (fun w h => h.2.1) Tryz.underlying31 rfl (cmR c ⟨.slice oa c.ops.length oc, ls, ld, lw, lp⟩) szCmd all_at) (by assumption) ?_
         try simp only [Act.put, sA9, sZ9, sS9]
         refine wpAnyH_ready (rs := [26]) (by kernel_rfl) (by simp) ?_
         refine AllReadyH.cons (o := ⟨_, _, _, _, _, _⟩) rfl (fun K hK => ?_) ?_
         rotate_left
         ·exact AllReadyH.nil
         go_simp
         go_at_call 20
         refine (top_any cn ⟨.slice xa cn.ops.length xc, lxs, lxd, lxw, lxp⟩ w6 HCx_6.out.at).mono ?_
         rintro e w7 ⟨rfl, h5⟩
         have Ki_7 := row_up Ki_6 Li_6 h5
         have Li_7 := lt_up Li_6 h5
         have Kc_7 := row_up Kc_6 Lc_6 h5
         have Lc_7 := lt_up Lc_6 h5
         have Kx_7 := row_up Kx_6 Lx_6 h5
         have Lx_7 := lt_up Lx_6 h5
         have HCc_7 := hH (HCc_6.out.next h5)
         have HR_7 := hH (HR_6.out.later h5)
         have HCx_7 := hH (HCx_6.out.next h5)
         have HZ_7 := hH (blThen HZ_6.out h5)
         refine hK.out _ _ (⟨Kx_7.out, Kc_7.out, Ki_7.out, HR_7.out.r 0 _ rfl⟩) (fun hHeld => ?_)
         clear hK K h5
         try simp only [Act.put, sA9, sZ9, sS9]
         refine wpAnyH_ready (rs := [28]) (by kernel_rfl) (by simp) ?_
         refine AllReadyH.cons (o := ⟨_, _, _, _, _, _⟩) rfl (fun K hK => ?_) ?_
         rotate_left
         ·exact AllReadyH.nil
         go_simp
         go_at_call 20
         refine (top_any c ⟨.slice oa c.ops.length oc, ls, ld, lw, lp⟩ w7 HCc_7.out.at).mono ?_
         rintro e w8 ⟨rfl, h5⟩
         have Ki_8 := row_up Ki_7 Li_7 h5
         have Li_8 := lt_up Li_7 h5
         have Kc_8 := row_up Kc_7 Lc_7 h5
         have Lc_8 := lt_up Lc_7 h5
         have Kx_8 := row_up Kx_7 Lx_7 h5
         have Lx_8 := lt_up Lx_7 h5
         have HCc_8 := hH (HCc_7.out.next h5)
         have HR_8 := hH (HR_7.out.later h5)
         have HCx_8 := hH (HCx_7.out.next h5)
         have HZ_8 := hH (blThen HZ_7.out h5)
         refine hK.out _ _ (⟨Kx_8.out, Kc_8.out, Ki_8.out, HR_8.out.r 0 _ rfl⟩) (fun hHeld => ?_)
         clear hK K h5
         try simp only [Act.put, sA9, sZ9, sS9]
         refine wpAnyH_ready (rs := [29]) (by kernel_rfl) (by simp) ?_
         refine AllReadyH.cons (o := ⟨_, _, _, _, _, _⟩) rfl (fun K hK => ?_) ?_
         rotate_left
         ·exact AllReadyH.nil
         go_simp
         go_at_call 28
         refine (S1.less_any (topC cn).1 (topC cn).2 (topC c).1 (topC c).2 w8).mono ?_
         rw [HLT.out]
         rintro e w9 ⟨rfl, h5⟩
         have h5 := below_grow (Below.refl _ _) h5
         have Ki_9 := row_up Ki_8 Li_8 h5
         have Kc_9 := row_up Kc_8 Lc_8 h5
         have Kx_9 := row_up Kx_8 Lx_8 h5
         have HR_9 := hH (HR_8.out.later h5)
         have HZ_9 := hH (blThen HZ_8.out h5)
         refine hK.out _ _ (⟨Kx_9.out, Kc_9.out, Ki_9.out, HR_9.out.r 0 _ rfl⟩) (fun hHeld => ?_)
         clear hK K h5
         try simp only [Act.put, sA9, sZ9, sS9]
         refine wpAnyH_take (i := 30) (oi := ⟨_, _, _, _, _, _⟩) (v := ?_) rfl (by kernel_rfl) (by kernel_rfl) (by kernel_rfl) (fun _ _ _ h => h) (Or.inl ⟨by rfl, ?_⟩) (by assumption) ?_
         rotate_left
         ·intro w hSw
          try dsimp only at hSw
          go_simp
          try with_reducible rfl
         try simp only [Act.put, sA9, sZ9, sS9]
         refine wpAnyH_take (i := 31) (oi := ⟨_, _, _, _, _, _⟩) (v := ?_) rfl (by kernel_rfl) (by kernel_rfl) (by kernel_rfl) (fun _ _ _ h => h) (Or.inl ⟨by rfl, ?_⟩) (by assumption) ?_
         rotate_left
         ·intro w hSw
          try dsimp only at hSw
          go_simp
          try with_reducible rfl
         try simp only [Act.put, sA9, sZ9, sS9]
         refine wpAnyH_take (i := 32) (oi := ⟨_, _, _, _, _, _⟩) (v := ?_) rfl (by kernel_rfl) (by kernel_rfl) (by kernel_rfl) (fun _ _ _ h => h) (Or.inl ⟨by rfl, ?_⟩) (by assumption) ?_
         rotate_left
         ·intro w hSw
          try dsimp only at hSw
          go_simp
          try with_reducible rfl
         try simp only [Act.put, sA9, sZ9, sS9]
         refine wpAnyH_take (i := 33) (oi := ⟨_, _, _, _, _, _⟩) (v := ?_) rfl (by kernel_rfl) (by kernel_rfl) (by kernel_rfl) (fun _ _ _ h => h) (Or.inl ⟨by rfl, ?_⟩) (by assumption) ?_
         rotate_left
         ·intro w hSw
          try dsimp only at hSw
          go_simp
          try with_reducible rfl
         try simp only [Act.put, sA9, sZ9, sS9]
         refine wpAnyH_take (i := 34) (oi := ⟨_, _, _, _, _, _⟩) (v := ?_) rfl (by kernel_rfl) (by kernel_rfl) (by kernel_rfl) (fun _ _ _ h => h) (Or.inl ⟨by rfl, ?_⟩) (by assumption) ?_
         rotate_left
         ·intro w hSw
          try dsimp only at hSw
          go_simp
          try with_reducible rfl
         try simp only [Act.put, sA9, sZ9, sS9]
         refine wpAnyH_take (i := 35) (oi := ⟨_, _, _, _, _, _⟩) (v := ?_) rfl (by kernel_rfl) (by kernel_rfl) (by kernel_rfl) (fun _ _ _ h => h) (Or.inl ⟨by rfl, ?_⟩) (by assumption) ?_
         rotate_left
         ·intro w hSw
          try dsimp only at hSw
          go_simp
          try with_reducible rfl
         try simp only [Act.put, sA9, sZ9, sS9]
         refine wpAnyH_take (i := 36) (oi := ⟨_, _, _, _, _, _⟩) (v := ?_) rfl (by kernel_rfl) (by kernel_rfl) (by kernel_rfl) (fun _ _ _ h => h) (Or.inl ⟨by rfl, ?_⟩) (by assumption) ?_
         rotate_left
         ·intro w hSw
          try dsimp only at hSw
          go_simp
          try with_reducible rfl
         try simp only [Act.put, sA9, sZ9, sS9]
         refine wpAnyH_take (i := 37) (oi := ⟨_, _, _, _, _, _⟩) (v := ?_) rfl (by kernel_rfl) (by kernel_rfl) (by kernel_rfl) (fun _ _ _ h => h) (Or.inl ⟨by rfl, ?_⟩) (by assumption) ?_
         rotate_left
         ·intro w hSw
          try dsimp only at hSw
          go_simp
          try with_reducible rfl
         try simp only [Act.put, sA9, sZ9, sS9]
         refine wpAnyH_take (i := 38) (oi := ⟨_, _, _, _, _, _⟩) (v := ?_) rfl (by kernel_rfl) (by kernel_rfl) (by kernel_rfl) (fun _ _ _ h => h) (Or.inl ⟨by rfl, ?_⟩) (by assumption) ?_
         rotate_left
         ·intro w hSw
          try dsimp only at hSw
          go_simp
          try with_reducible rfl
         try simp only [Act.put, sA9, sZ9, sS9]
         refine wpAnyH_take (i := 39) (oi := ⟨_, _, _, _, _, _⟩) (v := undef) rfl (by kernel_rfl) (by kernel_rfl) (by kernel_rfl) (fun _ _ _ h => h) (Or.inr ⟨by rfl, rfl⟩) (by assumption) ?_
         try simp only [Act.put, sA9, sZ9, sS9]
         refine wpAnyH_take (i := 40) (oi := ⟨_, _, _, _, _, _⟩) (v := undef) rfl (by kernel_rfl) (by kernel_rfl) (by kernel_rfl) (fun _ _ _ h => h) (Or.inr ⟨by rfl, rfl⟩) (by assumption) ?_
         try simp only [Act.put, sA9, sZ9, sS9]
         refine wpAnyH_take (i := 41) (oi := ⟨_, _, _, _, _, _⟩) (v := undef) rfl (by kernel_rfl) (by kernel_rfl) (by kernel_rfl) (fun _ _ _ h => h) (Or.inr ⟨by rfl, rfl⟩) (by assumption) ?_
         try simp only [Act.put, sA9, sZ9, sS9]
         refine wpAnyH_take (i := 42) (oi := ⟨_, _, _, _, _, _⟩) (v := undef) rfl (by kernel_rfl) (by kernel_rfl) (by kernel_rfl) (fun _ _ _ h => h) (Or.inr ⟨by rfl, rfl⟩) (by assumption) ?_
         try simp only [Act.put, sA9, sZ9, sS9]
         refine wpAnyH_take (i := 43) (oi := ⟨_, _, _, _, _, _⟩) (v := undef) rfl (by kernel_rfl) (by kernel_rfl) (by kernel_rfl) (fun _ _ _ h => h) (Or.inr ⟨by rfl, rfl⟩) (by assumption) ?_
         try simp only [Act.put, sA9, sZ9, sS9]
         refine wpAnyH_take (i := 44) (oi := ⟨_, _, _, _, _, _⟩) (v := undef) rfl (by kernel_rfl) (by kernel_rfl) (by kernel_rfl) (fun _ _ _ h => h) (Or.inr ⟨by rfl, rfl⟩) (by assumption) ?_
         try simp only [Act.put, sA9, sZ9, sS9]
         refine wpAnyH_take (i := 45) (oi := ⟨_, _, _, _, _, _⟩) (v := ?_) rfl (by kernel_rfl) (by kernel_rfl) (by kernel_rfl) (fun _ _ _ h => h) (Or.inl ⟨by rfl, ?_⟩) (by assumption) ?_
         rotate_left
         ·intro w hSw
          try dsimp only at hSw
          go_simp
          try with_reducible rfl
         try simp only [Act.put, sA9, sZ9, sS9]
         refine wpAnyH_take (i := 46) (oi := ⟨_, _, _, _, _, _⟩) (v := ?_) rfl (by kernel_rfl) (by kernel_rfl) (by kernel_rfl) (fun _ _ _ h => h) (Or.inl ⟨by rfl, ?_⟩) (by assumption) ?_
         rotate_left
         ·intro w hSw
          try dsimp only at hSw
          go_simp
          try with_reducible rfl
         try simp only [Act.put, sA9, sZ9, sS9]
         refine wpAnyH_done (by kernel_rfl) ?_ _
         go_wp2_with fail
         go_meet
         exact ⟨rfl, HZ_9.out⟩
        ·have e3 : (q.kind == 3) = false := by simpa using hk3
         have e3n : (q.kind != 3) = true := by simpa using hk3
         by_cases hk4 : q.kind = 4
         ·have e4 : (q.kind == 4) = true := by simpa using hk4
          have e4n : (q.kind != 4) = false := by simpa using hk4
          refine wp_region_held_drew (S := fun Y => Y.heap[px]? = some (.cells (cmR cn ⟨.slice xa cn.ops.length xc, lxs, lxd, lxw, lxp⟩) 31 (0, 0)) ∧ Y.heap[b5]? = some (.cells (cmR c ⟨.slice oa c.ops.length oc, ls, ld, lw, lp⟩) 31 (0, 0)) ∧ Y.heap[W.heap.size]? = some (.cells #[.int .i64 i1, .int .i64 i2] 23 (0, 0)) ∧ Y.cell? ⟨g, o + k * 14, none⟩ = some (.int .i64 q.kind)) (by kernel_rfl) (⟨Kx_3.out, Kc_3.out, Ki_3.out, HR_3.out.r 0 _ rfl⟩) (fun hHeld => ?_)
          have h5 : Below w3.heap.size w3 w3.drew := (Below.refl _ _).drew
          have HB_4 : Hid (Below W.heap.size W w3.drew) := hH (blThen HB_3.out h5)
          have Ki_4 := row_up Ki_3 Li_3 h5
          have Li_4 := lt_up Li_3 h5
          have Kc_4 := row_up Kc_3 Lc_3 h5
          have Lc_4 := lt_up Lc_3 h5
          have Kx_4 := row_up Kx_3 Lx_3 h5
          have Lx_4 := lt_up Lx_3 h5
          have HCc_4 := hH (HCc_3.out.next h5)
          have HR_4 := hH (HR_3.out.later h5)
          have HCx_4 := hH (HCx_3.out.next h5)
          have HZ_4 := hH (blThen HZ_3.out h5)
          clear h5
          generalize w3.drew = w4 at *
          refine wpAnyH_take (i := 0) (oi := ⟨_, _, _, _, _, _⟩) (v := _) rfl (by kernel_rfl) (by kernel_rfl) (by kernel_rfl) (fun _ _ _ h => h) (yields_row (by rfl) _ _ rfl _ 0 rfl (fun w h => h.1) Tryz.underlying31 rfl (cmR cn ⟨.slice xa cn.ops.length xc, lxs, lxd, lxw, lxp⟩) szCmd all_at) (by assumption) ?_
          try simp only [Act.put, sA9, sZ9, sS9]
          refine wpAnyH_ready (rs := [1]) (by kernel_rfl) (by simp) ?_
          refine AllReadyH.cons (o := ⟨_, _, _, _, _, _⟩) rfl (fun K hK => ?_) ?_
          rotate_left
          ·exact AllReadyH.nil
          go_simp
          go_at_call 14
          refine (check9_any cn ⟨.slice xa cn.ops.length xc, lxs, lxd, lxw, lxp⟩ w4 HCx_4.out.at HFN.out).mono ?_
          rw [HCK.out]
          rintro e w5 ⟨rfl, h5⟩
          have HB_5 : Hid (Below W.heap.size W w5) := hH (blThen HB_4.out h5)
          have Ki_5 := row_up Ki_4 Li_4 h5
          have Li_5 := lt_up Li_4 h5
          have Kc_5 := row_up Kc_4 Lc_4 h5
          have Lc_5 := lt_up Lc_4 h5
          have Kx_5 := row_up Kx_4 Lx_4 h5
          have Lx_5 := lt_up Lx_4 h5
          have HCc_5 := hH (HCc_4.out.next h5)
          have HR_5 := hH (HR_4.out.later h5)
          have HCx_5 := hH (HCx_4.out.next h5)
          have HZ_5 := hH (blThen HZ_4.out h5)
          refine hK.out _ _ (⟨Kx_5.out, Kc_5.out, Ki_5.out, HR_5.out.r 0 _ rfl⟩) (fun hHeld => ?_)
          clear hK K h5
          try simp only [Act.put, sA9, sZ9, sS9]
          refine wpAnyH_ready (rs := [2]) (by kernel_rfl) (by simp) ?_
          refine AllReadyH.cons (o := ⟨_, _, _, _, _, _⟩) rfl (fun K hK => ?_) ?_
          rotate_left
          ·exact AllReadyH.nil
          go_simp
          go_at_call 13
          refine (num9_any _ _).mono ?_
          rintro e wq ⟨rfl, rfl⟩
          refine hK.out _ _ (⟨Kx_5.out, Kc_5.out, Ki_5.out, HR_5.out.r 0 _ rfl⟩) (fun hHeld => ?_)
          clear hK K
          try simp only [Act.put, sA9, sZ9, sS9]
          refine wpAnyH_take (i := 3) (oi := ⟨_, _, _, _, _, _⟩) (v := ?_) rfl (by kernel_rfl) (by kernel_rfl) (by kernel_rfl) (fun _ _ _ h => h) (Or.inl ⟨by rfl, ?_⟩) (by assumption) ?_
          rotate_left
          ·intro w hSw
           try dsimp only at hSw
           go_simp
           try with_reducible rfl
          try simp only [Act.put, sA9, sZ9, sS9]
          refine wpAnyH_take (i := 4) (oi := ⟨_, _, _, _, _, _⟩) (v := ?_) rfl (by kernel_rfl) (by kernel_rfl) (by kernel_rfl) (fun _ _ _ h => h) (Or.inl ⟨by rfl, ?_⟩) (by assumption) ?_
          rotate_left
          ·intro w hSw
           try dsimp only at hSw
           go_simp
           try with_reducible rfl
          try simp only [Act.put, sA9, sZ9, sS9]
          refine wpAnyH_take (i := 5) (oi := ⟨_, _, _, _, _, _⟩) (v := ?_) rfl (by kernel_rfl) (by kernel_rfl) (by kernel_rfl) (fun _ _ _ h => h) (Or.inl ⟨by rfl, ?_⟩) (by assumption) ?_
          rotate_left
          ·intro w hSw
           try dsimp only at hSw
           go_simp
           try with_reducible rfl
          try simp only [Act.put, sA9, sZ9, sS9]
          refine wpAnyH_take (i := 6) (oi := ⟨_, _, _, _, _, _⟩) (v := _) rfl (by kernel_rfl) (by kernel_rfl) (by kernel_rfl) (fun _ _ _ h => h) (yields_row (by rfl) _ _ rfl _ 0 rfl (fun w h => h.1) Tryz.underlying23 rfl #[.int .i64 cn.id.1, .int .i64 cn.id.2] (by kernel_rfl) (two_at rfl rfl)) (by assumption) ?_
          try simp only [Act.put, sA9, sZ9, sS9]
          refine wpAnyH_take (i := 7) (oi := ⟨_, _, _, _, _, _⟩) (v := _) rfl (by kernel_rfl) (by kernel_rfl) (by kernel_rfl) (fun _ _ _ h => h) (yields_row (by rfl) _ _ rfl _ 0 rfl (fun w h => h.2.2.1) Tryz.underlying23 rfl #[.int .i64 i1, .int .i64 i2] (by kernel_rfl) (two_at rfl rfl)) (by assumption) ?_
          try simp only [Act.put, sA9, sZ9, sS9]
          refine wpAnyH_take (i := 8) (oi := ⟨_, _, _, _, _, _⟩) (v := ?_) rfl (by kernel_rfl) (by kernel_rfl) (by kernel_rfl) (fun _ _ _ h => h) (Or.inl ⟨by rfl, ?_⟩) (by assumption) ?_
          rotate_left
          ·intro w hSw
           try dsimp only at hSw
           go_simp
           try with_reducible rfl
          try simp only [Act.put, sA9, sZ9, sS9]
          refine wpAnyH_take (i := 9) (oi := ⟨_, _, _, _, _, _⟩) (v := ?_) rfl (by kernel_rfl) (by kernel_rfl) (by kernel_rfl) (fun _ _ _ h => h) (Or.inl ⟨by rfl, ?_⟩) (by assumption) ?_
          rotate_left
          ·intro w hSw
           try dsimp only at hSw
           go_simp
           try with_reducible rfl
          try simp only [Act.put, sA9, sZ9, sS9]
          refine wpAnyH_take (i := 10) (oi := ⟨_, _, _, _, _, _⟩) (v := ?_) rfl (by kernel_rfl) (by kernel_rfl) (by kernel_rfl) (fun _ _ _ h => h) (Or.inl ⟨by rfl, ?_⟩) (by assumption) ?_
          rotate_left
          ·intro w hSw
           try dsimp only at hSw
           go_simp
           try with_reducible rfl
          try simp only [Act.put, sA9, sZ9, sS9]
          refine wpAnyH_take (i := 11) (oi := ⟨_, _, _, _, _, _⟩) (v := ?_) rfl (by kernel_rfl) (by kernel_rfl) (by kernel_rfl) (fun _ _ _ h => h) (Or.inl ⟨by rfl, ?_⟩) (by assumption) ?_
          rotate_left
          ·intro w hSw
           try dsimp only at hSw
           go_simp
           try with_reducible rfl
          try simp only [Act.put, sA9, sZ9, sS9]
          refine wpAnyH_take (i := 12) (oi := ⟨_, _, _, _, _, _⟩) (v := _) rfl (by kernel_rfl) (by kernel_rfl) (by kernel_rfl) (fun _ _ _ h => h) (yields_one (by rfl) _ _ rfl _ 3 rfl (fun w h => h.1) Tryz.underlying3 rfl (v := .int .i64 cn.phase) rfl) (by assumption) ?_
          try simp only [Act.put, sA9, sZ9, sS9]
          refine wpAnyH_take (i := 13) (oi := ⟨_, _, _, _, _, _⟩) (v := ?_) rfl (by kernel_rfl) (by kernel_rfl) (by kernel_rfl) (fun _ _ _ h => h) (Or.inl ⟨by rfl, ?_⟩) (by assumption) ?_
          rotate_left
          ·intro w hSw
           try dsimp only at hSw
           go_simp
           try with_reducible rfl
          try simp only [Act.put, sA9, sZ9, sS9]
          refine wpAnyH_take (i := 14) (oi := ⟨_, _, _, _, _, _⟩) (v := _) rfl (by kernel_rfl) (by kernel_rfl) (by kernel_rfl) (fun _ _ _ h => h) (yields_one (by rfl) _ _ rfl _ 3 rfl (fun w h => h.2.1) Tryz.underlying3 rfl (v := .int .i64 c.phase) rfl) (by assumption) ?_
          try simp only [Act.put, sA9, sZ9, sS9]
          refine wpAnyH_take (i := 15) (oi := ⟨_, _, _, _, _, _⟩) (v := ?_) rfl (by kernel_rfl) (by kernel_rfl) (by kernel_rfl) (fun _ _ _ h => h) (Or.inl ⟨by rfl, ?_⟩) (by assumption) ?_
          rotate_left
          ·intro w hSw
           try dsimp only at hSw
           go_simp
           try with_reducible rfl
          try simp only [Act.put, sA9, sZ9, sS9]
          refine wpAnyH_take (i := 16) (oi := ⟨_, _, _, _, _, _⟩) (v := ?_) rfl (by kernel_rfl) (by kernel_rfl) (by kernel_rfl) (fun _ _ _ h => h) (Or.inl ⟨by rfl, ?_⟩) (by assumption) ?_
          rotate_left
          ·intro w hSw
           try dsimp only at hSw
           go_simp
           try with_reducible rfl
          try simp only [Act.put, sA9, sZ9, sS9]
          refine wpAnyH_take (i := 17) (oi := ⟨_, _, _, _, _, _⟩) (v := ?_) rfl (by kernel_rfl) (by kernel_rfl) (by kernel_rfl) (fun _ _ _ h => h) (Or.inl ⟨by rfl, ?_⟩) (by assumption) ?_
          rotate_left
          ·intro w hSw
           try dsimp only at hSw
           go_simp
           try with_reducible rfl
          try simp only [Act.put, sA9, sZ9, sS9]
          refine wpAnyH_take (i := 18) (oi := ⟨_, _, _, _, _, _⟩) (v := ?_) rfl (by kernel_rfl) (by kernel_rfl) (by kernel_rfl) (fun _ _ _ h => h) (Or.inl ⟨by rfl, ?_⟩) (by assumption) ?_
          rotate_left
          ·intro w hSw
           try dsimp only at hSw
           go_simp
           try with_reducible rfl
          try simp only [Act.put, sA9, sZ9, sS9]
          refine wpAnyH_take (i := 19) (oi := ⟨_, _, _, _, _, _⟩) (v := _) rfl (by kernel_rfl) (by kernel_rfl) (by kernel_rfl) (fun _ _ _ h => h) (yields_row (by rfl) _ _ rfl _ 4 rfl (fun w h => h.1) Tryz.underlying23 rfl #[.int .i64 cn.prom.1, .int .i64 cn.prom.2] (by kernel_rfl) (two_at rfl rfl)) (by assumption) ?_
          try simp only [Act.put, sA9, sZ9, sS9]
          refine wpAnyH_take (i := 20) (oi := ⟨_, _, _, _, _, _⟩) (v := ?_) rfl (by kernel_rfl) (by kernel_rfl) (by kernel_rfl) (fun _ _ _ h => h) (Or.inl ⟨by rfl, ?_⟩) (by assumption) ?_
          rotate_left
          ·intro w hSw
           try dsimp only at hSw
           go_simp
           try with_reducible rfl
          try simp only [Act.put, sA9, sZ9, sS9]
          refine wpAnyH_take (i := 21) (oi := ⟨_, _, _, _, _, _⟩) (v := _) rfl (by kernel_rfl) (by kernel_rfl) (by kernel_rfl) (fun _ _ _ h => h) (yields_row (by rfl) _ _ rfl _ 4 rfl (fun w h => h.2.1) Tryz.underlying23 rfl #[.int .i64 c.prom.1, .int .i64 c.prom.2] (by kernel_rfl) (two_at rfl rfl)) (by assumption) ?_
          try simp only [Act.put, sA9, sZ9, sS9]
          refine wpAnyH_ready (rs := [22]) (by kernel_rfl) (by simp) ?_
          refine AllReadyH.cons (o := ⟨_, _, _, _, _, _⟩) rfl (fun K hK => ?_) ?_
          rotate_left
          ·exact AllReadyH.nil
          go_simp
          go_at_call 28
          refine (S1.less_any cn.prom.1 cn.prom.2 c.prom.1 c.prom.2 w5).mono ?_
          rw [HPR.out]
          rintro e w6 ⟨rfl, h5⟩
          have h5 := below_grow (Below.refl _ _) h5
          have HB_6 : Hid (Below W.heap.size W w6) := hH (blThen HB_5.out h5)
          have Ki_6 := row_up Ki_5 Li_5 h5
          have Li_6 := lt_up Li_5 h5
          have Kc_6 := row_up Kc_5 Lc_5 h5
          have Lc_6 := lt_up Lc_5 h5
          have Kx_6 := row_up Kx_5 Lx_5 h5
          have Lx_6 := lt_up Lx_5 h5
          have HCc_6 := hH (HCc_5.out.next h5)
          have HR_6 := hH (HR_5.out.later h5)
          have HCx_6 := hH (HCx_5.out.next h5)
          have HZ_6 := hH (blThen HZ_5.out h5)
          refine hK.out _ _ (⟨Kx_6.out, Kc_6.out, Ki_6.out, HR_6.out.r 0 _ rfl⟩) (fun hHeld => ?_)
          clear hK K h5
          try simp only [Act.put, sA9, sZ9, sS9]
          refine wpAnyH_take (i := 23) (oi := ⟨_, _, _, _, _, _⟩) (v := ?_) rfl (by kernel_rfl) (by kernel_rfl) (by kernel_rfl) (fun _ _ _ h => h) (Or.inl ⟨by rfl, ?_⟩) (by assumption) ?_
          rotate_left
          ·intro w hSw
           try dsimp only at hSw
           go_simp
           try with_reducible rfl
          try simp only [Act.put, sA9, sZ9, sS9]
          refine wpAnyH_take (i := 24) (oi := ⟨_, _, _, _, _, _⟩) (v := ?_) rfl (by kernel_rfl) (by kernel_rfl) (by kernel_rfl) (fun _ _ _ h => h) (Or.inl ⟨by rfl, ?_⟩) (by assumption) ?_
          rotate_left
          ·intro w hSw
           try dsimp only at hSw
           go_simp
           try with_reducible rfl
          try simp only [Act.put, sA9, sZ9, sS9]
          refine wpAnyH_take (i := 25) (oi := ⟨_, _, _, _, _, _⟩) (v := _) rfl (by kernel_rfl) (by kernel_rfl) (by kernel_rfl) (fun _ _ _ h => h) (yields_row (by rfl) _ _ rfl _ 0 rfl (fun w h => h.1) Tryz.underlying31 rfl (cmR cn ⟨.slice xa cn.ops.length xc, lxs, lxd, lxw, lxp⟩) szCmd all_at) (by assumption) ?_
          try simp only [Act.put, sA9, sZ9, sS9]
          refine wpAnyH_take (i := 27) (oi := ⟨_, _, _, _, _, _⟩) (v := _) rfl (by kernel_rfl) (by kernel_rfl) (by kernel_rfl) (fun _ _ _ h => h) (yields_row (by rfl) _ _ rfl _ 0 rfl (fun w h => h.2.1) Tryz.underlying31 rfl (cmR c ⟨.slice oa c.ops.length oc, ls, ld, lw, lp⟩) szCmd all_at) (by assumption) ?_
          try simp only [Act.put, sA9, sZ9, sS9]
          refine wpAnyH_ready (rs := [26]) (by kernel_rfl) (by simp) ?_
          refine AllReadyH.cons (o := ⟨_, _, _, _, _, _⟩) rfl (fun K hK => ?_) ?_
          rotate_left
          ·exact AllReadyH.nil
          go_simp
          go_at_call 20
          refine (top_any cn ⟨.slice xa cn.ops.length xc, lxs, lxd, lxw, lxp⟩ w6 HCx_6.out.at).mono ?_
          rintro e w7 ⟨rfl, h5⟩
          have Ki_7 := row_up Ki_6 Li_6 h5
          have Li_7 := lt_up Li_6 h5
          have Kc_7 := row_up Kc_6 Lc_6 h5
          have Lc_7 := lt_up Lc_6 h5
          have Kx_7 := row_up Kx_6 Lx_6 h5
          have Lx_7 := lt_up Lx_6 h5
          have HCc_7 := hH (HCc_6.out.next h5)
          have HR_7 := hH (HR_6.out.later h5)
          have HCx_7 := hH (HCx_6.out.next h5)
          have HZ_7 := hH (blThen HZ_6.out h5)
          refine hK.out _ _ (⟨Kx_7.out, Kc_7.out, Ki_7.out, HR_7.out.r 0 _ rfl⟩) (fun hHeld => ?_)
          clear hK K h5
          try simp only [Act.put, sA9, sZ9, sS9]
          refine wpAnyH_ready (rs := [28]) (by kernel_rfl) (by simp) ?_
          refine AllReadyH.cons (o := ⟨_, _, _, _, _, _⟩) rfl (fun K hK => ?_) ?_
          rotate_left
          ·exact AllReadyH.nil
          go_simp
          go_at_call 20
          refine (top_any c ⟨.slice oa c.ops.length oc, ls, ld, lw, lp⟩ w7 HCc_7.out.at).mono ?_
          rintro e w8 ⟨rfl, h5⟩
          have Ki_8 := row_up Ki_7 Li_7 h5
          have Li_8 := lt_up Li_7 h5
          have Kc_8 := row_up Kc_7 Lc_7 h5
          have Lc_8 := lt_up Lc_7 h5
          have Kx_8 := row_up Kx_7 Lx_7 h5
          have Lx_8 := lt_up Lx_7 h5
          have HCc_8 := hH (HCc_7.out.next h5)
          have HR_8 := hH (HR_7.out.later h5)
          have HCx_8 := hH (HCx_7.out.next h5)
          have HZ_8 := hH (blThen HZ_7.out h5)
          refine hK.out _ _ (⟨Kx_8.out, Kc_8.out, Ki_8.out, HR_8.out.r 0 _ rfl⟩) (fun hHeld => ?_)
          clear hK K h5
          try simp only [Act.put, sA9, sZ9, sS9]
          refine wpAnyH_ready (rs := [29]) (by kernel_rfl) (by simp) ?_
          refine AllReadyH.cons (o := ⟨_, _, _, _, _, _⟩) rfl (fun K hK => ?_) ?_
          rotate_left
          ·exact AllReadyH.nil
          go_simp
          go_at_call 28
          refine (S1.less_any (topC cn).1 (topC cn).2 (topC c).1 (topC c).2 w8).mono ?_
          rw [HLT.out]
          rintro e w9 ⟨rfl, h5⟩
          have h5 := below_grow (Below.refl _ _) h5
          have Ki_9 := row_up Ki_8 Li_8 h5
          have Kc_9 := row_up Kc_8 Lc_8 h5
          have Kx_9 := row_up Kx_8 Lx_8 h5
          have HR_9 := hH (HR_8.out.later h5)
          have HZ_9 := hH (blThen HZ_8.out h5)
          refine hK.out _ _ (⟨Kx_9.out, Kc_9.out, Ki_9.out, HR_9.out.r 0 _ rfl⟩) (fun hHeld => ?_)
          clear hK K h5
          try simp only [Act.put, sA9, sZ9, sS9]
          refine wpAnyH_take (i := 30) (oi := ⟨_, _, _, _, _, _⟩) (v := ?_) rfl (by kernel_rfl) (by kernel_rfl) (by kernel_rfl) (fun _ _ _ h => h) (Or.inl ⟨by rfl, ?_⟩) (by assumption) ?_
          rotate_left
          ·intro w hSw
           try dsimp only at hSw
           go_simp
           try with_reducible rfl
          try simp only [Act.put, sA9, sZ9, sS9]
          refine wpAnyH_take (i := 31) (oi := ⟨_, _, _, _, _, _⟩) (v := ?_) rfl (by kernel_rfl) (by kernel_rfl) (by kernel_rfl) (fun _ _ _ h => h) (Or.inl ⟨by rfl, ?_⟩) (by assumption) ?_
          rotate_left
          ·intro w hSw
           try dsimp only at hSw
           go_simp
           try with_reducible rfl
          try simp only [Act.put, sA9, sZ9, sS9]
          refine wpAnyH_take (i := 32) (oi := ⟨_, _, _, _, _, _⟩) (v := ?_) rfl (by kernel_rfl) (by kernel_rfl) (by kernel_rfl) (fun _ _ _ h => h) (Or.inl ⟨by rfl, ?_⟩) (by assumption) ?_
          rotate_left
          ·intro w hSw
           try dsimp only at hSw
           go_simp
           try with_reducible rfl
          try simp only [Act.put, sA9, sZ9, sS9]
          refine wpAnyH_take (i := 33) (oi := ⟨_, _, _, _, _, _⟩) (v := ?_) rfl (by kernel_rfl) (by kernel_rfl) (by kernel_rfl) (fun _ _ _ h => h) (Or.inl ⟨by rfl, ?_⟩) (by assumption) ?_
          rotate_left
          ·intro w hSw
           try dsimp only at hSw
           go_simp
           try with_reducible rfl
          try simp only [Act.put, sA9, sZ9, sS9]
          refine wpAnyH_take (i := 34) (oi := ⟨_, _, _, _, _, _⟩) (v := ?_) rfl (by kernel_rfl) (by kernel_rfl) (by kernel_rfl) (fun _ _ _ h => h) (Or.inl ⟨by rfl, ?_⟩) (by assumption) ?_
          rotate_left
          ·intro w hSw
           try dsimp only at hSw
           go_simp
           try with_reducible rfl
          try simp only [Act.put, sA9, sZ9, sS9]
          refine wpAnyH_take (i := 35) (oi := ⟨_, _, _, _, _, _⟩) (v := ?_) rfl (by kernel_rfl) (by kernel_rfl) (by kernel_rfl) (fun _ _ _ h => h) (Or.inl ⟨by rfl, ?_⟩) (by assumption) ?_
          rotate_left
          ·intro w hSw
           try dsimp only at hSw
           go_simp
           try with_reducible rfl
          try simp only [Act.put, sA9, sZ9, sS9]
          refine wpAnyH_take (i := 36) (oi := ⟨_, _, _, _, _, _⟩) (v := ?_) rfl (by kernel_rfl) (by kernel_rfl) (by kernel_rfl) (fun _ _ _ h => h) (Or.inl ⟨by rfl, ?_⟩) (by assumption) ?_
          rotate_left
          ·intro w hSw
           try dsimp only at hSw
           go_simp
           try with_reducible rfl
          try simp only [Act.put, sA9, sZ9, sS9]
          refine wpAnyH_take (i := 37) (oi := ⟨_, _, _, _, _, _⟩) (v := ?_) rfl (by kernel_rfl) (by kernel_rfl) (by kernel_rfl) (fun _ _ _ h => h) (Or.inl ⟨by rfl, ?_⟩) (by assumption) ?_
          rotate_left
          ·intro w hSw
           try dsimp only at hSw
           go_simp
           try with_reducible rfl
          try simp only [Act.put, sA9, sZ9, sS9]
          refine wpAnyH_take (i := 38) (oi := ⟨_, _, _, _, _, _⟩) (v := ?_) rfl (by kernel_rfl) (by kernel_rfl) (by kernel_rfl) (fun _ _ _ h => h) (Or.inl ⟨by rfl, ?_⟩) (by assumption) ?_
          rotate_left
          ·intro w hSw
           try dsimp only at hSw
           go_simp
           try with_reducible rfl
          try simp only [Act.put, sA9, sZ9, sS9]
          refine wpAnyH_take (i := 39) (oi := ⟨_, _, _, _, _, _⟩) (v := ?_) rfl (by kernel_rfl) (by kernel_rfl) (by kernel_rfl) (fun _ _ _ h => h) (Or.inl ⟨by rfl, ?_⟩) (by assumption) ?_
          rotate_left
          ·intro w hSw
           try dsimp only at hSw
           go_simp
           try with_reducible rfl
          try simp only [Act.put, sA9, sZ9, sS9]
          refine wpAnyH_take (i := 40) (oi := ⟨_, _, _, _, _, _⟩) (v := ?_) rfl (by kernel_rfl) (by kernel_rfl) (by kernel_rfl) (fun _ _ _ h => h) (Or.inl ⟨by rfl, ?_⟩) (by assumption) ?_
          rotate_left
          ·intro w hSw
           try dsimp only at hSw
           go_simp
           try with_reducible rfl
          try simp only [Act.put, sA9, sZ9, sS9]
          refine wpAnyH_take (i := 41) (oi := ⟨_, _, _, _, _, _⟩) (v := ?_) rfl (by kernel_rfl) (by kernel_rfl) (by kernel_rfl) (fun _ _ _ h => h) (Or.inl ⟨by rfl, ?_⟩) (by assumption) ?_
          rotate_left
          ·intro w hSw
           try dsimp only at hSw
           go_simp
           try with_reducible rfl
          try simp only [Act.put, sA9, sZ9, sS9]
          refine wpAnyH_take (i := 42) (oi := ⟨_, _, _, _, _, _⟩) (v := ?_) rfl (by kernel_rfl) (by kernel_rfl) (by kernel_rfl) (fun _ _ _ h => h) (Or.inl ⟨by rfl, ?_⟩) (by assumption) ?_
          rotate_left
          ·intro w hSw
           try dsimp only at hSw
           go_simp
           try with_reducible rfl
          try simp only [Act.put, sA9, sZ9, sS9]
          refine wpAnyH_take (i := 43) (oi := ⟨_, _, _, _, _, _⟩) (v := ?_) rfl (by kernel_rfl) (by kernel_rfl) (by kernel_rfl) (fun _ _ _ h => h) (Or.inl ⟨by rfl, ?_⟩) (by assumption) ?_
          rotate_left
          ·intro w hSw
           try dsimp only at hSw
           go_simp
           try with_reducible rfl
          try simp only [Act.put, sA9, sZ9, sS9]
          refine wpAnyH_take (i := 44) (oi := ⟨_, _, _, _, _, _⟩) (v := ?_) rfl (by kernel_rfl) (by kernel_rfl) (by kernel_rfl) (fun _ _ _ h => h) (Or.inl ⟨by rfl, ?_⟩) (by assumption) ?_
          rotate_left
          ·intro w hSw
           try dsimp only at hSw
           go_simp
           try with_reducible rfl
          try simp only [Act.put, sA9, sZ9, sS9]
          refine wpAnyH_take (i := 45) (oi := ⟨_, _, _, _, _, _⟩) (v := ?_) rfl (by kernel_rfl) (by kernel_rfl) (by kernel_rfl) (fun _ _ _ h => h) (Or.inl ⟨by rfl, ?_⟩) (by assumption) ?_
          rotate_left
          ·intro w hSw
           try dsimp only at hSw
           go_simp
           try with_reducible rfl
          try simp only [Act.put, sA9, sZ9, sS9]
          refine wpAnyH_take (i := 46) (oi := ⟨_, _, _, _, _, _⟩) (v := ?_) rfl (by kernel_rfl) (by kernel_rfl) (by kernel_rfl) (fun _ _ _ h => h) (Or.inl ⟨by rfl, ?_⟩) (by assumption) ?_
          rotate_left
          ·intro w hSw
           try dsimp only at hSw
           go_simp
           try with_reducible rfl
          try simp only [Act.put, sA9, sZ9, sS9]
          refine wpAnyH_done (by kernel_rfl) ?_ _
          go_wp2_with fail
          go_meet
          exact ⟨rfl, HZ_9.out⟩
         ·exact absurd HLT.out (by rw [show S1.ltS ((topC cn).1, (topC cn).2) ((topC c).1, (topC c).2) = false from HTO.out hk3 hk4]; decide)
     case rest =>
      obtain ⟨e89, h5⟩ := hcut
      rename World => w4
      rw [e89]
      clear e89
      have HB_4 : Hid (Below W.heap.size W w4) := hH (blThen HB_3.out h5)
      have Ki_4 := row_up Ki_3 Li_3 h5
      have Li_4 := lt_up Li_3 h5
      have Kc_4 := row_up Kc_3 Lc_3 h5
      have Lc_4 := lt_up Lc_3 h5
      have Kx_4 := row_up Kx_3 Lx_3 h5
      have Lx_4 := lt_up Lx_3 h5
      have HCc_4 := hH (HCc_3.out.next h5)
      have HR_4 := hH (HR_3.out.later h5)
      have HCx_4 := hH (HCx_3.out.next h5)
      clear h5
      go_upto_region 12 with fail
      go_cut [148] from 20 to 154 (fun s148 wx => s148 = .bool false ∧ Below w4.heap.size w4 wx)
      case first =>
       have HZ_4 : Hid (Below w4.heap.size w4 w4) := hH (Below.refl _ _)
       have HFI : Hid (∀ Y : World, Calls Tryz.prog 22 #[.agg (cmR c ⟨.slice oa c.ops.length oc, ls, ld, lw, lp⟩)] Y fun e w' => e = .returned (.bool (finB c)) ∧ Below Y.heap.size Y w') := hH (fun Y => final_any c ⟨.slice oa c.ops.length oc, ls, ld, lw, lp⟩ Y)
       have HSM : Hid (cn = c → ∀ Y : World, CmAt Y cn ⟨.slice xa cn.ops.length xc, lxs, lxd, lxw, lxp⟩ → CmAt Y c ⟨.slice oa c.ops.length oc, ls, ld, lw, lp⟩ → Calls Tryz.prog 16 #[.agg (cmR cn ⟨.slice xa cn.ops.length xc, lxs, lxd, lxw, lxp⟩), .agg (cmR c ⟨.slice oa c.ops.length oc, ls, ld, lw, lp⟩)] Y fun e w' => e = .returned (.bool true) ∧ Below Y.heap.size Y w') := hH (fun e Y hx hy => rsame9x e ⟨.slice xa cn.ops.length xc, lxs, lxd, lxw, lxp⟩ ⟨.slice oa c.ops.length oc, ls, ld, lw, lp⟩ Y hx hy HF.out)
       obtain ⟨CX, hCX⟩ : ∃ q_, q_ = cmR cn ⟨.slice xa cn.ops.length xc, lxs, lxd, lxw, lxp⟩ := ⟨_, rfl⟩
       obtain ⟨CC, hCC⟩ : ∃ q_, q_ = cmR c ⟨.slice oa c.ops.length oc, ls, ld, lw, lp⟩ := ⟨_, rfl⟩
       rw [← hCX] at Kx_4 HSM
       rw [← hCC] at Kc_4 HFI HSM
       have yx2 : CX[2]? = some (.slice xa cn.ops.length xc) := by rw [hCX]; rfl
       have yx3 : CX[3]? = some (.int .i64 cn.phase) := by rw [hCX]; rfl
       have yx6 : CX[6]? = some (.int .i64 cn.vote.1) := by rw [hCX]; rfl
       have yx7 : CX[7]? = some (.int .i64 cn.vote.2) := by rw [hCX]; rfl
       have yx8 : CX[8]? = some (.bool cn.fast) := by rw [hCX]; rfl
       have yx15 : CX[15]? = some (.bool cn.val.1) := by rw [hCX]; rfl
       have yx16 : CX[16]? = some (.int .i64 cn.val.2.1.1) := by rw [hCX]; rfl
       have yx17 : CX[17]? = some (.int .i64 cn.val.2.1.2) := by rw [hCX]; rfl
       have yx18 : CX[18]? = some (lxd) := by rw [hCX]; rfl
       have yxs : CX.size = 22 := by rw [hCX]; rfl
       have yc2 : CC[2]? = some (.slice oa c.ops.length oc) := by rw [hCC]; rfl
       have yc3 : CC[3]? = some (.int .i64 c.phase) := by rw [hCC]; rfl
       have yc6 : CC[6]? = some (.int .i64 c.vote.1) := by rw [hCC]; rfl
       have yc7 : CC[7]? = some (.int .i64 c.vote.2) := by rw [hCC]; rfl
       have yc8 : CC[8]? = some (.bool c.fast) := by rw [hCC]; rfl
       have yc15 : CC[15]? = some (.bool c.val.1) := by rw [hCC]; rfl
       have yc16 : CC[16]? = some (.int .i64 c.val.2.1.1) := by rw [hCC]; rfl
       have yc17 : CC[17]? = some (.int .i64 c.val.2.1.2) := by rw [hCC]; rfl
       have yc18 : CC[18]? = some (ld) := by rw [hCC]; rfl
       have ycs : CC.size = 22 := by rw [hCC]; rfl
       clear hCX hCC
       rcases Classical.em (c.ops = []) with ho | ho
       ·have h0m : ¬ 0 < c.ops.length := by rw [ho]; decide
        have h0d := decide_eq_false h0m
        have h0n := len_no ho
        have h0 := decide_eq_false h0n
        rcases Int.lt_or_le c.phase 2 with hp2 | hp2
        rotate_left
        ·have hp3 := decide_eq_true hp2
         have HVEQ := hH (HGR.out.val hp2)
         cases hfin : finB c
         ·have HFIN := hH hfin
          clear hfin
          cases bb
          ·have HCE := hH (HAN.out HBB.out.symm)
           as_aux_lemma =>
            go_wp2_with (first | go_skip | ((with_reducible refine wpList_skip ?_ ?_); exact rfl; try simp only [Act.put, sA9, sZ9, sS9]) | ((with_reducible refine atC w6 ?_); go_at_call 16; go_must (refine (HSM.out HCE.out w6 HCx_6.out.at HCc_6.out.at).mono ?_; rintro e w7 ⟨rfl, h5⟩; have Ki_7 := row_up Ki_6 Li_6 h5; have Li_7 := lt_up Li_6 h5; have Kc_7 := row_up Kc_6 Lc_6 h5; have Lc_7 := lt_up Lc_6 h5; have Kx_7 := row_up Kx_6 Lx_6 h5; have Lx_7 := lt_up Lx_6 h5; have HCc_7 := hH (HCc_6.out.next h5); have HR_7 := hH (HR_6.out.later h5); have HCx_7 := hH (HCx_6.out.next h5); have HZ_7 := hH (blThen HZ_6.out h5); clear h5)) | ((with_reducible refine atW w6 ?_); refine load9 _ rfl (by rfl) _ rfl Kc_6.out ycs ?_) | ((with_reducible refine atW w6 ?_); refine load9 _ rfl (by rfl) _ rfl Kx_6.out yxs ?_) | ((with_reducible refine atC w5 ?_); go_at_call 22; go_must (refine (HFI.out w5).mono ?_; rw [HFIN.out]; rintro e w6 ⟨rfl, h5⟩; have HB_6 : Hid (Below W.heap.size W w6) := hH (blThen HB_5.out h5); have Ki_6 := row_up Ki_5 Li_5 h5; have Li_6 := lt_up Li_5 h5; have Kc_6 := row_up Kc_5 Lc_5 h5; have Lc_6 := lt_up Lc_5 h5; have Kx_6 := row_up Kx_5 Lx_5 h5; have Lx_6 := lt_up Lx_5 h5; have HCc_6 := hH (HCc_5.out.next h5); have HR_6 := hH (HR_5.out.later h5); have HCx_6 := hH (HCx_5.out.next h5); have HZ_6 := hH (blThen HZ_5.out h5); clear h5)) | ((with_reducible refine atW w5 ?_); refine load9 _ rfl (by rfl) _ rfl Kc_5.out ycs ?_) | ((with_reducible refine atC w4 ?_); go_at_call 30; go_must (refine (rsamev_any cn.val c.val lxd ld w4 HCx_4.out.at.d HCc_4.out.at.d HFN.out.deps).mono ?_; rw [decide_eq_true HVEQ.out]; rintro e w5 ⟨rfl, h5⟩; have HB_5 : Hid (Below W.heap.size W w5) := hH (blThen HB_4.out h5); have Ki_5 := row_up Ki_4 Li_4 h5; have Li_5 := lt_up Li_4 h5; have Kc_5 := row_up Kc_4 Lc_4 h5; have Lc_5 := lt_up Lc_4 h5; have Kx_5 := row_up Kx_4 Lx_4 h5; have Lx_5 := lt_up Lx_4 h5; have HCc_5 := hH (HCc_4.out.next h5); have HR_5 := hH (HR_4.out.later h5); have HCx_5 := hH (HCx_4.out.next h5); have HZ_5 := hH (blThen HZ_4.out h5); clear h5)) | ((with_reducible refine atW w4 ?_); refine wpList_load_part _ _ rfl (by rfl) b5 15 rfl Kc_4.out Tryz.underlying27 rfl #[.bool c.val.1, .int .i64 c.val.2.1.1, .int .i64 c.val.2.1.2, ld] (by kernel_rfl) (four_at yc15 yc16 yc17 yc18) ?_) | ((with_reducible refine atW w4 ?_); refine wpList_load_part _ _ rfl (by rfl) px 15 rfl Kx_4.out Tryz.underlying27 rfl #[.bool cn.val.1, .int .i64 cn.val.2.1.1, .int .i64 cn.val.2.1.2, lxd] (by kernel_rfl) (four_at yx15 yx16 yx17 yx18) ?_) | ((with_reducible refine atW w4 ?_); refine wpList_load_one _ _ rfl (by rfl) b5 3 rfl Kc_4.out Tryz.underlying3 rfl (v := .int .i64 c.phase) yc3 ?_) | ((with_reducible refine atW w4 ?_); refine wpList_load_one _ _ rfl (by rfl) b5 2 rfl Kc_4.out Tryz.underlying24 rfl (v := .slice oa c.ops.length oc) yc2 ?_))
            go_meet
            exact ⟨rfl, HZ_7.out⟩
          ·as_aux_lemma =>
            go_wp2_with (first | go_skip | ((with_reducible refine wpList_skip ?_ ?_); exact rfl; try simp only [Act.put, sA9, sZ9, sS9]) | ((with_reducible refine atC w5 ?_); go_at_call 22; go_must (refine (HFI.out w5).mono ?_; rw [HFIN.out]; rintro e w6 ⟨rfl, h5⟩; have HB_6 : Hid (Below W.heap.size W w6) := hH (blThen HB_5.out h5); have Ki_6 := row_up Ki_5 Li_5 h5; have Li_6 := lt_up Li_5 h5; have Kc_6 := row_up Kc_5 Lc_5 h5; have Lc_6 := lt_up Lc_5 h5; have Kx_6 := row_up Kx_5 Lx_5 h5; have Lx_6 := lt_up Lx_5 h5; have HCc_6 := hH (HCc_5.out.next h5); have HR_6 := hH (HR_5.out.later h5); have HCx_6 := hH (HCx_5.out.next h5); have HZ_6 := hH (blThen HZ_5.out h5); clear h5)) | ((with_reducible refine atW w5 ?_); refine load9 _ rfl (by rfl) _ rfl Kc_5.out ycs ?_) | ((with_reducible refine atC w4 ?_); go_at_call 30; go_must (refine (rsamev_any cn.val c.val lxd ld w4 HCx_4.out.at.d HCc_4.out.at.d HFN.out.deps).mono ?_; rw [decide_eq_true HVEQ.out]; rintro e w5 ⟨rfl, h5⟩; have HB_5 : Hid (Below W.heap.size W w5) := hH (blThen HB_4.out h5); have Ki_5 := row_up Ki_4 Li_4 h5; have Li_5 := lt_up Li_4 h5; have Kc_5 := row_up Kc_4 Lc_4 h5; have Lc_5 := lt_up Lc_4 h5; have Kx_5 := row_up Kx_4 Lx_4 h5; have Lx_5 := lt_up Lx_4 h5; have HCc_5 := hH (HCc_4.out.next h5); have HR_5 := hH (HR_4.out.later h5); have HCx_5 := hH (HCx_4.out.next h5); have HZ_5 := hH (blThen HZ_4.out h5); clear h5)) | ((with_reducible refine atW w4 ?_); refine wpList_load_part _ _ rfl (by rfl) b5 15 rfl Kc_4.out Tryz.underlying27 rfl #[.bool c.val.1, .int .i64 c.val.2.1.1, .int .i64 c.val.2.1.2, ld] (by kernel_rfl) (four_at yc15 yc16 yc17 yc18) ?_) | ((with_reducible refine atW w4 ?_); refine wpList_load_part _ _ rfl (by rfl) px 15 rfl Kx_4.out Tryz.underlying27 rfl #[.bool cn.val.1, .int .i64 cn.val.2.1.1, .int .i64 cn.val.2.1.2, lxd] (by kernel_rfl) (four_at yx15 yx16 yx17 yx18) ?_) | ((with_reducible refine atW w4 ?_); refine wpList_load_one _ _ rfl (by rfl) b5 3 rfl Kc_4.out Tryz.underlying3 rfl (v := .int .i64 c.phase) yc3 ?_) | ((with_reducible refine atW w4 ?_); refine wpList_load_one _ _ rfl (by rfl) b5 2 rfl Kc_4.out Tryz.underlying24 rfl (v := .slice oa c.ops.length oc) yc2 ?_))
            go_meet
            exact ⟨rfl, HZ_6.out⟩
         ·have HFIN := hH hfin
          have HCE := hH (HGR.out.fin hfin)
          clear hfin
          cases bb
          ·have HCE := hH (HAN.out HBB.out.symm)
           as_aux_lemma =>
            go_wp2_with (first | go_skip | ((with_reducible refine wpList_skip ?_ ?_); exact rfl; try simp only [Act.put, sA9, sZ9, sS9]) | ((with_reducible refine atC w7 ?_); go_at_call 16; go_must (refine (HSM.out HCE.out w7 HCx_7.out.at HCc_7.out.at).mono ?_; rintro e w8 ⟨rfl, h5⟩; have Ki_8 := row_up Ki_7 Li_7 h5; have Li_8 := lt_up Li_7 h5; have Kc_8 := row_up Kc_7 Lc_7 h5; have Lc_8 := lt_up Lc_7 h5; have Kx_8 := row_up Kx_7 Lx_7 h5; have Lx_8 := lt_up Lx_7 h5; have HCc_8 := hH (HCc_7.out.next h5); have HR_8 := hH (HR_7.out.later h5); have HCx_8 := hH (HCx_7.out.next h5); have HZ_8 := hH (blThen HZ_7.out h5); clear h5)) | ((with_reducible refine atW w7 ?_); refine load9 _ rfl (by rfl) _ rfl Kc_7.out ycs ?_) | ((with_reducible refine atW w7 ?_); refine load9 _ rfl (by rfl) _ rfl Kx_7.out yxs ?_) | ((with_reducible refine atC w6 ?_); go_at_call 16; go_must (refine (HSM.out HCE.out w6 HCx_6.out.at HCc_6.out.at).mono ?_; rintro e w7 ⟨rfl, h5⟩; have Ki_7 := row_up Ki_6 Li_6 h5; have Li_7 := lt_up Li_6 h5; have Kc_7 := row_up Kc_6 Lc_6 h5; have Lc_7 := lt_up Lc_6 h5; have Kx_7 := row_up Kx_6 Lx_6 h5; have Lx_7 := lt_up Lx_6 h5; have HCc_7 := hH (HCc_6.out.next h5); have HR_7 := hH (HR_6.out.later h5); have HCx_7 := hH (HCx_6.out.next h5); have HZ_7 := hH (blThen HZ_6.out h5); clear h5)) | ((with_reducible refine atW w6 ?_); refine load9 _ rfl (by rfl) _ rfl Kc_6.out ycs ?_) | ((with_reducible refine atW w6 ?_); refine load9 _ rfl (by rfl) _ rfl Kx_6.out yxs ?_) | ((with_reducible refine atC w5 ?_); go_at_call 22; go_must (refine (HFI.out w5).mono ?_; rw [HFIN.out]; rintro e w6 ⟨rfl, h5⟩; have HB_6 : Hid (Below W.heap.size W w6) := hH (blThen HB_5.out h5); have Ki_6 := row_up Ki_5 Li_5 h5; have Li_6 := lt_up Li_5 h5; have Kc_6 := row_up Kc_5 Lc_5 h5; have Lc_6 := lt_up Lc_5 h5; have Kx_6 := row_up Kx_5 Lx_5 h5; have Lx_6 := lt_up Lx_5 h5; have HCc_6 := hH (HCc_5.out.next h5); have HR_6 := hH (HR_5.out.later h5); have HCx_6 := hH (HCx_5.out.next h5); have HZ_6 := hH (blThen HZ_5.out h5); clear h5)) | ((with_reducible refine atW w5 ?_); refine load9 _ rfl (by rfl) _ rfl Kc_5.out ycs ?_) | ((with_reducible refine atC w4 ?_); go_at_call 30; go_must (refine (rsamev_any cn.val c.val lxd ld w4 HCx_4.out.at.d HCc_4.out.at.d HFN.out.deps).mono ?_; rw [decide_eq_true HVEQ.out]; rintro e w5 ⟨rfl, h5⟩; have HB_5 : Hid (Below W.heap.size W w5) := hH (blThen HB_4.out h5); have Ki_5 := row_up Ki_4 Li_4 h5; have Li_5 := lt_up Li_4 h5; have Kc_5 := row_up Kc_4 Lc_4 h5; have Lc_5 := lt_up Lc_4 h5; have Kx_5 := row_up Kx_4 Lx_4 h5; have Lx_5 := lt_up Lx_4 h5; have HCc_5 := hH (HCc_4.out.next h5); have HR_5 := hH (HR_4.out.later h5); have HCx_5 := hH (HCx_4.out.next h5); have HZ_5 := hH (blThen HZ_4.out h5); clear h5)) | ((with_reducible refine atW w4 ?_); refine wpList_load_part _ _ rfl (by rfl) b5 15 rfl Kc_4.out Tryz.underlying27 rfl #[.bool c.val.1, .int .i64 c.val.2.1.1, .int .i64 c.val.2.1.2, ld] (by kernel_rfl) (four_at yc15 yc16 yc17 yc18) ?_) | ((with_reducible refine atW w4 ?_); refine wpList_load_part _ _ rfl (by rfl) px 15 rfl Kx_4.out Tryz.underlying27 rfl #[.bool cn.val.1, .int .i64 cn.val.2.1.1, .int .i64 cn.val.2.1.2, lxd] (by kernel_rfl) (four_at yx15 yx16 yx17 yx18) ?_) | ((with_reducible refine atW w4 ?_); refine wpList_load_one _ _ rfl (by rfl) b5 3 rfl Kc_4.out Tryz.underlying3 rfl (v := .int .i64 c.phase) yc3 ?_) | ((with_reducible refine atW w4 ?_); refine wpList_load_one _ _ rfl (by rfl) b5 2 rfl Kc_4.out Tryz.underlying24 rfl (v := .slice oa c.ops.length oc) yc2 ?_))
            go_meet
            exact ⟨rfl, HZ_8.out⟩
          ·as_aux_lemma =>
            go_wp2_with (first | go_skip | ((with_reducible refine wpList_skip ?_ ?_); exact rfl; try simp only [Act.put, sA9, sZ9, sS9]) | ((with_reducible refine atC w6 ?_); go_at_call 16; go_must (refine (HSM.out HCE.out w6 HCx_6.out.at HCc_6.out.at).mono ?_; rintro e w7 ⟨rfl, h5⟩; have Ki_7 := row_up Ki_6 Li_6 h5; have Li_7 := lt_up Li_6 h5; have Kc_7 := row_up Kc_6 Lc_6 h5; have Lc_7 := lt_up Lc_6 h5; have Kx_7 := row_up Kx_6 Lx_6 h5; have Lx_7 := lt_up Lx_6 h5; have HCc_7 := hH (HCc_6.out.next h5); have HR_7 := hH (HR_6.out.later h5); have HCx_7 := hH (HCx_6.out.next h5); have HZ_7 := hH (blThen HZ_6.out h5); clear h5)) | ((with_reducible refine atW w6 ?_); refine load9 _ rfl (by rfl) _ rfl Kc_6.out ycs ?_) | ((with_reducible refine atW w6 ?_); refine load9 _ rfl (by rfl) _ rfl Kx_6.out yxs ?_) | ((with_reducible refine atC w5 ?_); go_at_call 22; go_must (refine (HFI.out w5).mono ?_; rw [HFIN.out]; rintro e w6 ⟨rfl, h5⟩; have HB_6 : Hid (Below W.heap.size W w6) := hH (blThen HB_5.out h5); have Ki_6 := row_up Ki_5 Li_5 h5; have Li_6 := lt_up Li_5 h5; have Kc_6 := row_up Kc_5 Lc_5 h5; have Lc_6 := lt_up Lc_5 h5; have Kx_6 := row_up Kx_5 Lx_5 h5; have Lx_6 := lt_up Lx_5 h5; have HCc_6 := hH (HCc_5.out.next h5); have HR_6 := hH (HR_5.out.later h5); have HCx_6 := hH (HCx_5.out.next h5); have HZ_6 := hH (blThen HZ_5.out h5); clear h5)) | ((with_reducible refine atW w5 ?_); refine load9 _ rfl (by rfl) _ rfl Kc_5.out ycs ?_) | ((with_reducible refine atC w4 ?_); go_at_call 30; go_must (refine (rsamev_any cn.val c.val lxd ld w4 HCx_4.out.at.d HCc_4.out.at.d HFN.out.deps).mono ?_; rw [decide_eq_true HVEQ.out]; rintro e w5 ⟨rfl, h5⟩; have HB_5 : Hid (Below W.heap.size W w5) := hH (blThen HB_4.out h5); have Ki_5 := row_up Ki_4 Li_4 h5; have Li_5 := lt_up Li_4 h5; have Kc_5 := row_up Kc_4 Lc_4 h5; have Lc_5 := lt_up Lc_4 h5; have Kx_5 := row_up Kx_4 Lx_4 h5; have Lx_5 := lt_up Lx_4 h5; have HCc_5 := hH (HCc_4.out.next h5); have HR_5 := hH (HR_4.out.later h5); have HCx_5 := hH (HCx_4.out.next h5); have HZ_5 := hH (blThen HZ_4.out h5); clear h5)) | ((with_reducible refine atW w4 ?_); refine wpList_load_part _ _ rfl (by rfl) b5 15 rfl Kc_4.out Tryz.underlying27 rfl #[.bool c.val.1, .int .i64 c.val.2.1.1, .int .i64 c.val.2.1.2, ld] (by kernel_rfl) (four_at yc15 yc16 yc17 yc18) ?_) | ((with_reducible refine atW w4 ?_); refine wpList_load_part _ _ rfl (by rfl) px 15 rfl Kx_4.out Tryz.underlying27 rfl #[.bool cn.val.1, .int .i64 cn.val.2.1.1, .int .i64 cn.val.2.1.2, lxd] (by kernel_rfl) (four_at yx15 yx16 yx17 yx18) ?_) | ((with_reducible refine atW w4 ?_); refine wpList_load_one _ _ rfl (by rfl) b5 3 rfl Kc_4.out Tryz.underlying3 rfl (v := .int .i64 c.phase) yc3 ?_) | ((with_reducible refine atW w4 ?_); refine wpList_load_one _ _ rfl (by rfl) b5 2 rfl Kc_4.out Tryz.underlying24 rfl (v := .slice oa c.ops.length oc) yc2 ?_))
            go_meet
            exact ⟨rfl, HZ_7.out⟩
        ·have hp4 := Int.not_le.2 hp2
         have hp3 := decide_eq_false hp4
         cases hfin : finB c
         ·have HFIN := hH hfin
          clear hfin
          cases bb
          ·have HCE := hH (HAN.out HBB.out.symm)
           as_aux_lemma =>
            go_wp2_with (first | go_skip | ((with_reducible refine wpList_skip ?_ ?_); exact rfl; try simp only [Act.put, sA9, sZ9, sS9]) | ((with_reducible refine atC w5 ?_); go_at_call 16; go_must (refine (HSM.out HCE.out w5 HCx_5.out.at HCc_5.out.at).mono ?_; rintro e w6 ⟨rfl, h5⟩; have HB_6 : Hid (Below W.heap.size W w6) := hH (blThen HB_5.out h5); have Ki_6 := row_up Ki_5 Li_5 h5; have Li_6 := lt_up Li_5 h5; have Kc_6 := row_up Kc_5 Lc_5 h5; have Lc_6 := lt_up Lc_5 h5; have Kx_6 := row_up Kx_5 Lx_5 h5; have Lx_6 := lt_up Lx_5 h5; have HCc_6 := hH (HCc_5.out.next h5); have HR_6 := hH (HR_5.out.later h5); have HCx_6 := hH (HCx_5.out.next h5); have HZ_6 := hH (blThen HZ_5.out h5); clear h5)) | ((with_reducible refine atW w5 ?_); refine load9 _ rfl (by rfl) _ rfl Kc_5.out ycs ?_) | ((with_reducible refine atW w5 ?_); refine load9 _ rfl (by rfl) _ rfl Kx_5.out yxs ?_) | ((with_reducible refine atC w4 ?_); go_at_call 22; go_must (refine (HFI.out w4).mono ?_; rw [HFIN.out]; rintro e w5 ⟨rfl, h5⟩; have HB_5 : Hid (Below W.heap.size W w5) := hH (blThen HB_4.out h5); have Ki_5 := row_up Ki_4 Li_4 h5; have Li_5 := lt_up Li_4 h5; have Kc_5 := row_up Kc_4 Lc_4 h5; have Lc_5 := lt_up Lc_4 h5; have Kx_5 := row_up Kx_4 Lx_4 h5; have Lx_5 := lt_up Lx_4 h5; have HCc_5 := hH (HCc_4.out.next h5); have HR_5 := hH (HR_4.out.later h5); have HCx_5 := hH (HCx_4.out.next h5); have HZ_5 := hH (blThen HZ_4.out h5); clear h5)) | ((with_reducible refine atW w4 ?_); refine load9 _ rfl (by rfl) _ rfl Kc_4.out ycs ?_) | ((with_reducible refine atW w4 ?_); refine wpList_load_one _ _ rfl (by rfl) b5 3 rfl Kc_4.out Tryz.underlying3 rfl (v := .int .i64 c.phase) yc3 ?_) | ((with_reducible refine atW w4 ?_); refine wpList_load_one _ _ rfl (by rfl) b5 2 rfl Kc_4.out Tryz.underlying24 rfl (v := .slice oa c.ops.length oc) yc2 ?_))
            go_meet
            exact ⟨rfl, HZ_6.out⟩
          ·as_aux_lemma =>
            go_wp2_with (first | go_skip | ((with_reducible refine wpList_skip ?_ ?_); exact rfl; try simp only [Act.put, sA9, sZ9, sS9]) | ((with_reducible refine atC w4 ?_); go_at_call 22; go_must (refine (HFI.out w4).mono ?_; rw [HFIN.out]; rintro e w5 ⟨rfl, h5⟩; have HB_5 : Hid (Below W.heap.size W w5) := hH (blThen HB_4.out h5); have Ki_5 := row_up Ki_4 Li_4 h5; have Li_5 := lt_up Li_4 h5; have Kc_5 := row_up Kc_4 Lc_4 h5; have Lc_5 := lt_up Lc_4 h5; have Kx_5 := row_up Kx_4 Lx_4 h5; have Lx_5 := lt_up Lx_4 h5; have HCc_5 := hH (HCc_4.out.next h5); have HR_5 := hH (HR_4.out.later h5); have HCx_5 := hH (HCx_4.out.next h5); have HZ_5 := hH (blThen HZ_4.out h5); clear h5)) | ((with_reducible refine atW w4 ?_); refine load9 _ rfl (by rfl) _ rfl Kc_4.out ycs ?_) | ((with_reducible refine atW w4 ?_); refine wpList_load_one _ _ rfl (by rfl) b5 3 rfl Kc_4.out Tryz.underlying3 rfl (v := .int .i64 c.phase) yc3 ?_) | ((with_reducible refine atW w4 ?_); refine wpList_load_one _ _ rfl (by rfl) b5 2 rfl Kc_4.out Tryz.underlying24 rfl (v := .slice oa c.ops.length oc) yc2 ?_))
            go_meet
            exact ⟨rfl, HZ_5.out⟩
         ·have HFIN := hH hfin
          have HCE := hH (HGR.out.fin hfin)
          clear hfin
          cases bb
          ·have HCE := hH (HAN.out HBB.out.symm)
           as_aux_lemma =>
            go_wp2_with (first | go_skip | ((with_reducible refine wpList_skip ?_ ?_); exact rfl; try simp only [Act.put, sA9, sZ9, sS9]) | ((with_reducible refine atC w6 ?_); go_at_call 16; go_must (refine (HSM.out HCE.out w6 HCx_6.out.at HCc_6.out.at).mono ?_; rintro e w7 ⟨rfl, h5⟩; have Ki_7 := row_up Ki_6 Li_6 h5; have Li_7 := lt_up Li_6 h5; have Kc_7 := row_up Kc_6 Lc_6 h5; have Lc_7 := lt_up Lc_6 h5; have Kx_7 := row_up Kx_6 Lx_6 h5; have Lx_7 := lt_up Lx_6 h5; have HCc_7 := hH (HCc_6.out.next h5); have HR_7 := hH (HR_6.out.later h5); have HCx_7 := hH (HCx_6.out.next h5); have HZ_7 := hH (blThen HZ_6.out h5); clear h5)) | ((with_reducible refine atW w6 ?_); refine load9 _ rfl (by rfl) _ rfl Kc_6.out ycs ?_) | ((with_reducible refine atW w6 ?_); refine load9 _ rfl (by rfl) _ rfl Kx_6.out yxs ?_) | ((with_reducible refine atC w5 ?_); go_at_call 16; go_must (refine (HSM.out HCE.out w5 HCx_5.out.at HCc_5.out.at).mono ?_; rintro e w6 ⟨rfl, h5⟩; have HB_6 : Hid (Below W.heap.size W w6) := hH (blThen HB_5.out h5); have Ki_6 := row_up Ki_5 Li_5 h5; have Li_6 := lt_up Li_5 h5; have Kc_6 := row_up Kc_5 Lc_5 h5; have Lc_6 := lt_up Lc_5 h5; have Kx_6 := row_up Kx_5 Lx_5 h5; have Lx_6 := lt_up Lx_5 h5; have HCc_6 := hH (HCc_5.out.next h5); have HR_6 := hH (HR_5.out.later h5); have HCx_6 := hH (HCx_5.out.next h5); have HZ_6 := hH (blThen HZ_5.out h5); clear h5)) | ((with_reducible refine atW w5 ?_); refine load9 _ rfl (by rfl) _ rfl Kc_5.out ycs ?_) | ((with_reducible refine atW w5 ?_); refine load9 _ rfl (by rfl) _ rfl Kx_5.out yxs ?_) | ((with_reducible refine atC w4 ?_); go_at_call 22; go_must (refine (HFI.out w4).mono ?_; rw [HFIN.out]; rintro e w5 ⟨rfl, h5⟩; have HB_5 : Hid (Below W.heap.size W w5) := hH (blThen HB_4.out h5); have Ki_5 := row_up Ki_4 Li_4 h5; have Li_5 := lt_up Li_4 h5; have Kc_5 := row_up Kc_4 Lc_4 h5; have Lc_5 := lt_up Lc_4 h5; have Kx_5 := row_up Kx_4 Lx_4 h5; have Lx_5 := lt_up Lx_4 h5; have HCc_5 := hH (HCc_4.out.next h5); have HR_5 := hH (HR_4.out.later h5); have HCx_5 := hH (HCx_4.out.next h5); have HZ_5 := hH (blThen HZ_4.out h5); clear h5)) | ((with_reducible refine atW w4 ?_); refine load9 _ rfl (by rfl) _ rfl Kc_4.out ycs ?_) | ((with_reducible refine atW w4 ?_); refine wpList_load_one _ _ rfl (by rfl) b5 3 rfl Kc_4.out Tryz.underlying3 rfl (v := .int .i64 c.phase) yc3 ?_) | ((with_reducible refine atW w4 ?_); refine wpList_load_one _ _ rfl (by rfl) b5 2 rfl Kc_4.out Tryz.underlying24 rfl (v := .slice oa c.ops.length oc) yc2 ?_))
            go_meet
            exact ⟨rfl, HZ_7.out⟩
          ·as_aux_lemma =>
            go_wp2_with (first | go_skip | ((with_reducible refine wpList_skip ?_ ?_); exact rfl; try simp only [Act.put, sA9, sZ9, sS9]) | ((with_reducible refine atC w5 ?_); go_at_call 16; go_must (refine (HSM.out HCE.out w5 HCx_5.out.at HCc_5.out.at).mono ?_; rintro e w6 ⟨rfl, h5⟩; have HB_6 : Hid (Below W.heap.size W w6) := hH (blThen HB_5.out h5); have Ki_6 := row_up Ki_5 Li_5 h5; have Li_6 := lt_up Li_5 h5; have Kc_6 := row_up Kc_5 Lc_5 h5; have Lc_6 := lt_up Lc_5 h5; have Kx_6 := row_up Kx_5 Lx_5 h5; have Lx_6 := lt_up Lx_5 h5; have HCc_6 := hH (HCc_5.out.next h5); have HR_6 := hH (HR_5.out.later h5); have HCx_6 := hH (HCx_5.out.next h5); have HZ_6 := hH (blThen HZ_5.out h5); clear h5)) | ((with_reducible refine atW w5 ?_); refine load9 _ rfl (by rfl) _ rfl Kc_5.out ycs ?_) | ((with_reducible refine atW w5 ?_); refine load9 _ rfl (by rfl) _ rfl Kx_5.out yxs ?_) | ((with_reducible refine atC w4 ?_); go_at_call 22; go_must (refine (HFI.out w4).mono ?_; rw [HFIN.out]; rintro e w5 ⟨rfl, h5⟩; have HB_5 : Hid (Below W.heap.size W w5) := hH (blThen HB_4.out h5); have Ki_5 := row_up Ki_4 Li_4 h5; have Li_5 := lt_up Li_4 h5; have Kc_5 := row_up Kc_4 Lc_4 h5; have Lc_5 := lt_up Lc_4 h5; have Kx_5 := row_up Kx_4 Lx_4 h5; have Lx_5 := lt_up Lx_4 h5; have HCc_5 := hH (HCc_4.out.next h5); have HR_5 := hH (HR_4.out.later h5); have HCx_5 := hH (HCx_4.out.next h5); have HZ_5 := hH (blThen HZ_4.out h5); clear h5)) | ((with_reducible refine atW w4 ?_); refine load9 _ rfl (by rfl) _ rfl Kc_4.out ycs ?_) | ((with_reducible refine atW w4 ?_); refine wpList_load_one _ _ rfl (by rfl) b5 3 rfl Kc_4.out Tryz.underlying3 rfl (v := .int .i64 c.phase) yc3 ?_) | ((with_reducible refine atW w4 ?_); refine wpList_load_one _ _ rfl (by rfl) b5 2 rfl Kc_4.out Tryz.underlying24 rfl (v := .slice oa c.ops.length oc) yc2 ?_))
            go_meet
            exact ⟨rfl, HZ_6.out⟩
       ·have h0m := List.length_pos_iff.2 ho
        have h0d := decide_eq_true h0m
        have h0n := len_yes ho
        have h0 := decide_eq_true h0n
        have HSE := hH (HGR.out.seen ho)
        have HSEQ := hH HSE.out.2.2
        have hv1 : cn.vote.1 = c.vote.1 := congrArg Prod.fst HSE.out.1
        have hv2 : cn.vote.2 = c.vote.2 := congrArg Prod.snd HSE.out.1
        have hfa : cn.fast = c.fast := HSE.out.2.1
        rcases Int.lt_or_le c.phase 2 with hp2 | hp2
        rotate_left
        ·have hp3 := decide_eq_true hp2
         have HVEQ := hH (HGR.out.val hp2)
         cases hfin : finB c
         ·have HFIN := hH hfin
          clear hfin
          cases bb
          ·have HCE := hH (HAN.out HBB.out.symm)
           as_aux_lemma =>
            go_wp2_with (first | go_skip | ((with_reducible refine wpList_skip ?_ ?_); exact rfl; try simp only [Act.put, sA9, sZ9, sS9]) | ((with_reducible refine atC w7 ?_); go_at_call 16; go_must (refine (HSM.out HCE.out w7 HCx_7.out.at HCc_7.out.at).mono ?_; rintro e w8 ⟨rfl, h5⟩; have Ki_8 := row_up Ki_7 Li_7 h5; have Li_8 := lt_up Li_7 h5; have Kc_8 := row_up Kc_7 Lc_7 h5; have Lc_8 := lt_up Lc_7 h5; have Kx_8 := row_up Kx_7 Lx_7 h5; have Lx_8 := lt_up Lx_7 h5; have HCc_8 := hH (HCc_7.out.next h5); have HR_8 := hH (HR_7.out.later h5); have HCx_8 := hH (HCx_7.out.next h5); have HZ_8 := hH (blThen HZ_7.out h5); clear h5)) | ((with_reducible refine atW w7 ?_); refine load9 _ rfl (by rfl) _ rfl Kc_7.out ycs ?_) | ((with_reducible refine atW w7 ?_); refine load9 _ rfl (by rfl) _ rfl Kx_7.out yxs ?_) | ((with_reducible refine atC w6 ?_); go_at_call 22; go_must (refine (HFI.out w6).mono ?_; rw [HFIN.out]; rintro e w7 ⟨rfl, h5⟩; have Ki_7 := row_up Ki_6 Li_6 h5; have Li_7 := lt_up Li_6 h5; have Kc_7 := row_up Kc_6 Lc_6 h5; have Lc_7 := lt_up Lc_6 h5; have Kx_7 := row_up Kx_6 Lx_6 h5; have Lx_7 := lt_up Lx_6 h5; have HCc_7 := hH (HCc_6.out.next h5); have HR_7 := hH (HR_6.out.later h5); have HCx_7 := hH (HCx_6.out.next h5); have HZ_7 := hH (blThen HZ_6.out h5); clear h5)) | ((with_reducible refine atW w6 ?_); refine load9 _ rfl (by rfl) _ rfl Kc_6.out ycs ?_) | ((with_reducible refine atC w5 ?_); go_at_call 30; go_must (refine (rsamev_any cn.val c.val lxd ld w5 HCx_5.out.at.d HCc_5.out.at.d HFN.out.deps).mono ?_; rw [decide_eq_true HVEQ.out]; rintro e w6 ⟨rfl, h5⟩; have HB_6 : Hid (Below W.heap.size W w6) := hH (blThen HB_5.out h5); have Ki_6 := row_up Ki_5 Li_5 h5; have Li_6 := lt_up Li_5 h5; have Kc_6 := row_up Kc_5 Lc_5 h5; have Lc_6 := lt_up Lc_5 h5; have Kx_6 := row_up Kx_5 Lx_5 h5; have Lx_6 := lt_up Lx_5 h5; have HCc_6 := hH (HCc_5.out.next h5); have HR_6 := hH (HR_5.out.later h5); have HCx_6 := hH (HCx_5.out.next h5); have HZ_6 := hH (blThen HZ_5.out h5); clear h5)) | ((with_reducible refine atW w5 ?_); refine wpList_load_part _ _ rfl (by rfl) b5 15 rfl Kc_5.out Tryz.underlying27 rfl #[.bool c.val.1, .int .i64 c.val.2.1.1, .int .i64 c.val.2.1.2, ld] (by kernel_rfl) (four_at yc15 yc16 yc17 yc18) ?_) | ((with_reducible refine atW w5 ?_); refine wpList_load_part _ _ rfl (by rfl) px 15 rfl Kx_5.out Tryz.underlying27 rfl #[.bool cn.val.1, .int .i64 cn.val.2.1.1, .int .i64 cn.val.2.1.2, lxd] (by kernel_rfl) (four_at yx15 yx16 yx17 yx18) ?_) | ((with_reducible refine atW w5 ?_); refine wpList_load_one _ _ rfl (by rfl) b5 3 rfl Kc_5.out Tryz.underlying3 rfl (v := .int .i64 c.phase) yc3 ?_) | ((with_reducible refine atC w4 ?_); go_at_call 29; go_must (refine (opsame_any _ _ cn.ops c.ops w4 (by have := HFN.out.ops; omega) (by have := HF.out.ops; omega) HCx_4.out.at.o HCc_4.out.at.o).mono ?_; rw [decide_eq_true HSEQ.out]; rintro e w5 ⟨rfl, h5⟩; have HB_5 : Hid (Below W.heap.size W w5) := hH (blThen HB_4.out h5); have Ki_5 := row_up Ki_4 Li_4 h5; have Li_5 := lt_up Li_4 h5; have Kc_5 := row_up Kc_4 Lc_4 h5; have Lc_5 := lt_up Lc_4 h5; have Kx_5 := row_up Kx_4 Lx_4 h5; have Lx_5 := lt_up Lx_4 h5; have HCc_5 := hH (HCc_4.out.next h5); have HR_5 := hH (HR_4.out.later h5); have HCx_5 := hH (HCx_4.out.next h5); have HZ_5 := hH (blThen HZ_4.out h5); clear h5)) | ((with_reducible refine atW w4 ?_); refine wpList_load_one _ _ rfl (by rfl) px 2 rfl Kx_4.out Tryz.underlying24 rfl (v := .slice xa cn.ops.length xc) yx2 ?_) | ((with_reducible refine atW w4 ?_); refine wpList_load_one _ _ rfl (by rfl) b5 8 rfl Kc_4.out Tryz.underlying4 rfl (v := .bool c.fast) yc8 ?_) | ((with_reducible refine atW w4 ?_); refine wpList_load_one _ _ rfl (by rfl) px 8 rfl Kx_4.out Tryz.underlying4 rfl (v := .bool cn.fast) yx8 ?_) | ((with_reducible refine atW w4 ?_); refine wpList_load_part _ _ rfl (by rfl) b5 6 rfl Kc_4.out Tryz.underlying23 rfl #[.int .i64 c.vote.1, .int .i64 c.vote.2] (by kernel_rfl) (two_at yc6 yc7) ?_) | ((with_reducible refine atW w4 ?_); refine wpList_load_part _ _ rfl (by rfl) px 6 rfl Kx_4.out Tryz.underlying23 rfl #[.int .i64 cn.vote.1, .int .i64 cn.vote.2] (by kernel_rfl) (two_at yx6 yx7) ?_) | ((with_reducible refine atW w4 ?_); refine wpList_load_one _ _ rfl (by rfl) b5 2 rfl Kc_4.out Tryz.underlying24 rfl (v := .slice oa c.ops.length oc) yc2 ?_))
            go_meet
            exact ⟨rfl, HZ_8.out⟩
          ·as_aux_lemma =>
            go_wp2_with (first | go_skip | ((with_reducible refine wpList_skip ?_ ?_); exact rfl; try simp only [Act.put, sA9, sZ9, sS9]) | ((with_reducible refine atC w6 ?_); go_at_call 22; go_must (refine (HFI.out w6).mono ?_; rw [HFIN.out]; rintro e w7 ⟨rfl, h5⟩; have Ki_7 := row_up Ki_6 Li_6 h5; have Li_7 := lt_up Li_6 h5; have Kc_7 := row_up Kc_6 Lc_6 h5; have Lc_7 := lt_up Lc_6 h5; have Kx_7 := row_up Kx_6 Lx_6 h5; have Lx_7 := lt_up Lx_6 h5; have HCc_7 := hH (HCc_6.out.next h5); have HR_7 := hH (HR_6.out.later h5); have HCx_7 := hH (HCx_6.out.next h5); have HZ_7 := hH (blThen HZ_6.out h5); clear h5)) | ((with_reducible refine atW w6 ?_); refine load9 _ rfl (by rfl) _ rfl Kc_6.out ycs ?_) | ((with_reducible refine atC w5 ?_); go_at_call 30; go_must (refine (rsamev_any cn.val c.val lxd ld w5 HCx_5.out.at.d HCc_5.out.at.d HFN.out.deps).mono ?_; rw [decide_eq_true HVEQ.out]; rintro e w6 ⟨rfl, h5⟩; have HB_6 : Hid (Below W.heap.size W w6) := hH (blThen HB_5.out h5); have Ki_6 := row_up Ki_5 Li_5 h5; have Li_6 := lt_up Li_5 h5; have Kc_6 := row_up Kc_5 Lc_5 h5; have Lc_6 := lt_up Lc_5 h5; have Kx_6 := row_up Kx_5 Lx_5 h5; have Lx_6 := lt_up Lx_5 h5; have HCc_6 := hH (HCc_5.out.next h5); have HR_6 := hH (HR_5.out.later h5); have HCx_6 := hH (HCx_5.out.next h5); have HZ_6 := hH (blThen HZ_5.out h5); clear h5)) | ((with_reducible refine atW w5 ?_); refine wpList_load_part _ _ rfl (by rfl) b5 15 rfl Kc_5.out Tryz.underlying27 rfl #[.bool c.val.1, .int .i64 c.val.2.1.1, .int .i64 c.val.2.1.2, ld] (by kernel_rfl) (four_at yc15 yc16 yc17 yc18) ?_) | ((with_reducible refine atW w5 ?_); refine wpList_load_part _ _ rfl (by rfl) px 15 rfl Kx_5.out Tryz.underlying27 rfl #[.bool cn.val.1, .int .i64 cn.val.2.1.1, .int .i64 cn.val.2.1.2, lxd] (by kernel_rfl) (four_at yx15 yx16 yx17 yx18) ?_) | ((with_reducible refine atW w5 ?_); refine wpList_load_one _ _ rfl (by rfl) b5 3 rfl Kc_5.out Tryz.underlying3 rfl (v := .int .i64 c.phase) yc3 ?_) | ((with_reducible refine atC w4 ?_); go_at_call 29; go_must (refine (opsame_any _ _ cn.ops c.ops w4 (by have := HFN.out.ops; omega) (by have := HF.out.ops; omega) HCx_4.out.at.o HCc_4.out.at.o).mono ?_; rw [decide_eq_true HSEQ.out]; rintro e w5 ⟨rfl, h5⟩; have HB_5 : Hid (Below W.heap.size W w5) := hH (blThen HB_4.out h5); have Ki_5 := row_up Ki_4 Li_4 h5; have Li_5 := lt_up Li_4 h5; have Kc_5 := row_up Kc_4 Lc_4 h5; have Lc_5 := lt_up Lc_4 h5; have Kx_5 := row_up Kx_4 Lx_4 h5; have Lx_5 := lt_up Lx_4 h5; have HCc_5 := hH (HCc_4.out.next h5); have HR_5 := hH (HR_4.out.later h5); have HCx_5 := hH (HCx_4.out.next h5); have HZ_5 := hH (blThen HZ_4.out h5); clear h5)) | ((with_reducible refine atW w4 ?_); refine wpList_load_one _ _ rfl (by rfl) px 2 rfl Kx_4.out Tryz.underlying24 rfl (v := .slice xa cn.ops.length xc) yx2 ?_) | ((with_reducible refine atW w4 ?_); refine wpList_load_one _ _ rfl (by rfl) b5 8 rfl Kc_4.out Tryz.underlying4 rfl (v := .bool c.fast) yc8 ?_) | ((with_reducible refine atW w4 ?_); refine wpList_load_one _ _ rfl (by rfl) px 8 rfl Kx_4.out Tryz.underlying4 rfl (v := .bool cn.fast) yx8 ?_) | ((with_reducible refine atW w4 ?_); refine wpList_load_part _ _ rfl (by rfl) b5 6 rfl Kc_4.out Tryz.underlying23 rfl #[.int .i64 c.vote.1, .int .i64 c.vote.2] (by kernel_rfl) (two_at yc6 yc7) ?_) | ((with_reducible refine atW w4 ?_); refine wpList_load_part _ _ rfl (by rfl) px 6 rfl Kx_4.out Tryz.underlying23 rfl #[.int .i64 cn.vote.1, .int .i64 cn.vote.2] (by kernel_rfl) (two_at yx6 yx7) ?_) | ((with_reducible refine atW w4 ?_); refine wpList_load_one _ _ rfl (by rfl) b5 2 rfl Kc_4.out Tryz.underlying24 rfl (v := .slice oa c.ops.length oc) yc2 ?_))
            go_meet
            exact ⟨rfl, HZ_7.out⟩
         ·have HFIN := hH hfin
          have HCE := hH (HGR.out.fin hfin)
          clear hfin
          cases bb
          ·have HCE := hH (HAN.out HBB.out.symm)
           as_aux_lemma =>
            go_wp2_with (first | go_skip | ((with_reducible refine wpList_skip ?_ ?_); exact rfl; try simp only [Act.put, sA9, sZ9, sS9]) | ((with_reducible refine atC w8 ?_); go_at_call 16; go_must (refine (HSM.out HCE.out w8 HCx_8.out.at HCc_8.out.at).mono ?_; rintro e w9 ⟨rfl, h5⟩; have Ki_9 := row_up Ki_8 Li_8 h5; have Kc_9 := row_up Kc_8 Lc_8 h5; have Kx_9 := row_up Kx_8 Lx_8 h5; have HR_9 := hH (HR_8.out.later h5); have HZ_9 := hH (blThen HZ_8.out h5); clear h5)) | ((with_reducible refine atW w8 ?_); refine load9 _ rfl (by rfl) _ rfl Kc_8.out ycs ?_) | ((with_reducible refine atW w8 ?_); refine load9 _ rfl (by rfl) _ rfl Kx_8.out yxs ?_) | ((with_reducible refine atC w7 ?_); go_at_call 16; go_must (refine (HSM.out HCE.out w7 HCx_7.out.at HCc_7.out.at).mono ?_; rintro e w8 ⟨rfl, h5⟩; have Ki_8 := row_up Ki_7 Li_7 h5; have Li_8 := lt_up Li_7 h5; have Kc_8 := row_up Kc_7 Lc_7 h5; have Lc_8 := lt_up Lc_7 h5; have Kx_8 := row_up Kx_7 Lx_7 h5; have Lx_8 := lt_up Lx_7 h5; have HCc_8 := hH (HCc_7.out.next h5); have HR_8 := hH (HR_7.out.later h5); have HCx_8 := hH (HCx_7.out.next h5); have HZ_8 := hH (blThen HZ_7.out h5); clear h5)) | ((with_reducible refine atW w7 ?_); refine load9 _ rfl (by rfl) _ rfl Kc_7.out ycs ?_) | ((with_reducible refine atW w7 ?_); refine load9 _ rfl (by rfl) _ rfl Kx_7.out yxs ?_) | ((with_reducible refine atC w6 ?_); go_at_call 22; go_must (refine (HFI.out w6).mono ?_; rw [HFIN.out]; rintro e w7 ⟨rfl, h5⟩; have Ki_7 := row_up Ki_6 Li_6 h5; have Li_7 := lt_up Li_6 h5; have Kc_7 := row_up Kc_6 Lc_6 h5; have Lc_7 := lt_up Lc_6 h5; have Kx_7 := row_up Kx_6 Lx_6 h5; have Lx_7 := lt_up Lx_6 h5; have HCc_7 := hH (HCc_6.out.next h5); have HR_7 := hH (HR_6.out.later h5); have HCx_7 := hH (HCx_6.out.next h5); have HZ_7 := hH (blThen HZ_6.out h5); clear h5)) | ((with_reducible refine atW w6 ?_); refine load9 _ rfl (by rfl) _ rfl Kc_6.out ycs ?_) | ((with_reducible refine atC w5 ?_); go_at_call 30; go_must (refine (rsamev_any cn.val c.val lxd ld w5 HCx_5.out.at.d HCc_5.out.at.d HFN.out.deps).mono ?_; rw [decide_eq_true HVEQ.out]; rintro e w6 ⟨rfl, h5⟩; have HB_6 : Hid (Below W.heap.size W w6) := hH (blThen HB_5.out h5); have Ki_6 := row_up Ki_5 Li_5 h5; have Li_6 := lt_up Li_5 h5; have Kc_6 := row_up Kc_5 Lc_5 h5; have Lc_6 := lt_up Lc_5 h5; have Kx_6 := row_up Kx_5 Lx_5 h5; have Lx_6 := lt_up Lx_5 h5; have HCc_6 := hH (HCc_5.out.next h5); have HR_6 := hH (HR_5.out.later h5); have HCx_6 := hH (HCx_5.out.next h5); have HZ_6 := hH (blThen HZ_5.out h5); clear h5)) | ((with_reducible refine atW w5 ?_); refine wpList_load_part _ _ rfl (by rfl) b5 15 rfl Kc_5.out Tryz.underlying27 rfl #[.bool c.val.1, .int .i64 c.val.2.1.1, .int .i64 c.val.2.1.2, ld] (by kernel_rfl) (four_at yc15 yc16 yc17 yc18) ?_) | ((with_reducible refine atW w5 ?_); refine wpList_load_part _ _ rfl (by rfl) px 15 rfl Kx_5.out Tryz.underlying27 rfl #[.bool cn.val.1, .int .i64 cn.val.2.1.1, .int .i64 cn.val.2.1.2, lxd] (by kernel_rfl) (four_at yx15 yx16 yx17 yx18) ?_) | ((with_reducible refine atW w5 ?_); refine wpList_load_one _ _ rfl (by rfl) b5 3 rfl Kc_5.out Tryz.underlying3 rfl (v := .int .i64 c.phase) yc3 ?_) | ((with_reducible refine atC w4 ?_); go_at_call 29; go_must (refine (opsame_any _ _ cn.ops c.ops w4 (by have := HFN.out.ops; omega) (by have := HF.out.ops; omega) HCx_4.out.at.o HCc_4.out.at.o).mono ?_; rw [decide_eq_true HSEQ.out]; rintro e w5 ⟨rfl, h5⟩; have HB_5 : Hid (Below W.heap.size W w5) := hH (blThen HB_4.out h5); have Ki_5 := row_up Ki_4 Li_4 h5; have Li_5 := lt_up Li_4 h5; have Kc_5 := row_up Kc_4 Lc_4 h5; have Lc_5 := lt_up Lc_4 h5; have Kx_5 := row_up Kx_4 Lx_4 h5; have Lx_5 := lt_up Lx_4 h5; have HCc_5 := hH (HCc_4.out.next h5); have HR_5 := hH (HR_4.out.later h5); have HCx_5 := hH (HCx_4.out.next h5); have HZ_5 := hH (blThen HZ_4.out h5); clear h5)) | ((with_reducible refine atW w4 ?_); refine wpList_load_one _ _ rfl (by rfl) px 2 rfl Kx_4.out Tryz.underlying24 rfl (v := .slice xa cn.ops.length xc) yx2 ?_) | ((with_reducible refine atW w4 ?_); refine wpList_load_one _ _ rfl (by rfl) b5 8 rfl Kc_4.out Tryz.underlying4 rfl (v := .bool c.fast) yc8 ?_) | ((with_reducible refine atW w4 ?_); refine wpList_load_one _ _ rfl (by rfl) px 8 rfl Kx_4.out Tryz.underlying4 rfl (v := .bool cn.fast) yx8 ?_) | ((with_reducible refine atW w4 ?_); refine wpList_load_part _ _ rfl (by rfl) b5 6 rfl Kc_4.out Tryz.underlying23 rfl #[.int .i64 c.vote.1, .int .i64 c.vote.2] (by kernel_rfl) (two_at yc6 yc7) ?_) | ((with_reducible refine atW w4 ?_); refine wpList_load_part _ _ rfl (by rfl) px 6 rfl Kx_4.out Tryz.underlying23 rfl #[.int .i64 cn.vote.1, .int .i64 cn.vote.2] (by kernel_rfl) (two_at yx6 yx7) ?_) | ((with_reducible refine atW w4 ?_); refine wpList_load_one _ _ rfl (by rfl) b5 2 rfl Kc_4.out Tryz.underlying24 rfl (v := .slice oa c.ops.length oc) yc2 ?_))
            go_meet
            exact ⟨rfl, HZ_9.out⟩
          ·as_aux_lemma =>
            go_wp2_with (first | go_skip | ((with_reducible refine wpList_skip ?_ ?_); exact rfl; try simp only [Act.put, sA9, sZ9, sS9]) | ((with_reducible refine atC w7 ?_); go_at_call 16; go_must (refine (HSM.out HCE.out w7 HCx_7.out.at HCc_7.out.at).mono ?_; rintro e w8 ⟨rfl, h5⟩; have Ki_8 := row_up Ki_7 Li_7 h5; have Li_8 := lt_up Li_7 h5; have Kc_8 := row_up Kc_7 Lc_7 h5; have Lc_8 := lt_up Lc_7 h5; have Kx_8 := row_up Kx_7 Lx_7 h5; have Lx_8 := lt_up Lx_7 h5; have HCc_8 := hH (HCc_7.out.next h5); have HR_8 := hH (HR_7.out.later h5); have HCx_8 := hH (HCx_7.out.next h5); have HZ_8 := hH (blThen HZ_7.out h5); clear h5)) | ((with_reducible refine atW w7 ?_); refine load9 _ rfl (by rfl) _ rfl Kc_7.out ycs ?_) | ((with_reducible refine atW w7 ?_); refine load9 _ rfl (by rfl) _ rfl Kx_7.out yxs ?_) | ((with_reducible refine atC w6 ?_); go_at_call 22; go_must (refine (HFI.out w6).mono ?_; rw [HFIN.out]; rintro e w7 ⟨rfl, h5⟩; have Ki_7 := row_up Ki_6 Li_6 h5; have Li_7 := lt_up Li_6 h5; have Kc_7 := row_up Kc_6 Lc_6 h5; have Lc_7 := lt_up Lc_6 h5; have Kx_7 := row_up Kx_6 Lx_6 h5; have Lx_7 := lt_up Lx_6 h5; have HCc_7 := hH (HCc_6.out.next h5); have HR_7 := hH (HR_6.out.later h5); have HCx_7 := hH (HCx_6.out.next h5); have HZ_7 := hH (blThen HZ_6.out h5); clear h5)) | ((with_reducible refine atW w6 ?_); refine load9 _ rfl (by rfl) _ rfl Kc_6.out ycs ?_) | ((with_reducible refine atC w5 ?_); go_at_call 30; go_must (refine (rsamev_any cn.val c.val lxd ld w5 HCx_5.out.at.d HCc_5.out.at.d HFN.out.deps).mono ?_; rw [decide_eq_true HVEQ.out]; rintro e w6 ⟨rfl, h5⟩; have HB_6 : Hid (Below W.heap.size W w6) := hH (blThen HB_5.out h5); have Ki_6 := row_up Ki_5 Li_5 h5; have Li_6 := lt_up Li_5 h5; have Kc_6 := row_up Kc_5 Lc_5 h5; have Lc_6 := lt_up Lc_5 h5; have Kx_6 := row_up Kx_5 Lx_5 h5; have Lx_6 := lt_up Lx_5 h5; have HCc_6 := hH (HCc_5.out.next h5); have HR_6 := hH (HR_5.out.later h5); have HCx_6 := hH (HCx_5.out.next h5); have HZ_6 := hH (blThen HZ_5.out h5); clear h5)) | ((with_reducible refine atW w5 ?_); refine wpList_load_part _ _ rfl (by rfl) b5 15 rfl Kc_5.out Tryz.underlying27 rfl #[.bool c.val.1, .int .i64 c.val.2.1.1, .int .i64 c.val.2.1.2, ld] (by kernel_rfl) (four_at yc15 yc16 yc17 yc18) ?_) | ((with_reducible refine atW w5 ?_); refine wpList_load_part _ _ rfl (by rfl) px 15 rfl Kx_5.out Tryz.underlying27 rfl #[.bool cn.val.1, .int .i64 cn.val.2.1.1, .int .i64 cn.val.2.1.2, lxd] (by kernel_rfl) (four_at yx15 yx16 yx17 yx18) ?_) | ((with_reducible refine atW w5 ?_); refine wpList_load_one _ _ rfl (by rfl) b5 3 rfl Kc_5.out Tryz.underlying3 rfl (v := .int .i64 c.phase) yc3 ?_) | ((with_reducible refine atC w4 ?_); go_at_call 29; go_must (refine (opsame_any _ _ cn.ops c.ops w4 (by have := HFN.out.ops; omega) (by have := HF.out.ops; omega) HCx_4.out.at.o HCc_4.out.at.o).mono ?_; rw [decide_eq_true HSEQ.out]; rintro e w5 ⟨rfl, h5⟩; have HB_5 : Hid (Below W.heap.size W w5) := hH (blThen HB_4.out h5); have Ki_5 := row_up Ki_4 Li_4 h5; have Li_5 := lt_up Li_4 h5; have Kc_5 := row_up Kc_4 Lc_4 h5; have Lc_5 := lt_up Lc_4 h5; have Kx_5 := row_up Kx_4 Lx_4 h5; have Lx_5 := lt_up Lx_4 h5; have HCc_5 := hH (HCc_4.out.next h5); have HR_5 := hH (HR_4.out.later h5); have HCx_5 := hH (HCx_4.out.next h5); have HZ_5 := hH (blThen HZ_4.out h5); clear h5)) | ((with_reducible refine atW w4 ?_); refine wpList_load_one _ _ rfl (by rfl) px 2 rfl Kx_4.out Tryz.underlying24 rfl (v := .slice xa cn.ops.length xc) yx2 ?_) | ((with_reducible refine atW w4 ?_); refine wpList_load_one _ _ rfl (by rfl) b5 8 rfl Kc_4.out Tryz.underlying4 rfl (v := .bool c.fast) yc8 ?_) | ((with_reducible refine atW w4 ?_); refine wpList_load_one _ _ rfl (by rfl) px 8 rfl Kx_4.out Tryz.underlying4 rfl (v := .bool cn.fast) yx8 ?_) | ((with_reducible refine atW w4 ?_); refine wpList_load_part _ _ rfl (by rfl) b5 6 rfl Kc_4.out Tryz.underlying23 rfl #[.int .i64 c.vote.1, .int .i64 c.vote.2] (by kernel_rfl) (two_at yc6 yc7) ?_) | ((with_reducible refine atW w4 ?_); refine wpList_load_part _ _ rfl (by rfl) px 6 rfl Kx_4.out Tryz.underlying23 rfl #[.int .i64 cn.vote.1, .int .i64 cn.vote.2] (by kernel_rfl) (two_at yx6 yx7) ?_) | ((with_reducible refine atW w4 ?_); refine wpList_load_one _ _ rfl (by rfl) b5 2 rfl Kc_4.out Tryz.underlying24 rfl (v := .slice oa c.ops.length oc) yc2 ?_))
            go_meet
            exact ⟨rfl, HZ_8.out⟩
        ·have hp4 := Int.not_le.2 hp2
         have hp3 := decide_eq_false hp4
         cases hfin : finB c
         ·have HFIN := hH hfin
          clear hfin
          cases bb
          ·have HCE := hH (HAN.out HBB.out.symm)
           as_aux_lemma =>
            go_wp2_with (first | go_skip | ((with_reducible refine wpList_skip ?_ ?_); exact rfl; try simp only [Act.put, sA9, sZ9, sS9]) | ((with_reducible refine atC w6 ?_); go_at_call 16; go_must (refine (HSM.out HCE.out w6 HCx_6.out.at HCc_6.out.at).mono ?_; rintro e w7 ⟨rfl, h5⟩; have Ki_7 := row_up Ki_6 Li_6 h5; have Li_7 := lt_up Li_6 h5; have Kc_7 := row_up Kc_6 Lc_6 h5; have Lc_7 := lt_up Lc_6 h5; have Kx_7 := row_up Kx_6 Lx_6 h5; have Lx_7 := lt_up Lx_6 h5; have HCc_7 := hH (HCc_6.out.next h5); have HR_7 := hH (HR_6.out.later h5); have HCx_7 := hH (HCx_6.out.next h5); have HZ_7 := hH (blThen HZ_6.out h5); clear h5)) | ((with_reducible refine atW w6 ?_); refine load9 _ rfl (by rfl) _ rfl Kc_6.out ycs ?_) | ((with_reducible refine atW w6 ?_); refine load9 _ rfl (by rfl) _ rfl Kx_6.out yxs ?_) | ((with_reducible refine atC w5 ?_); go_at_call 22; go_must (refine (HFI.out w5).mono ?_; rw [HFIN.out]; rintro e w6 ⟨rfl, h5⟩; have HB_6 : Hid (Below W.heap.size W w6) := hH (blThen HB_5.out h5); have Ki_6 := row_up Ki_5 Li_5 h5; have Li_6 := lt_up Li_5 h5; have Kc_6 := row_up Kc_5 Lc_5 h5; have Lc_6 := lt_up Lc_5 h5; have Kx_6 := row_up Kx_5 Lx_5 h5; have Lx_6 := lt_up Lx_5 h5; have HCc_6 := hH (HCc_5.out.next h5); have HR_6 := hH (HR_5.out.later h5); have HCx_6 := hH (HCx_5.out.next h5); have HZ_6 := hH (blThen HZ_5.out h5); clear h5)) | ((with_reducible refine atW w5 ?_); refine load9 _ rfl (by rfl) _ rfl Kc_5.out ycs ?_) | ((with_reducible refine atW w5 ?_); refine wpList_load_one _ _ rfl (by rfl) b5 3 rfl Kc_5.out Tryz.underlying3 rfl (v := .int .i64 c.phase) yc3 ?_) | ((with_reducible refine atC w4 ?_); go_at_call 29; go_must (refine (opsame_any _ _ cn.ops c.ops w4 (by have := HFN.out.ops; omega) (by have := HF.out.ops; omega) HCx_4.out.at.o HCc_4.out.at.o).mono ?_; rw [decide_eq_true HSEQ.out]; rintro e w5 ⟨rfl, h5⟩; have HB_5 : Hid (Below W.heap.size W w5) := hH (blThen HB_4.out h5); have Ki_5 := row_up Ki_4 Li_4 h5; have Li_5 := lt_up Li_4 h5; have Kc_5 := row_up Kc_4 Lc_4 h5; have Lc_5 := lt_up Lc_4 h5; have Kx_5 := row_up Kx_4 Lx_4 h5; have Lx_5 := lt_up Lx_4 h5; have HCc_5 := hH (HCc_4.out.next h5); have HR_5 := hH (HR_4.out.later h5); have HCx_5 := hH (HCx_4.out.next h5); have HZ_5 := hH (blThen HZ_4.out h5); clear h5)) | ((with_reducible refine atW w4 ?_); refine wpList_load_one _ _ rfl (by rfl) px 2 rfl Kx_4.out Tryz.underlying24 rfl (v := .slice xa cn.ops.length xc) yx2 ?_) | ((with_reducible refine atW w4 ?_); refine wpList_load_one _ _ rfl (by rfl) b5 8 rfl Kc_4.out Tryz.underlying4 rfl (v := .bool c.fast) yc8 ?_) | ((with_reducible refine atW w4 ?_); refine wpList_load_one _ _ rfl (by rfl) px 8 rfl Kx_4.out Tryz.underlying4 rfl (v := .bool cn.fast) yx8 ?_) | ((with_reducible refine atW w4 ?_); refine wpList_load_part _ _ rfl (by rfl) b5 6 rfl Kc_4.out Tryz.underlying23 rfl #[.int .i64 c.vote.1, .int .i64 c.vote.2] (by kernel_rfl) (two_at yc6 yc7) ?_) | ((with_reducible refine atW w4 ?_); refine wpList_load_part _ _ rfl (by rfl) px 6 rfl Kx_4.out Tryz.underlying23 rfl #[.int .i64 cn.vote.1, .int .i64 cn.vote.2] (by kernel_rfl) (two_at yx6 yx7) ?_) | ((with_reducible refine atW w4 ?_); refine wpList_load_one _ _ rfl (by rfl) b5 2 rfl Kc_4.out Tryz.underlying24 rfl (v := .slice oa c.ops.length oc) yc2 ?_))
            go_meet
            exact ⟨rfl, HZ_7.out⟩
          ·as_aux_lemma =>
            go_wp2_with (first | go_skip | ((with_reducible refine wpList_skip ?_ ?_); exact rfl; try simp only [Act.put, sA9, sZ9, sS9]) | ((with_reducible refine atC w5 ?_); go_at_call 22; go_must (refine (HFI.out w5).mono ?_; rw [HFIN.out]; rintro e w6 ⟨rfl, h5⟩; have HB_6 : Hid (Below W.heap.size W w6) := hH (blThen HB_5.out h5); have Ki_6 := row_up Ki_5 Li_5 h5; have Li_6 := lt_up Li_5 h5; have Kc_6 := row_up Kc_5 Lc_5 h5; have Lc_6 := lt_up Lc_5 h5; have Kx_6 := row_up Kx_5 Lx_5 h5; have Lx_6 := lt_up Lx_5 h5; have HCc_6 := hH (HCc_5.out.next h5); have HR_6 := hH (HR_5.out.later h5); have HCx_6 := hH (HCx_5.out.next h5); have HZ_6 := hH (blThen HZ_5.out h5); clear h5)) | ((with_reducible refine atW w5 ?_); refine load9 _ rfl (by rfl) _ rfl Kc_5.out ycs ?_) | ((with_reducible refine atW w5 ?_); refine wpList_load_one _ _ rfl (by rfl) b5 3 rfl Kc_5.out Tryz.underlying3 rfl (v := .int .i64 c.phase) yc3 ?_) | ((with_reducible refine atC w4 ?_); go_at_call 29; go_must (refine (opsame_any _ _ cn.ops c.ops w4 (by have := HFN.out.ops; omega) (by have := HF.out.ops; omega) HCx_4.out.at.o HCc_4.out.at.o).mono ?_; rw [decide_eq_true HSEQ.out]; rintro e w5 ⟨rfl, h5⟩; have HB_5 : Hid (Below W.heap.size W w5) := hH (blThen HB_4.out h5); have Ki_5 := row_up Ki_4 Li_4 h5; have Li_5 := lt_up Li_4 h5; have Kc_5 := row_up Kc_4 Lc_4 h5; have Lc_5 := lt_up Lc_4 h5; have Kx_5 := row_up Kx_4 Lx_4 h5; have Lx_5 := lt_up Lx_4 h5; have HCc_5 := hH (HCc_4.out.next h5); have HR_5 := hH (HR_4.out.later h5); have HCx_5 := hH (HCx_4.out.next h5); have HZ_5 := hH (blThen HZ_4.out h5); clear h5)) | ((with_reducible refine atW w4 ?_); refine wpList_load_one _ _ rfl (by rfl) px 2 rfl Kx_4.out Tryz.underlying24 rfl (v := .slice xa cn.ops.length xc) yx2 ?_) | ((with_reducible refine atW w4 ?_); refine wpList_load_one _ _ rfl (by rfl) b5 8 rfl Kc_4.out Tryz.underlying4 rfl (v := .bool c.fast) yc8 ?_) | ((with_reducible refine atW w4 ?_); refine wpList_load_one _ _ rfl (by rfl) px 8 rfl Kx_4.out Tryz.underlying4 rfl (v := .bool cn.fast) yx8 ?_) | ((with_reducible refine atW w4 ?_); refine wpList_load_part _ _ rfl (by rfl) b5 6 rfl Kc_4.out Tryz.underlying23 rfl #[.int .i64 c.vote.1, .int .i64 c.vote.2] (by kernel_rfl) (two_at yc6 yc7) ?_) | ((with_reducible refine atW w4 ?_); refine wpList_load_part _ _ rfl (by rfl) px 6 rfl Kx_4.out Tryz.underlying23 rfl #[.int .i64 cn.vote.1, .int .i64 cn.vote.2] (by kernel_rfl) (two_at yx6 yx7) ?_) | ((with_reducible refine atW w4 ?_); refine wpList_load_one _ _ rfl (by rfl) b5 2 rfl Kc_4.out Tryz.underlying24 rfl (v := .slice oa c.ops.length oc) yc2 ?_))
            go_meet
            exact ⟨rfl, HZ_6.out⟩
         ·have HFIN := hH hfin
          have HCE := hH (HGR.out.fin hfin)
          clear hfin
          cases bb
          ·have HCE := hH (HAN.out HBB.out.symm)
           as_aux_lemma =>
            go_wp2_with (first | go_skip | ((with_reducible refine wpList_skip ?_ ?_); exact rfl; try simp only [Act.put, sA9, sZ9, sS9]) | ((with_reducible refine atC w7 ?_); go_at_call 16; go_must (refine (HSM.out HCE.out w7 HCx_7.out.at HCc_7.out.at).mono ?_; rintro e w8 ⟨rfl, h5⟩; have Ki_8 := row_up Ki_7 Li_7 h5; have Li_8 := lt_up Li_7 h5; have Kc_8 := row_up Kc_7 Lc_7 h5; have Lc_8 := lt_up Lc_7 h5; have Kx_8 := row_up Kx_7 Lx_7 h5; have Lx_8 := lt_up Lx_7 h5; have HCc_8 := hH (HCc_7.out.next h5); have HR_8 := hH (HR_7.out.later h5); have HCx_8 := hH (HCx_7.out.next h5); have HZ_8 := hH (blThen HZ_7.out h5); clear h5)) | ((with_reducible refine atW w7 ?_); refine load9 _ rfl (by rfl) _ rfl Kc_7.out ycs ?_) | ((with_reducible refine atW w7 ?_); refine load9 _ rfl (by rfl) _ rfl Kx_7.out yxs ?_) | ((with_reducible refine atC w6 ?_); go_at_call 16; go_must (refine (HSM.out HCE.out w6 HCx_6.out.at HCc_6.out.at).mono ?_; rintro e w7 ⟨rfl, h5⟩; have Ki_7 := row_up Ki_6 Li_6 h5; have Li_7 := lt_up Li_6 h5; have Kc_7 := row_up Kc_6 Lc_6 h5; have Lc_7 := lt_up Lc_6 h5; have Kx_7 := row_up Kx_6 Lx_6 h5; have Lx_7 := lt_up Lx_6 h5; have HCc_7 := hH (HCc_6.out.next h5); have HR_7 := hH (HR_6.out.later h5); have HCx_7 := hH (HCx_6.out.next h5); have HZ_7 := hH (blThen HZ_6.out h5); clear h5)) | ((with_reducible refine atW w6 ?_); refine load9 _ rfl (by rfl) _ rfl Kc_6.out ycs ?_) | ((with_reducible refine atW w6 ?_); refine load9 _ rfl (by rfl) _ rfl Kx_6.out yxs ?_) | ((with_reducible refine atC w5 ?_); go_at_call 22; go_must (refine (HFI.out w5).mono ?_; rw [HFIN.out]; rintro e w6 ⟨rfl, h5⟩; have HB_6 : Hid (Below W.heap.size W w6) := hH (blThen HB_5.out h5); have Ki_6 := row_up Ki_5 Li_5 h5; have Li_6 := lt_up Li_5 h5; have Kc_6 := row_up Kc_5 Lc_5 h5; have Lc_6 := lt_up Lc_5 h5; have Kx_6 := row_up Kx_5 Lx_5 h5; have Lx_6 := lt_up Lx_5 h5; have HCc_6 := hH (HCc_5.out.next h5); have HR_6 := hH (HR_5.out.later h5); have HCx_6 := hH (HCx_5.out.next h5); have HZ_6 := hH (blThen HZ_5.out h5); clear h5)) | ((with_reducible refine atW w5 ?_); refine load9 _ rfl (by rfl) _ rfl Kc_5.out ycs ?_) | ((with_reducible refine atW w5 ?_); refine wpList_load_one _ _ rfl (by rfl) b5 3 rfl Kc_5.out Tryz.underlying3 rfl (v := .int .i64 c.phase) yc3 ?_) | ((with_reducible refine atC w4 ?_); go_at_call 29; go_must (refine (opsame_any _ _ cn.ops c.ops w4 (by have := HFN.out.ops; omega) (by have := HF.out.ops; omega) HCx_4.out.at.o HCc_4.out.at.o).mono ?_; rw [decide_eq_true HSEQ.out]; rintro e w5 ⟨rfl, h5⟩; have HB_5 : Hid (Below W.heap.size W w5) := hH (blThen HB_4.out h5); have Ki_5 := row_up Ki_4 Li_4 h5; have Li_5 := lt_up Li_4 h5; have Kc_5 := row_up Kc_4 Lc_4 h5; have Lc_5 := lt_up Lc_4 h5; have Kx_5 := row_up Kx_4 Lx_4 h5; have Lx_5 := lt_up Lx_4 h5; have HCc_5 := hH (HCc_4.out.next h5); have HR_5 := hH (HR_4.out.later h5); have HCx_5 := hH (HCx_4.out.next h5); have HZ_5 := hH (blThen HZ_4.out h5); clear h5)) | ((with_reducible refine atW w4 ?_); refine wpList_load_one _ _ rfl (by rfl) px 2 rfl Kx_4.out Tryz.underlying24 rfl (v := .slice xa cn.ops.length xc) yx2 ?_) | ((with_reducible refine atW w4 ?_); refine wpList_load_one _ _ rfl (by rfl) b5 8 rfl Kc_4.out Tryz.underlying4 rfl (v := .bool c.fast) yc8 ?_) | ((with_reducible refine atW w4 ?_); refine wpList_load_one _ _ rfl (by rfl) px 8 rfl Kx_4.out Tryz.underlying4 rfl (v := .bool cn.fast) yx8 ?_) | ((with_reducible refine atW w4 ?_); refine wpList_load_part _ _ rfl (by rfl) b5 6 rfl Kc_4.out Tryz.underlying23 rfl #[.int .i64 c.vote.1, .int .i64 c.vote.2] (by kernel_rfl) (two_at yc6 yc7) ?_) | ((with_reducible refine atW w4 ?_); refine wpList_load_part _ _ rfl (by rfl) px 6 rfl Kx_4.out Tryz.underlying23 rfl #[.int .i64 cn.vote.1, .int .i64 cn.vote.2] (by kernel_rfl) (two_at yx6 yx7) ?_) | ((with_reducible refine atW w4 ?_); refine wpList_load_one _ _ rfl (by rfl) b5 2 rfl Kc_4.out Tryz.underlying24 rfl (v := .slice oa c.ops.length oc) yc2 ?_))
            go_meet
            exact ⟨rfl, HZ_8.out⟩
          ·as_aux_lemma =>
            go_wp2_with (first | go_skip | ((with_reducible refine wpList_skip ?_ ?_); exact rfl; try simp only [Act.put, sA9, sZ9, sS9]) | ((with_reducible refine atC w6 ?_); go_at_call 16; go_must (refine (HSM.out HCE.out w6 HCx_6.out.at HCc_6.out.at).mono ?_; rintro e w7 ⟨rfl, h5⟩; have Ki_7 := row_up Ki_6 Li_6 h5; have Li_7 := lt_up Li_6 h5; have Kc_7 := row_up Kc_6 Lc_6 h5; have Lc_7 := lt_up Lc_6 h5; have Kx_7 := row_up Kx_6 Lx_6 h5; have Lx_7 := lt_up Lx_6 h5; have HCc_7 := hH (HCc_6.out.next h5); have HR_7 := hH (HR_6.out.later h5); have HCx_7 := hH (HCx_6.out.next h5); have HZ_7 := hH (blThen HZ_6.out h5); clear h5)) | ((with_reducible refine atW w6 ?_); refine load9 _ rfl (by rfl) _ rfl Kc_6.out ycs ?_) | ((with_reducible refine atW w6 ?_); refine load9 _ rfl (by rfl) _ rfl Kx_6.out yxs ?_) | ((with_reducible refine atC w5 ?_); go_at_call 22; go_must (refine (HFI.out w5).mono ?_; rw [HFIN.out]; rintro e w6 ⟨rfl, h5⟩; have HB_6 : Hid (Below W.heap.size W w6) := hH (blThen HB_5.out h5); have Ki_6 := row_up Ki_5 Li_5 h5; have Li_6 := lt_up Li_5 h5; have Kc_6 := row_up Kc_5 Lc_5 h5; have Lc_6 := lt_up Lc_5 h5; have Kx_6 := row_up Kx_5 Lx_5 h5; have Lx_6 := lt_up Lx_5 h5; have HCc_6 := hH (HCc_5.out.next h5); have HR_6 := hH (HR_5.out.later h5); have HCx_6 := hH (HCx_5.out.next h5); have HZ_6 := hH (blThen HZ_5.out h5); clear h5)) | ((with_reducible refine atW w5 ?_); refine load9 _ rfl (by rfl) _ rfl Kc_5.out ycs ?_) | ((with_reducible refine atW w5 ?_); refine wpList_load_one _ _ rfl (by rfl) b5 3 rfl Kc_5.out Tryz.underlying3 rfl (v := .int .i64 c.phase) yc3 ?_) | ((with_reducible refine atC w4 ?_); go_at_call 29; go_must (refine (opsame_any _ _ cn.ops c.ops w4 (by have := HFN.out.ops; omega) (by have := HF.out.ops; omega) HCx_4.out.at.o HCc_4.out.at.o).mono ?_; rw [decide_eq_true HSEQ.out]; rintro e w5 ⟨rfl, h5⟩; have HB_5 : Hid (Below W.heap.size W w5) := hH (blThen HB_4.out h5); have Ki_5 := row_up Ki_4 Li_4 h5; have Li_5 := lt_up Li_4 h5; have Kc_5 := row_up Kc_4 Lc_4 h5; have Lc_5 := lt_up Lc_4 h5; have Kx_5 := row_up Kx_4 Lx_4 h5; have Lx_5 := lt_up Lx_4 h5; have HCc_5 := hH (HCc_4.out.next h5); have HR_5 := hH (HR_4.out.later h5); have HCx_5 := hH (HCx_4.out.next h5); have HZ_5 := hH (blThen HZ_4.out h5); clear h5)) | ((with_reducible refine atW w4 ?_); refine wpList_load_one _ _ rfl (by rfl) px 2 rfl Kx_4.out Tryz.underlying24 rfl (v := .slice xa cn.ops.length xc) yx2 ?_) | ((with_reducible refine atW w4 ?_); refine wpList_load_one _ _ rfl (by rfl) b5 8 rfl Kc_4.out Tryz.underlying4 rfl (v := .bool c.fast) yc8 ?_) | ((with_reducible refine atW w4 ?_); refine wpList_load_one _ _ rfl (by rfl) px 8 rfl Kx_4.out Tryz.underlying4 rfl (v := .bool cn.fast) yx8 ?_) | ((with_reducible refine atW w4 ?_); refine wpList_load_part _ _ rfl (by rfl) b5 6 rfl Kc_4.out Tryz.underlying23 rfl #[.int .i64 c.vote.1, .int .i64 c.vote.2] (by kernel_rfl) (two_at yc6 yc7) ?_) | ((with_reducible refine atW w4 ?_); refine wpList_load_part _ _ rfl (by rfl) px 6 rfl Kx_4.out Tryz.underlying23 rfl #[.int .i64 cn.vote.1, .int .i64 cn.vote.2] (by kernel_rfl) (two_at yx6 yx7) ?_) | ((with_reducible refine atW w4 ?_); refine wpList_load_one _ _ rfl (by rfl) b5 2 rfl Kc_4.out Tryz.underlying24 rfl (v := .slice oa c.ops.length oc) yc2 ?_))
            go_meet
            exact ⟨rfl, HZ_7.out⟩
      case rest =>
       obtain ⟨e148, h5⟩ := hcut
       rename World => w5
       rw [e148]
       clear e148
       have HB_5 : Hid (Below W.heap.size W w5) := hH (blThen HB_4.out h5)
       have Ki_5 := row_up Ki_4 Li_4 h5
       have Li_5 := lt_up Li_4 h5
       have Kc_5 := row_up Kc_4 Lc_4 h5
       have Lc_5 := lt_up Lc_4 h5
       have Kx_5 := row_up Kx_4 Lx_4 h5
       have Lx_5 := lt_up Lx_4 h5
       have HCc_5 := hH (HCc_4.out.next h5)
       have HR_5 := hH (HR_4.out.later h5)
       have HCx_5 := hH (HCx_4.out.next h5)
       clear h5
       go_wp2_with (first | go_skip | ((with_reducible refine atW w6 ?_); refine store9 _ _ rfl (by rfl) _ rfl rfl Kc_6.out rfl rfl (cmR_one HCx_6.out.at) ?_; intro zf h1 h2; have HBF : Hid (Below W.heap.size W zf) := hH (HB_6.out.grown h2 HB_6.out.size (fun j hj => by cases hj; exact HG5.out)); have KcF := hH h1; have KiF := hH (grown_other9 Ki_6.out h2 Li_6.out (fun e => by have g := HI5.out; omega)); have HCF := hH (cms_keep HCx_6.out h2 (.inl rfl)); have HSZ := hH h2.size; clear h1 h2) | ((with_reducible refine atW w6 ?_); refine load9 _ rfl (by rfl) _ rfl Kx_6.out rfl ?_) | ((with_reducible refine atC w5 ?_); go_at_call 28; go_must (refine (S1.less_any cn.bound.1 cn.bound.2 c.bound.1 c.bound.2 w5).mono ?_; rw [HBO.out]; rintro e w6 ⟨rfl, h5⟩; have h5 := below_grow (Below.refl _ _) h5; have HB_6 : Hid (Below W.heap.size W w6) := hH (blThen HB_5.out h5); have Ki_6 := row_up Ki_5 Li_5 h5; have Li_6 := lt_up Li_5 h5; have Kc_6 := row_up Kc_5 Lc_5 h5; have Lc_6 := lt_up Lc_5 h5; have Kx_6 := row_up Kx_5 Lx_5 h5; have Lx_6 := lt_up Lx_5 h5; have HCc_6 := hH (HCc_5.out.next h5); have HR_6 := hH (HR_5.out.later h5); have HCx_6 := hH (HCx_5.out.next h5); clear h5)) | ((with_reducible refine atW w5 ?_); refine wpList_load_part _ _ rfl (by rfl) b5 10 rfl Kc_5.out Tryz.underlying23 rfl #[.int .i64 c.bound.1, .int .i64 c.bound.2] (by kernel_rfl) (two_at rfl rfl) ?_) | ((with_reducible refine atW w5 ?_); refine wpList_load_part _ _ rfl (by rfl) px 10 rfl Kx_5.out Tryz.underlying23 rfl #[.int .i64 cn.bound.1, .int .i64 cn.bound.2] (by kernel_rfl) (two_at rfl rfl) ?_))
       go_roundw
       case rel => exact ⟨k + 1, cn, ⟨.slice xa cn.ops.length xc, lxs, lxd, lxw, lxp⟩, hlt, by go_num, HBF.out, KiF.out, Nat.lt_of_lt_of_le Li_6.out HSZ.out, KcF.out, Nat.lt_of_lt_of_le Lc_6.out HSZ.out, HCF.out, HFN.out, HGR.out.may, HIDN.out⟩
       case measure => simp [RowKit.intOf]; omega

theorem cmdGrows_lifted (os : Os) (started : os.Started) (H : Type) (enc : TypeId × Value → H) :
  ReturnsInHanded {} Tryz.checked os 5 .any (Rows.cmdGrowsSpec.pre6 enc Tryz.prog Tryz.f5 Rows.cmdGrowsRow.domain false) (Rows.cmdGrowsSpec.post enc Tryz.prog Tryz.f5 false true false false) := by
 refine law_lift_sized (C := Tryz.checked) own0 started (by kernel_rfl) Tryz.func5 laid0 rfl (by kernel_rfl) (fun _ _ _ _ => trodAll_mk1 (shut_bool Tryz.underlying4 true)) (fun ds h => match ds, h with | [_, _], _ => ⟨rfl, rfl, rfl⟩)
  (ChangeSpec.witness6 (enc := enc) (C := Tryz.checked) false ⟨#[], #[.agg #[.int .i64 0, .int .i64 0], .slice none 0 0], []⟩ 8 (by kernel_rfl) (by kernel_rfl) (by kernel_rfl) (by kernel_rfl)) ?_
 intro W base args ds before hval0 hA0 hlt hsz
 have hval : ∀ (j : Nat) t v, Tryz.f5.params[j]? = some t → args[j]? = some v → Value.okWide Tryz.prog W .any base t v := hval0
 have hA : DataW.TrodAll enc Tryz.prog W 0 (fun _ => true) true Tryz.f5.params.toList args.toList ds before := hA0
 rw [Tryz.params5] at hA hval
 obtain ⟨v0, v1, d0, d1, p0, p1, rfl, rfl, rfl, h0, h1⟩ := trodAll_two hA
 obtain ⟨i1, i2, rfl, _, _⟩ := S1.open_stamp (hval 0 23 v0 rfl rfl) h0
 obtain ⟨L, hl, hm, hx⟩ := open_acts9 (hval 1 49 v1 rfl rfl) h1
 exact cmdGrows_walk (i1, i2) v1 L W hl (fun q hq => ⟨(hx q hq).1, (hx q hq).1.inx (hx q hq).2 hsz (j := 1) (by kernel_rfl) rfl⟩)
theorem cmdGrows_f_inPlace : (Rows.cmdGrowsRow.inPlace == Tryz.prog.inPlace 5) = true := by kernel_rfl
theorem cmdGrows_f_unfollowed : (Rows.cmdGrowsRow.unfollowed == Tryz.prog.unfollowed 5) = true := by kernel_rfl
theorem cmdGrows_f_recurses : (Rows.cmdGrowsRow.recurses == Tryz.prog.recurses 5) = true := by kernel_rfl
theorem cmdGrows_f_named : (Rows.cmdGrowsRow.named == Tryz.prog.varsNamed 5) = true := by kernel_rfl
theorem cmdGrows_laid : laidOutB Tryz.prog = true := by kernel_rfl
theorem cmdGrows_rowed : mapsRowed Tryz.prog = true := by kernel_rfl
theorem cmdGrows_closed : joinedFacts Tryz.prog 5 Tryz.f5 Rows.cmdGrowsSpec Rows.cmdGrowsRow = true := by
 unfold joinedFacts
 rw [cmdGrows_laid, cmdGrows_rowed, cmdGrows_f_inPlace, cmdGrows_f_unfollowed, cmdGrows_f_recurses, cmdGrows_f_named]
 kernel_rfl
theorem cmdGrows_holds : Rows.CmdGrowsSaid :=
 OpenClaim.holds_of_wide 5 Tryz.f5 rfl rfl rfl rfl rfl rfl rfl ⟨rfl, rfl, rfl, rfl, rfl⟩ rfl rfl rfl rfl rfl (by kernel_rfl) Tryz.func5 cmdGrows_closed
  (of_decide_eq_true (by kernel_rfl)) (by unfold Func.isWrapper; rw [if_neg (of_decide_eq_false (by kernel_rfl))]; exact ⟨rfl, rfl⟩)
  (fun os started H enc _ => cmdGrows_lifted os started H enc)
#print axioms cmdGrows_holds
end SC
end Go.Proofs.YtgipkikedacmdaaGreat
