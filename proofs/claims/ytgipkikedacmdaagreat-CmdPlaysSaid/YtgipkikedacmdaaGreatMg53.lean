/- CmdPlays. Conditions: none. -/
import Derived.Deep.DeepCutAuto
import Derived.WalkSpells
import Derived.SizedLaws
import Derived.Test.YtgipkikedacmdaaGreatMg52
import Derived.Test.YtgipkikedacmdaaGreatMg43
import Derived.Test.YtgipkikedacmdaaGreatMg17
import Derived.Test.YtgipkikedacmdaaGreatMg36
import Derived.Test.YtgipkikedacmdaaGreatMg48
import Derived.Test.YtgipkikedacmdaaGreatMg13
set_option maxRecDepth 100000
set_option maxHeartbeats 16000000
set_option linter.unusedVariables false
set_option linter.unusedSimpArgs false
namespace Go.Proofs.YtgipkikedacmdaaGreat
open S3 SN SP
namespace SC
open Go.ChangeShapes Go.WideShapes Go.ChangeAt Go.RowKit Go.Joins Go.Deep
theorem cmdPlays_walk (id : Stp) (va : Value) (L : List AcR) (W : World) (ha : SlG eX W va L) (hL : ∀ q ∈ L, NX W q ∧ InX q.x) :
  Calls Tryz.prog 4 #[.agg #[.int .i64 id.1, .int .i64 id.2], va] W fun e w' => e = .returned (.bool true) ∧ Below W.heap.size W w' := by
 obtain ⟨i1, i2⟩ := id
 obtain ⟨aa, ac, rfl⟩ := ha.form
 have HA0 := hH ha
 have HL := hH hL
 clear ha hL
 simp only
 have HN := hH (fun i o (h : ([(.cells #[.int .i64 i1, .int .i64 i2] 23)] : List Obj)[i]? = some o) => nth_box W [(.cells #[.int .i64 i1, .int .i64 i2] 23)] i o h)
 have HSZ : Hid (W.heap.size + 1 = (W.alloc (.cells #[.int .i64 i1, .int .i64 i2] 23)).heap.size) := hH (HN.out 0 _ rfl).2
 have Ki_0 : Hid ((W.alloc (.cells #[.int .i64 i1, .int .i64 i2] 23)).heap[W.heap.size]? = some (.cells #[.int .i64 i1, .int .i64 i2] 23 (0, 0))) := hH (HN.out 0 _ rfl).1
 have Li_0 : Hid (W.heap.size < (W.alloc (.cells #[.int .i64 i1, .int .i64 i2] 23)).heap.size) := hH (by have := HSZ.out; omega)
 have HB_0 : Hid (Below W.heap.size W (W.alloc (.cells #[.int .i64 i1, .int .i64 i2] 23))) := hH (blAlloc (Below.refl _ _) _)
 clear HN
 go_enter Tryz.func4, Tryz.ntmps4
 go_upto_region 1 with fail
 generalize (W.alloc (.cells #[.int .i64 i1, .int .i64 i2] 23)) = w0 at *
 have hsz0 : W.heap.size + 1 ≤ w0.heap.size := Nat.le_of_eq HSZ.out
 clear HSZ
 by_cases h40 : 40 < L.length
 ·have hb2 : (40 : Int) < (L.length : Int) := by omega
  have hb := decide_eq_true hb2
  go_wp2_with (first | go_skip | ((with_reducible refine atC w0 ?_); go_at_call 10; go_must (refine (live9_any w0).mono ?_; rintro e w1 ⟨rfl, h5⟩; have HB_1 : Hid (Below W.heap.size W w1) := hH (blThen HB_0.out h5); have Ki_1 := row_up Ki_0 Li_0 h5; have Li_1 := lt_up Li_0 h5; clear h5)))
  go_ret
  exact ⟨rfl, HB_1.out⟩
 have hb2 : ¬ (40 : Int) < (L.length : Int) := by omega
 have hb := decide_eq_false hb2
 go_wp2_with (first | go_skip | ((with_reducible refine atW w0 ?_); refine wpList_load_part _ _ rfl (by rfl) _ 0 rfl Ki_0.out Tryz.underlying23 rfl #[.int .i64 i1, .int .i64 i2] (by kernel_rfl) (two_at rfl rfl) ?_))
 cases hc : S1.isS (i1, i2)
 ·go_wp2_with (first | go_skip | ((with_reducible refine atC w1 ?_); go_at_call 10; go_must (refine (live9_any w1).mono ?_; rintro e w2 ⟨rfl, h5⟩; have HB_2 : Hid (Below W.heap.size W w2) := hH (blThen HB_1.out h5); have Ki_2 := row_up Ki_1 Li_1 h5; have Li_2 := lt_up Li_1 h5; clear h5)) | ((with_reducible refine atC w0 ?_); go_at_call 24; go_must (refine (S1.is_any i1 i2 w0).mono ?_; rw [hc]; rintro e w1 ⟨rfl, h5⟩; have h5 := below_grow (Below.refl _ _) h5; have HB_1 : Hid (Below W.heap.size W w1) := hH (blThen HB_0.out h5); have Ki_1 := row_up Ki_0 Li_0 h5; have Li_1 := lt_up Li_0 h5; clear h5)))
  go_ret
  exact ⟨rfl, HB_2.out⟩
 ·have HIS := hH hc
  clear hc
  go_upto_region 3 with (first | go_skip | ((with_reducible refine atC w0 ?_); go_at_call 24; go_must (refine (S1.is_any i1 i2 w0).mono ?_; rw [HIS.out]; rintro e w1 ⟨rfl, h5⟩; have h5 := below_grow (Below.refl _ _) h5; have HB_1 : Hid (Below W.heap.size W w1) := hH (blThen HB_0.out h5); have Ki_1 := row_up Ki_0 Li_0 h5; have Li_1 := lt_up Li_0 h5; clear h5)))
  have KS : Hid (∀ Y : World, Below w1.heap.size w1 Y → Y.heap[W.heap.size]? = some (.cells #[.int .i64 i1, .int .i64 i2] 23 (0, 0))) := hH (fun Y hY => (hY.block W.heap.size Li_1.out).trans Ki_1.out)
  go_cut [5, 6] from 21 to 24 (fun s5 s6 wx => ∃ b5 b6 : Nat, s5 = .pointer (some ⟨b5, 0, none⟩) ∧ s6 = .pointer (some ⟨b6, 0, none⟩) ∧ b5 ≠ b6 ∧ w1.heap.size ≤ b5 ∧ w1.heap.size ≤ b6 ∧ b5 < wx.heap.size ∧ b6 < wx.heap.size ∧ wx.heap[b5]? = some (.cells (r22 i1 i2 (.slice none 0 0) 0 0 0 0 0 false (.slice none 0 0) 0 0 false 0 0 false 0 0 (.slice none 0 0) false (.slice none 0 0) (.slice none 0 0)) 31 (0, 0)) ∧ wx.heap[b6]? = some (.cells (r22 i1 i2 (.slice none 0 0) 0 0 0 0 0 false (.slice none 0 0) 0 0 false 0 0 false 0 0 (.slice none 0 0) false (.slice none 0 0) (.slice none 0 0)) 31 (0, 0)) ∧ Below w1.heap.size w1 wx)
  case first =>
   refine wp_region_held_drew (S := fun Y => Y.heap[W.heap.size]? = some (.cells #[.int .i64 i1, .int .i64 i2] 23 (0, 0))) (by kernel_rfl) (KS.out _ (Below.refl w1.heap.size w1).drew) (fun hHeld => ?_)
   refine wpAnyH_take (i := 0) (oi := ⟨_, _, _, _, _, _⟩) (v := _) rfl (by kernel_rfl) (by kernel_rfl) (by kernel_rfl) (fun _ _ _ h => h) (yields_row (by rfl) _ _ rfl _ 0 rfl (fun w h => h) Tryz.underlying23 rfl #[.int .i64 i1, .int .i64 i2] (by kernel_rfl) (two_at rfl rfl)) (by assumption) ?_
   try simp only [Act.put, sA9, sZ9, sS9]
   refine wpAnyH_take (i := 2) (oi := ⟨_, _, _, _, _, _⟩) (v := _) rfl (by kernel_rfl) (by kernel_rfl) (by kernel_rfl) (fun _ _ _ h => h) (yields_row (by rfl) _ _ rfl _ 0 rfl (fun w h => h) Tryz.underlying23 rfl #[.int .i64 i1, .int .i64 i2] (by kernel_rfl) (two_at rfl rfl)) (by assumption) ?_
   try simp only [Act.put, sA9, sZ9, sS9]
   refine wpAnyH_take (i := 3) (oi := ⟨_, _, _, _, _, _⟩) (v := ?_) rfl (by kernel_rfl) (by kernel_rfl) (by kernel_rfl) (fun _ _ _ h => h) (Or.inl ⟨by rfl, ?_⟩) (by assumption) ?_
   rotate_left
   ·intro w hSw
    try dsimp only at hSw
    go_simp
    try with_reducible rfl
   try simp only [Act.put, sA9, sZ9, sS9]
   have HX : Hid (Below w1.heap.size w1 w1.drew) := hH (Below.refl _ _).drew
   have HB_z0 := HX
   clear HX
   generalize w1.drew = z0 at *
   refine wpAnyH_ready (rs := [1, 4, 5]) (by kernel_rfl) (by simp) ?_
   refine (AllReadyH.cons (o := ⟨_, _, _, _, _, _⟩) rfl (fun K hK => ?_) (AllReadyH.cons (o := ⟨_, _, _, _, _, _⟩) rfl (fun K hK => ?_) (AllReadyH.cons (o := ⟨_, _, _, _, _, _⟩) rfl (fun K hK => ?_) AllReadyH.nil)))
   ·go_simp
    go_at_call 17
    refine (new9_any (i1, i2) z0).mono ?_
    intro e zw1 h
    unfold RetL at h
    obtain ⟨rfl, h5⟩ := h
    simp only [cmV, newC, nilL, z2, val0]
    have HX : Hid (Below z0.heap.size z0 zw1) := hH h5
    have HB_zw1 : Hid (Below w1.heap.size w1 zw1) := hH (blThen HB_z0.out HX.out)
    refine hK.out _ _ (KS.out _ HB_zw1.out) (fun hHeld => ?_)
    clear hK K HX h5
    try simp only [Act.put, sA9, sZ9, sS9]
    refine wpAnyH_ready (rs := [4, 5]) (by kernel_rfl) (by simp) ?_
    refine (AllReadyH.cons (o := ⟨_, _, _, _, _, _⟩) rfl (fun K hK => ?_) (AllReadyH.cons (o := ⟨_, _, _, _, _, _⟩) rfl (fun K hK => ?_) AllReadyH.nil))
    ·go_simp
     have HX : Hid (Below zw1.heap.size zw1 (zw1.alloc (.cells z22 31))) := hH (blAlloc (Below.refl _ _) _)
     have HB_zw2 : Hid (Below w1.heap.size w1 (zw1.alloc (.cells z22 31))) := hH (blThen HB_zw1.out HX.out)
     have KN4 : Hid ((zw1.alloc (.cells z22 31)).heap[zw1.heap.size]? = some (.cells z22 31 (0, 0))) := hH (new_blockC zw1 z22 31)
     have GN4 : Hid (w1.heap.size ≤ zw1.heap.size) := hH HB_zw1.out.size
     have LN4 : Hid (zw1.heap.size < (zw1.alloc (.cells z22 31)).heap.size) := hH (by simp)
     refine hK.out _ _ (KS.out _ HB_zw2.out) (fun hHeld => ?_)
     clear hK K HX
     try simp only [Act.put, sA9, sZ9, sS9]
     generalize (zw1.alloc (.cells z22 31)) = zw2 at *
     refine wpAnyH_ready (rs := [5]) (by kernel_rfl) (by simp) ?_
     refine (AllReadyH.cons (o := ⟨_, _, _, _, _, _⟩) rfl (fun K hK => ?_) AllReadyH.nil)
     ·go_simp
      have HX : Hid (Below zw2.heap.size zw2 (zw2.alloc (.cells z22 31))) := hH (blAlloc (Below.refl _ _) _)
      have HB_zw3 : Hid (Below w1.heap.size w1 (zw2.alloc (.cells z22 31))) := hH (blThen HB_zw2.out HX.out)
      have KN4 := hH ((HX.out.block zw1.heap.size LN4.out).trans KN4.out)
      have KN5 : Hid ((zw2.alloc (.cells z22 31)).heap[zw2.heap.size]? = some (.cells z22 31 (0, 0))) := hH (new_blockC zw2 z22 31)
      have GN5 : Hid (w1.heap.size ≤ zw2.heap.size) := hH HB_zw2.out.size
      have HNE : Hid (zw1.heap.size ≠ zw2.heap.size) := hH (Nat.ne_of_lt LN4.out)
      have LN4 : Hid (zw1.heap.size < (zw2.alloc (.cells z22 31)).heap.size) := hH (Nat.lt_of_lt_of_le LN4.out HX.out.size)
      have LN5 : Hid (zw2.heap.size < (zw2.alloc (.cells z22 31)).heap.size) := hH (by simp)
      refine hK.out _ _ (KS.out _ HB_zw3.out) (fun hHeld => ?_)
      clear hK K HX
      try simp only [Act.put, sA9, sZ9, sS9]
      generalize (zw2.alloc (.cells z22 31)) = zw3 at *
      refine wpAnyH_ready (rs := [6]) (by kernel_rfl) (by simp) ?_
      refine AllReadyH.cons (o := ⟨_, _, _, _, _, _⟩) rfl (fun K hK => ?_) ?_
      rotate_left
      ·exact AllReadyH.nil
      refine ite_yes9 (by rfl) ?_
      refine wp_store9 _ _ rfl _ rfl (cells := (r22 i1 i2 (.slice none 0 0) 0 0 0 0 0 false (.slice none 0 0) 0 0 false 0 0 false 0 0 (.slice none 0 0) false (.slice none 0 0) (.slice none 0 0))) rfl KN4.out rfl rfl (by simp [Value.oneCell']) ?_
      intro zf h1 h2
      have HBF : Hid (Below w1.heap.size w1 zf) := hH (below_grown9 HB_zw3.out h2 GN4.out)
      have KF4 := hH h1
      have KF5 := hH (grown_other9 KN5.out h2 LN5.out (fun e => HNE.out e.symm))
      have LF4 := hH (Nat.lt_of_lt_of_le LN4.out h2.size)
      have LF5 := hH (Nat.lt_of_lt_of_le LN5.out h2.size)
      clear h1 h2
      refine hK.out _ _ (KS.out _ HBF.out) (fun hHeld => ?_)
      clear hK K
      try simp only [Act.put, sA9, sZ9, sS9]
      refine wpAnyH_ready (rs := [7]) (by kernel_rfl) (by simp) ?_
      refine AllReadyH.cons (o := ⟨_, _, _, _, _, _⟩) rfl (fun K hK => ?_) ?_
      rotate_left
      ·exact AllReadyH.nil
      refine ite_yes9 (by rfl) ?_
      refine wp_store9 _ _ rfl _ rfl (cells := (r22 i1 i2 (.slice none 0 0) 0 0 0 0 0 false (.slice none 0 0) 0 0 false 0 0 false 0 0 (.slice none 0 0) false (.slice none 0 0) (.slice none 0 0))) rfl KF5.out rfl rfl (by simp [Value.oneCell']) ?_
      intro zg h1 h2
      have HBG : Hid (Below w1.heap.size w1 zg) := hH (below_grown9 HBF.out h2 GN5.out)
      have KG5 := hH h1
      have KG4 := hH (grown_other9 KF4.out h2 LF4.out HNE.out)
      have LG4 := Nat.lt_of_lt_of_le LF4.out h2.size
      have LG5 := Nat.lt_of_lt_of_le LF5.out h2.size
      clear h1 h2
      refine hK.out _ _ (KS.out _ HBG.out) (fun hHeld => ?_)
      clear hK K
      try simp only [Act.put, sA9, sZ9, sS9]
      refine wpAnyH_done (by kernel_rfl) ?_ _
      go_wp2_with fail
      go_meet
      exact ⟨zw1.heap.size, zw2.heap.size, rfl, rfl, HNE.out, GN4.out, GN5.out, LG4, LG5, KG4.out, KG5.out, HBG.out⟩
    ·go_simp
     have HX : Hid (Below zw1.heap.size zw1 (zw1.alloc (.cells z22 31))) := hH (blAlloc (Below.refl _ _) _)
     have HB_zw4 : Hid (Below w1.heap.size w1 (zw1.alloc (.cells z22 31))) := hH (blThen HB_zw1.out HX.out)
     have KN5 : Hid ((zw1.alloc (.cells z22 31)).heap[zw1.heap.size]? = some (.cells z22 31 (0, 0))) := hH (new_blockC zw1 z22 31)
     have GN5 : Hid (w1.heap.size ≤ zw1.heap.size) := hH HB_zw1.out.size
     have LN5 : Hid (zw1.heap.size < (zw1.alloc (.cells z22 31)).heap.size) := hH (by simp)
     refine hK.out _ _ (KS.out _ HB_zw4.out) (fun hHeld => ?_)
     clear hK K HX
     try simp only [Act.put, sA9, sZ9, sS9]
     generalize (zw1.alloc (.cells z22 31)) = zw4 at *
     refine wpAnyH_ready (rs := [4]) (by kernel_rfl) (by simp) ?_
     refine (AllReadyH.cons (o := ⟨_, _, _, _, _, _⟩) rfl (fun K hK => ?_) AllReadyH.nil)
     ·go_simp
      have HX : Hid (Below zw4.heap.size zw4 (zw4.alloc (.cells z22 31))) := hH (blAlloc (Below.refl _ _) _)
      have HB_zw5 : Hid (Below w1.heap.size w1 (zw4.alloc (.cells z22 31))) := hH (blThen HB_zw4.out HX.out)
      have KN5 := hH ((HX.out.block zw1.heap.size LN5.out).trans KN5.out)
      have KN4 : Hid ((zw4.alloc (.cells z22 31)).heap[zw4.heap.size]? = some (.cells z22 31 (0, 0))) := hH (new_blockC zw4 z22 31)
      have GN4 : Hid (w1.heap.size ≤ zw4.heap.size) := hH HB_zw4.out.size
      have HNE : Hid (zw4.heap.size ≠ zw1.heap.size) := hH (Nat.ne_of_gt LN5.out)
      have LN5 : Hid (zw1.heap.size < (zw4.alloc (.cells z22 31)).heap.size) := hH (Nat.lt_of_lt_of_le LN5.out HX.out.size)
      have LN4 : Hid (zw4.heap.size < (zw4.alloc (.cells z22 31)).heap.size) := hH (by simp)
      refine hK.out _ _ (KS.out _ HB_zw5.out) (fun hHeld => ?_)
      clear hK K HX
      try simp only [Act.put, sA9, sZ9, sS9]
      generalize (zw4.alloc (.cells z22 31)) = zw5 at *
      refine wpAnyH_ready (rs := [6]) (by kernel_rfl) (by simp) ?_
      refine AllReadyH.cons (o := ⟨_, _, _, _, _, _⟩) rfl (fun K hK => ?_) ?_
      rotate_left
      ·exact AllReadyH.nil
      refine ite_yes9 (by rfl) ?_
      refine wp_store9 _ _ rfl _ rfl (cells := (r22 i1 i2 (.slice none 0 0) 0 0 0 0 0 false (.slice none 0 0) 0 0 false 0 0 false 0 0 (.slice none 0 0) false (.slice none 0 0) (.slice none 0 0))) rfl KN4.out rfl rfl (by simp [Value.oneCell']) ?_
      intro zf h1 h2
      have HBF : Hid (Below w1.heap.size w1 zf) := hH (below_grown9 HB_zw5.out h2 GN4.out)
      have KF4 := hH h1
      have KF5 := hH (grown_other9 KN5.out h2 LN5.out (fun e => HNE.out e.symm))
      have LF4 := hH (Nat.lt_of_lt_of_le LN4.out h2.size)
      have LF5 := hH (Nat.lt_of_lt_of_le LN5.out h2.size)
      clear h1 h2
      refine hK.out _ _ (KS.out _ HBF.out) (fun hHeld => ?_)
      clear hK K
      try simp only [Act.put, sA9, sZ9, sS9]
      refine wpAnyH_ready (rs := [7]) (by kernel_rfl) (by simp) ?_
      refine AllReadyH.cons (o := ⟨_, _, _, _, _, _⟩) rfl (fun K hK => ?_) ?_
      rotate_left
      ·exact AllReadyH.nil
      refine ite_yes9 (by rfl) ?_
      refine wp_store9 _ _ rfl _ rfl (cells := (r22 i1 i2 (.slice none 0 0) 0 0 0 0 0 false (.slice none 0 0) 0 0 false 0 0 false 0 0 (.slice none 0 0) false (.slice none 0 0) (.slice none 0 0))) rfl KF5.out rfl rfl (by simp [Value.oneCell']) ?_
      intro zg h1 h2
      have HBG : Hid (Below w1.heap.size w1 zg) := hH (below_grown9 HBF.out h2 GN5.out)
      have KG5 := hH h1
      have KG4 := hH (grown_other9 KF4.out h2 LF4.out HNE.out)
      have LG4 := Nat.lt_of_lt_of_le LF4.out h2.size
      have LG5 := Nat.lt_of_lt_of_le LF5.out h2.size
      clear h1 h2
      refine hK.out _ _ (KS.out _ HBG.out) (fun hHeld => ?_)
      clear hK K
      try simp only [Act.put, sA9, sZ9, sS9]
      refine wpAnyH_done (by kernel_rfl) ?_ _
      go_wp2_with fail
      go_meet
      exact ⟨zw4.heap.size, zw1.heap.size, rfl, rfl, HNE.out, GN4.out, GN5.out, LG4, LG5, KG4.out, KG5.out, HBG.out⟩
   ·go_simp
    have HX : Hid (Below z0.heap.size z0 (z0.alloc (.cells z22 31))) := hH (blAlloc (Below.refl _ _) _)
    have HB_zw6 : Hid (Below w1.heap.size w1 (z0.alloc (.cells z22 31))) := hH (blThen HB_z0.out HX.out)
    have KN4 : Hid ((z0.alloc (.cells z22 31)).heap[z0.heap.size]? = some (.cells z22 31 (0, 0))) := hH (new_blockC z0 z22 31)
    have GN4 : Hid (w1.heap.size ≤ z0.heap.size) := hH HB_z0.out.size
    have LN4 : Hid (z0.heap.size < (z0.alloc (.cells z22 31)).heap.size) := hH (by simp)
    refine hK.out _ _ (KS.out _ HB_zw6.out) (fun hHeld => ?_)
    clear hK K HX
    try simp only [Act.put, sA9, sZ9, sS9]
    generalize (z0.alloc (.cells z22 31)) = zw6 at *
    refine wpAnyH_ready (rs := [1, 5]) (by kernel_rfl) (by simp) ?_
    refine (AllReadyH.cons (o := ⟨_, _, _, _, _, _⟩) rfl (fun K hK => ?_) (AllReadyH.cons (o := ⟨_, _, _, _, _, _⟩) rfl (fun K hK => ?_) AllReadyH.nil))
    ·go_simp
     go_at_call 17
     refine (new9_any (i1, i2) zw6).mono ?_
     intro e zw7 h
     unfold RetL at h
     obtain ⟨rfl, h5⟩ := h
     simp only [cmV, newC, nilL, z2, val0]
     have HX : Hid (Below zw6.heap.size zw6 zw7) := hH h5
     have HB_zw7 : Hid (Below w1.heap.size w1 zw7) := hH (blThen HB_zw6.out HX.out)
     have KN4 := hH ((HX.out.block z0.heap.size LN4.out).trans KN4.out)
     have LN4 : Hid (z0.heap.size < zw7.heap.size) := hH (Nat.lt_of_lt_of_le LN4.out HX.out.size)
     refine hK.out _ _ (KS.out _ HB_zw7.out) (fun hHeld => ?_)
     clear hK K HX h5
     try simp only [Act.put, sA9, sZ9, sS9]
     refine wpAnyH_ready (rs := [5]) (by kernel_rfl) (by simp) ?_
     refine (AllReadyH.cons (o := ⟨_, _, _, _, _, _⟩) rfl (fun K hK => ?_) AllReadyH.nil)
     ·go_simp
      have HX : Hid (Below zw7.heap.size zw7 (zw7.alloc (.cells z22 31))) := hH (blAlloc (Below.refl _ _) _)
      have HB_zw8 : Hid (Below w1.heap.size w1 (zw7.alloc (.cells z22 31))) := hH (blThen HB_zw7.out HX.out)
      have KN4 := hH ((HX.out.block z0.heap.size LN4.out).trans KN4.out)
      have KN5 : Hid ((zw7.alloc (.cells z22 31)).heap[zw7.heap.size]? = some (.cells z22 31 (0, 0))) := hH (new_blockC zw7 z22 31)
      have GN5 : Hid (w1.heap.size ≤ zw7.heap.size) := hH HB_zw7.out.size
      have HNE : Hid (z0.heap.size ≠ zw7.heap.size) := hH (Nat.ne_of_lt LN4.out)
      have LN4 : Hid (z0.heap.size < (zw7.alloc (.cells z22 31)).heap.size) := hH (Nat.lt_of_lt_of_le LN4.out HX.out.size)
      have LN5 : Hid (zw7.heap.size < (zw7.alloc (.cells z22 31)).heap.size) := hH (by simp)
      refine hK.out _ _ (KS.out _ HB_zw8.out) (fun hHeld => ?_)
      clear hK K HX
      try simp only [Act.put, sA9, sZ9, sS9]
      generalize (zw7.alloc (.cells z22 31)) = zw8 at *
      refine wpAnyH_ready (rs := [6]) (by kernel_rfl) (by simp) ?_
      refine AllReadyH.cons (o := ⟨_, _, _, _, _, _⟩) rfl (fun K hK => ?_) ?_
      rotate_left
      ·exact AllReadyH.nil
      refine ite_yes9 (by rfl) ?_
      refine wp_store9 _ _ rfl _ rfl (cells := (r22 i1 i2 (.slice none 0 0) 0 0 0 0 0 false (.slice none 0 0) 0 0 false 0 0 false 0 0 (.slice none 0 0) false (.slice none 0 0) (.slice none 0 0))) rfl KN4.out rfl rfl (by simp [Value.oneCell']) ?_
      intro zf h1 h2
      have HBF : Hid (Below w1.heap.size w1 zf) := hH (below_grown9 HB_zw8.out h2 GN4.out)
      have KF4 := hH h1
      have KF5 := hH (grown_other9 KN5.out h2 LN5.out (fun e => HNE.out e.symm))
      have LF4 := hH (Nat.lt_of_lt_of_le LN4.out h2.size)
      have LF5 := hH (Nat.lt_of_lt_of_le LN5.out h2.size)
      clear h1 h2
      refine hK.out _ _ (KS.out _ HBF.out) (fun hHeld => ?_)
      clear hK K
      try simp only [Act.put, sA9, sZ9, sS9]
      refine wpAnyH_ready (rs := [7]) (by kernel_rfl) (by simp) ?_
      refine AllReadyH.cons (o := ⟨_, _, _, _, _, _⟩) rfl (fun K hK => ?_) ?_
      rotate_left
      ·exact AllReadyH.nil
      refine ite_yes9 (by rfl) ?_
      refine wp_store9 _ _ rfl _ rfl (cells := (r22 i1 i2 (.slice none 0 0) 0 0 0 0 0 false (.slice none 0 0) 0 0 false 0 0 false 0 0 (.slice none 0 0) false (.slice none 0 0) (.slice none 0 0))) rfl KF5.out rfl rfl (by simp [Value.oneCell']) ?_
      intro zg h1 h2
      have HBG : Hid (Below w1.heap.size w1 zg) := hH (below_grown9 HBF.out h2 GN5.out)
      have KG5 := hH h1
      have KG4 := hH (grown_other9 KF4.out h2 LF4.out HNE.out)
      have LG4 := Nat.lt_of_lt_of_le LF4.out h2.size
      have LG5 := Nat.lt_of_lt_of_le LF5.out h2.size
      clear h1 h2
      refine hK.out _ _ (KS.out _ HBG.out) (fun hHeld => ?_)
      clear hK K
      try simp only [Act.put, sA9, sZ9, sS9]
      refine wpAnyH_done (by kernel_rfl) ?_ _
      go_wp2_with fail
      go_meet
      exact ⟨z0.heap.size, zw7.heap.size, rfl, rfl, HNE.out, GN4.out, GN5.out, LG4, LG5, KG4.out, KG5.out, HBG.out⟩
    ·go_simp
     have HX : Hid (Below zw6.heap.size zw6 (zw6.alloc (.cells z22 31))) := hH (blAlloc (Below.refl _ _) _)
     have HB_zw9 : Hid (Below w1.heap.size w1 (zw6.alloc (.cells z22 31))) := hH (blThen HB_zw6.out HX.out)
     have KN4 := hH ((HX.out.block z0.heap.size LN4.out).trans KN4.out)
     have KN5 : Hid ((zw6.alloc (.cells z22 31)).heap[zw6.heap.size]? = some (.cells z22 31 (0, 0))) := hH (new_blockC zw6 z22 31)
     have GN5 : Hid (w1.heap.size ≤ zw6.heap.size) := hH HB_zw6.out.size
     have HNE : Hid (z0.heap.size ≠ zw6.heap.size) := hH (Nat.ne_of_lt LN4.out)
     have LN4 : Hid (z0.heap.size < (zw6.alloc (.cells z22 31)).heap.size) := hH (Nat.lt_of_lt_of_le LN4.out HX.out.size)
     have LN5 : Hid (zw6.heap.size < (zw6.alloc (.cells z22 31)).heap.size) := hH (by simp)
     refine hK.out _ _ (KS.out _ HB_zw9.out) (fun hHeld => ?_)
     clear hK K HX
     try simp only [Act.put, sA9, sZ9, sS9]
     generalize (zw6.alloc (.cells z22 31)) = zw9 at *
     refine wpAnyH_ready (rs := [1]) (by kernel_rfl) (by simp) ?_
     refine (AllReadyH.cons (o := ⟨_, _, _, _, _, _⟩) rfl (fun K hK => ?_) AllReadyH.nil)
     ·go_simp
      go_at_call 17
      refine (new9_any (i1, i2) zw9).mono ?_
      intro e zw10 h
      unfold RetL at h
      obtain ⟨rfl, h5⟩ := h
      simp only [cmV, newC, nilL, z2, val0]
      have HX : Hid (Below zw9.heap.size zw9 zw10) := hH h5
      have HB_zw10 : Hid (Below w1.heap.size w1 zw10) := hH (blThen HB_zw9.out HX.out)
      have KN4 := hH ((HX.out.block z0.heap.size LN4.out).trans KN4.out)
      have KN5 := hH ((HX.out.block zw6.heap.size LN5.out).trans KN5.out)
      have LN4 : Hid (z0.heap.size < zw10.heap.size) := hH (Nat.lt_of_lt_of_le LN4.out HX.out.size)
      have LN5 : Hid (zw6.heap.size < zw10.heap.size) := hH (Nat.lt_of_lt_of_le LN5.out HX.out.size)
      refine hK.out _ _ (KS.out _ HB_zw10.out) (fun hHeld => ?_)
      clear hK K HX h5
      try simp only [Act.put, sA9, sZ9, sS9]
      refine wpAnyH_ready (rs := [6]) (by kernel_rfl) (by simp) ?_
      refine AllReadyH.cons (o := ⟨_, _, _, _, _, _⟩) rfl (fun K hK => ?_) ?_
      rotate_left
      ·exact AllReadyH.nil
      refine ite_yes9 (by rfl) ?_
      refine wp_store9 _ _ rfl _ rfl (cells := (r22 i1 i2 (.slice none 0 0) 0 0 0 0 0 false (.slice none 0 0) 0 0 false 0 0 false 0 0 (.slice none 0 0) false (.slice none 0 0) (.slice none 0 0))) rfl KN4.out rfl rfl (by simp [Value.oneCell']) ?_
      intro zf h1 h2
      have HBF : Hid (Below w1.heap.size w1 zf) := hH (below_grown9 HB_zw10.out h2 GN4.out)
      have KF4 := hH h1
      have KF5 := hH (grown_other9 KN5.out h2 LN5.out (fun e => HNE.out e.symm))
      have LF4 := hH (Nat.lt_of_lt_of_le LN4.out h2.size)
      have LF5 := hH (Nat.lt_of_lt_of_le LN5.out h2.size)
      clear h1 h2
      refine hK.out _ _ (KS.out _ HBF.out) (fun hHeld => ?_)
      clear hK K
      try simp only [Act.put, sA9, sZ9, sS9]
      refine wpAnyH_ready (rs := [7]) (by kernel_rfl) (by simp) ?_
      refine AllReadyH.cons (o := ⟨_, _, _, _, _, _⟩) rfl (fun K hK => ?_) ?_
      rotate_left
      ·exact AllReadyH.nil
      refine ite_yes9 (by rfl) ?_
      refine wp_store9 _ _ rfl _ rfl (cells := (r22 i1 i2 (.slice none 0 0) 0 0 0 0 0 false (.slice none 0 0) 0 0 false 0 0 false 0 0 (.slice none 0 0) false (.slice none 0 0) (.slice none 0 0))) rfl KF5.out rfl rfl (by simp [Value.oneCell']) ?_
      intro zg h1 h2
      have HBG : Hid (Below w1.heap.size w1 zg) := hH (below_grown9 HBF.out h2 GN5.out)
      have KG5 := hH h1
      have KG4 := hH (grown_other9 KF4.out h2 LF4.out HNE.out)
      have LG4 := Nat.lt_of_lt_of_le LF4.out h2.size
      have LG5 := Nat.lt_of_lt_of_le LF5.out h2.size
      clear h1 h2
      refine hK.out _ _ (KS.out _ HBG.out) (fun hHeld => ?_)
      clear hK K
      try simp only [Act.put, sA9, sZ9, sS9]
      refine wpAnyH_done (by kernel_rfl) ?_ _
      go_wp2_with fail
      go_meet
      exact ⟨z0.heap.size, zw6.heap.size, rfl, rfl, HNE.out, GN4.out, GN5.out, LG4, LG5, KG4.out, KG5.out, HBG.out⟩
   ·go_simp
    have HX : Hid (Below z0.heap.size z0 (z0.alloc (.cells z22 31))) := hH (blAlloc (Below.refl _ _) _)
    have HB_zw11 : Hid (Below w1.heap.size w1 (z0.alloc (.cells z22 31))) := hH (blThen HB_z0.out HX.out)
    have KN5 : Hid ((z0.alloc (.cells z22 31)).heap[z0.heap.size]? = some (.cells z22 31 (0, 0))) := hH (new_blockC z0 z22 31)
    have GN5 : Hid (w1.heap.size ≤ z0.heap.size) := hH HB_z0.out.size
    have LN5 : Hid (z0.heap.size < (z0.alloc (.cells z22 31)).heap.size) := hH (by simp)
    refine hK.out _ _ (KS.out _ HB_zw11.out) (fun hHeld => ?_)
    clear hK K HX
    try simp only [Act.put, sA9, sZ9, sS9]
    generalize (z0.alloc (.cells z22 31)) = zw11 at *
    refine wpAnyH_ready (rs := [1, 4]) (by kernel_rfl) (by simp) ?_
    refine (AllReadyH.cons (o := ⟨_, _, _, _, _, _⟩) rfl (fun K hK => ?_) (AllReadyH.cons (o := ⟨_, _, _, _, _, _⟩) rfl (fun K hK => ?_) AllReadyH.nil))
    ·go_simp
     go_at_call 17
     refine (new9_any (i1, i2) zw11).mono ?_
     intro e zw12 h
     unfold RetL at h
     obtain ⟨rfl, h5⟩ := h
     simp only [cmV, newC, nilL, z2, val0]
     have HX : Hid (Below zw11.heap.size zw11 zw12) := hH h5
     have HB_zw12 : Hid (Below w1.heap.size w1 zw12) := hH (blThen HB_zw11.out HX.out)
     have KN5 := hH ((HX.out.block z0.heap.size LN5.out).trans KN5.out)
     have LN5 : Hid (z0.heap.size < zw12.heap.size) := hH (Nat.lt_of_lt_of_le LN5.out HX.out.size)
     refine hK.out _ _ (KS.out _ HB_zw12.out) (fun hHeld => ?_)
     clear hK K HX h5
     try simp only [Act.put, sA9, sZ9, sS9]
     refine wpAnyH_ready (rs := [4]) (by kernel_rfl) (by simp) ?_
     refine (AllReadyH.cons (o := ⟨_, _, _, _, _, _⟩) rfl (fun K hK => ?_) AllReadyH.nil)
     ·go_simp
      have HX : Hid (Below zw12.heap.size zw12 (zw12.alloc (.cells z22 31))) := hH (blAlloc (Below.refl _ _) _)
      have HB_zw13 : Hid (Below w1.heap.size w1 (zw12.alloc (.cells z22 31))) := hH (blThen HB_zw12.out HX.out)
      have KN5 := hH ((HX.out.block z0.heap.size LN5.out).trans KN5.out)
      have KN4 : Hid ((zw12.alloc (.cells z22 31)).heap[zw12.heap.size]? = some (.cells z22 31 (0, 0))) := hH (new_blockC zw12 z22 31)
      have GN4 : Hid (w1.heap.size ≤ zw12.heap.size) := hH HB_zw12.out.size
      have HNE : Hid (zw12.heap.size ≠ z0.heap.size) := hH (Nat.ne_of_gt LN5.out)
      have LN5 : Hid (z0.heap.size < (zw12.alloc (.cells z22 31)).heap.size) := hH (Nat.lt_of_lt_of_le LN5.out HX.out.size)
      have LN4 : Hid (zw12.heap.size < (zw12.alloc (.cells z22 31)).heap.size) := hH (by simp)
      refine hK.out _ _ (KS.out _ HB_zw13.out) (fun hHeld => ?_)
      clear hK K HX
      try simp only [Act.put, sA9, sZ9, sS9]
      generalize (zw12.alloc (.cells z22 31)) = zw13 at *
      refine wpAnyH_ready (rs := [6]) (by kernel_rfl) (by simp) ?_
      refine AllReadyH.cons (o := ⟨_, _, _, _, _, _⟩) rfl (fun K hK => ?_) ?_
      rotate_left
      ·exact AllReadyH.nil
      refine ite_yes9 (by rfl) ?_
      refine wp_store9 _ _ rfl _ rfl (cells := (r22 i1 i2 (.slice none 0 0) 0 0 0 0 0 false (.slice none 0 0) 0 0 false 0 0 false 0 0 (.slice none 0 0) false (.slice none 0 0) (.slice none 0 0))) rfl KN4.out rfl rfl (by simp [Value.oneCell']) ?_
      intro zf h1 h2
      have HBF : Hid (Below w1.heap.size w1 zf) := hH (below_grown9 HB_zw13.out h2 GN4.out)
      have KF4 := hH h1
      have KF5 := hH (grown_other9 KN5.out h2 LN5.out (fun e => HNE.out e.symm))
      have LF4 := hH (Nat.lt_of_lt_of_le LN4.out h2.size)
      have LF5 := hH (Nat.lt_of_lt_of_le LN5.out h2.size)
      clear h1 h2
      refine hK.out _ _ (KS.out _ HBF.out) (fun hHeld => ?_)
      clear hK K
      try simp only [Act.put, sA9, sZ9, sS9]
      refine wpAnyH_ready (rs := [7]) (by kernel_rfl) (by simp) ?_
      refine AllReadyH.cons (o := ⟨_, _, _, _, _, _⟩) rfl (fun K hK => ?_) ?_
      rotate_left
      ·exact AllReadyH.nil
      refine ite_yes9 (by rfl) ?_
      refine wp_store9 _ _ rfl _ rfl (cells := (r22 i1 i2 (.slice none 0 0) 0 0 0 0 0 false (.slice none 0 0) 0 0 false 0 0 false 0 0 (.slice none 0 0) false (.slice none 0 0) (.slice none 0 0))) rfl KF5.out rfl rfl (by simp [Value.oneCell']) ?_
      intro zg h1 h2
      have HBG : Hid (Below w1.heap.size w1 zg) := hH (below_grown9 HBF.out h2 GN5.out)
      have KG5 := hH h1
      have KG4 := hH (grown_other9 KF4.out h2 LF4.out HNE.out)
      have LG4 := Nat.lt_of_lt_of_le LF4.out h2.size
      have LG5 := Nat.lt_of_lt_of_le LF5.out h2.size
      clear h1 h2
      refine hK.out _ _ (KS.out _ HBG.out) (fun hHeld => ?_)
      clear hK K
      try simp only [Act.put, sA9, sZ9, sS9]
      refine wpAnyH_done (by kernel_rfl) ?_ _
      go_wp2_with fail
      go_meet
      exact ⟨zw12.heap.size, z0.heap.size, rfl, rfl, HNE.out, GN4.out, GN5.out, LG4, LG5, KG4.out, KG5.out, HBG.out⟩
    ·go_simp
     have HX : Hid (Below zw11.heap.size zw11 (zw11.alloc (.cells z22 31))) := hH (blAlloc (Below.refl _ _) _)
     have HB_zw14 : Hid (Below w1.heap.size w1 (zw11.alloc (.cells z22 31))) := hH (blThen HB_zw11.out HX.out)
     have KN5 := hH ((HX.out.block z0.heap.size LN5.out).trans KN5.out)
     have KN4 : Hid ((zw11.alloc (.cells z22 31)).heap[zw11.heap.size]? = some (.cells z22 31 (0, 0))) := hH (new_blockC zw11 z22 31)
     have GN4 : Hid (w1.heap.size ≤ zw11.heap.size) := hH HB_zw11.out.size
     have HNE : Hid (zw11.heap.size ≠ z0.heap.size) := hH (Nat.ne_of_gt LN5.out)
     have LN5 : Hid (z0.heap.size < (zw11.alloc (.cells z22 31)).heap.size) := hH (Nat.lt_of_lt_of_le LN5.out HX.out.size)
     have LN4 : Hid (zw11.heap.size < (zw11.alloc (.cells z22 31)).heap.size) := hH (by simp)
     refine hK.out _ _ (KS.out _ HB_zw14.out) (fun hHeld => ?_)
     clear hK K HX
     try simp only [Act.put, sA9, sZ9, sS9]
     generalize (zw11.alloc (.cells z22 31)) = zw14 at *
     refine wpAnyH_ready (rs := [1]) (by kernel_rfl) (by simp) ?_
     refine (AllReadyH.cons (o := ⟨_, _, _, _, _, _⟩) rfl (fun K hK => ?_) AllReadyH.nil)
     ·go_simp
      go_at_call 17
      refine (new9_any (i1, i2) zw14).mono ?_
      intro e zw15 h
      unfold RetL at h
      obtain ⟨rfl, h5⟩ := h
      simp only [cmV, newC, nilL, z2, val0]
      have HX : Hid (Below zw14.heap.size zw14 zw15) := hH h5
      have HB_zw15 : Hid (Below w1.heap.size w1 zw15) := hH (blThen HB_zw14.out HX.out)
      have KN5 := hH ((HX.out.block z0.heap.size LN5.out).trans KN5.out)
      have KN4 := hH ((HX.out.block zw11.heap.size LN4.out).trans KN4.out)
      have LN5 : Hid (z0.heap.size < zw15.heap.size) := hH (Nat.lt_of_lt_of_le LN5.out HX.out.size)
      have LN4 : Hid (zw11.heap.size < zw15.heap.size) := hH (Nat.lt_of_lt_of_le LN4.out HX.out.size)
      refine hK.out _ _ (KS.out _ HB_zw15.out) (fun hHeld => ?_)
      clear hK K HX h5
      try simp only [Act.put, sA9, sZ9, sS9]
      refine wpAnyH_ready (rs := [6]) (by kernel_rfl) (by simp) ?_
      refine AllReadyH.cons (o := ⟨_, _, _, _, _, _⟩) rfl (fun K hK => ?_) ?_
      rotate_left
      ·exact AllReadyH.nil
      refine ite_yes9 (by rfl) ?_
      refine wp_store9 _ _ rfl _ rfl (cells := (r22 i1 i2 (.slice none 0 0) 0 0 0 0 0 false (.slice none 0 0) 0 0 false 0 0 false 0 0 (.slice none 0 0) false (.slice none 0 0) (.slice none 0 0))) rfl KN4.out rfl rfl (by simp [Value.oneCell']) ?_
      intro zf h1 h2
      have HBF : Hid (Below w1.heap.size w1 zf) := hH (below_grown9 HB_zw15.out h2 GN4.out)
      have KF4 := hH h1
      have KF5 := hH (grown_other9 KN5.out h2 LN5.out (fun e => HNE.out e.symm))
      have LF4 := hH (Nat.lt_of_lt_of_le LN4.out h2.size)
      have LF5 := hH (Nat.lt_of_lt_of_le LN5.out h2.size)
      clear h1 h2
      refine hK.out _ _ (KS.out _ HBF.out) (fun hHeld => ?_)
      clear hK K
      try simp only [Act.put, sA9, sZ9, sS9]
      refine wpAnyH_ready (rs := [7]) (by kernel_rfl) (by simp) ?_
      refine AllReadyH.cons (o := ⟨_, _, _, _, _, _⟩) rfl (fun K hK => ?_) ?_
      rotate_left
      ·exact AllReadyH.nil
      refine ite_yes9 (by rfl) ?_
      refine wp_store9 _ _ rfl _ rfl (cells := (r22 i1 i2 (.slice none 0 0) 0 0 0 0 0 false (.slice none 0 0) 0 0 false 0 0 false 0 0 (.slice none 0 0) false (.slice none 0 0) (.slice none 0 0))) rfl KF5.out rfl rfl (by simp [Value.oneCell']) ?_
      intro zg h1 h2
      have HBG : Hid (Below w1.heap.size w1 zg) := hH (below_grown9 HBF.out h2 GN5.out)
      have KG5 := hH h1
      have KG4 := hH (grown_other9 KF4.out h2 LF4.out HNE.out)
      have LG4 := Nat.lt_of_lt_of_le LF4.out h2.size
      have LG5 := Nat.lt_of_lt_of_le LF5.out h2.size
      clear h1 h2
      refine hK.out _ _ (KS.out _ HBG.out) (fun hHeld => ?_)
      clear hK K
      try simp only [Act.put, sA9, sZ9, sS9]
      refine wpAnyH_done (by kernel_rfl) ?_ _
      go_wp2_with fail
      go_meet
      exact ⟨zw11.heap.size, z0.heap.size, rfl, rfl, HNE.out, GN4.out, GN5.out, LG4, LG5, KG4.out, KG5.out, HBG.out⟩
  case rest =>
   obtain ⟨b5, b6, e5, e6, hne, hg5, hg6, hl5, hl6, hr5, hr6, h5⟩ := hcut
   rename World => w2
   rw [e5, e6]
   clear e5 e6 KS
   have HB_2 : Hid (Below W.heap.size W w2) := hH (blThen HB_1.out h5)
   have Ki_2 := row_up Ki_1 Li_1 h5
   have Li_2 := lt_up Li_1 h5
   have HNE := hH hne
   have HG5 : Hid (W.heap.size ≤ b5) := hH (Nat.le_trans HB_1.out.size hg5)
   have HG6 : Hid (W.heap.size ≤ b6) := hH (Nat.le_trans HB_1.out.size hg6)
   have HI5 : Hid (W.heap.size < b5) := hH (Nat.lt_of_lt_of_le Li_1.out hg5)
   have HI6 : Hid (W.heap.size < b6) := hH (Nat.lt_of_lt_of_le Li_1.out hg6)
   have HL5 := hH hl5
   have HL6 := hH hl6
   have HR5 := hH hr5
   have HR6 := hH hr6
   have HSW : Hid (∀ b, (S3 b5 b6 b6) b → W.heap.size ≤ b) := hH (fun b hb => by
    have g5 := HG5.out
    have g6 := HG6.out
    rcases hb with hb | hb | hb <;> omega)
   clear hne hg5 hg6 hl5 hl6 hr5 hr6 h5
   go_wp2
   go_loopw [7] (fun s7 wr => ∃ (k : Nat) (c : Cm) (l l' : Pl), k ≤ L.length ∧ s7 = .int .i64 k ∧ Below W.heap.size W wr ∧ wr.heap[W.heap.size]? = some (.cells #[.int .i64 i1, .int .i64 i2] 23 (0, 0)) ∧ W.heap.size < wr.heap.size ∧ wr.heap[b5]? = some (.cells (cmR c l) 31 (0, 0)) ∧ wr.heap[b6]? = some (.cells (cmR c l') 31 (0, 0)) ∧ b5 < wr.heap.size ∧ b6 < wr.heap.size ∧ CmS (S3 b5 b6 b6) wr c l ∧ CmS (S3 b5 b6 b6) wr c l' ∧ FewC c) (fun s7 _ => L.length - (RowKit.intOf s7).toNat)
   case atStart => exact ⟨0, newC (i1, i2), nilL, nilL, Nat.zero_le _, rfl, HB_2.out, Ki_2.out, Li_2.out, HR5.out, HR6.out, HL5.out, HL6.out, cms_new _ _ _, cms_new _ _ _, few_new9f _⟩
   case round =>
    clear HR5 HR6 HL5 HL6
    obtain ⟨k, c, l, l', hk, rfl, hb, hi, hli, h5, h6, hl5, hl6, hc, hd, hf⟩ := hrel
    have HB_0 := hH hb
    have Ki_0 := hH hi
    have Li_0 := hH hli
    have Kc_0 := hH h5
    have Lc_0 := hH hl5
    have Kd_0 := hH h6
    have Ld_0 := hH hl6
    have HCc_0 := hH hc
    have HCd_0 := hH hd
    have HF := hH hf
    clear hb hi hli h5 h6 hl5 hl6 hc hd hf
    by_cases hlt : k < L.length
    rotate_left
    ·have hge : ¬ (k : Int) < (L.length : Int) := by omega
     have hdk : decide ((k : Int) < (L.length : Int)) = false := decide_eq_false hge
     go_wp2_with (first | go_skip | ((with_reducible refine atC wr ?_); go_at_call 10; go_must (refine (live9_any wr).mono ?_; rintro e w1 ⟨rfl, h5⟩; have HB_1 : Hid (Below W.heap.size W w1) := hH (blThen HB_0.out h5); have Ki_1 := row_up Ki_0 Li_0 h5; have Li_1 := lt_up Li_0 h5; have Kc_1 := row_up Kc_0 Lc_0 h5; have Lc_1 := lt_up Lc_0 h5; have Kd_1 := row_up Kd_0 Ld_0 h5; have Ld_1 := lt_up Ld_0 h5; have HCc_1 := hH (HCc_0.out.next h5); have HCd_1 := hH (HCd_0.out.next h5); clear h5)))
     go_ret
     exact ⟨rfl, HB_1.out⟩
    have hk0 : (0 : Int) ≤ (k : Int) := by omega
    have hk1 : (k : Int) < (L.length : Int) := by omega
    have hdk : decide ((k : Int) < (L.length : Int)) = true := decide_eq_true hk1
    obtain ⟨q, hq⟩ := at_lt hlt
    obtain ⟨g, o, rfl, hrg⟩ := acts_at HA0.out hq
    have HR_0 := hH (RgX.lat hrg HB_0.out)
    have HNX := hH (HL.out q (List.mem_of_getElem? hq)).1
    have HIN := hH (HL.out q (List.mem_of_getElem? hq)).2
    clear hq hrg
    cases hright : rightB q.x (i1, i2)
    ·go_wp2_with fail
     refine wp_region_held_drew (S := fun Y => Y.heap[W.heap.size]? = some (.cells #[.int .i64 i1, .int .i64 i2] 23 (0, 0)) ∧ Y.rangeAt g (o + k * 14) (eX.enc q)) (by kernel_rfl) (⟨Ki_0.out, HR_0.out.r⟩) (fun hHeld => ?_)
     have h5 : Below wr.heap.size wr wr.drew := (Below.refl _ _).drew
     have HB_1 : Hid (Below W.heap.size W wr.drew) := hH (blThen HB_0.out h5)
     have Ki_1 := row_up Ki_0 Li_0 h5
     have Li_1 := lt_up Li_0 h5
     have Kc_1 := row_up Kc_0 Lc_0 h5
     have Lc_1 := lt_up Lc_0 h5
     have Kd_1 := row_up Kd_0 Ld_0 h5
     have Ld_1 := lt_up Ld_0 h5
     have HCc_1 := hH (HCc_0.out.next h5)
     have HCd_1 := hH (HCd_0.out.next h5)
     have HR_1 := hH (HR_0.out.later h5)
     clear h5
     generalize wr.drew = w1 at *
     refine wpAnyH_take (i := 0) (oi := ⟨_, _, _, _, _, _⟩) (v := ?_) rfl (by kernel_rfl) (by kernel_rfl) (by kernel_rfl) (fun _ _ _ h => h) (Or.inl ⟨by rfl, ?_⟩) (by assumption) ?_
     rotate_left
     ·intro w hSw
      try dsimp only at hSw
      go_simp
      try with_reducible rfl
     try simp only [Act.put, sA9, sZ9, sS9]
     refine wpAnyH_take (i := 1) (oi := ⟨_, _, _, _, _, _⟩) (v := ?_) rfl (by kernel_rfl) (by kernel_rfl) (by kernel_rfl) (fun _ _ _ h => h) (Or.inl ⟨by rfl, ?_⟩) (by assumption) ?_
     rotate_left
     ·intro w hSw
      try dsimp only at hSw
      go_simp
      try with_reducible rfl
     try simp only [Act.put, sA9, sZ9, sS9]
     refine wpAnyH_take (i := 2) (oi := ⟨_, _, _, _, _, _⟩) (v := ?_) rfl (by kernel_rfl) (by kernel_rfl) (by kernel_rfl) (fun _ _ _ h => h) (Or.inl ⟨by rfl, ?_⟩) (by assumption) ?_
     rotate_left
     ·intro w hSw
      try dsimp only at hSw
      go_simp
      try with_reducible rfl
     try simp only [Act.put, sA9, sZ9, sS9]
     refine wpAnyH_take (i := 3) (oi := ⟨_, _, _, _, _, _⟩) (v := _) rfl (by kernel_rfl) (by kernel_rfl) (by kernel_rfl) (fun _ _ _ h => h) (yieldsIf_load_mid (by rfl) _ _ rfl _ _ rfl (eX.enc q) _ (fun w h => h.2) Tryz.underlying53 rfl szAct) (by assumption) ?_
     try simp only [Act.put, sA9, sZ9, sS9]
     refine wpAnyH_take (i := 4) (oi := ⟨_, _, _, _, _, _⟩) (v := _) rfl (by kernel_rfl) (by kernel_rfl) (by kernel_rfl) (fun _ _ _ h => h) (yields_row (by rfl) _ _ rfl _ 0 rfl (fun w h => h.1) Tryz.underlying23 rfl #[.int .i64 i1, .int .i64 i2] (by kernel_rfl) (two_at rfl rfl)) (by assumption) ?_
     try simp only [Act.put, sA9, sZ9, sS9]
     refine wpAnyH_ready (rs := [5]) (by kernel_rfl) (by simp) ?_
     refine AllReadyH.cons (o := ⟨_, _, _, _, _, _⟩) rfl (fun K hK => ?_) ?_
     rotate_left
     ·exact AllReadyH.nil
     go_simp
     go_at_call 25
     refine (right9_any q.x q.l (i1, i2) w1 (HNX.out.at_.later HB_1.out) HIN.out).mono ?_
     rw [hright]
     rintro e w2 ⟨rfl, h5⟩
     have HB_2 : Hid (Below W.heap.size W w2) := hH (blThen HB_1.out h5)
     have Ki_2 := row_up Ki_1 Li_1 h5
     have Li_2 := lt_up Li_1 h5
     have Kc_2 := row_up Kc_1 Lc_1 h5
     have Lc_2 := lt_up Lc_1 h5
     have Kd_2 := row_up Kd_1 Ld_1 h5
     have Ld_2 := lt_up Ld_1 h5
     have HCc_2 := hH (HCc_1.out.next h5)
     have HCd_2 := hH (HCd_1.out.next h5)
     have HR_2 := hH (HR_1.out.later h5)
     refine hK.out _ _ (⟨Ki_2.out, HR_2.out.r⟩) (fun hHeld => ?_)
     clear hK K h5
     try simp only [Act.put, sA9, sZ9, sS9]
     refine wpAnyH_take (i := 6) (oi := ⟨_, _, _, _, _, _⟩) (v := ?_) rfl (by kernel_rfl) (by kernel_rfl) (by kernel_rfl) (fun _ _ _ h => h) (Or.inl ⟨by rfl, ?_⟩) (by assumption) ?_
     rotate_left
     ·intro w hSw
      try dsimp only at hSw
      go_simp
      try with_reducible rfl
     try simp only [Act.put, sA9, sZ9, sS9]
     refine wpAnyH_done (by kernel_rfl) ?_ _
     go_wp2_with (first | go_skip | ((with_reducible refine atC w2 ?_); go_at_call 10; go_must (refine (live9_any w2).mono ?_; rintro e w3 ⟨rfl, h5⟩; have HB_3 : Hid (Below W.heap.size W w3) := hH (blThen HB_2.out h5); have Ki_3 := row_up Ki_2 Li_2 h5; have Li_3 := lt_up Li_2 h5; have Kc_3 := row_up Kc_2 Lc_2 h5; have Lc_3 := lt_up Lc_2 h5; have Kd_3 := row_up Kd_2 Ld_2 h5; have Ld_3 := lt_up Ld_2 h5; have HCd_3 := hH (HCd_2.out.next h5); have HR_3 := hH (HR_2.out.later h5); clear h5)))
     go_ret
     exact ⟨rfl, HB_3.out⟩
    ·go_wp2_with fail
     refine wp_region_held_drew (S := fun Y => Y.heap[W.heap.size]? = some (.cells #[.int .i64 i1, .int .i64 i2] 23 (0, 0)) ∧ Y.rangeAt g (o + k * 14) (eX.enc q)) (by kernel_rfl) (⟨Ki_0.out, HR_0.out.r⟩) (fun hHeld => ?_)
     have h5 : Below wr.heap.size wr wr.drew := (Below.refl _ _).drew
     have HB_1 : Hid (Below W.heap.size W wr.drew) := hH (blThen HB_0.out h5)
     have Ki_1 := row_up Ki_0 Li_0 h5
     have Li_1 := lt_up Li_0 h5
     have Kc_1 := row_up Kc_0 Lc_0 h5
     have Lc_1 := lt_up Lc_0 h5
     have Kd_1 := row_up Kd_0 Ld_0 h5
     have Ld_1 := lt_up Ld_0 h5
     have HCc_1 := hH (HCc_0.out.next h5)
     have HCd_1 := hH (HCd_0.out.next h5)
     have HR_1 := hH (HR_0.out.later h5)
     clear h5
     generalize wr.drew = w1 at *
     refine wpAnyH_take (i := 0) (oi := ⟨_, _, _, _, _, _⟩) (v := ?_) rfl (by kernel_rfl) (by kernel_rfl) (by kernel_rfl) (fun _ _ _ h => h) (Or.inl ⟨by rfl, ?_⟩) (by assumption) ?_
     rotate_left
     ·intro w hSw
      try dsimp only at hSw
      go_simp
      try with_reducible rfl
     try simp only [Act.put, sA9, sZ9, sS9]
     refine wpAnyH_take (i := 1) (oi := ⟨_, _, _, _, _, _⟩) (v := ?_) rfl (by kernel_rfl) (by kernel_rfl) (by kernel_rfl) (fun _ _ _ h => h) (Or.inl ⟨by rfl, ?_⟩) (by assumption) ?_
     rotate_left
     ·intro w hSw
      try dsimp only at hSw
      go_simp
      try with_reducible rfl
     try simp only [Act.put, sA9, sZ9, sS9]
     refine wpAnyH_take (i := 2) (oi := ⟨_, _, _, _, _, _⟩) (v := ?_) rfl (by kernel_rfl) (by kernel_rfl) (by kernel_rfl) (fun _ _ _ h => h) (Or.inl ⟨by rfl, ?_⟩) (by assumption) ?_
     rotate_left
     ·intro w hSw
      try dsimp only at hSw
      go_simp
      try with_reducible rfl
     try simp only [Act.put, sA9, sZ9, sS9]
     refine wpAnyH_take (i := 3) (oi := ⟨_, _, _, _, _, _⟩) (v := _) rfl (by kernel_rfl) (by kernel_rfl) (by kernel_rfl) (fun _ _ _ h => h) (yieldsIf_load_mid (by rfl) _ _ rfl _ _ rfl (eX.enc q) _ (fun w h => h.2) Tryz.underlying53 rfl szAct) (by assumption) ?_
     try simp only [Act.put, sA9, sZ9, sS9]
     refine wpAnyH_take (i := 4) (oi := ⟨_, _, _, _, _, _⟩) (v := _) rfl (by kernel_rfl) (by kernel_rfl) (by kernel_rfl) (fun _ _ _ h => h) (yields_row (by rfl) _ _ rfl _ 0 rfl (fun w h => h.1) Tryz.underlying23 rfl #[.int .i64 i1, .int .i64 i2] (by kernel_rfl) (two_at rfl rfl)) (by assumption) ?_
     try simp only [Act.put, sA9, sZ9, sS9]
     refine wpAnyH_ready (rs := [5]) (by kernel_rfl) (by simp) ?_
     refine AllReadyH.cons (o := ⟨_, _, _, _, _, _⟩) rfl (fun K hK => ?_) ?_
     rotate_left
     ·exact AllReadyH.nil
     go_simp
     go_at_call 25
     refine (right9_any q.x q.l (i1, i2) w1 (HNX.out.at_.later HB_1.out) HIN.out).mono ?_
     rw [hright]
     rintro e w2 ⟨rfl, h5⟩
     have HB_2 : Hid (Below W.heap.size W w2) := hH (blThen HB_1.out h5)
     have Ki_2 := row_up Ki_1 Li_1 h5
     have Li_2 := lt_up Li_1 h5
     have Kc_2 := row_up Kc_1 Lc_1 h5
     have Lc_2 := lt_up Lc_1 h5
     have Kd_2 := row_up Kd_1 Ld_1 h5
     have Ld_2 := lt_up Ld_1 h5
     have HCc_2 := hH (HCc_1.out.next h5)
     have HCd_2 := hH (HCd_1.out.next h5)
     have HR_2 := hH (HR_1.out.later h5)
     refine hK.out _ _ (⟨Ki_2.out, HR_2.out.r⟩) (fun hHeld => ?_)
     clear hK K h5
     try simp only [Act.put, sA9, sZ9, sS9]
     refine wpAnyH_take (i := 6) (oi := ⟨_, _, _, _, _, _⟩) (v := ?_) rfl (by kernel_rfl) (by kernel_rfl) (by kernel_rfl) (fun _ _ _ h => h) (Or.inl ⟨by rfl, ?_⟩) (by assumption) ?_
     rotate_left
     ·intro w hSw
      try dsimp only at hSw
      go_simp
      try with_reducible rfl
     try simp only [Act.put, sA9, sZ9, sS9]
     refine wpAnyH_done (by kernel_rfl) ?_ _
     have HFX := hH (right_few hright)
     clear hright
     go_wp2_with fail
     have KS : Hid (∀ Y : World, Below w2.heap.size w2 Y → Y.heap[b5]? = some (.cells (cmR c l) 31 (0, 0)) ∧ Y.rangeAt g (o + k * 14) (eX.enc q)) := hH (fun Y hY => ⟨(hY.block _ Lc_2.out).trans Kc_2.out, (HR_2.out.later hY).r⟩)
     go_cut [8, 9] from 25 to 67 (fun sp sb wx => ∃ (bx : Nat) (lx : Pl), sp = .pointer (some ⟨bx, 0, none⟩) ∧ sb = .bool (actB c q.x) ∧ w2.heap.size ≤ bx ∧ bx < wx.heap.size ∧ wx.heap[bx]? = some (.cells (cmR (actC c q.x) lx) 31 (0, 0)) ∧ CmS (S3 b5 b6 b6) wx (actC c q.x) lx ∧ Below w2.heap.size w2 wx)
     case first =>
      refine wp_region_held_drew (S := fun Y => Y.heap[b5]? = some (.cells (cmR c l) 31 (0, 0)) ∧ Y.rangeAt g (o + k * 14) (eX.enc q)) (by kernel_rfl) (KS.out _ (Below.refl w2.heap.size w2).drew) (fun hHeld => ?_)
      refine wpAnyH_take (i := 0) (oi := ⟨_, _, _, _, _, _⟩) (v := _) rfl (by kernel_rfl) (by kernel_rfl) (by kernel_rfl) (fun _ _ _ h => h) (yields_row (by rfl) _ _ rfl _ 0 rfl (fun w h => h.1) Tryz.underlying31 rfl (cmR c l) szCmd all_at) (by assumption) ?_
      try simp only [Act.put, sA9, sZ9, sS9]
      refine wpAnyH_take (i := 1) (oi := ⟨_, _, _, _, _, _⟩) (v := ?_) rfl (by kernel_rfl) (by kernel_rfl) (by kernel_rfl) (fun _ _ _ h => h) (Or.inl ⟨by rfl, ?_⟩) (by assumption) ?_
      rotate_left
      ·intro w hSw
       try dsimp only at hSw
       go_simp
       try with_reducible rfl
      try simp only [Act.put, sA9, sZ9, sS9]
      refine wpAnyH_take (i := 2) (oi := ⟨_, _, _, _, _, _⟩) (v := ?_) rfl (by kernel_rfl) (by kernel_rfl) (by kernel_rfl) (fun _ _ _ h => h) (Or.inl ⟨by rfl, ?_⟩) (by assumption) ?_
      rotate_left
      ·intro w hSw
       try dsimp only at hSw
       go_simp
       try with_reducible rfl
      try simp only [Act.put, sA9, sZ9, sS9]
      refine wpAnyH_take (i := 3) (oi := ⟨_, _, _, _, _, _⟩) (v := ?_) rfl (by kernel_rfl) (by kernel_rfl) (by kernel_rfl) (fun _ _ _ h => h) (Or.inl ⟨by rfl, ?_⟩) (by assumption) ?_
      rotate_left
      ·intro w hSw
       try dsimp only at hSw
       go_simp
       try with_reducible rfl
      try simp only [Act.put, sA9, sZ9, sS9]
      refine wpAnyH_take (i := 4) (oi := ⟨_, _, _, _, _, _⟩) (v := _) rfl (by kernel_rfl) (by kernel_rfl) (by kernel_rfl) (fun _ _ _ h => h) (yieldsIf_load_mid (by rfl) _ _ rfl _ _ rfl (eX.enc q) _ (fun w h => h.2) Tryz.underlying53 rfl szAct) (by assumption) ?_
      try simp only [Act.put, sA9, sZ9, sS9]
      have HX : Hid (Below w2.heap.size w2 w2.drew) := hH (Below.refl _ _).drew
      have HB_z0 := HX
      clear HX
      generalize w2.drew = z0 at *
      refine wpAnyH_ready (rs := [5, 9]) (by kernel_rfl) (by simp) ?_
      refine (AllReadyH.cons (o := ⟨_, _, _, _, _, _⟩) rfl (fun K hK => ?_) (AllReadyH.cons (o := ⟨_, _, _, _, _, _⟩) rfl (fun K hK => ?_) AllReadyH.nil))
      ·go_simp
       go_at_call 26
       refine (does9_any c l q.x q.l z0 (S3 b5 b6 b6) (fun b hb => by have g5 := Nat.lt_of_lt_of_le Lc_2.out HB_z0.out.size; have g6 := Nat.lt_of_lt_of_le Ld_2.out HB_z0.out.size; rcases hb with hb | hb | hb <;> omega) (HCc_2.out.next HB_z0.out) (acs_in HNX.out.at_ (blThen HB_2.out HB_z0.out) (fun b hb => by have g5 := HG5.out; have g6 := HG6.out; rcases hb with hb | hb | hb <;> omega)) HFX.out.seen HIN.out.wf (Nat.le_trans HFX.out.writes (by decide)) (Nat.le_trans HFX.out.pairs (by decide))).mono ?_
       intro e zw1 h
       unfold RetCS at h
       obtain ⟨lx, rfl, hcx, h5⟩ := h
       have HCX := hH hcx
       clear hcx
       have HX : Hid (Below z0.heap.size z0 zw1) := hH h5
       have HB_zw1 : Hid (Below w2.heap.size w2 zw1) := hH (blThen HB_z0.out HX.out)
       have HBY := hH HX.out
       refine hK.out _ _ (KS.out _ HB_zw1.out) (fun hHeld => ?_)
       clear hK K HX h5
       try simp only [Act.put, sA9, sZ9, sS9]
       refine wpAnyH_take (i := 6) (oi := ⟨_, _, _, _, _, _⟩) (v := ?_) rfl (by kernel_rfl) (by kernel_rfl) (by kernel_rfl) (fun _ _ _ h => h) (Or.inl ⟨by rfl, ?_⟩) (by assumption) ?_
       rotate_left
       ·intro w hSw
        try dsimp only at hSw
        go_simp
        try with_reducible rfl
       try simp only [Act.put, sA9, sZ9, sS9]
       refine wpAnyH_take (i := 7) (oi := ⟨_, _, _, _, _, _⟩) (v := ?_) rfl (by kernel_rfl) (by kernel_rfl) (by kernel_rfl) (fun _ _ _ h => h) (Or.inl ⟨by rfl, ?_⟩) (by assumption) ?_
       rotate_left
       ·intro w hSw
        try dsimp only at hSw
        go_simp
        try with_reducible rfl
       try simp only [Act.put, sA9, sZ9, sS9]
       refine wpAnyH_take (i := 8) (oi := ⟨_, _, _, _, _, _⟩) (v := ?_) rfl (by kernel_rfl) (by kernel_rfl) (by kernel_rfl) (fun _ _ _ h => h) (Or.inl ⟨by rfl, ?_⟩) (by assumption) ?_
       rotate_left
       ·intro w hSw
        try dsimp only at hSw
        go_simp
        try with_reducible rfl
       try simp only [Act.put, sA9, sZ9, sS9]
       refine wpAnyH_ready (rs := [9]) (by kernel_rfl) (by simp) ?_
       refine (AllReadyH.cons (o := ⟨_, _, _, _, _, _⟩) rfl (fun K hK => ?_) AllReadyH.nil)
       go_simp
       have HX : Hid (Below zw1.heap.size zw1 (zw1.alloc (.cells z22 31))) := hH (blAlloc (Below.refl _ _) _)
       have HB_zw2 : Hid (Below w2.heap.size w2 (zw1.alloc (.cells z22 31))) := hH (blThen HB_zw1.out HX.out)
       have HBY := hH HX.out
       have KN : Hid ((zw1.alloc (.cells z22 31)).heap[zw1.heap.size]? = some (.cells z22 31 (0, 0))) := hH (new_blockC zw1 z22 31)
       have LN : Hid (zw1.heap.size < (zw1.alloc (.cells z22 31)).heap.size) := hH (by simp)
       have GN : Hid (w2.heap.size ≤ zw1.heap.size) := hH HB_zw1.out.size
       refine hK.out _ _ (KS.out _ HB_zw2.out) (fun hHeld => ?_)
       clear hK K HX
       try simp only [Act.put, sA9, sZ9, sS9]
       generalize (zw1.alloc (.cells z22 31)) = zw2 at *
       refine wpAnyH_ready (rs := [10]) (by kernel_rfl) (by simp) ?_
       refine AllReadyH.cons (o := ⟨_, _, _, _, _, _⟩) rfl (fun K hK => ?_) ?_
       rotate_left
       ·exact AllReadyH.nil
       refine ite_yes9 (by rfl) ?_
       refine wp_store9 _ _ rfl _ rfl (cells := cmR (actC c q.x) lx) rfl KN.out rfl rfl (cmR_one HCX.out.at) ?_
       intro zf h1 h2
       have HBF : Hid (Below w2.heap.size w2 zf) := hH (below_grown9 HB_zw2.out h2 GN.out)
       have KF := hH h1
       have LF := Nat.lt_of_lt_of_le LN.out h2.size
       have HCF := hH (HCX.out.next (below_grown9 HBY.out h2 (Nat.le_refl _)))
       clear h1 h2
       refine hK.out _ _ (KS.out _ HBF.out) (fun hHeld => ?_)
       clear hK K
       try simp only [Act.put, sA9, sZ9, sS9]
       refine wpAnyH_take (i := 11) (oi := ⟨_, _, _, _, _, _⟩) (v := ?_) rfl (by kernel_rfl) (by kernel_rfl) (by kernel_rfl) (fun _ _ _ h => h) (Or.inl ⟨by rfl, ?_⟩) (by assumption) ?_
       rotate_left
       ·intro w hSw
        try dsimp only at hSw
        go_simp
        try with_reducible rfl
       try simp only [Act.put, sA9, sZ9, sS9]
       refine wpAnyH_done (by kernel_rfl) ?_ _
       go_wp2_with fail
       go_meet
       exact ⟨zw1.heap.size, lx, rfl, rfl, GN.out, LF, KF.out, HCF.out, HBF.out⟩
      ·go_simp
       have HX : Hid (Below z0.heap.size z0 (z0.alloc (.cells z22 31))) := hH (blAlloc (Below.refl _ _) _)
       have HB_zw3 : Hid (Below w2.heap.size w2 (z0.alloc (.cells z22 31))) := hH (blThen HB_z0.out HX.out)
       have HBY := hH HX.out
       have KN : Hid ((z0.alloc (.cells z22 31)).heap[z0.heap.size]? = some (.cells z22 31 (0, 0))) := hH (new_blockC z0 z22 31)
       have LN : Hid (z0.heap.size < (z0.alloc (.cells z22 31)).heap.size) := hH (by simp)
       have GN : Hid (w2.heap.size ≤ z0.heap.size) := hH HB_z0.out.size
       refine hK.out _ _ (KS.out _ HB_zw3.out) (fun hHeld => ?_)
       clear hK K HX
       try simp only [Act.put, sA9, sZ9, sS9]
       generalize (z0.alloc (.cells z22 31)) = zw3 at *
       refine wpAnyH_ready (rs := [5]) (by kernel_rfl) (by simp) ?_
       refine (AllReadyH.cons (o := ⟨_, _, _, _, _, _⟩) rfl (fun K hK => ?_) AllReadyH.nil)
       go_simp
       go_at_call 26
       refine (does9_any c l q.x q.l zw3 (S3 b5 b6 z0.heap.size) (fun b hb => by have g5 := Nat.lt_of_lt_of_le Lc_2.out HB_zw3.out.size; have g6 := Nat.lt_of_lt_of_le Ld_2.out HB_zw3.out.size; have g7 := LN.out; rcases hb with hb | hb | hb <;> omega) (cms_more HCc_2.out HB_zw3.out GN.out) (acs_in HNX.out.at_ (blThen HB_2.out HB_zw3.out) (fun b hb => by have g5 := HG5.out; have g6 := HG6.out; have g7 := Nat.le_trans HB_2.out.size GN.out; rcases hb with hb | hb | hb <;> omega)) HFX.out.seen HIN.out.wf (Nat.le_trans HFX.out.writes (by decide)) (Nat.le_trans HFX.out.pairs (by decide))).mono ?_
       intro e zw4 h
       unfold RetCS at h
       obtain ⟨lx, rfl, hcx, h5⟩ := h
       have HCX := hH hcx
       clear hcx
       have HX : Hid (Below zw3.heap.size zw3 zw4) := hH h5
       have HB_zw4 : Hid (Below w2.heap.size w2 zw4) := hH (blThen HB_zw3.out HX.out)
       have HBY := hH HX.out
       have KN := hH ((HX.out.block z0.heap.size LN.out).trans KN.out)
       have LN : Hid (z0.heap.size < zw4.heap.size) := hH (Nat.lt_of_lt_of_le LN.out HX.out.size)
       refine hK.out _ _ (KS.out _ HB_zw4.out) (fun hHeld => ?_)
       clear hK K HX h5
       try simp only [Act.put, sA9, sZ9, sS9]
       refine wpAnyH_take (i := 6) (oi := ⟨_, _, _, _, _, _⟩) (v := ?_) rfl (by kernel_rfl) (by kernel_rfl) (by kernel_rfl) (fun _ _ _ h => h) (Or.inl ⟨by rfl, ?_⟩) (by assumption) ?_
       rotate_left
       ·intro w hSw
        try dsimp only at hSw
        go_simp
        try with_reducible rfl
       try simp only [Act.put, sA9, sZ9, sS9]
       refine wpAnyH_take (i := 7) (oi := ⟨_, _, _, _, _, _⟩) (v := ?_) rfl (by kernel_rfl) (by kernel_rfl) (by kernel_rfl) (fun _ _ _ h => h) (Or.inl ⟨by rfl, ?_⟩) (by assumption) ?_
       rotate_left
       ·intro w hSw
        try dsimp only at hSw
        go_simp
        try with_reducible rfl
       try simp only [Act.put, sA9, sZ9, sS9]
       refine wpAnyH_take (i := 8) (oi := ⟨_, _, _, _, _, _⟩) (v := ?_) rfl (by kernel_rfl) (by kernel_rfl) (by kernel_rfl) (fun _ _ _ h => h) (Or.inl ⟨by rfl, ?_⟩) (by assumption) ?_
       rotate_left
       ·intro w hSw
        try dsimp only at hSw
        go_simp
        try with_reducible rfl
       try simp only [Act.put, sA9, sZ9, sS9]
       refine wpAnyH_ready (rs := [10]) (by kernel_rfl) (by simp) ?_
       refine AllReadyH.cons (o := ⟨_, _, _, _, _, _⟩) rfl (fun K hK => ?_) ?_
       rotate_left
       ·exact AllReadyH.nil
       refine ite_yes9 (by rfl) ?_
       refine wp_store9 _ _ rfl _ rfl (cells := cmR (actC c q.x) lx) rfl KN.out rfl rfl (cmR_one HCX.out.at) ?_
       intro zf h1 h2
       have HBF : Hid (Below w2.heap.size w2 zf) := hH (below_grown9 HB_zw4.out h2 GN.out)
       have KF := hH h1
       have LF := Nat.lt_of_lt_of_le LN.out h2.size
       have HCF := hH (cms_store HCX.out h2)
       clear h1 h2
       refine hK.out _ _ (KS.out _ HBF.out) (fun hHeld => ?_)
       clear hK K
       try simp only [Act.put, sA9, sZ9, sS9]
       refine wpAnyH_take (i := 11) (oi := ⟨_, _, _, _, _, _⟩) (v := ?_) rfl (by kernel_rfl) (by kernel_rfl) (by kernel_rfl) (fun _ _ _ h => h) (Or.inl ⟨by rfl, ?_⟩) (by assumption) ?_
       rotate_left
       ·intro w hSw
        try dsimp only at hSw
        go_simp
        try with_reducible rfl
       try simp only [Act.put, sA9, sZ9, sS9]
       refine wpAnyH_done (by kernel_rfl) ?_ _
       go_wp2_with fail
       go_meet
       exact ⟨z0.heap.size, lx, rfl, rfl, GN.out, LF, KF.out, HCF.out, HBF.out⟩
     case rest =>
      obtain ⟨px, lx, ep, eb, hgx, hlx, hrx, hcx, h5⟩ := hcut
      rename World => w3
      rw [ep, eb]
      clear ep eb KS
      have HB_3 : Hid (Below W.heap.size W w3) := hH (blThen HB_2.out h5)
      have Ki_3 := row_up Ki_2 Li_2 h5
      have Li_3 := lt_up Li_2 h5
      have Kc_3 := row_up Kc_2 Lc_2 h5
      have Lc_3 := lt_up Lc_2 h5
      have Kd_3 := row_up Kd_2 Ld_2 h5
      have Ld_3 := lt_up Ld_2 h5
      have HCd_3 := hH (HCd_2.out.next h5)
      have HR_3 := hH (HR_2.out.later h5)
      have HGx : Hid (W.heap.size ≤ px) := hH (Nat.le_trans HB_2.out.size hgx)
      have HXx : Hid (w2.heap.size ≤ px) := hH hgx
      have Kx_3 := hH hrx
      have Lx_3 := hH hlx
      have HCx_3 := hH hcx
      clear hgx hlx hrx hcx h5
      go_wp2_with fail
      have KS : Hid (∀ Y : World, Below w3.heap.size w3 Y → Y.heap[b6]? = some (.cells (cmR c l') 31 (0, 0)) ∧ Y.rangeAt g (o + k * 14) (eX.enc q)) := hH (fun Y hY => ⟨(hY.block _ Ld_3.out).trans Kd_3.out, (HR_3.out.later hY).r⟩)
      go_cut [10, 11] from 25 to 67 (fun sp sb wx => ∃ (bx : Nat) (lx : Pl), sp = .pointer (some ⟨bx, 0, none⟩) ∧ sb = .bool (actB c q.x) ∧ w3.heap.size ≤ bx ∧ bx < wx.heap.size ∧ wx.heap[bx]? = some (.cells (cmR (actC c q.x) lx) 31 (0, 0)) ∧ CmS (S3 b5 b6 b6) wx (actC c q.x) lx ∧ Below w3.heap.size w3 wx)
      case first =>
       refine wp_region_held_drew (S := fun Y => Y.heap[b6]? = some (.cells (cmR c l') 31 (0, 0)) ∧ Y.rangeAt g (o + k * 14) (eX.enc q)) (by kernel_rfl) (KS.out _ (Below.refl w3.heap.size w3).drew) (fun hHeld => ?_)
       refine wpAnyH_take (i := 0) (oi := ⟨_, _, _, _, _, _⟩) (v := _) rfl (by kernel_rfl) (by kernel_rfl) (by kernel_rfl) (fun _ _ _ h => h) (yields_row (by rfl) _ _ rfl _ 0 rfl (fun w h => h.1) Tryz.underlying31 rfl (cmR c l') szCmd all_at) (by assumption) ?_
       try simp only [Act.put, sA9, sZ9, sS9]
       refine wpAnyH_take (i := 1) (oi := ⟨_, _, _, _, _, _⟩) (v := ?_) rfl (by kernel_rfl) (by kernel_rfl) (by kernel_rfl) (fun _ _ _ h => h) (Or.inl ⟨by rfl, ?_⟩) (by assumption) ?_
       rotate_left
       ·intro w hSw
        try dsimp only at hSw
        go_simp
        try with_reducible rfl
       try simp only [Act.put, sA9, sZ9, sS9]
       refine wpAnyH_take (i := 2) (oi := ⟨_, _, _, _, _, _⟩) (v := ?_) rfl (by kernel_rfl) (by kernel_rfl) (by kernel_rfl) (fun _ _ _ h => h) (Or.inl ⟨by rfl, ?_⟩) (by assumption) ?_
       rotate_left
       ·intro w hSw
        try dsimp only at hSw
        go_simp
        try with_reducible rfl
       try simp only [Act.put, sA9, sZ9, sS9]
       refine wpAnyH_take (i := 3) (oi := ⟨_, _, _, _, _, _⟩) (v := ?_) rfl (by kernel_rfl) (by kernel_rfl) (by kernel_rfl) (fun _ _ _ h => h) (Or.inl ⟨by rfl, ?_⟩) (by assumption) ?_
       rotate_left
       ·intro w hSw
        try dsimp only at hSw
        go_simp
        try with_reducible rfl
       try simp only [Act.put, sA9, sZ9, sS9]
       refine wpAnyH_take (i := 4) (oi := ⟨_, _, _, _, _, _⟩) (v := _) rfl (by kernel_rfl) (by kernel_rfl) (by kernel_rfl) (fun _ _ _ h => h) (yieldsIf_load_mid (by rfl) _ _ rfl _ _ rfl (eX.enc q) _ (fun w h => h.2) Tryz.underlying53 rfl szAct) (by assumption) ?_
       try simp only [Act.put, sA9, sZ9, sS9]
       have HX : Hid (Below w3.heap.size w3 w3.drew) := hH (Below.refl _ _).drew
       have HB_z0 := HX
       clear HX
       generalize w3.drew = z0 at *
       refine wpAnyH_ready (rs := [5, 9]) (by kernel_rfl) (by simp) ?_
       refine (AllReadyH.cons (o := ⟨_, _, _, _, _, _⟩) rfl (fun K hK => ?_) (AllReadyH.cons (o := ⟨_, _, _, _, _, _⟩) rfl (fun K hK => ?_) AllReadyH.nil))
       ·go_simp
        go_at_call 27
        refine (model9_any c l' q.x q.l z0 (S3 b5 b6 b6) (fun b hb => by have g5 := Nat.lt_of_lt_of_le Lc_3.out HB_z0.out.size; have g6 := Nat.lt_of_lt_of_le Ld_3.out HB_z0.out.size; rcases hb with hb | hb | hb <;> omega) (HCd_3.out.next HB_z0.out) (acs_in HNX.out.at_ (blThen HB_3.out HB_z0.out) (fun b hb => by have g5 := HG5.out; have g6 := HG6.out; rcases hb with hb | hb | hb <;> omega))).mono ?_
        intro e zw1 h
        unfold RetCS at h
        obtain ⟨lx, rfl, hcx, h5⟩ := h
        have HCX := hH hcx
        clear hcx
        have HX : Hid (Below z0.heap.size z0 zw1) := hH h5
        have HB_zw1 : Hid (Below w3.heap.size w3 zw1) := hH (blThen HB_z0.out HX.out)
        have HBY := hH HX.out
        refine hK.out _ _ (KS.out _ HB_zw1.out) (fun hHeld => ?_)
        clear hK K HX h5
        try simp only [Act.put, sA9, sZ9, sS9]
        refine wpAnyH_take (i := 6) (oi := ⟨_, _, _, _, _, _⟩) (v := ?_) rfl (by kernel_rfl) (by kernel_rfl) (by kernel_rfl) (fun _ _ _ h => h) (Or.inl ⟨by rfl, ?_⟩) (by assumption) ?_
        rotate_left
        ·intro w hSw
         try dsimp only at hSw
         go_simp
         try with_reducible rfl
        try simp only [Act.put, sA9, sZ9, sS9]
        refine wpAnyH_take (i := 7) (oi := ⟨_, _, _, _, _, _⟩) (v := ?_) rfl (by kernel_rfl) (by kernel_rfl) (by kernel_rfl) (fun _ _ _ h => h) (Or.inl ⟨by rfl, ?_⟩) (by assumption) ?_
        rotate_left
        ·intro w hSw
         try dsimp only at hSw
         go_simp
         try with_reducible rfl
        try simp only [Act.put, sA9, sZ9, sS9]
        refine wpAnyH_take (i := 8) (oi := ⟨_, _, _, _, _, _⟩) (v := ?_) rfl (by kernel_rfl) (by kernel_rfl) (by kernel_rfl) (fun _ _ _ h => h) (Or.inl ⟨by rfl, ?_⟩) (by assumption) ?_
        rotate_left
        ·intro w hSw
         try dsimp only at hSw
         go_simp
         try with_reducible rfl
        try simp only [Act.put, sA9, sZ9, sS9]
        refine wpAnyH_ready (rs := [9]) (by kernel_rfl) (by simp) ?_
        refine (AllReadyH.cons (o := ⟨_, _, _, _, _, _⟩) rfl (fun K hK => ?_) AllReadyH.nil)
        go_simp
        have HX : Hid (Below zw1.heap.size zw1 (zw1.alloc (.cells z22 31))) := hH (blAlloc (Below.refl _ _) _)
        have HB_zw2 : Hid (Below w3.heap.size w3 (zw1.alloc (.cells z22 31))) := hH (blThen HB_zw1.out HX.out)
        have HBY := hH HX.out
        have KN : Hid ((zw1.alloc (.cells z22 31)).heap[zw1.heap.size]? = some (.cells z22 31 (0, 0))) := hH (new_blockC zw1 z22 31)
        have LN : Hid (zw1.heap.size < (zw1.alloc (.cells z22 31)).heap.size) := hH (by simp)
        have GN : Hid (w3.heap.size ≤ zw1.heap.size) := hH HB_zw1.out.size
        refine hK.out _ _ (KS.out _ HB_zw2.out) (fun hHeld => ?_)
        clear hK K HX
        try simp only [Act.put, sA9, sZ9, sS9]
        generalize (zw1.alloc (.cells z22 31)) = zw2 at *
        refine wpAnyH_ready (rs := [10]) (by kernel_rfl) (by simp) ?_
        refine AllReadyH.cons (o := ⟨_, _, _, _, _, _⟩) rfl (fun K hK => ?_) ?_
        rotate_left
        ·exact AllReadyH.nil
        refine ite_yes9 (by rfl) ?_
        refine wp_store9 _ _ rfl _ rfl (cells := cmR (actC c q.x) lx) rfl KN.out rfl rfl (cmR_one HCX.out.at) ?_
        intro zf h1 h2
        have HBF : Hid (Below w3.heap.size w3 zf) := hH (below_grown9 HB_zw2.out h2 GN.out)
        have KF := hH h1
        have LF := Nat.lt_of_lt_of_le LN.out h2.size
        have HCF := hH (HCX.out.next (below_grown9 HBY.out h2 (Nat.le_refl _)))
        clear h1 h2
        refine hK.out _ _ (KS.out _ HBF.out) (fun hHeld => ?_)
        clear hK K
        try simp only [Act.put, sA9, sZ9, sS9]
        refine wpAnyH_take (i := 11) (oi := ⟨_, _, _, _, _, _⟩) (v := ?_) rfl (by kernel_rfl) (by kernel_rfl) (by kernel_rfl) (fun _ _ _ h => h) (Or.inl ⟨by rfl, ?_⟩) (by assumption) ?_
        rotate_left
        ·intro w hSw
         try dsimp only at hSw
         go_simp
         try with_reducible rfl
        try simp only [Act.put, sA9, sZ9, sS9]
        refine wpAnyH_done (by kernel_rfl) ?_ _
        go_wp2_with fail
        go_meet
        exact ⟨zw1.heap.size, lx, rfl, rfl, GN.out, LF, KF.out, HCF.out, HBF.out⟩
       ·go_simp
        have HX : Hid (Below z0.heap.size z0 (z0.alloc (.cells z22 31))) := hH (blAlloc (Below.refl _ _) _)
        have HB_zw3 : Hid (Below w3.heap.size w3 (z0.alloc (.cells z22 31))) := hH (blThen HB_z0.out HX.out)
        have HBY := hH HX.out
        have KN : Hid ((z0.alloc (.cells z22 31)).heap[z0.heap.size]? = some (.cells z22 31 (0, 0))) := hH (new_blockC z0 z22 31)
        have LN : Hid (z0.heap.size < (z0.alloc (.cells z22 31)).heap.size) := hH (by simp)
        have GN : Hid (w3.heap.size ≤ z0.heap.size) := hH HB_z0.out.size
        refine hK.out _ _ (KS.out _ HB_zw3.out) (fun hHeld => ?_)
        clear hK K HX
        try simp only [Act.put, sA9, sZ9, sS9]
        generalize (z0.alloc (.cells z22 31)) = zw3 at *
        refine wpAnyH_ready (rs := [5]) (by kernel_rfl) (by simp) ?_
        refine (AllReadyH.cons (o := ⟨_, _, _, _, _, _⟩) rfl (fun K hK => ?_) AllReadyH.nil)
        go_simp
        go_at_call 27
        refine (model9_any c l' q.x q.l zw3 (S3 b5 b6 z0.heap.size) (fun b hb => by have g5 := Nat.lt_of_lt_of_le Lc_3.out HB_zw3.out.size; have g6 := Nat.lt_of_lt_of_le Ld_3.out HB_zw3.out.size; have g7 := LN.out; rcases hb with hb | hb | hb <;> omega) (cms_more HCd_3.out HB_zw3.out GN.out) (acs_in HNX.out.at_ (blThen HB_3.out HB_zw3.out) (fun b hb => by have g5 := HG5.out; have g6 := HG6.out; have g7 := Nat.le_trans HB_3.out.size GN.out; rcases hb with hb | hb | hb <;> omega))).mono ?_
        intro e zw4 h
        unfold RetCS at h
        obtain ⟨lx, rfl, hcx, h5⟩ := h
        have HCX := hH hcx
        clear hcx
        have HX : Hid (Below zw3.heap.size zw3 zw4) := hH h5
        have HB_zw4 : Hid (Below w3.heap.size w3 zw4) := hH (blThen HB_zw3.out HX.out)
        have HBY := hH HX.out
        have KN := hH ((HX.out.block z0.heap.size LN.out).trans KN.out)
        have LN : Hid (z0.heap.size < zw4.heap.size) := hH (Nat.lt_of_lt_of_le LN.out HX.out.size)
        refine hK.out _ _ (KS.out _ HB_zw4.out) (fun hHeld => ?_)
        clear hK K HX h5
        try simp only [Act.put, sA9, sZ9, sS9]
        refine wpAnyH_take (i := 6) (oi := ⟨_, _, _, _, _, _⟩) (v := ?_) rfl (by kernel_rfl) (by kernel_rfl) (by kernel_rfl) (fun _ _ _ h => h) (Or.inl ⟨by rfl, ?_⟩) (by assumption) ?_
        rotate_left
        ·intro w hSw
         try dsimp only at hSw
         go_simp
         try with_reducible rfl
        try simp only [Act.put, sA9, sZ9, sS9]
        refine wpAnyH_take (i := 7) (oi := ⟨_, _, _, _, _, _⟩) (v := ?_) rfl (by kernel_rfl) (by kernel_rfl) (by kernel_rfl) (fun _ _ _ h => h) (Or.inl ⟨by rfl, ?_⟩) (by assumption) ?_
        rotate_left
        ·intro w hSw
         try dsimp only at hSw
         go_simp
         try with_reducible rfl
        try simp only [Act.put, sA9, sZ9, sS9]
        refine wpAnyH_take (i := 8) (oi := ⟨_, _, _, _, _, _⟩) (v := ?_) rfl (by kernel_rfl) (by kernel_rfl) (by kernel_rfl) (fun _ _ _ h => h) (Or.inl ⟨by rfl, ?_⟩) (by assumption) ?_
        rotate_left
        ·intro w hSw
         try dsimp only at hSw
         go_simp
         try with_reducible rfl
        try simp only [Act.put, sA9, sZ9, sS9]
        refine wpAnyH_ready (rs := [10]) (by kernel_rfl) (by simp) ?_
        refine AllReadyH.cons (o := ⟨_, _, _, _, _, _⟩) rfl (fun K hK => ?_) ?_
        rotate_left
        ·exact AllReadyH.nil
        refine ite_yes9 (by rfl) ?_
        refine wp_store9 _ _ rfl _ rfl (cells := cmR (actC c q.x) lx) rfl KN.out rfl rfl (cmR_one HCX.out.at) ?_
        intro zf h1 h2
        have HBF : Hid (Below w3.heap.size w3 zf) := hH (below_grown9 HB_zw4.out h2 GN.out)
        have KF := hH h1
        have LF := Nat.lt_of_lt_of_le LN.out h2.size
        have HCF := hH (cms_store HCX.out h2)
        clear h1 h2
        refine hK.out _ _ (KS.out _ HBF.out) (fun hHeld => ?_)
        clear hK K
        try simp only [Act.put, sA9, sZ9, sS9]
        refine wpAnyH_take (i := 11) (oi := ⟨_, _, _, _, _, _⟩) (v := ?_) rfl (by kernel_rfl) (by kernel_rfl) (by kernel_rfl) (fun _ _ _ h => h) (Or.inl ⟨by rfl, ?_⟩) (by assumption) ?_
        rotate_left
        ·intro w hSw
         try dsimp only at hSw
         go_simp
         try with_reducible rfl
        try simp only [Act.put, sA9, sZ9, sS9]
        refine wpAnyH_done (by kernel_rfl) ?_ _
        go_wp2_with fail
        go_meet
        exact ⟨z0.heap.size, lx, rfl, rfl, GN.out, LF, KF.out, HCF.out, HBF.out⟩
      case rest =>
       obtain ⟨py, ly, ep, eb, hgx, hlx, hrx, hcx, h5⟩ := hcut
       rename World => w4
       rw [ep, eb]
       clear ep eb KS
       have HB_4 : Hid (Below W.heap.size W w4) := hH (blThen HB_3.out h5)
       have Ki_4 := row_up Ki_3 Li_3 h5
       have Li_4 := lt_up Li_3 h5
       have Kc_4 := row_up Kc_3 Lc_3 h5
       have Lc_4 := lt_up Lc_3 h5
       have Kd_4 := row_up Kd_3 Ld_3 h5
       have Ld_4 := lt_up Ld_3 h5
       have Kx_4 := row_up Kx_3 Lx_3 h5
       have Lx_4 := lt_up Lx_3 h5
       have HCx_4 := hH (HCx_3.out.next h5)
       have HGy : Hid (W.heap.size ≤ py) := hH (Nat.le_trans HB_3.out.size hgx)
       have HXy : Hid (w3.heap.size ≤ py) := hH hgx
       have Ky_4 := hH hrx
       have Ly_4 := hH hlx
       have HCy_4 := hH hcx
       clear hgx hlx hrx hcx h5
       obtain ⟨bb, hbb⟩ : ∃ q_, q_ = actB c q.x := ⟨_, rfl⟩
       rw [← hbb]
       clear hbb
       have hbn : (bb != bb) = false := by cases bb <;> rfl
       obtain ⟨cn, hcn⟩ : ∃ q_, q_ = actC c q.x := ⟨_, rfl⟩
       have HFN : Hid (FewC cn) := hH (by rw [hcn]; exact few_act HF.out HFX.out)
       rw [← hcn] at Kx_4
       rw [← hcn] at Ky_4
       rw [← hcn] at HCx_4
       rw [← hcn] at HCy_4
       clear hcn HFX HIN HNX
       go_upto_region 12 with (first | go_skip | ((with_reducible refine atC w4 ?_); go_at_call 16; go_must (refine (rsame9_any cn lx ly w4 HCx_4.out.at HCy_4.out.at HFN.out).mono ?_; rintro e w5 ⟨rfl, h5⟩; have HB_5 : Hid (Below W.heap.size W w5) := hH (blThen HB_4.out h5); have Ki_5 := row_up Ki_4 Li_4 h5; have Li_5 := lt_up Li_4 h5; have Kc_5 := row_up Kc_4 Lc_4 h5; have Lc_5 := lt_up Lc_4 h5; have Kd_5 := row_up Kd_4 Ld_4 h5; have Ld_5 := lt_up Ld_4 h5; have Kx_5 := row_up Kx_4 Lx_4 h5; have Lx_5 := lt_up Lx_4 h5; have Ky_5 := row_up Ky_4 Ly_4 h5; have Ly_5 := lt_up Ly_4 h5; have HCx_5 := hH (HCx_4.out.next h5); have HCy_5 := hH (HCy_4.out.next h5); clear h5)) | ((with_reducible refine atW w4 ?_); refine load9 _ rfl (by rfl) _ rfl Ky_4.out rfl ?_) | ((with_reducible refine atW w4 ?_); refine load9 _ rfl (by rfl) _ rfl Kx_4.out rfl ?_))
       refine wp_region_held_drew (S := fun Y => Y.heap[px]? = some (.cells (cmR cn lx) 31 (0, 0)) ∧ Y.heap[py]? = some (.cells (cmR cn ly) 31 (0, 0))) (by kernel_rfl) (⟨Kx_5.out, Ky_5.out⟩) (fun hHeld => ?_)
       have h5 : Below w5.heap.size w5 w5.drew := (Below.refl _ _).drew
       have HB_6 : Hid (Below W.heap.size W w5.drew) := hH (blThen HB_5.out h5)
       have Ki_6 := row_up Ki_5 Li_5 h5
       have Li_6 := lt_up Li_5 h5
       have Kc_6 := row_up Kc_5 Lc_5 h5
       have Lc_6 := lt_up Lc_5 h5
       have Kd_6 := row_up Kd_5 Ld_5 h5
       have Ld_6 := lt_up Ld_5 h5
       have Kx_6 := row_up Kx_5 Lx_5 h5
       have Lx_6 := lt_up Lx_5 h5
       have Ky_6 := row_up Ky_5 Ly_5 h5
       have Ly_6 := lt_up Ly_5 h5
       have HCx_6 := hH (HCx_5.out.next h5)
       have HCy_6 := hH (HCy_5.out.next h5)
       clear h5
       generalize w5.drew = w6 at *
       refine wpAnyH_take (i := 0) (oi := ⟨_, _, _, _, _, _⟩) (v := _) rfl (by kernel_rfl) (by kernel_rfl) (by kernel_rfl) (fun _ _ _ h => h) (yields_row (by rfl) _ _ rfl _ 0 rfl (fun w h => h.1) Tryz.underlying31 rfl (cmR cn lx) szCmd all_at) (by assumption) ?_
       try simp only [Act.put, sA9, sZ9, sS9]
       refine wpAnyH_take (i := 1) (oi := ⟨_, _, _, _, _, _⟩) (v := _) rfl (by kernel_rfl) (by kernel_rfl) (by kernel_rfl) (fun _ _ _ h => h) (yields_row (by rfl) _ _ rfl _ 0 rfl (fun w h => h.2) Tryz.underlying31 rfl (cmR cn ly) szCmd all_at) (by assumption) ?_
       try simp only [Act.put, sA9, sZ9, sS9]
       refine wpAnyH_ready (rs := [2]) (by kernel_rfl) (by simp) ?_
       refine AllReadyH.cons (o := ⟨_, _, _, _, _, _⟩) rfl (fun K hK => ?_) ?_
       rotate_left
       ·exact AllReadyH.nil
       refine ite_yes9 (by rfl) ?_
       refine wp_store9 _ _ rfl _ rfl (cells := cmR cn lx) rfl Kc_6.out rfl rfl (cmR_one HCx_6.out.at) ?_
       intro zf h1 h2
       have HBF : Hid (Below W.heap.size W zf) := hH (HB_6.out.grown h2 HB_6.out.size (fun j hj => by cases hj; exact HG5.out))
       have KcF := hH h1
       have KdF := hH (grown_other9 Kd_6.out h2 Ld_6.out (fun e => HNE.out e.symm))
       have KxF := hH (grown_other9 Kx_6.out h2 Lx_6.out (fun e => by have g := HXx.out; have g2 := Lc_2.out; omega))
       have KyF := hH (grown_other9 Ky_6.out h2 Ly_6.out (fun e => by have g := HXy.out; have g2 := Lc_3.out; omega))
       have KiF := hH (grown_other9 Ki_6.out h2 Li_6.out (fun e => by have g := HG5.out; have g2 := HI5.out; omega))
       have HCxF := hH (cms_keep HCx_6.out h2 (.inl rfl))
       have HCyF := hH (cms_keep HCy_6.out h2 (.inl rfl))
       have hszF := h2.size
       clear h1 h2
       refine hK.out _ _ ⟨KxF.out, KyF.out⟩ (fun hHeld => ?_)
       clear hK K
       try simp only [Act.put, sA9, sZ9, sS9]
       refine wpAnyH_ready (rs := [3]) (by kernel_rfl) (by simp) ?_
       refine AllReadyH.cons (o := ⟨_, _, _, _, _, _⟩) rfl (fun K hK => ?_) ?_
       rotate_left
       ·exact AllReadyH.nil
       refine ite_yes9 (by rfl) ?_
       refine wp_store9 _ _ rfl _ rfl (cells := cmR cn ly) rfl KdF.out rfl rfl (cmR_one HCyF.out.at) ?_
       intro zg h1 h2
       have HBG : Hid (Below W.heap.size W zg) := hH (HBF.out.grown h2 HBF.out.size (fun j hj => by cases hj; exact HG6.out))
       have KdG := hH h1
       have KcG := hH (grown_other9 KcF.out h2 (Nat.lt_of_lt_of_le Lc_6.out hszF) HNE.out)
       have KxG := hH (grown_other9 KxF.out h2 (Nat.lt_of_lt_of_le Lx_6.out hszF) (fun e => by have g := HXx.out; have g2 := Ld_2.out; omega))
       have KyG := hH (grown_other9 KyF.out h2 (Nat.lt_of_lt_of_le Ly_6.out hszF) (fun e => by have g := HXy.out; have g2 := Ld_3.out; omega))
       have KiG := hH (grown_other9 KiF.out h2 (Nat.lt_of_lt_of_le Li_6.out hszF) (fun e => by have g := HG6.out; have g2 := HI6.out; omega))
       have HCxG := hH (cms_keep HCxF.out h2 (.inr (.inl rfl)))
       have HCyG := hH (cms_keep HCyF.out h2 (.inr (.inl rfl)))
       have hszG := Nat.le_trans hszF h2.size
       clear h1 h2
       refine hK.out _ _ ⟨KxG.out, KyG.out⟩ (fun hHeld => ?_)
       clear hK K
       try simp only [Act.put, sA9, sZ9, sS9]
       refine wpAnyH_done (by kernel_rfl) ?_ _
       go_wp2
       go_roundw
       case rel => exact ⟨k + 1, cn, lx, ly, hlt, by go_num, HBG.out, KiG.out, Nat.lt_of_lt_of_le Li_6.out hszG, KcG.out, KdG.out, Nat.lt_of_lt_of_le Lc_6.out hszG, Nat.lt_of_lt_of_le Ld_6.out hszG, HCxG.out, HCyG.out, HFN.out⟩
       case measure => simp [RowKit.intOf]; omega

theorem cmdPlays_lifted (os : Os) (started : os.Started) (H : Type) (enc : TypeId × Value → H) :
  ReturnsInHanded {} Tryz.checked os 4 .any (Rows.cmdPlaysSpec.pre6 enc Tryz.prog Tryz.f4 Rows.cmdPlaysRow.domain false) (Rows.cmdPlaysSpec.post enc Tryz.prog Tryz.f4 false true false false) := by
 refine law_lift_sized (C := Tryz.checked) own0 started (by kernel_rfl) Tryz.func4 laid0 rfl (by kernel_rfl) (fun _ _ _ _ => trodAll_mk1 (shut_bool Tryz.underlying4 true)) (fun ds h => match ds, h with | [_, _], _ => ⟨rfl, rfl, rfl⟩)
  (ChangeSpec.witness6 (enc := enc) (C := Tryz.checked) false ⟨#[], #[.agg #[.int .i64 0, .int .i64 0], .slice none 0 0], []⟩ 8 (by kernel_rfl) (by kernel_rfl) (by kernel_rfl) (by kernel_rfl)) ?_
 intro W base args ds before hval0 hA0 hlt hsz
 have hval : ∀ (j : Nat) t v, Tryz.f4.params[j]? = some t → args[j]? = some v → Value.okWide Tryz.prog W .any base t v := hval0
 have hA : DataW.TrodAll enc Tryz.prog W 0 (fun _ => true) true Tryz.f4.params.toList args.toList ds before := hA0
 rw [Tryz.params4] at hA hval
 obtain ⟨v0, v1, d0, d1, p0, p1, rfl, rfl, rfl, h0, h1⟩ := trodAll_two hA
 obtain ⟨i1, i2, rfl, _, _⟩ := S1.open_stamp (hval 0 23 v0 rfl rfl) h0
 obtain ⟨L, hl, hm, hx⟩ := open_acts9 (hval 1 49 v1 rfl rfl) h1
 exact cmdPlays_walk (i1, i2) v1 L W hl (fun q hq => ⟨(hx q hq).1, (hx q hq).1.inx (hx q hq).2 hsz (j := 1) (by kernel_rfl) rfl⟩)
theorem cmdPlays_f_inPlace : (Rows.cmdPlaysRow.inPlace == Tryz.prog.inPlace 4) = true := by kernel_rfl
theorem cmdPlays_f_unfollowed : (Rows.cmdPlaysRow.unfollowed == Tryz.prog.unfollowed 4) = true := by kernel_rfl
theorem cmdPlays_f_recurses : (Rows.cmdPlaysRow.recurses == Tryz.prog.recurses 4) = true := by kernel_rfl
theorem cmdPlays_f_named : (Rows.cmdPlaysRow.named == Tryz.prog.varsNamed 4) = true := by kernel_rfl
theorem cmdPlays_laid : laidOutB Tryz.prog = true := by kernel_rfl
theorem cmdPlays_rowed : mapsRowed Tryz.prog = true := by kernel_rfl
theorem cmdPlays_closed : joinedFacts Tryz.prog 4 Tryz.f4 Rows.cmdPlaysSpec Rows.cmdPlaysRow = true := by
 unfold joinedFacts
 rw [cmdPlays_laid, cmdPlays_rowed, cmdPlays_f_inPlace, cmdPlays_f_unfollowed, cmdPlays_f_recurses, cmdPlays_f_named]
 kernel_rfl
theorem cmdPlays_holds : Rows.CmdPlaysSaid :=
 OpenClaim.holds_of_wide 4 Tryz.f4 rfl rfl rfl rfl rfl rfl rfl ⟨rfl, rfl, rfl, rfl, rfl⟩ rfl rfl rfl rfl rfl (by kernel_rfl) Tryz.func4 cmdPlays_closed
  (of_decide_eq_true (by kernel_rfl)) (by unfold Func.isWrapper; rw [if_neg (of_decide_eq_false (by kernel_rfl))]; exact ⟨rfl, rfl⟩)
  (fun os started H enc _ => cmdPlays_lifted os started H enc)
#print axioms cmdPlays_holds
end SC
end Go.Proofs.YtgipkikedacmdaaGreat
