/- live of this stage's laws. Conditions: none. -/
import Derived.Deep.RegionHeld3
import Derived.WalkSpells
import Derived.Test.YtmpbpeelankihaaGreatMg52
import Derived.Test.YtmpbpeelankihaaGreatMg50
import Derived.Test.YtmpbpeelankihaaGreatMg39
import Derived.Test.YtmpbpeelankihaaGreatMg48
import Derived.Test.YtmpbpeelankihaaGreatMg47
set_option maxRecDepth 100000
set_option maxHeartbeats 16000000
set_option linter.unusedVariables false
set_option linter.unusedSimpArgs false
namespace Go.Proofs.YtmpbpeelankihaaGreat
open S3 SC SN SP
namespace SI
open Go.ChangeShapes Go.WideShapes Go.ChangeAt Go.RowKit Go.Joins Go.Deep
def RetPm (w : World) (B : List UInt8) (e : Ending) (w' : World) : Prop := ∃ l, e = .returned (.tuple #[msV ((parseM B).getD mg0) l, .int .i64 (if (parseM B).isSome = true then 0 else 130)]) ∧ MsAt w' ((parseM B).getD mg0) l ∧ Below w.heap.size w w'
theorem nil_ms (W : World) : MsAt W mg0 ⟨.slice none 0 0, .slice none 0 0, .slice none 0 0, .slice none 0 0, .slice none 0 0⟩ := ⟨slG_nil9 _ _, dlV_nil9 _, dlV_nil9 _, slG_nil9 _ _, slG_nil9 _ _⟩
theorem parseM_no {B : List UInt8} (h : wholeM B = false ∨ ¬ checkM (readM B) = 0) : parseM B = none := by
 unfold parseM
 rw [if_neg]
 rintro ⟨h1, h2⟩
 rcases h with h | h
 ·rw [h1] at h; cases h
 ·exact h h2
theorem parseM_yes {B : List UInt8} (h1 : wholeM B = true) (h2 : checkM (readM B) = 0) : parseM B = some (readM B) := by
 unfold parseM
 rw [if_pos ⟨h1, h2⟩]
theorem parse13_any (gv : Nat) (ba : Option Addr) (bc : Nat) (B : List UInt8) (w : World) (hB : S2.Bw w gv (.slice ba B.length bc) B) (hcap : ba ≠ none → B.length ≤ bc) (hlen : B.length ≤ 50000) : Calls Tryz.prog 55 #[.slice ba B.length bc] w (RetPm w B) := by
 have HBS : Hid (S2.Bw (w.alloc (.cells #[.int .i64 0, .int .i64 0, .int .i64 0, .int .i64 0, .int .i64 0, .int .i64 0, .int .i64 0, .int .i64 0, .int .i64 0, .slice none 0 0, .bool false, .slice none 0 0, .bool false, .int .i64 0, .int .i64 0, .bool false, .int .i64 0, .int .i64 0, .slice none 0 0, .slice none 0 0, .slice none 0 0] 80)) gv (.slice ba B.length bc) B) := Lib.hid (hB.keep (S2.kAlloc (S2.Keeps.refl (fun _ => False) w) _) (fun _ h => h))
 have HBW := Lib.hid hB
 have HLB := Lib.hid hlen
 have HNE : Hid (ba = none → B = []) := Lib.hid (fun e => by obtain ⟨a, c, hv, h0, _⟩ := hB; cases hv; exact (h0 e).1)
 have hF := few_read B hlen
 have hWF := read_wf B
 have HPN0 := Lib.hid (fun h => parseM_no (B := B) h)
 have HPS0 := Lib.hid (fun h1 h2 => parseM_yes (B := B) h1 h2)
 have HWH : Hid (wholeM B = (decide ((curM B).1.length = 8) && decide (cI.val (curM B) = sumN (B.take (B.length - 8))) && decide (doneC (cI.fin (curM B)) = 0))) := Lib.hid rfl
 have HCE0 : Hid (mgOf (cM.val (B, false, false)) = readM B) := Lib.hid (by rw [readM])
 have HUE0 : Hid (cM.fin (B, false, false) = curM B) := Lib.hid (curM_is B).symm
 have HLEC : Hid ((curM B).1.length ≤ B.length) := Lib.hid (by rw [curM_is]; exact cM_ok.len (B, false, false))
 obtain ⟨C, hC⟩ : ∃ x, x = readM B := ⟨_, rfl⟩
 obtain ⟨U, hU⟩ : ∃ x, x = curM B := ⟨_, rfl⟩
 rw [← hC] at hF hWF HPN0 HPS0 HCE0
 rw [← hU] at HWH HUE0 HLEC
 have HCH := Lib.hid (fun (l : PlM) (Y : World) (h : MsAt Y C l) => check13_any C l Y h hF hWF)
 obtain ⟨kind, frm, dst, ⟨id1, id2⟩, ⟨b1, b2⟩, ⟨a1, a2⟩, ops, fast, deps, has, ⟨q1, q2⟩, ⟨gone, ⟨t1, t2⟩, vdeps⟩, writes, pairs⟩ := C
 obtain ⟨cl, cb, cd⟩ := U
 simp only [msV] at HCH
 simp only at HWH HLEC
 have HCE := HCE0
 have HUE := HUE0
 have Kr0 : Hid ((w.alloc (.cells #[.int .i64 0, .int .i64 0, .int .i64 0, .int .i64 0, .int .i64 0, .int .i64 0, .int .i64 0, .int .i64 0, .int .i64 0, .slice none 0 0, .bool false, .slice none 0 0, .bool false, .int .i64 0, .int .i64 0, .bool false, .int .i64 0, .int .i64 0, .slice none 0 0, .slice none 0 0, .slice none 0 0] 80)).heap[w.heap.size]? = some (.cells #[.int .i64 0, .int .i64 0, .int .i64 0, .int .i64 0, .int .i64 0, .int .i64 0, .int .i64 0, .int .i64 0, .int .i64 0, .slice none 0 0, .bool false, .slice none 0 0, .bool false, .int .i64 0, .int .i64 0, .bool false, .int .i64 0, .int .i64 0, .slice none 0 0, .slice none 0 0, .slice none 0 0] 80 (0, 0))) := Lib.hid (new_blockC w _ _)
 obtain ⟨kk, hkk⟩ : ∃ x, x = B.length - 8 := ⟨_, rfl⟩
 obtain ⟨iv, hiv⟩ : ∃ x, x = cI.val (cl, cb, cd) := ⟨_, rfl⟩
 obtain ⟨sv, hsv⟩ : ∃ x, x = sumN (B.take (B.length - 8)) := ⟨_, rfl⟩
 obtain ⟨dv, hdv⟩ : ∃ x, x = doneC (cI.fin (cl, cb, cd)) := ⟨_, rfl⟩
 rw [← hiv, ← hsv, ← hdv] at HWH
 rw [← hkk] at hsv
 have HIV := Lib.hid hiv.symm
 have HSV := Lib.hid hsv.symm
 have HDV := Lib.hid hdv.symm
 have HKE := Lib.hid hkk
 clear hB hlen hF hWF hC hU hkk hiv hsv hdv HCE0 HUE0
 obtain ⟨nl, hnl⟩ : ∃ x, x = cl.length := ⟨_, rfl⟩
 rw [← hnl] at HWH HLEC
 have HNL := Lib.hid hnl.symm
 clear hnl
 by_cases h8 : nl = 8
 ·have HLE8 : Hid (8 ≤ B.length) := Lib.hid (by have := HLEC.out; omega)
  have HKK : Hid (kk < B.length) := Lib.hid (by have := HLE8.out; have := HKE.out; omega)
  have hbc : B.length ≤ bc := hcap (fun e => by have := HLE8.out; rw [HNE.out e] at this; simp at this)
  subst h8
  have s1 : wrap64 ((B.length : Int) - 8) = ((kk : Nat) : Int) := by have := HLE8.out; have := HKE.out; have := HLB.out; unfold wrap64; omega
  have s2 : IntKind.i64.wrap ((B.length : Int) - 8) = ((kk : Nat) : Int) := by have := HLE8.out; have := HKE.out; have := HLB.out; rw [IntKind.wrap_i64]; omega
  have s3 : (0 : Int) ≤ ((kk : Nat) : Int) := by omega
  have s4 : ((kk : Nat) : Int) ≤ (bc : Int) := by have := HKE.out; omega
  have s5 : kk ≤ bc := by have := HKE.out; omega
  clear hcap hbc
  by_cases hi : iv = sv
  ·subst hi
   by_cases hd : dv = 0
   ·subst hd
    have HWT : Hid (wholeM B = true) := Lib.hid (by rw [HWH.out]; simp)
    by_cases hck : checkM ⟨kind, frm, dst, (id1, id2), (b1, b2), (a1, a2), ops, fast, deps, has, (q1, q2), (gone, (t1, t2), vdeps), writes, pairs⟩ = 0
    ·have HPS := Lib.hid (HPS0.out HWT.out hck)
     go_enter Tryz.func55, Tryz.ntmps55
     go_upto_region 3 with (first | go_skip | ((with_reducible refine atW (w2.alloc (.cells #[.int .i64 0, .int .i64 0, .int .i64 0, .int .i64 0, .int .i64 0, .int .i64 0, .int .i64 0, .int .i64 0, .int .i64 0, .slice none 0 0, .bool false, .slice none 0 0, .bool false, .int .i64 0, .int .i64 0, .bool false, .int .i64 0, .int .i64 0, .slice none 0 0, .slice none 0 0, .slice none 0 0] 80)) ?_); refine storeM _ _ rfl rfl _ rfl rfl K50.out rfl rfl (by simp [Value.oneCell']) ?_; intro w3 h1 h2; have K53 := Lib.hid h1; have h6 : w2.heap.size < w3.heap.size := (by have := h2.size; simp only [World.size_alloc] at this; omega); have Kr4 := Lib.hid (grown_other9 Kr3.out h2 (by simp; omega) (by omega)); have HE4 := Lib.hid (eyeS_store HE3.out h2 (by have := HL2.out; omega) (by have := HL2.out; omega) (fun hne => by have := HE2.out.lt.2.2 hne; omega)); have hb3 := below_grown9 (blAlloc (Below.refl _ _) _) h2 (Nat.le_refl _); have HO3 := Lib.hid (HO2.out.kp (S2.Keeps.ofBelow hb3)); have HB3 : Hid (Below w.heap.size w w3) := Lib.hid (blThen HB2.out hb3); clear h1 h2 hb3) | ((with_reducible refine atC w1 ?_); go_at_call 117; go_must (refine (readM_any HE1.out (by have := HLB.out; show B.length ≤ _; omega)).mono ?_; intro e w2 h; unfold SeeMs at h; rw [HCE.out, HUE.out] at h; obtain ⟨⟨lo, ld, lv, lw, lp⟩, rfl, ho1, he2, hk2⟩ := h; have HO2 := Lib.hid ho1; obtain ⟨oa, oc, rfl⟩ := ho1.o.form; obtain ⟨da, dn, dc, rfl⟩ := ho1.d.form; obtain ⟨va, vn, vc, rfl⟩ := ho1.v.form; obtain ⟨wa, wc, rfl⟩ := ho1.w.form; obtain ⟨pa, pc, rfl⟩ := ho1.p.form; simp only [msV]; generalize ops.length = on at *; generalize writes.length = wn at *; generalize pairs.length = pn at *; have HE2 := Lib.hid he2; have Kr2 := Lib.hid ((hk2.block w.heap.size (by omega) (by have := HSB.out; rintro (e | e) <;> omega)).trans Kr1.out); have hw2 : w1.heap.size ≤ w2.heap.size := hk2.size; have HB2 : Hid (Below w.heap.size w w2) := Lib.hid (HB1.out.trans (hk2.below (by omega) (fun x hx e => by have := HSB.out; rcases e with e | e <;> omega))); have HL2 : Hid (s < w1.heap.size ∧ b < w1.heap.size) := Lib.hid ⟨HE1.out.lt.1, HE1.out.lt.2.1⟩; have K50 : Hid ((w2.alloc (.cells #[.int .i64 0, .int .i64 0, .int .i64 0, .int .i64 0, .int .i64 0, .int .i64 0, .int .i64 0, .int .i64 0, .int .i64 0, .slice none 0 0, .bool false, .slice none 0 0, .bool false, .int .i64 0, .int .i64 0, .bool false, .int .i64 0, .int .i64 0, .slice none 0 0, .slice none 0 0, .slice none 0 0] 80)).heap[w2.heap.size]? = some (.cells #[.int .i64 0, .int .i64 0, .int .i64 0, .int .i64 0, .int .i64 0, .int .i64 0, .int .i64 0, .int .i64 0, .int .i64 0, .slice none 0 0, .bool false, .slice none 0 0, .bool false, .int .i64 0, .int .i64 0, .bool false, .int .i64 0, .int .i64 0, .slice none 0 0, .slice none 0 0, .slice none 0 0] 80 (0, 0))) := Lib.hid (new_blockC w2 _ _); have Kr3 : Hid ((w2.alloc (.cells #[.int .i64 0, .int .i64 0, .int .i64 0, .int .i64 0, .int .i64 0, .int .i64 0, .int .i64 0, .int .i64 0, .int .i64 0, .slice none 0 0, .bool false, .slice none 0 0, .bool false, .int .i64 0, .int .i64 0, .bool false, .int .i64 0, .int .i64 0, .slice none 0 0, .slice none 0 0, .slice none 0 0] 80)).heap[w.heap.size]? = some (.cells #[.int .i64 0, .int .i64 0, .int .i64 0, .int .i64 0, .int .i64 0, .int .i64 0, .int .i64 0, .int .i64 0, .int .i64 0, .slice none 0 0, .bool false, .slice none 0 0, .bool false, .int .i64 0, .int .i64 0, .bool false, .int .i64 0, .int .i64 0, .slice none 0 0, .slice none 0 0, .slice none 0 0] 80 (0, 0))) := Lib.hid (((blAlloc (Below.refl _ _) _ : Below w2.heap.size w2 (w2.alloc (.cells #[.int .i64 0, .int .i64 0, .int .i64 0, .int .i64 0, .int .i64 0, .int .i64 0, .int .i64 0, .int .i64 0, .int .i64 0, .slice none 0 0, .bool false, .slice none 0 0, .bool false, .int .i64 0, .int .i64 0, .bool false, .int .i64 0, .int .i64 0, .slice none 0 0, .slice none 0 0, .slice none 0 0] 80))).block w.heap.size (by omega)).trans Kr2.out); have HE3 : Hid (EyeS (w2.alloc (.cells #[.int .i64 0, .int .i64 0, .int .i64 0, .int .i64 0, .int .i64 0, .int .i64 0, .int .i64 0, .int .i64 0, .int .i64 0, .slice none 0 0, .bool false, .slice none 0 0, .bool false, .int .i64 0, .int .i64 0, .bool false, .int .i64 0, .int .i64 0, .slice none 0 0, .slice none 0 0, .slice none 0 0] 80)) s b g (cl, cb, cd)) := Lib.hid (HE2.out.before (S2.kAlloc (S2.Keeps.refl _ _) _)); clear ho1 he2 hk2)) | ((with_reducible refine atC (w.alloc (.cells #[.int .i64 0, .int .i64 0, .int .i64 0, .int .i64 0, .int .i64 0, .int .i64 0, .int .i64 0, .int .i64 0, .int .i64 0, .slice none 0 0, .bool false, .slice none 0 0, .bool false, .int .i64 0, .int .i64 0, .bool false, .int .i64 0, .int .i64 0, .slice none 0 0, .slice none 0 0, .slice none 0 0] 80)) ?_); go_at_call 62; go_must (refine (sopen_any gv (.slice ba B.length bc) B _ HBS.out (by have := HLB.out; omega)).mono ?_; intro e w1 h; obtain ⟨s, b, g, rfl, he1, hs1, hs2, hs3, h5⟩ := h; have HE1 := Lib.hid he1; have HSB : Hid (w.heap.size + 1 ≤ s ∧ w.heap.size + 1 ≤ b) := Lib.hid (by simp only [World.size_alloc] at hs1 hs2; exact ⟨hs1, hs2⟩); have Kr1 := Lib.hid ((h5.block w.heap.size (by simp)).trans Kr0.out); have hw1 : w.heap.size + 1 ≤ w1.heap.size := (by have := h5.size; simp only [World.size_alloc] at this; exact this); have HB1 : Hid (Below w.heap.size w w1) := Lib.hid (blThen (blAlloc (Below.refl _ _) _) h5); clear he1 hs1 hs2 hs3 h5)))
     have p4 := HE4.out.ptr
     refine wp_region_held_drew (S := fun Y => Y.cell? ⟨s, 0, none⟩ = some (.pointer (some ⟨b, 0, none⟩))) (by kernel_rfl) (p4) (fun hHeld => ?_)
     have HE5 : Hid (EyeS w3.drew s b g (cl, cb, cd)) := Lib.hid (HE4.out.before (S2.kDrew (S2.Keeps.refl _ _)))
     have Kr5 : Hid (w3.drew.heap[w.heap.size]? = some (.cells #[.int .i64 0, .int .i64 0, .int .i64 0, .int .i64 0, .int .i64 0, .int .i64 0, .int .i64 0, .int .i64 0, .int .i64 0, .slice none 0 0, .bool false, .slice none 0 0, .bool false, .int .i64 0, .int .i64 0, .bool false, .int .i64 0, .int .i64 0, .slice none 0 0, .slice none 0 0, .slice none 0 0] 80 (0, 0))) := Kr4
     have K55 : Hid (w3.drew.heap[w2.heap.size]? = some (.cells #[.int .i64 kind, .int .i64 frm, .int .i64 dst, .int .i64 id1, .int .i64 id2, .int .i64 b1, .int .i64 b2, .int .i64 a1, .int .i64 a2, .slice oa on oc, .bool fast, .slice da dn dc, .bool has, .int .i64 q1, .int .i64 q2, .bool gone, .int .i64 t1, .int .i64 t2, .slice va vn vc, .slice wa wn wc, .slice pa pn pc] 80 (0, 0))) := K53
     have HO5 := Lib.hid (HO3.out.kp (S2.kDrew (S2.Keeps.refl _ w3)))
     have HB5 : Hid (Below w.heap.size w w3.drew) := Lib.hid HB3.out.drew
     have h65 : w2.heap.size < w3.drew.heap.size := h6
     have p5 := HE5.out.ptr
     clear HE4 Kr4 K53 HO3 HB3 p4
     generalize w3.drew = w5 at *
     refine wpAnyH_take (i := 0) (oi := ⟨_, _, _, _, _, _⟩) (v := ?_) rfl (by kernel_rfl) (by kernel_rfl) (by kernel_rfl) (fun _ _ _ h => h) (Or.inl ⟨by rfl, ?_⟩) (by assumption) ?_
     rotate_left
     ·intro w hSw
      try dsimp only at hSw
      go_simp
      try with_reducible rfl
     try simp only [Act.put, List.setIfInBounds_toArray, List.set_cons_zero, List.set_cons_succ]
     refine wpAnyH_take (i := 1) (oi := ⟨_, _, _, _, _, _⟩) (v := ?_) rfl (by kernel_rfl) (by kernel_rfl) (by kernel_rfl) (fun _ _ _ h => h) (Or.inl ⟨by rfl, ?_⟩) (by assumption) ?_
     rotate_left
     ·intro w hSw
      try dsimp only at hSw
      go_simp
      try with_reducible rfl
     try simp only [Act.put, List.setIfInBounds_toArray, List.set_cons_zero, List.set_cons_succ]
     refine wpAnyH_take (i := 2) (oi := ⟨_, _, _, _, _, _⟩) (v := ?_) rfl (by kernel_rfl) (by kernel_rfl) (by kernel_rfl) (fun _ _ _ h => h) (Or.inl ⟨by rfl, ?_⟩) (by assumption) ?_
     rotate_left
     ·intro w hSw
      try dsimp only at hSw
      go_simp
      try with_reducible rfl
     try simp only [Act.put, List.setIfInBounds_toArray, List.set_cons_zero, List.set_cons_succ]
     refine wpAnyH_take (i := 3) (oi := ⟨_, _, _, _, _, _⟩) (v := ?_) rfl (by kernel_rfl) (by kernel_rfl) (by kernel_rfl) (fun _ _ _ h => h) (Or.inl ⟨by rfl, ?_⟩) (by assumption) ?_
     rotate_left
     ·intro w hSw
      try dsimp only at hSw
      go_simp
      try with_reducible rfl
     try simp only [Act.put, List.setIfInBounds_toArray, List.set_cons_zero, List.set_cons_succ]
     refine wpAnyH_ready (rs := [4]) (by kernel_rfl) (by simp) ?_
     refine AllReadyH.cons (o := ⟨_, _, _, _, _, _⟩) rfl (fun K hK => ?_) ?_
     rotate_left
     ·exact AllReadyH.nil
     go_simp
     (go_at_call 118; refine (S2.left_any _ b g cl cb HE5.out.2.1).mono ?_; rintro e wq ⟨rfl, rfl⟩; rw [HNL.out])
     refine hK.out _ _ (p5) (fun hHeld => ?_)
     clear hK K
     try simp only [Act.put, List.setIfInBounds_toArray, List.set_cons_zero, List.set_cons_succ]
     refine wpAnyH_take (i := 5) (oi := ⟨_, _, _, _, _, _⟩) (v := ?_) rfl (by kernel_rfl) (by kernel_rfl) (by kernel_rfl) (fun _ _ _ h => h) (Or.inl ⟨by rfl, ?_⟩) (by assumption) ?_
     rotate_left
     ·intro w hSw
      try dsimp only at hSw
      go_simp
      try with_reducible rfl
     try simp only [Act.put, List.setIfInBounds_toArray, List.set_cons_zero, List.set_cons_succ]
     refine wpAnyH_take (i := 6) (oi := ⟨_, _, _, _, _, _⟩) (v := ?_) rfl (by kernel_rfl) (by kernel_rfl) (by kernel_rfl) (fun _ _ _ h => h) (Or.inl ⟨by rfl, ?_⟩) (by assumption) ?_
     rotate_left
     ·intro w hSw
      try dsimp only at hSw
      go_simp
      try with_reducible rfl
     try simp only [Act.put, List.setIfInBounds_toArray, List.set_cons_zero, List.set_cons_succ]
     refine wpAnyH_take (i := 7) (oi := ⟨_, _, _, _, _, _⟩) (v := ?_) rfl (by kernel_rfl) (by kernel_rfl) (by kernel_rfl) (fun _ _ _ h => h) (Or.inl ⟨by rfl, ?_⟩) (by assumption) ?_
     rotate_left
     ·intro w hSw
      try dsimp only at hSw
      go_simp
      try with_reducible rfl
     try simp only [Act.put, List.setIfInBounds_toArray, List.set_cons_zero, List.set_cons_succ]
     refine wpAnyH_take (i := 8) (oi := ⟨_, _, _, _, _, _⟩) (v := ?_) rfl (by kernel_rfl) (by kernel_rfl) (by kernel_rfl) (fun _ _ _ h => h) (Or.inl ⟨by rfl, ?_⟩) (by assumption) ?_
     rotate_left
     ·intro w hSw
      try dsimp only at hSw
      go_simp
      try with_reducible rfl
     try simp only [Act.put, List.setIfInBounds_toArray, List.set_cons_zero, List.set_cons_succ]
     refine wpAnyH_take (i := 9) (oi := ⟨_, _, _, _, _, _⟩) (v := ?_) rfl (by kernel_rfl) (by kernel_rfl) (by kernel_rfl) (fun _ _ _ h => h) (Or.inl ⟨by rfl, ?_⟩) (by assumption) ?_
     rotate_left
     ·intro w hSw
      try dsimp only at hSw
      go_simp
      try with_reducible rfl
     try simp only [Act.put, List.setIfInBounds_toArray, List.set_cons_zero, List.set_cons_succ]
     refine wpAnyH_take (i := 10) (oi := ⟨_, _, _, _, _, _⟩) (v := ?_) rfl (by kernel_rfl) (by kernel_rfl) (by kernel_rfl) (fun _ _ _ h => h) (Or.inl ⟨by rfl, ?_⟩) (by assumption) ?_
     rotate_left
     ·intro w hSw
      try dsimp only at hSw
      go_simp
      try with_reducible rfl
     try simp only [Act.put, List.setIfInBounds_toArray, List.set_cons_zero, List.set_cons_succ]
     refine wpAnyH_take (i := 12) (oi := ⟨_, _, _, _, _, _⟩) (v := ?_) rfl (by kernel_rfl) (by kernel_rfl) (by kernel_rfl) (fun _ _ _ h => h) (Or.inl ⟨by rfl, ?_⟩) (by assumption) ?_
     rotate_left
     ·intro w hSw
      try dsimp only at hSw
      go_simp
      try with_reducible rfl
     try simp only [Act.put, List.setIfInBounds_toArray, List.set_cons_zero, List.set_cons_succ]
     refine wpAnyH_take (i := 13) (oi := ⟨_, _, _, _, _, _⟩) (v := ?_) rfl (by kernel_rfl) (by kernel_rfl) (by kernel_rfl) (fun _ _ _ h => h) (Or.inl ⟨by rfl, ?_⟩) (by assumption) ?_
     rotate_left
     ·intro w hSw
      try dsimp only at hSw
      go_simp
      try with_reducible rfl
     try simp only [Act.put, List.setIfInBounds_toArray, List.set_cons_zero, List.set_cons_succ]
     refine wpAnyH_take (i := 14) (oi := ⟨_, _, _, _, _, _⟩) (v := ?_) rfl (by kernel_rfl) (by kernel_rfl) (by kernel_rfl) (fun _ _ _ h => h) (Or.inl ⟨by rfl, ?_⟩) (by assumption) ?_
     rotate_left
     ·intro w hSw
      try dsimp only at hSw
      go_simp
      try with_reducible rfl
     try simp only [Act.put, List.setIfInBounds_toArray, List.set_cons_zero, List.set_cons_succ]
     refine wpAnyH_take (i := 15) (oi := ⟨_, _, _, _, _, _⟩) (v := ?_) rfl (by kernel_rfl) (by kernel_rfl) (by kernel_rfl) (fun _ _ _ h => h) (Or.inl ⟨by rfl, ?_⟩) (by assumption) ?_
     rotate_left
     ·intro w hSw
      try dsimp only at hSw
      go_simp
      try with_reducible rfl
     try simp only [Act.put, List.setIfInBounds_toArray, List.set_cons_zero, List.set_cons_succ]
     refine wpAnyH_take (i := 16) (oi := ⟨_, _, _, _, _, _⟩) (v := ?_) rfl (by kernel_rfl) (by kernel_rfl) (by kernel_rfl) (fun _ _ _ h => h) (Or.inl ⟨by rfl, ?_⟩) (by assumption) ?_
     rotate_left
     ·intro w hSw
      try dsimp only at hSw
      go_simp
      try with_reducible rfl
     try simp only [Act.put, List.setIfInBounds_toArray, List.set_cons_zero, List.set_cons_succ]
     refine wpAnyH_ready (rs := [11]) (by kernel_rfl) (by simp) ?_
     refine AllReadyH.cons (o := ⟨_, _, _, _, _, _⟩) rfl (fun K hK => ?_) ?_
     rotate_left
     ·exact AllReadyH.nil
     go_simp
     (go_at_call 119; refine (sint_any HE5.out).mono ?_; intro e w6 h; unfold SeeS at h; obtain ⟨rfl, he1, hk1⟩ := h; have hk2 := (both_of (s := s) hk1); rw [HIV.out]; have HE6 := Lib.hid he1; have p6 := he1.ptr; have Kr6 := Lib.hid ((hk2.block w.heap.size (by omega) (by have := HSB.out; rintro (e | e) <;> omega)).trans Kr5.out); have K56 := Lib.hid ((hk2.block w2.heap.size h65 (by have := HL2.out; rintro (e | e) <;> omega)).trans K55.out); have HO6 := Lib.hid (HO5.out.kp (both_lt hk2 (by have := HL2.out; omega) (by have := HL2.out; omega))); have HB6 : Hid (Below w.heap.size w w6) := Lib.hid (HB5.out.trans (hk2.below (by omega) (fun x hx e => by have := HSB.out; rcases e with e | e <;> omega))); have h66 : w2.heap.size < w6.heap.size := Nat.lt_of_lt_of_le h65 hk2.size; clear he1 hk1 hk2)
     refine hK.out _ _ (p6) (fun hHeld => ?_)
     clear hK K
     try simp only [Act.put, List.setIfInBounds_toArray, List.set_cons_zero, List.set_cons_succ]
     refine wpAnyH_ready (rs := [17]) (by kernel_rfl) (by simp) ?_
     refine AllReadyH.cons (o := ⟨_, _, _, _, _, _⟩) rfl (fun K hK => ?_) ?_
     rotate_left
     ·exact AllReadyH.nil
     go_simp
     (go_at_call 114; refine (wsum_any (.slice ba kk bc) (B.take kk) _ (S2.sum_w _ gv _ _ (bw_cut (bw_keep HBW.out HB6.out) HKK.out))).mono ?_; rintro e wq ⟨rfl, rfl⟩; rw [HSV.out])
     refine hK.out _ _ (p6) (fun hHeld => ?_)
     clear hK K
     try simp only [Act.put, List.setIfInBounds_toArray, List.set_cons_zero, List.set_cons_succ]
     refine wpAnyH_take (i := 18) (oi := ⟨_, _, _, _, _, _⟩) (v := ?_) rfl (by kernel_rfl) (by kernel_rfl) (by kernel_rfl) (fun _ _ _ h => h) (Or.inl ⟨by rfl, ?_⟩) (by assumption) ?_
     rotate_left
     ·intro w hSw
      try dsimp only at hSw
      go_simp
      try with_reducible rfl
     try simp only [Act.put, List.setIfInBounds_toArray, List.set_cons_zero, List.set_cons_succ]
     refine wpAnyH_take (i := 19) (oi := ⟨_, _, _, _, _, _⟩) (v := ?_) rfl (by kernel_rfl) (by kernel_rfl) (by kernel_rfl) (fun _ _ _ h => h) (Or.inl ⟨by rfl, ?_⟩) (by assumption) ?_
     rotate_left
     ·intro w hSw
      try dsimp only at hSw
      go_simp
      try with_reducible rfl
     try simp only [Act.put, List.setIfInBounds_toArray, List.set_cons_zero, List.set_cons_succ]
     refine wpAnyH_take (i := 20) (oi := ⟨_, _, _, _, _, _⟩) (v := ?_) rfl (by kernel_rfl) (by kernel_rfl) (by kernel_rfl) (fun _ _ _ h => h) (Or.inl ⟨by rfl, ?_⟩) (by assumption) ?_
     rotate_left
     ·intro w hSw
      try dsimp only at hSw
      go_simp
      try with_reducible rfl
     try simp only [Act.put, List.setIfInBounds_toArray, List.set_cons_zero, List.set_cons_succ]
     refine wpAnyH_take (i := 21) (oi := ⟨_, _, _, _, _, _⟩) (v := ?_) rfl (by kernel_rfl) (by kernel_rfl) (by kernel_rfl) (fun _ _ _ h => h) (Or.inl ⟨by rfl, ?_⟩) (by assumption) ?_
     rotate_left
     ·intro w hSw
      try dsimp only at hSw
      go_simp
      try with_reducible rfl
     try simp only [Act.put, List.setIfInBounds_toArray, List.set_cons_zero, List.set_cons_succ]
     refine wpAnyH_ready (rs := [22]) (by kernel_rfl) (by simp) ?_
     refine AllReadyH.cons (o := ⟨_, _, _, _, _, _⟩) rfl (fun K hK => ?_) ?_
     rotate_left
     ·exact AllReadyH.nil
     go_simp
     (go_at_call 64; refine (sdone_any HE6.out).mono ?_; rintro e wq ⟨rfl, rfl⟩; rw [HDV.out])
     refine hK.out _ _ (p6) (fun hHeld => ?_)
     clear hK K
     try simp only [Act.put, List.setIfInBounds_toArray, List.set_cons_zero, List.set_cons_succ]
     refine wpAnyH_take (i := 23) (oi := ⟨_, _, _, _, _, _⟩) (v := ?_) rfl (by kernel_rfl) (by kernel_rfl) (by kernel_rfl) (fun _ _ _ h => h) (Or.inl ⟨by rfl, ?_⟩) (by assumption) ?_
     rotate_left
     ·intro w hSw
      try dsimp only at hSw
      go_simp
      try with_reducible rfl
     try simp only [Act.put, List.setIfInBounds_toArray, List.set_cons_zero, List.set_cons_succ]
     refine wpAnyH_take (i := 24) (oi := ⟨_, _, _, _, _, _⟩) (v := ?_) rfl (by kernel_rfl) (by kernel_rfl) (by kernel_rfl) (fun _ _ _ h => h) (Or.inl ⟨by rfl, ?_⟩) (by assumption) ?_
     rotate_left
     ·intro w hSw
      try dsimp only at hSw
      go_simp
      try with_reducible rfl
     try simp only [Act.put, List.setIfInBounds_toArray, List.set_cons_zero, List.set_cons_succ]
     refine wpAnyH_take (i := 25) (oi := ⟨_, _, _, _, _, _⟩) (v := ?_) rfl (by kernel_rfl) (by kernel_rfl) (by kernel_rfl) (fun _ _ _ h => h) (Or.inl ⟨by rfl, ?_⟩) (by assumption) ?_
     rotate_left
     ·intro w hSw
      try dsimp only at hSw
      go_simp
      try with_reducible rfl
     try simp only [Act.put, List.setIfInBounds_toArray, List.set_cons_zero, List.set_cons_succ]
     refine wpAnyH_done (by kernel_rfl) ?_ _
     go_wp2_with (first | go_skip | ((with_reducible refine atW w7 ?_); refine storeM _ _ rfl rfl _ rfl rfl Kr7.out rfl rfl (by simp [Value.oneCell']) ?_; intro w9 h1 h2; have K9 := Lib.hid h1; have HO9 := Lib.hid (HO7.out.kp (grown_lt h2 (by omega))); have HB9 : Hid (Below w.heap.size w w9) := Lib.hid (below_grown9 HB7.out h2 (Nat.le_refl _)); clear h1 h2) | ((with_reducible refine atW w7 ?_); refine loadM _ rfl rfl _ rfl K57.out rfl ?_) | ((with_reducible refine atC w6 ?_); go_at_call 58; go_must (refine (HCH.out ⟨.slice oa on oc, .slice da dn dc, .slice va vn vc, .slice wa wn wc, .slice pa pn pc⟩ w6 HO6.out.at).mono ?_; rw [hck]; rintro e w7 ⟨rfl, h5⟩; have HB7 : Hid (Below w.heap.size w w7) := Lib.hid (blThen HB6.out h5); have K57 := Lib.hid ((h5.block w2.heap.size h66).trans K56.out); have Kr7 := Lib.hid ((h5.block w.heap.size (by omega)).trans Kr6.out); have HO7 := Lib.hid (HO6.out.kp (S2.Keeps.ofBelow h5)); have hw7 := h5.size; clear h5)) | ((with_reducible refine atW w6 ?_); refine loadM _ rfl rfl _ rfl K56.out rfl ?_))
     refine bodyPost_ret (results_cell_tmp9 Tryz.results55 _ _ _ 80 _ (0, 0) _ rfl K9.out Tryz.underlying80 rfl szMsg) rfl ?_
     exact ⟨⟨.slice oa on oc, .slice da dn dc, .slice va vn vc, .slice wa wn wc, .slice pa pn pc⟩, by rw [HPS.out]; rfl, by rw [HPS.out]; exact HO9.out.at, HB9.out⟩
    ·have HPN := Lib.hid (HPN0.out (.inr hck))
     obtain ⟨k, hk⟩ : ∃ k, k = checkM ⟨kind, frm, dst, (id1, id2), (b1, b2), (a1, a2), ops, fast, deps, has, (q1, q2), (gone, (t1, t2), vdeps), writes, pairs⟩ := ⟨_, rfl⟩
     rw [← hk] at hck HCH
     have hck2 : ((k == 0) = false) := by simpa using hck
     have hck3 : ((k != 0) = true) := by simpa using hck
     clear hk
     go_enter Tryz.func55, Tryz.ntmps55
     go_upto_region 3 with (first | go_skip | ((with_reducible refine atW (w2.alloc (.cells #[.int .i64 0, .int .i64 0, .int .i64 0, .int .i64 0, .int .i64 0, .int .i64 0, .int .i64 0, .int .i64 0, .int .i64 0, .slice none 0 0, .bool false, .slice none 0 0, .bool false, .int .i64 0, .int .i64 0, .bool false, .int .i64 0, .int .i64 0, .slice none 0 0, .slice none 0 0, .slice none 0 0] 80)) ?_); refine storeM _ _ rfl rfl _ rfl rfl K50.out rfl rfl (by simp [Value.oneCell']) ?_; intro w3 h1 h2; have K53 := Lib.hid h1; have h6 : w2.heap.size < w3.heap.size := (by have := h2.size; simp only [World.size_alloc] at this; omega); have Kr4 := Lib.hid (grown_other9 Kr3.out h2 (by simp; omega) (by omega)); have HE4 := Lib.hid (eyeS_store HE3.out h2 (by have := HL2.out; omega) (by have := HL2.out; omega) (fun hne => by have := HE2.out.lt.2.2 hne; omega)); have hb3 := below_grown9 (blAlloc (Below.refl _ _) _) h2 (Nat.le_refl _); have HO3 := Lib.hid (HO2.out.kp (S2.Keeps.ofBelow hb3)); have HB3 : Hid (Below w.heap.size w w3) := Lib.hid (blThen HB2.out hb3); clear h1 h2 hb3) | ((with_reducible refine atC w1 ?_); go_at_call 117; go_must (refine (readM_any HE1.out (by have := HLB.out; show B.length ≤ _; omega)).mono ?_; intro e w2 h; unfold SeeMs at h; rw [HCE.out, HUE.out] at h; obtain ⟨⟨lo, ld, lv, lw, lp⟩, rfl, ho1, he2, hk2⟩ := h; have HO2 := Lib.hid ho1; obtain ⟨oa, oc, rfl⟩ := ho1.o.form; obtain ⟨da, dn, dc, rfl⟩ := ho1.d.form; obtain ⟨va, vn, vc, rfl⟩ := ho1.v.form; obtain ⟨wa, wc, rfl⟩ := ho1.w.form; obtain ⟨pa, pc, rfl⟩ := ho1.p.form; simp only [msV]; generalize ops.length = on at *; generalize writes.length = wn at *; generalize pairs.length = pn at *; have HE2 := Lib.hid he2; have Kr2 := Lib.hid ((hk2.block w.heap.size (by omega) (by have := HSB.out; rintro (e | e) <;> omega)).trans Kr1.out); have hw2 : w1.heap.size ≤ w2.heap.size := hk2.size; have HB2 : Hid (Below w.heap.size w w2) := Lib.hid (HB1.out.trans (hk2.below (by omega) (fun x hx e => by have := HSB.out; rcases e with e | e <;> omega))); have HL2 : Hid (s < w1.heap.size ∧ b < w1.heap.size) := Lib.hid ⟨HE1.out.lt.1, HE1.out.lt.2.1⟩; have K50 : Hid ((w2.alloc (.cells #[.int .i64 0, .int .i64 0, .int .i64 0, .int .i64 0, .int .i64 0, .int .i64 0, .int .i64 0, .int .i64 0, .int .i64 0, .slice none 0 0, .bool false, .slice none 0 0, .bool false, .int .i64 0, .int .i64 0, .bool false, .int .i64 0, .int .i64 0, .slice none 0 0, .slice none 0 0, .slice none 0 0] 80)).heap[w2.heap.size]? = some (.cells #[.int .i64 0, .int .i64 0, .int .i64 0, .int .i64 0, .int .i64 0, .int .i64 0, .int .i64 0, .int .i64 0, .int .i64 0, .slice none 0 0, .bool false, .slice none 0 0, .bool false, .int .i64 0, .int .i64 0, .bool false, .int .i64 0, .int .i64 0, .slice none 0 0, .slice none 0 0, .slice none 0 0] 80 (0, 0))) := Lib.hid (new_blockC w2 _ _); have Kr3 : Hid ((w2.alloc (.cells #[.int .i64 0, .int .i64 0, .int .i64 0, .int .i64 0, .int .i64 0, .int .i64 0, .int .i64 0, .int .i64 0, .int .i64 0, .slice none 0 0, .bool false, .slice none 0 0, .bool false, .int .i64 0, .int .i64 0, .bool false, .int .i64 0, .int .i64 0, .slice none 0 0, .slice none 0 0, .slice none 0 0] 80)).heap[w.heap.size]? = some (.cells #[.int .i64 0, .int .i64 0, .int .i64 0, .int .i64 0, .int .i64 0, .int .i64 0, .int .i64 0, .int .i64 0, .int .i64 0, .slice none 0 0, .bool false, .slice none 0 0, .bool false, .int .i64 0, .int .i64 0, .bool false, .int .i64 0, .int .i64 0, .slice none 0 0, .slice none 0 0, .slice none 0 0] 80 (0, 0))) := Lib.hid (((blAlloc (Below.refl _ _) _ : Below w2.heap.size w2 (w2.alloc (.cells #[.int .i64 0, .int .i64 0, .int .i64 0, .int .i64 0, .int .i64 0, .int .i64 0, .int .i64 0, .int .i64 0, .int .i64 0, .slice none 0 0, .bool false, .slice none 0 0, .bool false, .int .i64 0, .int .i64 0, .bool false, .int .i64 0, .int .i64 0, .slice none 0 0, .slice none 0 0, .slice none 0 0] 80))).block w.heap.size (by omega)).trans Kr2.out); have HE3 : Hid (EyeS (w2.alloc (.cells #[.int .i64 0, .int .i64 0, .int .i64 0, .int .i64 0, .int .i64 0, .int .i64 0, .int .i64 0, .int .i64 0, .int .i64 0, .slice none 0 0, .bool false, .slice none 0 0, .bool false, .int .i64 0, .int .i64 0, .bool false, .int .i64 0, .int .i64 0, .slice none 0 0, .slice none 0 0, .slice none 0 0] 80)) s b g (cl, cb, cd)) := Lib.hid (HE2.out.before (S2.kAlloc (S2.Keeps.refl _ _) _)); clear ho1 he2 hk2)) | ((with_reducible refine atC (w.alloc (.cells #[.int .i64 0, .int .i64 0, .int .i64 0, .int .i64 0, .int .i64 0, .int .i64 0, .int .i64 0, .int .i64 0, .int .i64 0, .slice none 0 0, .bool false, .slice none 0 0, .bool false, .int .i64 0, .int .i64 0, .bool false, .int .i64 0, .int .i64 0, .slice none 0 0, .slice none 0 0, .slice none 0 0] 80)) ?_); go_at_call 62; go_must (refine (sopen_any gv (.slice ba B.length bc) B _ HBS.out (by have := HLB.out; omega)).mono ?_; intro e w1 h; obtain ⟨s, b, g, rfl, he1, hs1, hs2, hs3, h5⟩ := h; have HE1 := Lib.hid he1; have HSB : Hid (w.heap.size + 1 ≤ s ∧ w.heap.size + 1 ≤ b) := Lib.hid (by simp only [World.size_alloc] at hs1 hs2; exact ⟨hs1, hs2⟩); have Kr1 := Lib.hid ((h5.block w.heap.size (by simp)).trans Kr0.out); have hw1 : w.heap.size + 1 ≤ w1.heap.size := (by have := h5.size; simp only [World.size_alloc] at this; exact this); have HB1 : Hid (Below w.heap.size w w1) := Lib.hid (blThen (blAlloc (Below.refl _ _) _) h5); clear he1 hs1 hs2 hs3 h5)))
     have p4 := HE4.out.ptr
     refine wp_region_held_drew (S := fun Y => Y.cell? ⟨s, 0, none⟩ = some (.pointer (some ⟨b, 0, none⟩))) (by kernel_rfl) (p4) (fun hHeld => ?_)
     have HE5 : Hid (EyeS w3.drew s b g (cl, cb, cd)) := Lib.hid (HE4.out.before (S2.kDrew (S2.Keeps.refl _ _)))
     have Kr5 : Hid (w3.drew.heap[w.heap.size]? = some (.cells #[.int .i64 0, .int .i64 0, .int .i64 0, .int .i64 0, .int .i64 0, .int .i64 0, .int .i64 0, .int .i64 0, .int .i64 0, .slice none 0 0, .bool false, .slice none 0 0, .bool false, .int .i64 0, .int .i64 0, .bool false, .int .i64 0, .int .i64 0, .slice none 0 0, .slice none 0 0, .slice none 0 0] 80 (0, 0))) := Kr4
     have K55 : Hid (w3.drew.heap[w2.heap.size]? = some (.cells #[.int .i64 kind, .int .i64 frm, .int .i64 dst, .int .i64 id1, .int .i64 id2, .int .i64 b1, .int .i64 b2, .int .i64 a1, .int .i64 a2, .slice oa on oc, .bool fast, .slice da dn dc, .bool has, .int .i64 q1, .int .i64 q2, .bool gone, .int .i64 t1, .int .i64 t2, .slice va vn vc, .slice wa wn wc, .slice pa pn pc] 80 (0, 0))) := K53
     have HO5 := Lib.hid (HO3.out.kp (S2.kDrew (S2.Keeps.refl _ w3)))
     have HB5 : Hid (Below w.heap.size w w3.drew) := Lib.hid HB3.out.drew
     have h65 : w2.heap.size < w3.drew.heap.size := h6
     have p5 := HE5.out.ptr
     clear HE4 Kr4 K53 HO3 HB3 p4
     generalize w3.drew = w5 at *
     refine wpAnyH_take (i := 0) (oi := ⟨_, _, _, _, _, _⟩) (v := ?_) rfl (by kernel_rfl) (by kernel_rfl) (by kernel_rfl) (fun _ _ _ h => h) (Or.inl ⟨by rfl, ?_⟩) (by assumption) ?_
     rotate_left
     ·intro w hSw
      try dsimp only at hSw
      go_simp
      try with_reducible rfl
     try simp only [Act.put, List.setIfInBounds_toArray, List.set_cons_zero, List.set_cons_succ]
     refine wpAnyH_take (i := 1) (oi := ⟨_, _, _, _, _, _⟩) (v := ?_) rfl (by kernel_rfl) (by kernel_rfl) (by kernel_rfl) (fun _ _ _ h => h) (Or.inl ⟨by rfl, ?_⟩) (by assumption) ?_
     rotate_left
     ·intro w hSw
      try dsimp only at hSw
      go_simp
      try with_reducible rfl
     try simp only [Act.put, List.setIfInBounds_toArray, List.set_cons_zero, List.set_cons_succ]
     refine wpAnyH_take (i := 2) (oi := ⟨_, _, _, _, _, _⟩) (v := ?_) rfl (by kernel_rfl) (by kernel_rfl) (by kernel_rfl) (fun _ _ _ h => h) (Or.inl ⟨by rfl, ?_⟩) (by assumption) ?_
     rotate_left
     ·intro w hSw
      try dsimp only at hSw
      go_simp
      try with_reducible rfl
     try simp only [Act.put, List.setIfInBounds_toArray, List.set_cons_zero, List.set_cons_succ]
     refine wpAnyH_take (i := 3) (oi := ⟨_, _, _, _, _, _⟩) (v := ?_) rfl (by kernel_rfl) (by kernel_rfl) (by kernel_rfl) (fun _ _ _ h => h) (Or.inl ⟨by rfl, ?_⟩) (by assumption) ?_
     rotate_left
     ·intro w hSw
      try dsimp only at hSw
      go_simp
      try with_reducible rfl
     try simp only [Act.put, List.setIfInBounds_toArray, List.set_cons_zero, List.set_cons_succ]
     refine wpAnyH_ready (rs := [4]) (by kernel_rfl) (by simp) ?_
     refine AllReadyH.cons (o := ⟨_, _, _, _, _, _⟩) rfl (fun K hK => ?_) ?_
     rotate_left
     ·exact AllReadyH.nil
     go_simp
     (go_at_call 118; refine (S2.left_any _ b g cl cb HE5.out.2.1).mono ?_; rintro e wq ⟨rfl, rfl⟩; rw [HNL.out])
     refine hK.out _ _ (p5) (fun hHeld => ?_)
     clear hK K
     try simp only [Act.put, List.setIfInBounds_toArray, List.set_cons_zero, List.set_cons_succ]
     refine wpAnyH_take (i := 5) (oi := ⟨_, _, _, _, _, _⟩) (v := ?_) rfl (by kernel_rfl) (by kernel_rfl) (by kernel_rfl) (fun _ _ _ h => h) (Or.inl ⟨by rfl, ?_⟩) (by assumption) ?_
     rotate_left
     ·intro w hSw
      try dsimp only at hSw
      go_simp
      try with_reducible rfl
     try simp only [Act.put, List.setIfInBounds_toArray, List.set_cons_zero, List.set_cons_succ]
     refine wpAnyH_take (i := 6) (oi := ⟨_, _, _, _, _, _⟩) (v := ?_) rfl (by kernel_rfl) (by kernel_rfl) (by kernel_rfl) (fun _ _ _ h => h) (Or.inl ⟨by rfl, ?_⟩) (by assumption) ?_
     rotate_left
     ·intro w hSw
      try dsimp only at hSw
      go_simp
      try with_reducible rfl
     try simp only [Act.put, List.setIfInBounds_toArray, List.set_cons_zero, List.set_cons_succ]
     refine wpAnyH_take (i := 7) (oi := ⟨_, _, _, _, _, _⟩) (v := ?_) rfl (by kernel_rfl) (by kernel_rfl) (by kernel_rfl) (fun _ _ _ h => h) (Or.inl ⟨by rfl, ?_⟩) (by assumption) ?_
     rotate_left
     ·intro w hSw
      try dsimp only at hSw
      go_simp
      try with_reducible rfl
     try simp only [Act.put, List.setIfInBounds_toArray, List.set_cons_zero, List.set_cons_succ]
     refine wpAnyH_take (i := 8) (oi := ⟨_, _, _, _, _, _⟩) (v := ?_) rfl (by kernel_rfl) (by kernel_rfl) (by kernel_rfl) (fun _ _ _ h => h) (Or.inl ⟨by rfl, ?_⟩) (by assumption) ?_
     rotate_left
     ·intro w hSw
      try dsimp only at hSw
      go_simp
      try with_reducible rfl
     try simp only [Act.put, List.setIfInBounds_toArray, List.set_cons_zero, List.set_cons_succ]
     refine wpAnyH_take (i := 9) (oi := ⟨_, _, _, _, _, _⟩) (v := ?_) rfl (by kernel_rfl) (by kernel_rfl) (by kernel_rfl) (fun _ _ _ h => h) (Or.inl ⟨by rfl, ?_⟩) (by assumption) ?_
     rotate_left
     ·intro w hSw
      try dsimp only at hSw
      go_simp
      try with_reducible rfl
     try simp only [Act.put, List.setIfInBounds_toArray, List.set_cons_zero, List.set_cons_succ]
     refine wpAnyH_take (i := 10) (oi := ⟨_, _, _, _, _, _⟩) (v := ?_) rfl (by kernel_rfl) (by kernel_rfl) (by kernel_rfl) (fun _ _ _ h => h) (Or.inl ⟨by rfl, ?_⟩) (by assumption) ?_
     rotate_left
     ·intro w hSw
      try dsimp only at hSw
      go_simp
      try with_reducible rfl
     try simp only [Act.put, List.setIfInBounds_toArray, List.set_cons_zero, List.set_cons_succ]
     refine wpAnyH_take (i := 12) (oi := ⟨_, _, _, _, _, _⟩) (v := ?_) rfl (by kernel_rfl) (by kernel_rfl) (by kernel_rfl) (fun _ _ _ h => h) (Or.inl ⟨by rfl, ?_⟩) (by assumption) ?_
     rotate_left
     ·intro w hSw
      try dsimp only at hSw
      go_simp
      try with_reducible rfl
     try simp only [Act.put, List.setIfInBounds_toArray, List.set_cons_zero, List.set_cons_succ]
     refine wpAnyH_take (i := 13) (oi := ⟨_, _, _, _, _, _⟩) (v := ?_) rfl (by kernel_rfl) (by kernel_rfl) (by kernel_rfl) (fun _ _ _ h => h) (Or.inl ⟨by rfl, ?_⟩) (by assumption) ?_
     rotate_left
     ·intro w hSw
      try dsimp only at hSw
      go_simp
      try with_reducible rfl
     try simp only [Act.put, List.setIfInBounds_toArray, List.set_cons_zero, List.set_cons_succ]
     refine wpAnyH_take (i := 14) (oi := ⟨_, _, _, _, _, _⟩) (v := ?_) rfl (by kernel_rfl) (by kernel_rfl) (by kernel_rfl) (fun _ _ _ h => h) (Or.inl ⟨by rfl, ?_⟩) (by assumption) ?_
     rotate_left
     ·intro w hSw
      try dsimp only at hSw
      go_simp
      try with_reducible rfl
     try simp only [Act.put, List.setIfInBounds_toArray, List.set_cons_zero, List.set_cons_succ]
     refine wpAnyH_take (i := 15) (oi := ⟨_, _, _, _, _, _⟩) (v := ?_) rfl (by kernel_rfl) (by kernel_rfl) (by kernel_rfl) (fun _ _ _ h => h) (Or.inl ⟨by rfl, ?_⟩) (by assumption) ?_
     rotate_left
     ·intro w hSw
      try dsimp only at hSw
      go_simp
      try with_reducible rfl
     try simp only [Act.put, List.setIfInBounds_toArray, List.set_cons_zero, List.set_cons_succ]
     refine wpAnyH_take (i := 16) (oi := ⟨_, _, _, _, _, _⟩) (v := ?_) rfl (by kernel_rfl) (by kernel_rfl) (by kernel_rfl) (fun _ _ _ h => h) (Or.inl ⟨by rfl, ?_⟩) (by assumption) ?_
     rotate_left
     ·intro w hSw
      try dsimp only at hSw
      go_simp
      try with_reducible rfl
     try simp only [Act.put, List.setIfInBounds_toArray, List.set_cons_zero, List.set_cons_succ]
     refine wpAnyH_ready (rs := [11]) (by kernel_rfl) (by simp) ?_
     refine AllReadyH.cons (o := ⟨_, _, _, _, _, _⟩) rfl (fun K hK => ?_) ?_
     rotate_left
     ·exact AllReadyH.nil
     go_simp
     (go_at_call 119; refine (sint_any HE5.out).mono ?_; intro e w6 h; unfold SeeS at h; obtain ⟨rfl, he1, hk1⟩ := h; have hk2 := (both_of (s := s) hk1); rw [HIV.out]; have HE6 := Lib.hid he1; have p6 := he1.ptr; have Kr6 := Lib.hid ((hk2.block w.heap.size (by omega) (by have := HSB.out; rintro (e | e) <;> omega)).trans Kr5.out); have K56 := Lib.hid ((hk2.block w2.heap.size h65 (by have := HL2.out; rintro (e | e) <;> omega)).trans K55.out); have HO6 := Lib.hid (HO5.out.kp (both_lt hk2 (by have := HL2.out; omega) (by have := HL2.out; omega))); have HB6 : Hid (Below w.heap.size w w6) := Lib.hid (HB5.out.trans (hk2.below (by omega) (fun x hx e => by have := HSB.out; rcases e with e | e <;> omega))); have h66 : w2.heap.size < w6.heap.size := Nat.lt_of_lt_of_le h65 hk2.size; clear he1 hk1 hk2)
     refine hK.out _ _ (p6) (fun hHeld => ?_)
     clear hK K
     try simp only [Act.put, List.setIfInBounds_toArray, List.set_cons_zero, List.set_cons_succ]
     refine wpAnyH_ready (rs := [17]) (by kernel_rfl) (by simp) ?_
     refine AllReadyH.cons (o := ⟨_, _, _, _, _, _⟩) rfl (fun K hK => ?_) ?_
     rotate_left
     ·exact AllReadyH.nil
     go_simp
     (go_at_call 114; refine (wsum_any (.slice ba kk bc) (B.take kk) _ (S2.sum_w _ gv _ _ (bw_cut (bw_keep HBW.out HB6.out) HKK.out))).mono ?_; rintro e wq ⟨rfl, rfl⟩; rw [HSV.out])
     refine hK.out _ _ (p6) (fun hHeld => ?_)
     clear hK K
     try simp only [Act.put, List.setIfInBounds_toArray, List.set_cons_zero, List.set_cons_succ]
     refine wpAnyH_take (i := 18) (oi := ⟨_, _, _, _, _, _⟩) (v := ?_) rfl (by kernel_rfl) (by kernel_rfl) (by kernel_rfl) (fun _ _ _ h => h) (Or.inl ⟨by rfl, ?_⟩) (by assumption) ?_
     rotate_left
     ·intro w hSw
      try dsimp only at hSw
      go_simp
      try with_reducible rfl
     try simp only [Act.put, List.setIfInBounds_toArray, List.set_cons_zero, List.set_cons_succ]
     refine wpAnyH_take (i := 19) (oi := ⟨_, _, _, _, _, _⟩) (v := ?_) rfl (by kernel_rfl) (by kernel_rfl) (by kernel_rfl) (fun _ _ _ h => h) (Or.inl ⟨by rfl, ?_⟩) (by assumption) ?_
     rotate_left
     ·intro w hSw
      try dsimp only at hSw
      go_simp
      try with_reducible rfl
     try simp only [Act.put, List.setIfInBounds_toArray, List.set_cons_zero, List.set_cons_succ]
     refine wpAnyH_take (i := 20) (oi := ⟨_, _, _, _, _, _⟩) (v := ?_) rfl (by kernel_rfl) (by kernel_rfl) (by kernel_rfl) (fun _ _ _ h => h) (Or.inl ⟨by rfl, ?_⟩) (by assumption) ?_
     rotate_left
     ·intro w hSw
      try dsimp only at hSw
      go_simp
      try with_reducible rfl
     try simp only [Act.put, List.setIfInBounds_toArray, List.set_cons_zero, List.set_cons_succ]
     refine wpAnyH_take (i := 21) (oi := ⟨_, _, _, _, _, _⟩) (v := ?_) rfl (by kernel_rfl) (by kernel_rfl) (by kernel_rfl) (fun _ _ _ h => h) (Or.inl ⟨by rfl, ?_⟩) (by assumption) ?_
     rotate_left
     ·intro w hSw
      try dsimp only at hSw
      go_simp
      try with_reducible rfl
     try simp only [Act.put, List.setIfInBounds_toArray, List.set_cons_zero, List.set_cons_succ]
     refine wpAnyH_ready (rs := [22]) (by kernel_rfl) (by simp) ?_
     refine AllReadyH.cons (o := ⟨_, _, _, _, _, _⟩) rfl (fun K hK => ?_) ?_
     rotate_left
     ·exact AllReadyH.nil
     go_simp
     (go_at_call 64; refine (sdone_any HE6.out).mono ?_; rintro e wq ⟨rfl, rfl⟩; rw [HDV.out])
     refine hK.out _ _ (p6) (fun hHeld => ?_)
     clear hK K
     try simp only [Act.put, List.setIfInBounds_toArray, List.set_cons_zero, List.set_cons_succ]
     refine wpAnyH_take (i := 23) (oi := ⟨_, _, _, _, _, _⟩) (v := ?_) rfl (by kernel_rfl) (by kernel_rfl) (by kernel_rfl) (fun _ _ _ h => h) (Or.inl ⟨by rfl, ?_⟩) (by assumption) ?_
     rotate_left
     ·intro w hSw
      try dsimp only at hSw
      go_simp
      try with_reducible rfl
     try simp only [Act.put, List.setIfInBounds_toArray, List.set_cons_zero, List.set_cons_succ]
     refine wpAnyH_take (i := 24) (oi := ⟨_, _, _, _, _, _⟩) (v := ?_) rfl (by kernel_rfl) (by kernel_rfl) (by kernel_rfl) (fun _ _ _ h => h) (Or.inl ⟨by rfl, ?_⟩) (by assumption) ?_
     rotate_left
     ·intro w hSw
      try dsimp only at hSw
      go_simp
      try with_reducible rfl
     try simp only [Act.put, List.setIfInBounds_toArray, List.set_cons_zero, List.set_cons_succ]
     refine wpAnyH_take (i := 25) (oi := ⟨_, _, _, _, _, _⟩) (v := ?_) rfl (by kernel_rfl) (by kernel_rfl) (by kernel_rfl) (fun _ _ _ h => h) (Or.inl ⟨by rfl, ?_⟩) (by assumption) ?_
     rotate_left
     ·intro w hSw
      try dsimp only at hSw
      go_simp
      try with_reducible rfl
     try simp only [Act.put, List.setIfInBounds_toArray, List.set_cons_zero, List.set_cons_succ]
     refine wpAnyH_done (by kernel_rfl) ?_ _
     go_wp2_with (first | go_skip | ((with_reducible refine atW w7 ?_); refine storeM _ _ rfl rfl _ rfl rfl Kr7.out rfl rfl (by simp [Value.oneCell']) ?_; intro w9 h1 h2; have K9 := Lib.hid h1; have HB9 : Hid (Below w.heap.size w w9) := Lib.hid (below_grown9 HB7.out h2 (Nat.le_refl _)); clear h1 h2) | ((with_reducible refine atC w6 ?_); go_at_call 58; go_must (refine (HCH.out ⟨.slice oa on oc, .slice da dn dc, .slice va vn vc, .slice wa wn wc, .slice pa pn pc⟩ w6 HO6.out.at).mono ?_; rintro e w7 ⟨rfl, h5⟩; have HB7 : Hid (Below w.heap.size w w7) := Lib.hid (blThen HB6.out h5); have K57 := Lib.hid ((h5.block w2.heap.size h66).trans K56.out); have Kr7 := Lib.hid ((h5.block w.heap.size (by omega)).trans Kr6.out); have HO7 := Lib.hid (HO6.out.kp (S2.Keeps.ofBelow h5)); have hw7 := h5.size; clear h5)) | ((with_reducible refine atW w6 ?_); refine loadM _ rfl rfl _ rfl K56.out rfl ?_))
     refine bodyPost_ret (results_cell_tmp9 Tryz.results55 _ _ _ 80 _ (0, 0) _ rfl K9.out Tryz.underlying80 rfl szMsg) rfl ?_
     exact ⟨⟨.slice none 0 0, .slice none 0 0, .slice none 0 0, .slice none 0 0, .slice none 0 0⟩, by rw [HPN.out]; rfl, by rw [HPN.out]; exact nil_ms _, HB9.out⟩
   ·have HPN := Lib.hid (HPN0.out (.inl (by rw [HWH.out, decide_eq_false hd]; simp)))
    have hd2 : ((dv == 0) = false) := by simpa using hd
    go_enter Tryz.func55, Tryz.ntmps55
    go_upto_region 3 with (first | go_skip | ((with_reducible refine atW (w2.alloc (.cells #[.int .i64 0, .int .i64 0, .int .i64 0, .int .i64 0, .int .i64 0, .int .i64 0, .int .i64 0, .int .i64 0, .int .i64 0, .slice none 0 0, .bool false, .slice none 0 0, .bool false, .int .i64 0, .int .i64 0, .bool false, .int .i64 0, .int .i64 0, .slice none 0 0, .slice none 0 0, .slice none 0 0] 80)) ?_); refine storeM _ _ rfl rfl _ rfl rfl K50.out rfl rfl (by simp [Value.oneCell']) ?_; intro w3 h1 h2; have K53 := Lib.hid h1; have h6 : w2.heap.size < w3.heap.size := (by have := h2.size; simp only [World.size_alloc] at this; omega); have Kr4 := Lib.hid (grown_other9 Kr3.out h2 (by simp; omega) (by omega)); have HE4 := Lib.hid (eyeS_store HE3.out h2 (by have := HL2.out; omega) (by have := HL2.out; omega) (fun hne => by have := HE2.out.lt.2.2 hne; omega)); have hb3 := below_grown9 (blAlloc (Below.refl _ _) _) h2 (Nat.le_refl _); have HO3 := Lib.hid (HO2.out.kp (S2.Keeps.ofBelow hb3)); have HB3 : Hid (Below w.heap.size w w3) := Lib.hid (blThen HB2.out hb3); clear h1 h2 hb3) | ((with_reducible refine atC w1 ?_); go_at_call 117; go_must (refine (readM_any HE1.out (by have := HLB.out; show B.length ≤ _; omega)).mono ?_; intro e w2 h; unfold SeeMs at h; rw [HCE.out, HUE.out] at h; obtain ⟨⟨lo, ld, lv, lw, lp⟩, rfl, ho1, he2, hk2⟩ := h; have HO2 := Lib.hid ho1; obtain ⟨oa, oc, rfl⟩ := ho1.o.form; obtain ⟨da, dn, dc, rfl⟩ := ho1.d.form; obtain ⟨va, vn, vc, rfl⟩ := ho1.v.form; obtain ⟨wa, wc, rfl⟩ := ho1.w.form; obtain ⟨pa, pc, rfl⟩ := ho1.p.form; simp only [msV]; generalize ops.length = on at *; generalize writes.length = wn at *; generalize pairs.length = pn at *; have HE2 := Lib.hid he2; have Kr2 := Lib.hid ((hk2.block w.heap.size (by omega) (by have := HSB.out; rintro (e | e) <;> omega)).trans Kr1.out); have hw2 : w1.heap.size ≤ w2.heap.size := hk2.size; have HB2 : Hid (Below w.heap.size w w2) := Lib.hid (HB1.out.trans (hk2.below (by omega) (fun x hx e => by have := HSB.out; rcases e with e | e <;> omega))); have HL2 : Hid (s < w1.heap.size ∧ b < w1.heap.size) := Lib.hid ⟨HE1.out.lt.1, HE1.out.lt.2.1⟩; have K50 : Hid ((w2.alloc (.cells #[.int .i64 0, .int .i64 0, .int .i64 0, .int .i64 0, .int .i64 0, .int .i64 0, .int .i64 0, .int .i64 0, .int .i64 0, .slice none 0 0, .bool false, .slice none 0 0, .bool false, .int .i64 0, .int .i64 0, .bool false, .int .i64 0, .int .i64 0, .slice none 0 0, .slice none 0 0, .slice none 0 0] 80)).heap[w2.heap.size]? = some (.cells #[.int .i64 0, .int .i64 0, .int .i64 0, .int .i64 0, .int .i64 0, .int .i64 0, .int .i64 0, .int .i64 0, .int .i64 0, .slice none 0 0, .bool false, .slice none 0 0, .bool false, .int .i64 0, .int .i64 0, .bool false, .int .i64 0, .int .i64 0, .slice none 0 0, .slice none 0 0, .slice none 0 0] 80 (0, 0))) := Lib.hid (new_blockC w2 _ _); have Kr3 : Hid ((w2.alloc (.cells #[.int .i64 0, .int .i64 0, .int .i64 0, .int .i64 0, .int .i64 0, .int .i64 0, .int .i64 0, .int .i64 0, .int .i64 0, .slice none 0 0, .bool false, .slice none 0 0, .bool false, .int .i64 0, .int .i64 0, .bool false, .int .i64 0, .int .i64 0, .slice none 0 0, .slice none 0 0, .slice none 0 0] 80)).heap[w.heap.size]? = some (.cells #[.int .i64 0, .int .i64 0, .int .i64 0, .int .i64 0, .int .i64 0, .int .i64 0, .int .i64 0, .int .i64 0, .int .i64 0, .slice none 0 0, .bool false, .slice none 0 0, .bool false, .int .i64 0, .int .i64 0, .bool false, .int .i64 0, .int .i64 0, .slice none 0 0, .slice none 0 0, .slice none 0 0] 80 (0, 0))) := Lib.hid (((blAlloc (Below.refl _ _) _ : Below w2.heap.size w2 (w2.alloc (.cells #[.int .i64 0, .int .i64 0, .int .i64 0, .int .i64 0, .int .i64 0, .int .i64 0, .int .i64 0, .int .i64 0, .int .i64 0, .slice none 0 0, .bool false, .slice none 0 0, .bool false, .int .i64 0, .int .i64 0, .bool false, .int .i64 0, .int .i64 0, .slice none 0 0, .slice none 0 0, .slice none 0 0] 80))).block w.heap.size (by omega)).trans Kr2.out); have HE3 : Hid (EyeS (w2.alloc (.cells #[.int .i64 0, .int .i64 0, .int .i64 0, .int .i64 0, .int .i64 0, .int .i64 0, .int .i64 0, .int .i64 0, .int .i64 0, .slice none 0 0, .bool false, .slice none 0 0, .bool false, .int .i64 0, .int .i64 0, .bool false, .int .i64 0, .int .i64 0, .slice none 0 0, .slice none 0 0, .slice none 0 0] 80)) s b g (cl, cb, cd)) := Lib.hid (HE2.out.before (S2.kAlloc (S2.Keeps.refl _ _) _)); clear ho1 he2 hk2)) | ((with_reducible refine atC (w.alloc (.cells #[.int .i64 0, .int .i64 0, .int .i64 0, .int .i64 0, .int .i64 0, .int .i64 0, .int .i64 0, .int .i64 0, .int .i64 0, .slice none 0 0, .bool false, .slice none 0 0, .bool false, .int .i64 0, .int .i64 0, .bool false, .int .i64 0, .int .i64 0, .slice none 0 0, .slice none 0 0, .slice none 0 0] 80)) ?_); go_at_call 62; go_must (refine (sopen_any gv (.slice ba B.length bc) B _ HBS.out (by have := HLB.out; omega)).mono ?_; intro e w1 h; obtain ⟨s, b, g, rfl, he1, hs1, hs2, hs3, h5⟩ := h; have HE1 := Lib.hid he1; have HSB : Hid (w.heap.size + 1 ≤ s ∧ w.heap.size + 1 ≤ b) := Lib.hid (by simp only [World.size_alloc] at hs1 hs2; exact ⟨hs1, hs2⟩); have Kr1 := Lib.hid ((h5.block w.heap.size (by simp)).trans Kr0.out); have hw1 : w.heap.size + 1 ≤ w1.heap.size := (by have := h5.size; simp only [World.size_alloc] at this; exact this); have HB1 : Hid (Below w.heap.size w w1) := Lib.hid (blThen (blAlloc (Below.refl _ _) _) h5); clear he1 hs1 hs2 hs3 h5)))
    have p4 := HE4.out.ptr
    refine wp_region_held_drew (S := fun Y => Y.cell? ⟨s, 0, none⟩ = some (.pointer (some ⟨b, 0, none⟩))) (by kernel_rfl) (p4) (fun hHeld => ?_)
    have HE5 : Hid (EyeS w3.drew s b g (cl, cb, cd)) := Lib.hid (HE4.out.before (S2.kDrew (S2.Keeps.refl _ _)))
    have Kr5 : Hid (w3.drew.heap[w.heap.size]? = some (.cells #[.int .i64 0, .int .i64 0, .int .i64 0, .int .i64 0, .int .i64 0, .int .i64 0, .int .i64 0, .int .i64 0, .int .i64 0, .slice none 0 0, .bool false, .slice none 0 0, .bool false, .int .i64 0, .int .i64 0, .bool false, .int .i64 0, .int .i64 0, .slice none 0 0, .slice none 0 0, .slice none 0 0] 80 (0, 0))) := Kr4
    have K55 : Hid (w3.drew.heap[w2.heap.size]? = some (.cells #[.int .i64 kind, .int .i64 frm, .int .i64 dst, .int .i64 id1, .int .i64 id2, .int .i64 b1, .int .i64 b2, .int .i64 a1, .int .i64 a2, .slice oa on oc, .bool fast, .slice da dn dc, .bool has, .int .i64 q1, .int .i64 q2, .bool gone, .int .i64 t1, .int .i64 t2, .slice va vn vc, .slice wa wn wc, .slice pa pn pc] 80 (0, 0))) := K53
    have HO5 := Lib.hid (HO3.out.kp (S2.kDrew (S2.Keeps.refl _ w3)))
    have HB5 : Hid (Below w.heap.size w w3.drew) := Lib.hid HB3.out.drew
    have h65 : w2.heap.size < w3.drew.heap.size := h6
    have p5 := HE5.out.ptr
    clear HE4 Kr4 K53 HO3 HB3 p4
    generalize w3.drew = w5 at *
    refine wpAnyH_take (i := 0) (oi := ⟨_, _, _, _, _, _⟩) (v := ?_) rfl (by kernel_rfl) (by kernel_rfl) (by kernel_rfl) (fun _ _ _ h => h) (Or.inl ⟨by rfl, ?_⟩) (by assumption) ?_
    rotate_left
    ·intro w hSw
     try dsimp only at hSw
     go_simp
     try with_reducible rfl
    try simp only [Act.put, List.setIfInBounds_toArray, List.set_cons_zero, List.set_cons_succ]
    refine wpAnyH_take (i := 1) (oi := ⟨_, _, _, _, _, _⟩) (v := ?_) rfl (by kernel_rfl) (by kernel_rfl) (by kernel_rfl) (fun _ _ _ h => h) (Or.inl ⟨by rfl, ?_⟩) (by assumption) ?_
    rotate_left
    ·intro w hSw
     try dsimp only at hSw
     go_simp
     try with_reducible rfl
    try simp only [Act.put, List.setIfInBounds_toArray, List.set_cons_zero, List.set_cons_succ]
    refine wpAnyH_take (i := 2) (oi := ⟨_, _, _, _, _, _⟩) (v := ?_) rfl (by kernel_rfl) (by kernel_rfl) (by kernel_rfl) (fun _ _ _ h => h) (Or.inl ⟨by rfl, ?_⟩) (by assumption) ?_
    rotate_left
    ·intro w hSw
     try dsimp only at hSw
     go_simp
     try with_reducible rfl
    try simp only [Act.put, List.setIfInBounds_toArray, List.set_cons_zero, List.set_cons_succ]
    refine wpAnyH_take (i := 3) (oi := ⟨_, _, _, _, _, _⟩) (v := ?_) rfl (by kernel_rfl) (by kernel_rfl) (by kernel_rfl) (fun _ _ _ h => h) (Or.inl ⟨by rfl, ?_⟩) (by assumption) ?_
    rotate_left
    ·intro w hSw
     try dsimp only at hSw
     go_simp
     try with_reducible rfl
    try simp only [Act.put, List.setIfInBounds_toArray, List.set_cons_zero, List.set_cons_succ]
    refine wpAnyH_ready (rs := [4]) (by kernel_rfl) (by simp) ?_
    refine AllReadyH.cons (o := ⟨_, _, _, _, _, _⟩) rfl (fun K hK => ?_) ?_
    rotate_left
    ·exact AllReadyH.nil
    go_simp
    (go_at_call 118; refine (S2.left_any _ b g cl cb HE5.out.2.1).mono ?_; rintro e wq ⟨rfl, rfl⟩; rw [HNL.out])
    refine hK.out _ _ (p5) (fun hHeld => ?_)
    clear hK K
    try simp only [Act.put, List.setIfInBounds_toArray, List.set_cons_zero, List.set_cons_succ]
    refine wpAnyH_take (i := 5) (oi := ⟨_, _, _, _, _, _⟩) (v := ?_) rfl (by kernel_rfl) (by kernel_rfl) (by kernel_rfl) (fun _ _ _ h => h) (Or.inl ⟨by rfl, ?_⟩) (by assumption) ?_
    rotate_left
    ·intro w hSw
     try dsimp only at hSw
     go_simp
     try with_reducible rfl
    try simp only [Act.put, List.setIfInBounds_toArray, List.set_cons_zero, List.set_cons_succ]
    refine wpAnyH_take (i := 6) (oi := ⟨_, _, _, _, _, _⟩) (v := ?_) rfl (by kernel_rfl) (by kernel_rfl) (by kernel_rfl) (fun _ _ _ h => h) (Or.inl ⟨by rfl, ?_⟩) (by assumption) ?_
    rotate_left
    ·intro w hSw
     try dsimp only at hSw
     go_simp
     try with_reducible rfl
    try simp only [Act.put, List.setIfInBounds_toArray, List.set_cons_zero, List.set_cons_succ]
    refine wpAnyH_take (i := 7) (oi := ⟨_, _, _, _, _, _⟩) (v := ?_) rfl (by kernel_rfl) (by kernel_rfl) (by kernel_rfl) (fun _ _ _ h => h) (Or.inl ⟨by rfl, ?_⟩) (by assumption) ?_
    rotate_left
    ·intro w hSw
     try dsimp only at hSw
     go_simp
     try with_reducible rfl
    try simp only [Act.put, List.setIfInBounds_toArray, List.set_cons_zero, List.set_cons_succ]
    refine wpAnyH_take (i := 8) (oi := ⟨_, _, _, _, _, _⟩) (v := ?_) rfl (by kernel_rfl) (by kernel_rfl) (by kernel_rfl) (fun _ _ _ h => h) (Or.inl ⟨by rfl, ?_⟩) (by assumption) ?_
    rotate_left
    ·intro w hSw
     try dsimp only at hSw
     go_simp
     try with_reducible rfl
    try simp only [Act.put, List.setIfInBounds_toArray, List.set_cons_zero, List.set_cons_succ]
    refine wpAnyH_take (i := 9) (oi := ⟨_, _, _, _, _, _⟩) (v := ?_) rfl (by kernel_rfl) (by kernel_rfl) (by kernel_rfl) (fun _ _ _ h => h) (Or.inl ⟨by rfl, ?_⟩) (by assumption) ?_
    rotate_left
    ·intro w hSw
     try dsimp only at hSw
     go_simp
     try with_reducible rfl
    try simp only [Act.put, List.setIfInBounds_toArray, List.set_cons_zero, List.set_cons_succ]
    refine wpAnyH_take (i := 10) (oi := ⟨_, _, _, _, _, _⟩) (v := ?_) rfl (by kernel_rfl) (by kernel_rfl) (by kernel_rfl) (fun _ _ _ h => h) (Or.inl ⟨by rfl, ?_⟩) (by assumption) ?_
    rotate_left
    ·intro w hSw
     try dsimp only at hSw
     go_simp
     try with_reducible rfl
    try simp only [Act.put, List.setIfInBounds_toArray, List.set_cons_zero, List.set_cons_succ]
    refine wpAnyH_take (i := 12) (oi := ⟨_, _, _, _, _, _⟩) (v := ?_) rfl (by kernel_rfl) (by kernel_rfl) (by kernel_rfl) (fun _ _ _ h => h) (Or.inl ⟨by rfl, ?_⟩) (by assumption) ?_
    rotate_left
    ·intro w hSw
     try dsimp only at hSw
     go_simp
     try with_reducible rfl
    try simp only [Act.put, List.setIfInBounds_toArray, List.set_cons_zero, List.set_cons_succ]
    refine wpAnyH_take (i := 13) (oi := ⟨_, _, _, _, _, _⟩) (v := ?_) rfl (by kernel_rfl) (by kernel_rfl) (by kernel_rfl) (fun _ _ _ h => h) (Or.inl ⟨by rfl, ?_⟩) (by assumption) ?_
    rotate_left
    ·intro w hSw
     try dsimp only at hSw
     go_simp
     try with_reducible rfl
    try simp only [Act.put, List.setIfInBounds_toArray, List.set_cons_zero, List.set_cons_succ]
    refine wpAnyH_take (i := 14) (oi := ⟨_, _, _, _, _, _⟩) (v := ?_) rfl (by kernel_rfl) (by kernel_rfl) (by kernel_rfl) (fun _ _ _ h => h) (Or.inl ⟨by rfl, ?_⟩) (by assumption) ?_
    rotate_left
    ·intro w hSw
     try dsimp only at hSw
     go_simp
     try with_reducible rfl
    try simp only [Act.put, List.setIfInBounds_toArray, List.set_cons_zero, List.set_cons_succ]
    refine wpAnyH_take (i := 15) (oi := ⟨_, _, _, _, _, _⟩) (v := ?_) rfl (by kernel_rfl) (by kernel_rfl) (by kernel_rfl) (fun _ _ _ h => h) (Or.inl ⟨by rfl, ?_⟩) (by assumption) ?_
    rotate_left
    ·intro w hSw
     try dsimp only at hSw
     go_simp
     try with_reducible rfl
    try simp only [Act.put, List.setIfInBounds_toArray, List.set_cons_zero, List.set_cons_succ]
    refine wpAnyH_take (i := 16) (oi := ⟨_, _, _, _, _, _⟩) (v := ?_) rfl (by kernel_rfl) (by kernel_rfl) (by kernel_rfl) (fun _ _ _ h => h) (Or.inl ⟨by rfl, ?_⟩) (by assumption) ?_
    rotate_left
    ·intro w hSw
     try dsimp only at hSw
     go_simp
     try with_reducible rfl
    try simp only [Act.put, List.setIfInBounds_toArray, List.set_cons_zero, List.set_cons_succ]
    refine wpAnyH_ready (rs := [11]) (by kernel_rfl) (by simp) ?_
    refine AllReadyH.cons (o := ⟨_, _, _, _, _, _⟩) rfl (fun K hK => ?_) ?_
    rotate_left
    ·exact AllReadyH.nil
    go_simp
    (go_at_call 119; refine (sint_any HE5.out).mono ?_; intro e w6 h; unfold SeeS at h; obtain ⟨rfl, he1, hk1⟩ := h; have hk2 := (both_of (s := s) hk1); rw [HIV.out]; have HE6 := Lib.hid he1; have p6 := he1.ptr; have Kr6 := Lib.hid ((hk2.block w.heap.size (by omega) (by have := HSB.out; rintro (e | e) <;> omega)).trans Kr5.out); have K56 := Lib.hid ((hk2.block w2.heap.size h65 (by have := HL2.out; rintro (e | e) <;> omega)).trans K55.out); have HO6 := Lib.hid (HO5.out.kp (both_lt hk2 (by have := HL2.out; omega) (by have := HL2.out; omega))); have HB6 : Hid (Below w.heap.size w w6) := Lib.hid (HB5.out.trans (hk2.below (by omega) (fun x hx e => by have := HSB.out; rcases e with e | e <;> omega))); have h66 : w2.heap.size < w6.heap.size := Nat.lt_of_lt_of_le h65 hk2.size; clear he1 hk1 hk2)
    refine hK.out _ _ (p6) (fun hHeld => ?_)
    clear hK K
    try simp only [Act.put, List.setIfInBounds_toArray, List.set_cons_zero, List.set_cons_succ]
    refine wpAnyH_ready (rs := [17]) (by kernel_rfl) (by simp) ?_
    refine AllReadyH.cons (o := ⟨_, _, _, _, _, _⟩) rfl (fun K hK => ?_) ?_
    rotate_left
    ·exact AllReadyH.nil
    go_simp
    (go_at_call 114; refine (wsum_any (.slice ba kk bc) (B.take kk) _ (S2.sum_w _ gv _ _ (bw_cut (bw_keep HBW.out HB6.out) HKK.out))).mono ?_; rintro e wq ⟨rfl, rfl⟩; rw [HSV.out])
    refine hK.out _ _ (p6) (fun hHeld => ?_)
    clear hK K
    try simp only [Act.put, List.setIfInBounds_toArray, List.set_cons_zero, List.set_cons_succ]
    refine wpAnyH_take (i := 18) (oi := ⟨_, _, _, _, _, _⟩) (v := ?_) rfl (by kernel_rfl) (by kernel_rfl) (by kernel_rfl) (fun _ _ _ h => h) (Or.inl ⟨by rfl, ?_⟩) (by assumption) ?_
    rotate_left
    ·intro w hSw
     try dsimp only at hSw
     go_simp
     try with_reducible rfl
    try simp only [Act.put, List.setIfInBounds_toArray, List.set_cons_zero, List.set_cons_succ]
    refine wpAnyH_take (i := 19) (oi := ⟨_, _, _, _, _, _⟩) (v := ?_) rfl (by kernel_rfl) (by kernel_rfl) (by kernel_rfl) (fun _ _ _ h => h) (Or.inl ⟨by rfl, ?_⟩) (by assumption) ?_
    rotate_left
    ·intro w hSw
     try dsimp only at hSw
     go_simp
     try with_reducible rfl
    try simp only [Act.put, List.setIfInBounds_toArray, List.set_cons_zero, List.set_cons_succ]
    refine wpAnyH_take (i := 20) (oi := ⟨_, _, _, _, _, _⟩) (v := ?_) rfl (by kernel_rfl) (by kernel_rfl) (by kernel_rfl) (fun _ _ _ h => h) (Or.inl ⟨by rfl, ?_⟩) (by assumption) ?_
    rotate_left
    ·intro w hSw
     try dsimp only at hSw
     go_simp
     try with_reducible rfl
    try simp only [Act.put, List.setIfInBounds_toArray, List.set_cons_zero, List.set_cons_succ]
    refine wpAnyH_take (i := 21) (oi := ⟨_, _, _, _, _, _⟩) (v := ?_) rfl (by kernel_rfl) (by kernel_rfl) (by kernel_rfl) (fun _ _ _ h => h) (Or.inl ⟨by rfl, ?_⟩) (by assumption) ?_
    rotate_left
    ·intro w hSw
     try dsimp only at hSw
     go_simp
     try with_reducible rfl
    try simp only [Act.put, List.setIfInBounds_toArray, List.set_cons_zero, List.set_cons_succ]
    refine wpAnyH_ready (rs := [22]) (by kernel_rfl) (by simp) ?_
    refine AllReadyH.cons (o := ⟨_, _, _, _, _, _⟩) rfl (fun K hK => ?_) ?_
    rotate_left
    ·exact AllReadyH.nil
    go_simp
    (go_at_call 64; refine (sdone_any HE6.out).mono ?_; rintro e wq ⟨rfl, rfl⟩; rw [HDV.out])
    refine hK.out _ _ (p6) (fun hHeld => ?_)
    clear hK K
    try simp only [Act.put, List.setIfInBounds_toArray, List.set_cons_zero, List.set_cons_succ]
    refine wpAnyH_take (i := 23) (oi := ⟨_, _, _, _, _, _⟩) (v := ?_) rfl (by kernel_rfl) (by kernel_rfl) (by kernel_rfl) (fun _ _ _ h => h) (Or.inl ⟨by rfl, ?_⟩) (by assumption) ?_
    rotate_left
    ·intro w hSw
     try dsimp only at hSw
     go_simp
     try with_reducible rfl
    try simp only [Act.put, List.setIfInBounds_toArray, List.set_cons_zero, List.set_cons_succ]
    refine wpAnyH_take (i := 24) (oi := ⟨_, _, _, _, _, _⟩) (v := ?_) rfl (by kernel_rfl) (by kernel_rfl) (by kernel_rfl) (fun _ _ _ h => h) (Or.inl ⟨by rfl, ?_⟩) (by assumption) ?_
    rotate_left
    ·intro w hSw
     try dsimp only at hSw
     go_simp
     try with_reducible rfl
    try simp only [Act.put, List.setIfInBounds_toArray, List.set_cons_zero, List.set_cons_succ]
    refine wpAnyH_take (i := 25) (oi := ⟨_, _, _, _, _, _⟩) (v := ?_) rfl (by kernel_rfl) (by kernel_rfl) (by kernel_rfl) (fun _ _ _ h => h) (Or.inl ⟨by rfl, ?_⟩) (by assumption) ?_
    rotate_left
    ·intro w hSw
     try dsimp only at hSw
     go_simp
     try with_reducible rfl
    try simp only [Act.put, List.setIfInBounds_toArray, List.set_cons_zero, List.set_cons_succ]
    refine wpAnyH_done (by kernel_rfl) ?_ _
    go_wp2_with (first | go_skip | ((with_reducible refine atW w6 ?_); refine storeM _ _ rfl rfl _ rfl rfl Kr6.out rfl rfl (by simp [Value.oneCell']) ?_; intro w9 h1 h2; have K9 := Lib.hid h1; have HB9 : Hid (Below w.heap.size w w9) := Lib.hid (below_grown9 HB6.out h2 (Nat.le_refl _)); clear h1 h2))
    refine bodyPost_ret (results_cell_tmp9 Tryz.results55 _ _ _ 80 _ (0, 0) _ rfl K9.out Tryz.underlying80 rfl szMsg) rfl ?_
    exact ⟨⟨.slice none 0 0, .slice none 0 0, .slice none 0 0, .slice none 0 0, .slice none 0 0⟩, by rw [HPN.out]; rfl, by rw [HPN.out]; exact nil_ms _, HB9.out⟩
  ·have HPN := Lib.hid (HPN0.out (.inl (by rw [HWH.out, decide_eq_false hi]; simp)))
   have hi2 : ((iv == sv) = false) := by simpa using hi
   go_enter Tryz.func55, Tryz.ntmps55
   go_upto_region 3 with (first | go_skip | ((with_reducible refine atW (w2.alloc (.cells #[.int .i64 0, .int .i64 0, .int .i64 0, .int .i64 0, .int .i64 0, .int .i64 0, .int .i64 0, .int .i64 0, .int .i64 0, .slice none 0 0, .bool false, .slice none 0 0, .bool false, .int .i64 0, .int .i64 0, .bool false, .int .i64 0, .int .i64 0, .slice none 0 0, .slice none 0 0, .slice none 0 0] 80)) ?_); refine storeM _ _ rfl rfl _ rfl rfl K50.out rfl rfl (by simp [Value.oneCell']) ?_; intro w3 h1 h2; have K53 := Lib.hid h1; have h6 : w2.heap.size < w3.heap.size := (by have := h2.size; simp only [World.size_alloc] at this; omega); have Kr4 := Lib.hid (grown_other9 Kr3.out h2 (by simp; omega) (by omega)); have HE4 := Lib.hid (eyeS_store HE3.out h2 (by have := HL2.out; omega) (by have := HL2.out; omega) (fun hne => by have := HE2.out.lt.2.2 hne; omega)); have hb3 := below_grown9 (blAlloc (Below.refl _ _) _) h2 (Nat.le_refl _); have HO3 := Lib.hid (HO2.out.kp (S2.Keeps.ofBelow hb3)); have HB3 : Hid (Below w.heap.size w w3) := Lib.hid (blThen HB2.out hb3); clear h1 h2 hb3) | ((with_reducible refine atC w1 ?_); go_at_call 117; go_must (refine (readM_any HE1.out (by have := HLB.out; show B.length ≤ _; omega)).mono ?_; intro e w2 h; unfold SeeMs at h; rw [HCE.out, HUE.out] at h; obtain ⟨⟨lo, ld, lv, lw, lp⟩, rfl, ho1, he2, hk2⟩ := h; have HO2 := Lib.hid ho1; obtain ⟨oa, oc, rfl⟩ := ho1.o.form; obtain ⟨da, dn, dc, rfl⟩ := ho1.d.form; obtain ⟨va, vn, vc, rfl⟩ := ho1.v.form; obtain ⟨wa, wc, rfl⟩ := ho1.w.form; obtain ⟨pa, pc, rfl⟩ := ho1.p.form; simp only [msV]; generalize ops.length = on at *; generalize writes.length = wn at *; generalize pairs.length = pn at *; have HE2 := Lib.hid he2; have Kr2 := Lib.hid ((hk2.block w.heap.size (by omega) (by have := HSB.out; rintro (e | e) <;> omega)).trans Kr1.out); have hw2 : w1.heap.size ≤ w2.heap.size := hk2.size; have HB2 : Hid (Below w.heap.size w w2) := Lib.hid (HB1.out.trans (hk2.below (by omega) (fun x hx e => by have := HSB.out; rcases e with e | e <;> omega))); have HL2 : Hid (s < w1.heap.size ∧ b < w1.heap.size) := Lib.hid ⟨HE1.out.lt.1, HE1.out.lt.2.1⟩; have K50 : Hid ((w2.alloc (.cells #[.int .i64 0, .int .i64 0, .int .i64 0, .int .i64 0, .int .i64 0, .int .i64 0, .int .i64 0, .int .i64 0, .int .i64 0, .slice none 0 0, .bool false, .slice none 0 0, .bool false, .int .i64 0, .int .i64 0, .bool false, .int .i64 0, .int .i64 0, .slice none 0 0, .slice none 0 0, .slice none 0 0] 80)).heap[w2.heap.size]? = some (.cells #[.int .i64 0, .int .i64 0, .int .i64 0, .int .i64 0, .int .i64 0, .int .i64 0, .int .i64 0, .int .i64 0, .int .i64 0, .slice none 0 0, .bool false, .slice none 0 0, .bool false, .int .i64 0, .int .i64 0, .bool false, .int .i64 0, .int .i64 0, .slice none 0 0, .slice none 0 0, .slice none 0 0] 80 (0, 0))) := Lib.hid (new_blockC w2 _ _); have Kr3 : Hid ((w2.alloc (.cells #[.int .i64 0, .int .i64 0, .int .i64 0, .int .i64 0, .int .i64 0, .int .i64 0, .int .i64 0, .int .i64 0, .int .i64 0, .slice none 0 0, .bool false, .slice none 0 0, .bool false, .int .i64 0, .int .i64 0, .bool false, .int .i64 0, .int .i64 0, .slice none 0 0, .slice none 0 0, .slice none 0 0] 80)).heap[w.heap.size]? = some (.cells #[.int .i64 0, .int .i64 0, .int .i64 0, .int .i64 0, .int .i64 0, .int .i64 0, .int .i64 0, .int .i64 0, .int .i64 0, .slice none 0 0, .bool false, .slice none 0 0, .bool false, .int .i64 0, .int .i64 0, .bool false, .int .i64 0, .int .i64 0, .slice none 0 0, .slice none 0 0, .slice none 0 0] 80 (0, 0))) := Lib.hid (((blAlloc (Below.refl _ _) _ : Below w2.heap.size w2 (w2.alloc (.cells #[.int .i64 0, .int .i64 0, .int .i64 0, .int .i64 0, .int .i64 0, .int .i64 0, .int .i64 0, .int .i64 0, .int .i64 0, .slice none 0 0, .bool false, .slice none 0 0, .bool false, .int .i64 0, .int .i64 0, .bool false, .int .i64 0, .int .i64 0, .slice none 0 0, .slice none 0 0, .slice none 0 0] 80))).block w.heap.size (by omega)).trans Kr2.out); have HE3 : Hid (EyeS (w2.alloc (.cells #[.int .i64 0, .int .i64 0, .int .i64 0, .int .i64 0, .int .i64 0, .int .i64 0, .int .i64 0, .int .i64 0, .int .i64 0, .slice none 0 0, .bool false, .slice none 0 0, .bool false, .int .i64 0, .int .i64 0, .bool false, .int .i64 0, .int .i64 0, .slice none 0 0, .slice none 0 0, .slice none 0 0] 80)) s b g (cl, cb, cd)) := Lib.hid (HE2.out.before (S2.kAlloc (S2.Keeps.refl _ _) _)); clear ho1 he2 hk2)) | ((with_reducible refine atC (w.alloc (.cells #[.int .i64 0, .int .i64 0, .int .i64 0, .int .i64 0, .int .i64 0, .int .i64 0, .int .i64 0, .int .i64 0, .int .i64 0, .slice none 0 0, .bool false, .slice none 0 0, .bool false, .int .i64 0, .int .i64 0, .bool false, .int .i64 0, .int .i64 0, .slice none 0 0, .slice none 0 0, .slice none 0 0] 80)) ?_); go_at_call 62; go_must (refine (sopen_any gv (.slice ba B.length bc) B _ HBS.out (by have := HLB.out; omega)).mono ?_; intro e w1 h; obtain ⟨s, b, g, rfl, he1, hs1, hs2, hs3, h5⟩ := h; have HE1 := Lib.hid he1; have HSB : Hid (w.heap.size + 1 ≤ s ∧ w.heap.size + 1 ≤ b) := Lib.hid (by simp only [World.size_alloc] at hs1 hs2; exact ⟨hs1, hs2⟩); have Kr1 := Lib.hid ((h5.block w.heap.size (by simp)).trans Kr0.out); have hw1 : w.heap.size + 1 ≤ w1.heap.size := (by have := h5.size; simp only [World.size_alloc] at this; exact this); have HB1 : Hid (Below w.heap.size w w1) := Lib.hid (blThen (blAlloc (Below.refl _ _) _) h5); clear he1 hs1 hs2 hs3 h5)))
   have p4 := HE4.out.ptr
   refine wp_region_held_drew (S := fun Y => Y.cell? ⟨s, 0, none⟩ = some (.pointer (some ⟨b, 0, none⟩))) (by kernel_rfl) (p4) (fun hHeld => ?_)
   have HE5 : Hid (EyeS w3.drew s b g (cl, cb, cd)) := Lib.hid (HE4.out.before (S2.kDrew (S2.Keeps.refl _ _)))
   have Kr5 : Hid (w3.drew.heap[w.heap.size]? = some (.cells #[.int .i64 0, .int .i64 0, .int .i64 0, .int .i64 0, .int .i64 0, .int .i64 0, .int .i64 0, .int .i64 0, .int .i64 0, .slice none 0 0, .bool false, .slice none 0 0, .bool false, .int .i64 0, .int .i64 0, .bool false, .int .i64 0, .int .i64 0, .slice none 0 0, .slice none 0 0, .slice none 0 0] 80 (0, 0))) := Kr4
   have K55 : Hid (w3.drew.heap[w2.heap.size]? = some (.cells #[.int .i64 kind, .int .i64 frm, .int .i64 dst, .int .i64 id1, .int .i64 id2, .int .i64 b1, .int .i64 b2, .int .i64 a1, .int .i64 a2, .slice oa on oc, .bool fast, .slice da dn dc, .bool has, .int .i64 q1, .int .i64 q2, .bool gone, .int .i64 t1, .int .i64 t2, .slice va vn vc, .slice wa wn wc, .slice pa pn pc] 80 (0, 0))) := K53
   have HO5 := Lib.hid (HO3.out.kp (S2.kDrew (S2.Keeps.refl _ w3)))
   have HB5 : Hid (Below w.heap.size w w3.drew) := Lib.hid HB3.out.drew
   have h65 : w2.heap.size < w3.drew.heap.size := h6
   have p5 := HE5.out.ptr
   clear HE4 Kr4 K53 HO3 HB3 p4
   generalize w3.drew = w5 at *
   refine wpAnyH_take (i := 0) (oi := ⟨_, _, _, _, _, _⟩) (v := ?_) rfl (by kernel_rfl) (by kernel_rfl) (by kernel_rfl) (fun _ _ _ h => h) (Or.inl ⟨by rfl, ?_⟩) (by assumption) ?_
   rotate_left
   ·intro w hSw
    try dsimp only at hSw
    go_simp
    try with_reducible rfl
   try simp only [Act.put, List.setIfInBounds_toArray, List.set_cons_zero, List.set_cons_succ]
   refine wpAnyH_take (i := 1) (oi := ⟨_, _, _, _, _, _⟩) (v := ?_) rfl (by kernel_rfl) (by kernel_rfl) (by kernel_rfl) (fun _ _ _ h => h) (Or.inl ⟨by rfl, ?_⟩) (by assumption) ?_
   rotate_left
   ·intro w hSw
    try dsimp only at hSw
    go_simp
    try with_reducible rfl
   try simp only [Act.put, List.setIfInBounds_toArray, List.set_cons_zero, List.set_cons_succ]
   refine wpAnyH_take (i := 2) (oi := ⟨_, _, _, _, _, _⟩) (v := ?_) rfl (by kernel_rfl) (by kernel_rfl) (by kernel_rfl) (fun _ _ _ h => h) (Or.inl ⟨by rfl, ?_⟩) (by assumption) ?_
   rotate_left
   ·intro w hSw
    try dsimp only at hSw
    go_simp
    try with_reducible rfl
   try simp only [Act.put, List.setIfInBounds_toArray, List.set_cons_zero, List.set_cons_succ]
   refine wpAnyH_take (i := 3) (oi := ⟨_, _, _, _, _, _⟩) (v := ?_) rfl (by kernel_rfl) (by kernel_rfl) (by kernel_rfl) (fun _ _ _ h => h) (Or.inl ⟨by rfl, ?_⟩) (by assumption) ?_
   rotate_left
   ·intro w hSw
    try dsimp only at hSw
    go_simp
    try with_reducible rfl
   try simp only [Act.put, List.setIfInBounds_toArray, List.set_cons_zero, List.set_cons_succ]
   refine wpAnyH_ready (rs := [4]) (by kernel_rfl) (by simp) ?_
   refine AllReadyH.cons (o := ⟨_, _, _, _, _, _⟩) rfl (fun K hK => ?_) ?_
   rotate_left
   ·exact AllReadyH.nil
   go_simp
   (go_at_call 118; refine (S2.left_any _ b g cl cb HE5.out.2.1).mono ?_; rintro e wq ⟨rfl, rfl⟩; rw [HNL.out])
   refine hK.out _ _ (p5) (fun hHeld => ?_)
   clear hK K
   try simp only [Act.put, List.setIfInBounds_toArray, List.set_cons_zero, List.set_cons_succ]
   refine wpAnyH_take (i := 5) (oi := ⟨_, _, _, _, _, _⟩) (v := ?_) rfl (by kernel_rfl) (by kernel_rfl) (by kernel_rfl) (fun _ _ _ h => h) (Or.inl ⟨by rfl, ?_⟩) (by assumption) ?_
   rotate_left
   ·intro w hSw
    try dsimp only at hSw
    go_simp
    try with_reducible rfl
   try simp only [Act.put, List.setIfInBounds_toArray, List.set_cons_zero, List.set_cons_succ]
   refine wpAnyH_take (i := 6) (oi := ⟨_, _, _, _, _, _⟩) (v := ?_) rfl (by kernel_rfl) (by kernel_rfl) (by kernel_rfl) (fun _ _ _ h => h) (Or.inl ⟨by rfl, ?_⟩) (by assumption) ?_
   rotate_left
   ·intro w hSw
    try dsimp only at hSw
    go_simp
    try with_reducible rfl
   try simp only [Act.put, List.setIfInBounds_toArray, List.set_cons_zero, List.set_cons_succ]
   refine wpAnyH_take (i := 7) (oi := ⟨_, _, _, _, _, _⟩) (v := ?_) rfl (by kernel_rfl) (by kernel_rfl) (by kernel_rfl) (fun _ _ _ h => h) (Or.inl ⟨by rfl, ?_⟩) (by assumption) ?_
   rotate_left
   ·intro w hSw
    try dsimp only at hSw
    go_simp
    try with_reducible rfl
   try simp only [Act.put, List.setIfInBounds_toArray, List.set_cons_zero, List.set_cons_succ]
   refine wpAnyH_take (i := 8) (oi := ⟨_, _, _, _, _, _⟩) (v := ?_) rfl (by kernel_rfl) (by kernel_rfl) (by kernel_rfl) (fun _ _ _ h => h) (Or.inl ⟨by rfl, ?_⟩) (by assumption) ?_
   rotate_left
   ·intro w hSw
    try dsimp only at hSw
    go_simp
    try with_reducible rfl
   try simp only [Act.put, List.setIfInBounds_toArray, List.set_cons_zero, List.set_cons_succ]
   refine wpAnyH_take (i := 9) (oi := ⟨_, _, _, _, _, _⟩) (v := ?_) rfl (by kernel_rfl) (by kernel_rfl) (by kernel_rfl) (fun _ _ _ h => h) (Or.inl ⟨by rfl, ?_⟩) (by assumption) ?_
   rotate_left
   ·intro w hSw
    try dsimp only at hSw
    go_simp
    try with_reducible rfl
   try simp only [Act.put, List.setIfInBounds_toArray, List.set_cons_zero, List.set_cons_succ]
   refine wpAnyH_take (i := 10) (oi := ⟨_, _, _, _, _, _⟩) (v := ?_) rfl (by kernel_rfl) (by kernel_rfl) (by kernel_rfl) (fun _ _ _ h => h) (Or.inl ⟨by rfl, ?_⟩) (by assumption) ?_
   rotate_left
   ·intro w hSw
    try dsimp only at hSw
    go_simp
    try with_reducible rfl
   try simp only [Act.put, List.setIfInBounds_toArray, List.set_cons_zero, List.set_cons_succ]
   refine wpAnyH_take (i := 12) (oi := ⟨_, _, _, _, _, _⟩) (v := ?_) rfl (by kernel_rfl) (by kernel_rfl) (by kernel_rfl) (fun _ _ _ h => h) (Or.inl ⟨by rfl, ?_⟩) (by assumption) ?_
   rotate_left
   ·intro w hSw
    try dsimp only at hSw
    go_simp
    try with_reducible rfl
   try simp only [Act.put, List.setIfInBounds_toArray, List.set_cons_zero, List.set_cons_succ]
   refine wpAnyH_take (i := 13) (oi := ⟨_, _, _, _, _, _⟩) (v := ?_) rfl (by kernel_rfl) (by kernel_rfl) (by kernel_rfl) (fun _ _ _ h => h) (Or.inl ⟨by rfl, ?_⟩) (by assumption) ?_
   rotate_left
   ·intro w hSw
    try dsimp only at hSw
    go_simp
    try with_reducible rfl
   try simp only [Act.put, List.setIfInBounds_toArray, List.set_cons_zero, List.set_cons_succ]
   refine wpAnyH_take (i := 14) (oi := ⟨_, _, _, _, _, _⟩) (v := ?_) rfl (by kernel_rfl) (by kernel_rfl) (by kernel_rfl) (fun _ _ _ h => h) (Or.inl ⟨by rfl, ?_⟩) (by assumption) ?_
   rotate_left
   ·intro w hSw
    try dsimp only at hSw
    go_simp
    try with_reducible rfl
   try simp only [Act.put, List.setIfInBounds_toArray, List.set_cons_zero, List.set_cons_succ]
   refine wpAnyH_take (i := 15) (oi := ⟨_, _, _, _, _, _⟩) (v := ?_) rfl (by kernel_rfl) (by kernel_rfl) (by kernel_rfl) (fun _ _ _ h => h) (Or.inl ⟨by rfl, ?_⟩) (by assumption) ?_
   rotate_left
   ·intro w hSw
    try dsimp only at hSw
    go_simp
    try with_reducible rfl
   try simp only [Act.put, List.setIfInBounds_toArray, List.set_cons_zero, List.set_cons_succ]
   refine wpAnyH_take (i := 16) (oi := ⟨_, _, _, _, _, _⟩) (v := ?_) rfl (by kernel_rfl) (by kernel_rfl) (by kernel_rfl) (fun _ _ _ h => h) (Or.inl ⟨by rfl, ?_⟩) (by assumption) ?_
   rotate_left
   ·intro w hSw
    try dsimp only at hSw
    go_simp
    try with_reducible rfl
   try simp only [Act.put, List.setIfInBounds_toArray, List.set_cons_zero, List.set_cons_succ]
   refine wpAnyH_ready (rs := [11]) (by kernel_rfl) (by simp) ?_
   refine AllReadyH.cons (o := ⟨_, _, _, _, _, _⟩) rfl (fun K hK => ?_) ?_
   rotate_left
   ·exact AllReadyH.nil
   go_simp
   (go_at_call 119; refine (sint_any HE5.out).mono ?_; intro e w6 h; unfold SeeS at h; obtain ⟨rfl, he1, hk1⟩ := h; have hk2 := (both_of (s := s) hk1); rw [HIV.out]; have HE6 := Lib.hid he1; have p6 := he1.ptr; have Kr6 := Lib.hid ((hk2.block w.heap.size (by omega) (by have := HSB.out; rintro (e | e) <;> omega)).trans Kr5.out); have K56 := Lib.hid ((hk2.block w2.heap.size h65 (by have := HL2.out; rintro (e | e) <;> omega)).trans K55.out); have HO6 := Lib.hid (HO5.out.kp (both_lt hk2 (by have := HL2.out; omega) (by have := HL2.out; omega))); have HB6 : Hid (Below w.heap.size w w6) := Lib.hid (HB5.out.trans (hk2.below (by omega) (fun x hx e => by have := HSB.out; rcases e with e | e <;> omega))); have h66 : w2.heap.size < w6.heap.size := Nat.lt_of_lt_of_le h65 hk2.size; clear he1 hk1 hk2)
   refine hK.out _ _ (p6) (fun hHeld => ?_)
   clear hK K
   try simp only [Act.put, List.setIfInBounds_toArray, List.set_cons_zero, List.set_cons_succ]
   refine wpAnyH_ready (rs := [17]) (by kernel_rfl) (by simp) ?_
   refine AllReadyH.cons (o := ⟨_, _, _, _, _, _⟩) rfl (fun K hK => ?_) ?_
   rotate_left
   ·exact AllReadyH.nil
   go_simp
   (go_at_call 114; refine (wsum_any (.slice ba kk bc) (B.take kk) _ (S2.sum_w _ gv _ _ (bw_cut (bw_keep HBW.out HB6.out) HKK.out))).mono ?_; rintro e wq ⟨rfl, rfl⟩; rw [HSV.out])
   refine hK.out _ _ (p6) (fun hHeld => ?_)
   clear hK K
   try simp only [Act.put, List.setIfInBounds_toArray, List.set_cons_zero, List.set_cons_succ]
   refine wpAnyH_take (i := 18) (oi := ⟨_, _, _, _, _, _⟩) (v := ?_) rfl (by kernel_rfl) (by kernel_rfl) (by kernel_rfl) (fun _ _ _ h => h) (Or.inl ⟨by rfl, ?_⟩) (by assumption) ?_
   rotate_left
   ·intro w hSw
    try dsimp only at hSw
    go_simp
    try with_reducible rfl
   try simp only [Act.put, List.setIfInBounds_toArray, List.set_cons_zero, List.set_cons_succ]
   refine wpAnyH_take (i := 19) (oi := ⟨_, _, _, _, _, _⟩) (v := ?_) rfl (by kernel_rfl) (by kernel_rfl) (by kernel_rfl) (fun _ _ _ h => h) (Or.inl ⟨by rfl, ?_⟩) (by assumption) ?_
   rotate_left
   ·intro w hSw
    try dsimp only at hSw
    go_simp
    try with_reducible rfl
   try simp only [Act.put, List.setIfInBounds_toArray, List.set_cons_zero, List.set_cons_succ]
   refine wpAnyH_take (i := 20) (oi := ⟨_, _, _, _, _, _⟩) (v := ?_) rfl (by kernel_rfl) (by kernel_rfl) (by kernel_rfl) (fun _ _ _ h => h) (Or.inl ⟨by rfl, ?_⟩) (by assumption) ?_
   rotate_left
   ·intro w hSw
    try dsimp only at hSw
    go_simp
    try with_reducible rfl
   try simp only [Act.put, List.setIfInBounds_toArray, List.set_cons_zero, List.set_cons_succ]
   refine wpAnyH_take (i := 21) (oi := ⟨_, _, _, _, _, _⟩) (v := undef) rfl (by kernel_rfl) (by kernel_rfl) (by kernel_rfl) (fun _ _ _ h => h) (Or.inr ⟨by rfl, rfl⟩) (by assumption) ?_
   try simp only [Act.put, List.setIfInBounds_toArray, List.set_cons_zero, List.set_cons_succ]
   refine wpAnyH_ready (rs := [22]) (by kernel_rfl) (by simp) ?_
   refine AllReadyH.cons (o := ⟨_, _, _, _, _, _⟩) rfl (fun K hK => ?_) ?_
   rotate_left
   ·exact AllReadyH.nil
   refine ite_no (by rfl) ?_
   refine hK.out _ _ hHeld (fun hHeld => ?_)
   clear hK K
   try simp only [Act.put, List.setIfInBounds_toArray, List.set_cons_zero, List.set_cons_succ]
   refine wpAnyH_take (i := 23) (oi := ⟨_, _, _, _, _, _⟩) (v := undef) rfl (by kernel_rfl) (by kernel_rfl) (by kernel_rfl) (fun _ _ _ h => h) (Or.inr ⟨by rfl, rfl⟩) (by assumption) ?_
   try simp only [Act.put, List.setIfInBounds_toArray, List.set_cons_zero, List.set_cons_succ]
   refine wpAnyH_take (i := 24) (oi := ⟨_, _, _, _, _, _⟩) (v := ?_) rfl (by kernel_rfl) (by kernel_rfl) (by kernel_rfl) (fun _ _ _ h => h) (Or.inl ⟨by rfl, ?_⟩) (by assumption) ?_
   rotate_left
   ·intro w hSw
    try dsimp only at hSw
    go_simp
    try with_reducible rfl
   try simp only [Act.put, List.setIfInBounds_toArray, List.set_cons_zero, List.set_cons_succ]
   refine wpAnyH_take (i := 25) (oi := ⟨_, _, _, _, _, _⟩) (v := ?_) rfl (by kernel_rfl) (by kernel_rfl) (by kernel_rfl) (fun _ _ _ h => h) (Or.inl ⟨by rfl, ?_⟩) (by assumption) ?_
   rotate_left
   ·intro w hSw
    try dsimp only at hSw
    go_simp
    try with_reducible rfl
   try simp only [Act.put, List.setIfInBounds_toArray, List.set_cons_zero, List.set_cons_succ]
   refine wpAnyH_done (by kernel_rfl) ?_ _
   go_wp2_with (first | go_skip | ((with_reducible refine atW w6 ?_); refine storeM _ _ rfl rfl _ rfl rfl Kr6.out rfl rfl (by simp [Value.oneCell']) ?_; intro w9 h1 h2; have K9 := Lib.hid h1; have HB9 : Hid (Below w.heap.size w w9) := Lib.hid (below_grown9 HB6.out h2 (Nat.le_refl _)); clear h1 h2))
   refine bodyPost_ret (results_cell_tmp9 Tryz.results55 _ _ _ 80 _ (0, 0) _ rfl K9.out Tryz.underlying80 rfl szMsg) rfl ?_
   exact ⟨⟨.slice none 0 0, .slice none 0 0, .slice none 0 0, .slice none 0 0, .slice none 0 0⟩, by rw [HPN.out]; rfl, by rw [HPN.out]; exact nil_ms _, HB9.out⟩
 ·have HPN := Lib.hid (HPN0.out (.inl (by rw [HWH.out, decide_eq_false h8]; simp)))
  have h82 : (((nl : Int) == 8) = false) := by simp; omega
  go_enter Tryz.func55, Tryz.ntmps55
  go_upto_region 3 with (first | go_skip | ((with_reducible refine atW (w2.alloc (.cells #[.int .i64 0, .int .i64 0, .int .i64 0, .int .i64 0, .int .i64 0, .int .i64 0, .int .i64 0, .int .i64 0, .int .i64 0, .slice none 0 0, .bool false, .slice none 0 0, .bool false, .int .i64 0, .int .i64 0, .bool false, .int .i64 0, .int .i64 0, .slice none 0 0, .slice none 0 0, .slice none 0 0] 80)) ?_); refine storeM _ _ rfl rfl _ rfl rfl K50.out rfl rfl (by simp [Value.oneCell']) ?_; intro w3 h1 h2; have K53 := Lib.hid h1; have h6 : w2.heap.size < w3.heap.size := (by have := h2.size; simp only [World.size_alloc] at this; omega); have Kr4 := Lib.hid (grown_other9 Kr3.out h2 (by simp; omega) (by omega)); have HE4 := Lib.hid (eyeS_store HE3.out h2 (by have := HL2.out; omega) (by have := HL2.out; omega) (fun hne => by have := HE2.out.lt.2.2 hne; omega)); have hb3 := below_grown9 (blAlloc (Below.refl _ _) _) h2 (Nat.le_refl _); have HO3 := Lib.hid (HO2.out.kp (S2.Keeps.ofBelow hb3)); have HB3 : Hid (Below w.heap.size w w3) := Lib.hid (blThen HB2.out hb3); clear h1 h2 hb3) | ((with_reducible refine atC w1 ?_); go_at_call 117; go_must (refine (readM_any HE1.out (by have := HLB.out; show B.length ≤ _; omega)).mono ?_; intro e w2 h; unfold SeeMs at h; rw [HCE.out, HUE.out] at h; obtain ⟨⟨lo, ld, lv, lw, lp⟩, rfl, ho1, he2, hk2⟩ := h; have HO2 := Lib.hid ho1; obtain ⟨oa, oc, rfl⟩ := ho1.o.form; obtain ⟨da, dn, dc, rfl⟩ := ho1.d.form; obtain ⟨va, vn, vc, rfl⟩ := ho1.v.form; obtain ⟨wa, wc, rfl⟩ := ho1.w.form; obtain ⟨pa, pc, rfl⟩ := ho1.p.form; simp only [msV]; generalize ops.length = on at *; generalize writes.length = wn at *; generalize pairs.length = pn at *; have HE2 := Lib.hid he2; have Kr2 := Lib.hid ((hk2.block w.heap.size (by omega) (by have := HSB.out; rintro (e | e) <;> omega)).trans Kr1.out); have hw2 : w1.heap.size ≤ w2.heap.size := hk2.size; have HB2 : Hid (Below w.heap.size w w2) := Lib.hid (HB1.out.trans (hk2.below (by omega) (fun x hx e => by have := HSB.out; rcases e with e | e <;> omega))); have HL2 : Hid (s < w1.heap.size ∧ b < w1.heap.size) := Lib.hid ⟨HE1.out.lt.1, HE1.out.lt.2.1⟩; have K50 : Hid ((w2.alloc (.cells #[.int .i64 0, .int .i64 0, .int .i64 0, .int .i64 0, .int .i64 0, .int .i64 0, .int .i64 0, .int .i64 0, .int .i64 0, .slice none 0 0, .bool false, .slice none 0 0, .bool false, .int .i64 0, .int .i64 0, .bool false, .int .i64 0, .int .i64 0, .slice none 0 0, .slice none 0 0, .slice none 0 0] 80)).heap[w2.heap.size]? = some (.cells #[.int .i64 0, .int .i64 0, .int .i64 0, .int .i64 0, .int .i64 0, .int .i64 0, .int .i64 0, .int .i64 0, .int .i64 0, .slice none 0 0, .bool false, .slice none 0 0, .bool false, .int .i64 0, .int .i64 0, .bool false, .int .i64 0, .int .i64 0, .slice none 0 0, .slice none 0 0, .slice none 0 0] 80 (0, 0))) := Lib.hid (new_blockC w2 _ _); have Kr3 : Hid ((w2.alloc (.cells #[.int .i64 0, .int .i64 0, .int .i64 0, .int .i64 0, .int .i64 0, .int .i64 0, .int .i64 0, .int .i64 0, .int .i64 0, .slice none 0 0, .bool false, .slice none 0 0, .bool false, .int .i64 0, .int .i64 0, .bool false, .int .i64 0, .int .i64 0, .slice none 0 0, .slice none 0 0, .slice none 0 0] 80)).heap[w.heap.size]? = some (.cells #[.int .i64 0, .int .i64 0, .int .i64 0, .int .i64 0, .int .i64 0, .int .i64 0, .int .i64 0, .int .i64 0, .int .i64 0, .slice none 0 0, .bool false, .slice none 0 0, .bool false, .int .i64 0, .int .i64 0, .bool false, .int .i64 0, .int .i64 0, .slice none 0 0, .slice none 0 0, .slice none 0 0] 80 (0, 0))) := Lib.hid (((blAlloc (Below.refl _ _) _ : Below w2.heap.size w2 (w2.alloc (.cells #[.int .i64 0, .int .i64 0, .int .i64 0, .int .i64 0, .int .i64 0, .int .i64 0, .int .i64 0, .int .i64 0, .int .i64 0, .slice none 0 0, .bool false, .slice none 0 0, .bool false, .int .i64 0, .int .i64 0, .bool false, .int .i64 0, .int .i64 0, .slice none 0 0, .slice none 0 0, .slice none 0 0] 80))).block w.heap.size (by omega)).trans Kr2.out); have HE3 : Hid (EyeS (w2.alloc (.cells #[.int .i64 0, .int .i64 0, .int .i64 0, .int .i64 0, .int .i64 0, .int .i64 0, .int .i64 0, .int .i64 0, .int .i64 0, .slice none 0 0, .bool false, .slice none 0 0, .bool false, .int .i64 0, .int .i64 0, .bool false, .int .i64 0, .int .i64 0, .slice none 0 0, .slice none 0 0, .slice none 0 0] 80)) s b g (cl, cb, cd)) := Lib.hid (HE2.out.before (S2.kAlloc (S2.Keeps.refl _ _) _)); clear ho1 he2 hk2)) | ((with_reducible refine atC (w.alloc (.cells #[.int .i64 0, .int .i64 0, .int .i64 0, .int .i64 0, .int .i64 0, .int .i64 0, .int .i64 0, .int .i64 0, .int .i64 0, .slice none 0 0, .bool false, .slice none 0 0, .bool false, .int .i64 0, .int .i64 0, .bool false, .int .i64 0, .int .i64 0, .slice none 0 0, .slice none 0 0, .slice none 0 0] 80)) ?_); go_at_call 62; go_must (refine (sopen_any gv (.slice ba B.length bc) B _ HBS.out (by have := HLB.out; omega)).mono ?_; intro e w1 h; obtain ⟨s, b, g, rfl, he1, hs1, hs2, hs3, h5⟩ := h; have HE1 := Lib.hid he1; have HSB : Hid (w.heap.size + 1 ≤ s ∧ w.heap.size + 1 ≤ b) := Lib.hid (by simp only [World.size_alloc] at hs1 hs2; exact ⟨hs1, hs2⟩); have Kr1 := Lib.hid ((h5.block w.heap.size (by simp)).trans Kr0.out); have hw1 : w.heap.size + 1 ≤ w1.heap.size := (by have := h5.size; simp only [World.size_alloc] at this; exact this); have HB1 : Hid (Below w.heap.size w w1) := Lib.hid (blThen (blAlloc (Below.refl _ _) _) h5); clear he1 hs1 hs2 hs3 h5)))
  have p4 := HE4.out.ptr
  refine wp_region_held_drew (S := fun Y => Y.cell? ⟨s, 0, none⟩ = some (.pointer (some ⟨b, 0, none⟩))) (by kernel_rfl) (p4) (fun hHeld => ?_)
  have HE5 : Hid (EyeS w3.drew s b g (cl, cb, cd)) := Lib.hid (HE4.out.before (S2.kDrew (S2.Keeps.refl _ _)))
  have Kr5 : Hid (w3.drew.heap[w.heap.size]? = some (.cells #[.int .i64 0, .int .i64 0, .int .i64 0, .int .i64 0, .int .i64 0, .int .i64 0, .int .i64 0, .int .i64 0, .int .i64 0, .slice none 0 0, .bool false, .slice none 0 0, .bool false, .int .i64 0, .int .i64 0, .bool false, .int .i64 0, .int .i64 0, .slice none 0 0, .slice none 0 0, .slice none 0 0] 80 (0, 0))) := Kr4
  have K55 : Hid (w3.drew.heap[w2.heap.size]? = some (.cells #[.int .i64 kind, .int .i64 frm, .int .i64 dst, .int .i64 id1, .int .i64 id2, .int .i64 b1, .int .i64 b2, .int .i64 a1, .int .i64 a2, .slice oa on oc, .bool fast, .slice da dn dc, .bool has, .int .i64 q1, .int .i64 q2, .bool gone, .int .i64 t1, .int .i64 t2, .slice va vn vc, .slice wa wn wc, .slice pa pn pc] 80 (0, 0))) := K53
  have HO5 := Lib.hid (HO3.out.kp (S2.kDrew (S2.Keeps.refl _ w3)))
  have HB5 : Hid (Below w.heap.size w w3.drew) := Lib.hid HB3.out.drew
  have h65 : w2.heap.size < w3.drew.heap.size := h6
  have p5 := HE5.out.ptr
  clear HE4 Kr4 K53 HO3 HB3 p4
  generalize w3.drew = w5 at *
  refine wpAnyH_take (i := 0) (oi := ⟨_, _, _, _, _, _⟩) (v := ?_) rfl (by kernel_rfl) (by kernel_rfl) (by kernel_rfl) (fun _ _ _ h => h) (Or.inl ⟨by rfl, ?_⟩) (by assumption) ?_
  rotate_left
  ·intro w hSw
   try dsimp only at hSw
   go_simp
   try with_reducible rfl
  try simp only [Act.put, List.setIfInBounds_toArray, List.set_cons_zero, List.set_cons_succ]
  refine wpAnyH_take (i := 1) (oi := ⟨_, _, _, _, _, _⟩) (v := ?_) rfl (by kernel_rfl) (by kernel_rfl) (by kernel_rfl) (fun _ _ _ h => h) (Or.inl ⟨by rfl, ?_⟩) (by assumption) ?_
  rotate_left
  ·intro w hSw
   try dsimp only at hSw
   go_simp
   try with_reducible rfl
  try simp only [Act.put, List.setIfInBounds_toArray, List.set_cons_zero, List.set_cons_succ]
  refine wpAnyH_take (i := 2) (oi := ⟨_, _, _, _, _, _⟩) (v := ?_) rfl (by kernel_rfl) (by kernel_rfl) (by kernel_rfl) (fun _ _ _ h => h) (Or.inl ⟨by rfl, ?_⟩) (by assumption) ?_
  rotate_left
  ·intro w hSw
   try dsimp only at hSw
   go_simp
   try with_reducible rfl
  try simp only [Act.put, List.setIfInBounds_toArray, List.set_cons_zero, List.set_cons_succ]
  refine wpAnyH_take (i := 3) (oi := ⟨_, _, _, _, _, _⟩) (v := ?_) rfl (by kernel_rfl) (by kernel_rfl) (by kernel_rfl) (fun _ _ _ h => h) (Or.inl ⟨by rfl, ?_⟩) (by assumption) ?_
  rotate_left
  ·intro w hSw
   try dsimp only at hSw
   go_simp
   try with_reducible rfl
  try simp only [Act.put, List.setIfInBounds_toArray, List.set_cons_zero, List.set_cons_succ]
  refine wpAnyH_ready (rs := [4]) (by kernel_rfl) (by simp) ?_
  refine AllReadyH.cons (o := ⟨_, _, _, _, _, _⟩) rfl (fun K hK => ?_) ?_
  rotate_left
  ·exact AllReadyH.nil
  go_simp
  (go_at_call 118; refine (S2.left_any _ b g cl cb HE5.out.2.1).mono ?_; rintro e wq ⟨rfl, rfl⟩; rw [HNL.out])
  refine hK.out _ _ (p5) (fun hHeld => ?_)
  clear hK K
  try simp only [Act.put, List.setIfInBounds_toArray, List.set_cons_zero, List.set_cons_succ]
  refine wpAnyH_take (i := 5) (oi := ⟨_, _, _, _, _, _⟩) (v := ?_) rfl (by kernel_rfl) (by kernel_rfl) (by kernel_rfl) (fun _ _ _ h => h) (Or.inl ⟨by rfl, ?_⟩) (by assumption) ?_
  rotate_left
  ·intro w hSw
   try dsimp only at hSw
   go_simp
   try with_reducible rfl
  try simp only [Act.put, List.setIfInBounds_toArray, List.set_cons_zero, List.set_cons_succ]
  refine wpAnyH_take (i := 6) (oi := ⟨_, _, _, _, _, _⟩) (v := ?_) rfl (by kernel_rfl) (by kernel_rfl) (by kernel_rfl) (fun _ _ _ h => h) (Or.inl ⟨by rfl, ?_⟩) (by assumption) ?_
  rotate_left
  ·intro w hSw
   try dsimp only at hSw
   go_simp
   try with_reducible rfl
  try simp only [Act.put, List.setIfInBounds_toArray, List.set_cons_zero, List.set_cons_succ]
  refine wpAnyH_take (i := 7) (oi := ⟨_, _, _, _, _, _⟩) (v := undef) rfl (by kernel_rfl) (by kernel_rfl) (by kernel_rfl) (fun _ _ _ h => h) (Or.inr ⟨by rfl, rfl⟩) (by assumption) ?_
  try simp only [Act.put, List.setIfInBounds_toArray, List.set_cons_zero, List.set_cons_succ]
  refine wpAnyH_take (i := 8) (oi := ⟨_, _, _, _, _, _⟩) (v := undef) rfl (by kernel_rfl) (by kernel_rfl) (by kernel_rfl) (fun _ _ _ h => h) (Or.inr ⟨by rfl, rfl⟩) (by assumption) ?_
  try simp only [Act.put, List.setIfInBounds_toArray, List.set_cons_zero, List.set_cons_succ]
  refine wpAnyH_take (i := 9) (oi := ⟨_, _, _, _, _, _⟩) (v := undef) rfl (by kernel_rfl) (by kernel_rfl) (by kernel_rfl) (fun _ _ _ h => h) (Or.inr ⟨by rfl, rfl⟩) (by assumption) ?_
  try simp only [Act.put, List.setIfInBounds_toArray, List.set_cons_zero, List.set_cons_succ]
  refine wpAnyH_take (i := 10) (oi := ⟨_, _, _, _, _, _⟩) (v := undef) rfl (by kernel_rfl) (by kernel_rfl) (by kernel_rfl) (fun _ _ _ h => h) (Or.inr ⟨by rfl, rfl⟩) (by assumption) ?_
  try simp only [Act.put, List.setIfInBounds_toArray, List.set_cons_zero, List.set_cons_succ]
  refine wpAnyH_take (i := 12) (oi := ⟨_, _, _, _, _, _⟩) (v := undef) rfl (by kernel_rfl) (by kernel_rfl) (by kernel_rfl) (fun _ _ _ h => h) (Or.inr ⟨by rfl, rfl⟩) (by assumption) ?_
  try simp only [Act.put, List.setIfInBounds_toArray, List.set_cons_zero, List.set_cons_succ]
  refine wpAnyH_take (i := 13) (oi := ⟨_, _, _, _, _, _⟩) (v := undef) rfl (by kernel_rfl) (by kernel_rfl) (by kernel_rfl) (fun _ _ _ h => h) (Or.inr ⟨by rfl, rfl⟩) (by assumption) ?_
  try simp only [Act.put, List.setIfInBounds_toArray, List.set_cons_zero, List.set_cons_succ]
  refine wpAnyH_take (i := 14) (oi := ⟨_, _, _, _, _, _⟩) (v := undef) rfl (by kernel_rfl) (by kernel_rfl) (by kernel_rfl) (fun _ _ _ h => h) (Or.inr ⟨by rfl, rfl⟩) (by assumption) ?_
  try simp only [Act.put, List.setIfInBounds_toArray, List.set_cons_zero, List.set_cons_succ]
  refine wpAnyH_take (i := 15) (oi := ⟨_, _, _, _, _, _⟩) (v := undef) rfl (by kernel_rfl) (by kernel_rfl) (by kernel_rfl) (fun _ _ _ h => h) (Or.inr ⟨by rfl, rfl⟩) (by assumption) ?_
  try simp only [Act.put, List.setIfInBounds_toArray, List.set_cons_zero, List.set_cons_succ]
  refine wpAnyH_take (i := 16) (oi := ⟨_, _, _, _, _, _⟩) (v := undef) rfl (by kernel_rfl) (by kernel_rfl) (by kernel_rfl) (fun _ _ _ h => h) (Or.inr ⟨by rfl, rfl⟩) (by assumption) ?_
  try simp only [Act.put, List.setIfInBounds_toArray, List.set_cons_zero, List.set_cons_succ]
  refine wpAnyH_ready (rs := [11]) (by kernel_rfl) (by simp) ?_
  refine AllReadyH.cons (o := ⟨_, _, _, _, _, _⟩) rfl (fun K hK => ?_) ?_
  rotate_left
  ·exact AllReadyH.nil
  refine ite_no (by rfl) ?_
  refine hK.out _ _ hHeld (fun hHeld => ?_)
  clear hK K
  try simp only [Act.put, List.setIfInBounds_toArray, List.set_cons_zero, List.set_cons_succ]
  refine wpAnyH_ready (rs := [17]) (by kernel_rfl) (by simp) ?_
  refine AllReadyH.cons (o := ⟨_, _, _, _, _, _⟩) rfl (fun K hK => ?_) ?_
  rotate_left
  ·exact AllReadyH.nil
  refine ite_no (by rfl) ?_
  refine hK.out _ _ hHeld (fun hHeld => ?_)
  clear hK K
  try simp only [Act.put, List.setIfInBounds_toArray, List.set_cons_zero, List.set_cons_succ]
  refine wpAnyH_take (i := 18) (oi := ⟨_, _, _, _, _, _⟩) (v := undef) rfl (by kernel_rfl) (by kernel_rfl) (by kernel_rfl) (fun _ _ _ h => h) (Or.inr ⟨by rfl, rfl⟩) (by assumption) ?_
  try simp only [Act.put, List.setIfInBounds_toArray, List.set_cons_zero, List.set_cons_succ]
  refine wpAnyH_take (i := 19) (oi := ⟨_, _, _, _, _, _⟩) (v := ?_) rfl (by kernel_rfl) (by kernel_rfl) (by kernel_rfl) (fun _ _ _ h => h) (Or.inl ⟨by rfl, ?_⟩) (by assumption) ?_
  rotate_left
  ·intro w hSw
   try dsimp only at hSw
   go_simp
   try with_reducible rfl
  try simp only [Act.put, List.setIfInBounds_toArray, List.set_cons_zero, List.set_cons_succ]
  refine wpAnyH_take (i := 20) (oi := ⟨_, _, _, _, _, _⟩) (v := ?_) rfl (by kernel_rfl) (by kernel_rfl) (by kernel_rfl) (fun _ _ _ h => h) (Or.inl ⟨by rfl, ?_⟩) (by assumption) ?_
  rotate_left
  ·intro w hSw
   try dsimp only at hSw
   go_simp
   try with_reducible rfl
  try simp only [Act.put, List.setIfInBounds_toArray, List.set_cons_zero, List.set_cons_succ]
  refine wpAnyH_take (i := 21) (oi := ⟨_, _, _, _, _, _⟩) (v := undef) rfl (by kernel_rfl) (by kernel_rfl) (by kernel_rfl) (fun _ _ _ h => h) (Or.inr ⟨by rfl, rfl⟩) (by assumption) ?_
  try simp only [Act.put, List.setIfInBounds_toArray, List.set_cons_zero, List.set_cons_succ]
  refine wpAnyH_ready (rs := [22]) (by kernel_rfl) (by simp) ?_
  refine AllReadyH.cons (o := ⟨_, _, _, _, _, _⟩) rfl (fun K hK => ?_) ?_
  rotate_left
  ·exact AllReadyH.nil
  refine ite_no (by rfl) ?_
  refine hK.out _ _ hHeld (fun hHeld => ?_)
  clear hK K
  try simp only [Act.put, List.setIfInBounds_toArray, List.set_cons_zero, List.set_cons_succ]
  refine wpAnyH_take (i := 23) (oi := ⟨_, _, _, _, _, _⟩) (v := undef) rfl (by kernel_rfl) (by kernel_rfl) (by kernel_rfl) (fun _ _ _ h => h) (Or.inr ⟨by rfl, rfl⟩) (by assumption) ?_
  try simp only [Act.put, List.setIfInBounds_toArray, List.set_cons_zero, List.set_cons_succ]
  refine wpAnyH_take (i := 24) (oi := ⟨_, _, _, _, _, _⟩) (v := ?_) rfl (by kernel_rfl) (by kernel_rfl) (by kernel_rfl) (fun _ _ _ h => h) (Or.inl ⟨by rfl, ?_⟩) (by assumption) ?_
  rotate_left
  ·intro w hSw
   try dsimp only at hSw
   go_simp
   try with_reducible rfl
  try simp only [Act.put, List.setIfInBounds_toArray, List.set_cons_zero, List.set_cons_succ]
  refine wpAnyH_take (i := 25) (oi := ⟨_, _, _, _, _, _⟩) (v := ?_) rfl (by kernel_rfl) (by kernel_rfl) (by kernel_rfl) (fun _ _ _ h => h) (Or.inl ⟨by rfl, ?_⟩) (by assumption) ?_
  rotate_left
  ·intro w hSw
   try dsimp only at hSw
   go_simp
   try with_reducible rfl
  try simp only [Act.put, List.setIfInBounds_toArray, List.set_cons_zero, List.set_cons_succ]
  refine wpAnyH_done (by kernel_rfl) ?_ _
  go_wp2_with (first | go_skip | ((with_reducible refine atW w5 ?_); refine storeM _ _ rfl rfl _ rfl rfl Kr5.out rfl rfl (by simp [Value.oneCell']) ?_; intro w9 h1 h2; have K9 := Lib.hid h1; have HB9 : Hid (Below w.heap.size w w9) := Lib.hid (below_grown9 HB5.out h2 (Nat.le_refl _)); clear h1 h2))
  refine bodyPost_ret (results_cell_tmp9 Tryz.results55 _ _ _ 80 _ (0, 0) _ rfl K9.out Tryz.underlying80 rfl szMsg) rfl ?_
  exact ⟨⟨.slice none 0 0, .slice none 0 0, .slice none 0 0, .slice none 0 0, .slice none 0 0⟩, by rw [HPN.out]; rfl, by rw [HPN.out]; exact nil_ms _, HB9.out⟩

theorem atDst {P : Program} {ops : Array Oper} {Q : Exit → Act → World → Prop} {a : Act} {w : World} {rest : List Oper} {op : Op} {ty : TypeId} {pos : String} {aft : Array Edge} {g : Option (Nat × Bool)} (d : Nat) (h : wpList P ops Q ({dst:=some d,op:=op,type:=ty, pos := pos,after:=aft,guard:=g } :: rest) a w) : wpList P ops Q ({dst:=some d,op:=op,type:=ty, pos := pos,after:=aft,guard:=g } :: rest) a w := h
theorem mg_ext {a b : Mg} (hkind : a.kind = b.kind) (hfrm : a.frm = b.frm) (hdst : a.dst = b.dst) (hid : a.id = b.id) (hbal : a.bal = b.bal) (hat_ : a.at_ = b.at_) (hops : a.ops = b.ops) (hfast : a.fast = b.fast) (hdeps : a.deps = b.deps) (hhas : a.has = b.has) (hacc : a.acc = b.acc) (hval : a.val = b.val) (hwrites : a.writes = b.writes) (hpairs : a.pairs = b.pairs) : a = b := by
 cases a
 cases b
 simp only at hkind hfrm hdst hid hbal hat_ hops hfast hdeps hhas hacc hval hwrites hpairs
 subst hkind hfrm hdst hid hbal hat_ hops hfast hdeps hhas hacc hval hwrites hpairs
 rfl
instance decMg (a b : Mg) : Decidable (a = b) := @decidable_of_iff (a = b) (a.kind = b.kind ∧ a.frm = b.frm ∧ a.dst = b.dst ∧ a.id = b.id ∧ a.bal = b.bal ∧ a.at_ = b.at_ ∧ a.ops = b.ops ∧ a.fast = b.fast ∧ a.deps = b.deps ∧ a.has = b.has ∧ a.acc = b.acc ∧ a.val = b.val ∧ a.writes = b.writes ∧ a.pairs = b.pairs) ⟨fun ⟨hkind, hfrm, hdst, hid, hbal, hat_, hops, hfast, hdeps, hhas, hacc, hval, hwrites, hpairs⟩ => mg_ext hkind hfrm hdst hid hbal hat_ hops hfast hdeps hhas hacc hval hwrites hpairs, fun h => by subst h; exact ⟨rfl, rfl, rfl, rfl, rfl, rfl, rfl, rfl, rfl, rfl, rfl, rfl, rfl, rfl⟩⟩ ((@instDecidableAnd _ _ inferInstance (@instDecidableAnd _ _ inferInstance (@instDecidableAnd _ _ inferInstance (@instDecidableAnd _ _ inferInstance (@instDecidableAnd _ _ inferInstance (@instDecidableAnd _ _ inferInstance (@instDecidableAnd _ _ inferInstance (@instDecidableAnd _ _ inferInstance (@instDecidableAnd _ _ inferInstance (@instDecidableAnd _ _ inferInstance (@instDecidableAnd _ _ inferInstance (@instDecidableAnd _ _ inferInstance (@instDecidableAnd _ _ inferInstance inferInstance))))))))))))))
theorem rsameM_any (m m2 : Mg) (l l2 : PlM) (W : World) (ha : MsAt W m l) (hb : MsAt W m2 l2) (hf : FewM m) (hf2 : FewM m2) : Calls Tryz.prog 60 #[msV m l, msV m2 l2] W fun e w' => e = .returned (.bool (decide (m = m2))) ∧ Below W.heap.size W w' := by
 have HO := Lib.hid (fun (Y : World) (hY : Below W.heap.size W Y) => opsame_any l.o l2.o m.ops m2.ops Y (by have := hf.ops; omega) (by have := hf2.ops; omega) (ha.o.later hY) (hb.o.later hY))
 have HD := Lib.hid (fun (Y : World) (hY : Below W.heap.size W Y) => dsame9 l.d l2.d m.deps m2.deps Y (ha.d.later hY) (hb.d.later hY) hf.deps)
 have HV := Lib.hid (fun (Y : World) (hY : Below W.heap.size W Y) => rsamev_any m.val m2.val l.v l2.v Y (ha.v.later hY) (hb.v.later hY) hf.vdeps)
 have HW := Lib.hid (fun (Y : World) (hY : Below W.heap.size W Y) => wrsame_any l.w l2.w m.writes m2.writes Y (by have := hf.writes; omega) (by have := hf2.writes; omega) (ha.w.later hY) (hb.w.later hY))
 have HP := Lib.hid (fun (Y : World) (hY : Below W.heap.size W Y) => prsame_any l.p l2.p m.pairs m2.pairs Y (by have := hf.pairs; omega) (by have := hf2.pairs; omega) (ha.p.later hY) (hb.p.later hY))
 clear ha hb hf hf2
 show Calls Tryz.prog 60 #[.agg (msR m l), .agg (msR m2 l2)] W fun e w' => e = .returned (.bool (decide (m = m2))) ∧ Below W.heap.size W w'
 simp only [vlV] at HO HD HV HW HP
 by_cases hkind : m.kind = m2.kind
 ·have Ekind := Lib.hid hkind
  have ekind : (m.kind == m2.kind) = true := by simpa using hkind
  have nkind : (m.kind != m2.kind) = false := by simpa using hkind
  clear hkind
  by_cases hfrm : m.frm = m2.frm
  ·have Efrm := Lib.hid hfrm
   have efrm : (m.frm == m2.frm) = true := by simpa using hfrm
   have nfrm : (m.frm != m2.frm) = false := by simpa using hfrm
   clear hfrm
   by_cases hdst : m.dst = m2.dst
   ·have Edst := Lib.hid hdst
    have edst : (m.dst == m2.dst) = true := by simpa using hdst
    have ndst : (m.dst != m2.dst) = false := by simpa using hdst
    clear hdst
    by_cases hid1 : m.id.1 = m2.id.1
    ·have Eid1 := Lib.hid hid1
     have eid1 : (m.id.1 == m2.id.1) = true := by simpa using hid1
     have nid1 : (m.id.1 != m2.id.1) = false := by simpa using hid1
     clear hid1
     by_cases hid2 : m.id.2 = m2.id.2
     ·have Eid2 := Lib.hid hid2
      have eid2 : (m.id.2 == m2.id.2) = true := by simpa using hid2
      have nid2 : (m.id.2 != m2.id.2) = false := by simpa using hid2
      clear hid2
      by_cases hbal1 : m.bal.1 = m2.bal.1
      ·have Ebal1 := Lib.hid hbal1
       have ebal1 : (m.bal.1 == m2.bal.1) = true := by simpa using hbal1
       have nbal1 : (m.bal.1 != m2.bal.1) = false := by simpa using hbal1
       clear hbal1
       by_cases hbal2 : m.bal.2 = m2.bal.2
       ·have Ebal2 := Lib.hid hbal2
        have ebal2 : (m.bal.2 == m2.bal.2) = true := by simpa using hbal2
        have nbal2 : (m.bal.2 != m2.bal.2) = false := by simpa using hbal2
        clear hbal2
        by_cases hat_1 : m.at_.1 = m2.at_.1
        ·have Eat_1 := Lib.hid hat_1
         have eat_1 : (m.at_.1 == m2.at_.1) = true := by simpa using hat_1
         have nat_1 : (m.at_.1 != m2.at_.1) = false := by simpa using hat_1
         clear hat_1
         by_cases hat_2 : m.at_.2 = m2.at_.2
         ·have Eat_2 := Lib.hid hat_2
          have eat_2 : (m.at_.2 == m2.at_.2) = true := by simpa using hat_2
          have nat_2 : (m.at_.2 != m2.at_.2) = false := by simpa using hat_2
          clear hat_2
          by_cases hops : m.ops = m2.ops
          ·have Eops := Lib.hid hops
           rw [decide_eq_true hops] at HO
           clear hops
           by_cases hfast : m.fast = m2.fast
           ·have Efast := Lib.hid hfast
            have efast : (m.fast == m2.fast) = true := by simpa using hfast
            have nfast : (m.fast != m2.fast) = false := by simpa using hfast
            clear hfast
            by_cases hdeps : m.deps = m2.deps
            ·have Edeps := Lib.hid hdeps
             rw [decide_eq_true hdeps] at HD
             clear hdeps
             by_cases hhas : m.has = m2.has
             ·have Ehas := Lib.hid hhas
              have ehas : (m.has == m2.has) = true := by simpa using hhas
              have nhas : (m.has != m2.has) = false := by simpa using hhas
              clear hhas
              by_cases hacc1 : m.acc.1 = m2.acc.1
              ·have Eacc1 := Lib.hid hacc1
               have eacc1 : (m.acc.1 == m2.acc.1) = true := by simpa using hacc1
               have nacc1 : (m.acc.1 != m2.acc.1) = false := by simpa using hacc1
               clear hacc1
               by_cases hacc2 : m.acc.2 = m2.acc.2
               ·have Eacc2 := Lib.hid hacc2
                have eacc2 : (m.acc.2 == m2.acc.2) = true := by simpa using hacc2
                have nacc2 : (m.acc.2 != m2.acc.2) = false := by simpa using hacc2
                clear hacc2
                by_cases hval : m.val = m2.val
                ·have Eval := Lib.hid hval
                 rw [decide_eq_true hval] at HV
                 clear hval
                 by_cases hwrites : m.writes = m2.writes
                 ·have Ewrites := Lib.hid hwrites
                  rw [decide_eq_true hwrites] at HW
                  clear hwrites
                  by_cases hpairs : m.pairs = m2.pairs
                  ·have hv : decide (m = m2) = true := decide_eq_true (mg_ext (Ekind.out) (Efrm.out) (Edst.out) (Prod.ext Eid1.out Eid2.out) (Prod.ext Ebal1.out Ebal2.out) (Prod.ext Eat_1.out Eat_2.out) (Eops.out) (Efast.out) (Edeps.out) (Ehas.out) (Prod.ext Eacc1.out Eacc2.out) (Eval.out) (Ewrites.out) hpairs)
                   rw [hv]
                   clear hv
                   rw [decide_eq_true hpairs] at HP
                   clear hpairs
                   obtain ⟨w0, he0, hw0, kQa, kQb, hb0⟩ := boxes2 W (.cells (msR m l) 80) (.cells (msR m2 l2) 80)
                   have Ka0 := Lib.hid kQa
                   have Kb0 := Lib.hid kQb
                   have HB0 := Lib.hid hb0
                   have HE0 := Lib.hid he0
                   clear he0 hb0 kQa kQb
                   go_enter Tryz.func60, Tryz.ntmps60
                   go_upto_region 1 with fail
                   rw [← HE0.out]
                   go_wp2_with (first | go_skip | ((with_reducible refine atC w4 ?_); go_at_call 47; refine (HP.out _ HB4.out).mono ?_; rintro e w5 ⟨rfl, h5⟩; have hw5 := Nat.le_trans hw4 h5.size; have HB5 : Hid (Below W.heap.size W w5) := Lib.hid (blThen HB4.out h5); have Ka5 := Lib.hid ((h5.block W.heap.size (by omega)).trans Ka4.out); have Kb5 := Lib.hid ((h5.block (W.heap.size + 1) (by omega)).trans Kb4.out); clear h5) | ((with_reducible refine atDst 97 ?_); refine wpList_load_one _ _ rfl (by rfl) _ 20 rfl Kb4.out Tryz.underlying29 rfl (show ((msR m2 l2))[20]? = some (l2.p) from rfl) ?_) | ((with_reducible refine atDst 95 ?_); refine wpList_load_one _ _ rfl (by rfl) _ 20 rfl Ka4.out Tryz.underlying29 rfl (show ((msR m l))[20]? = some (l.p) from rfl) ?_) | ((with_reducible refine atC w3 ?_); go_at_call 75; refine (HW.out _ HB3.out).mono ?_; rintro e w4 ⟨rfl, h5⟩; have hw4 := Nat.le_trans hw3 h5.size; have HB4 : Hid (Below W.heap.size W w4) := Lib.hid (blThen HB3.out h5); have Ka4 := Lib.hid ((h5.block W.heap.size (by omega)).trans Ka3.out); have Kb4 := Lib.hid ((h5.block (W.heap.size + 1) (by omega)).trans Kb3.out); clear h5) | ((with_reducible refine atDst 90 ?_); refine wpList_load_one _ _ rfl (by rfl) _ 19 rfl Kb3.out Tryz.underlying28 rfl (show ((msR m2 l2))[19]? = some (l2.w) from rfl) ?_) | ((with_reducible refine atDst 88 ?_); refine wpList_load_one _ _ rfl (by rfl) _ 19 rfl Ka3.out Tryz.underlying28 rfl (show ((msR m l))[19]? = some (l.w) from rfl) ?_) | ((with_reducible refine atC w2 ?_); go_at_call 34; refine (HV.out _ HB2.out).mono ?_; rintro e w3 ⟨rfl, h5⟩; have hw3 := Nat.le_trans hw2 h5.size; have HB3 : Hid (Below W.heap.size W w3) := Lib.hid (blThen HB2.out h5); have Ka3 := Lib.hid ((h5.block W.heap.size (by omega)).trans Ka2.out); have Kb3 := Lib.hid ((h5.block (W.heap.size + 1) (by omega)).trans Kb2.out); clear h5) | ((with_reducible refine atDst 83 ?_); refine wpList_load_part _ _ rfl (by rfl) _ 15 rfl Kb2.out Tryz.underlying27 rfl #[.bool m2.val.1, .int .i64 m2.val.2.1.1, .int .i64 m2.val.2.1.2, l2.v] (by kernel_rfl) (four_at rfl rfl rfl rfl) ?_) | ((with_reducible refine atDst 81 ?_); refine wpList_load_part _ _ rfl (by rfl) _ 15 rfl Ka2.out Tryz.underlying27 rfl #[.bool m.val.1, .int .i64 m.val.2.1.1, .int .i64 m.val.2.1.2, l.v] (by kernel_rfl) (four_at rfl rfl rfl rfl) ?_) | ((with_reducible refine atDst 76 ?_); refine wpList_load_part _ _ rfl (by rfl) _ 13 rfl Kb2.out Tryz.underlying23 rfl #[.int .i64 m2.acc.1, .int .i64 m2.acc.2] (by kernel_rfl) (two_at rfl rfl) ?_) | ((with_reducible refine atDst 74 ?_); refine wpList_load_part _ _ rfl (by rfl) _ 13 rfl Ka2.out Tryz.underlying23 rfl #[.int .i64 m.acc.1, .int .i64 m.acc.2] (by kernel_rfl) (two_at rfl rfl) ?_) | ((with_reducible refine atDst 69 ?_); refine wpList_load_one _ _ rfl (by rfl) _ 12 rfl Kb2.out Tryz.underlying4 rfl (show ((msR m2 l2))[12]? = some (.bool m2.has) from rfl) ?_) | ((with_reducible refine atDst 67 ?_); refine wpList_load_one _ _ rfl (by rfl) _ 12 rfl Ka2.out Tryz.underlying4 rfl (show ((msR m l))[12]? = some (.bool m.has) from rfl) ?_) | ((with_reducible refine atC w1 ?_); go_at_call 50; refine (HD.out _ HB1.out).mono ?_; rintro e w2 ⟨rfl, h5⟩; have hw2 := Nat.le_trans hw1 h5.size; have HB2 : Hid (Below W.heap.size W w2) := Lib.hid (blThen HB1.out h5); have Ka2 := Lib.hid ((h5.block W.heap.size (by omega)).trans Ka1.out); have Kb2 := Lib.hid ((h5.block (W.heap.size + 1) (by omega)).trans Kb1.out); clear h5) | ((with_reducible refine atDst 63 ?_); refine wpList_load_one _ _ rfl (by rfl) _ 11 rfl Kb1.out Tryz.underlying25 rfl (show ((msR m2 l2))[11]? = some (l2.d) from rfl) ?_) | ((with_reducible refine atDst 61 ?_); refine wpList_load_one _ _ rfl (by rfl) _ 11 rfl Ka1.out Tryz.underlying25 rfl (show ((msR m l))[11]? = some (l.d) from rfl) ?_) | ((with_reducible refine atDst 57 ?_); refine wpList_load_one _ _ rfl (by rfl) _ 10 rfl Kb1.out Tryz.underlying4 rfl (show ((msR m2 l2))[10]? = some (.bool m2.fast) from rfl) ?_) | ((with_reducible refine atDst 55 ?_); refine wpList_load_one _ _ rfl (by rfl) _ 10 rfl Ka1.out Tryz.underlying4 rfl (show ((msR m l))[10]? = some (.bool m.fast) from rfl) ?_) | ((with_reducible refine atC w0 ?_); go_at_call 33; refine (HO.out _ HB0.out).mono ?_; rintro e w1 ⟨rfl, h5⟩; have hw1 := Nat.le_trans hw0 h5.size; have HB1 : Hid (Below W.heap.size W w1) := Lib.hid (blThen HB0.out h5); have Ka1 := Lib.hid ((h5.block W.heap.size (by omega)).trans Ka0.out); have Kb1 := Lib.hid ((h5.block (W.heap.size + 1) (by omega)).trans Kb0.out); clear h5) | ((with_reducible refine atDst 49 ?_); refine wpList_load_one _ _ rfl (by rfl) _ 9 rfl Kb0.out Tryz.underlying24 rfl (show ((msR m2 l2))[9]? = some (l2.o) from rfl) ?_) | ((with_reducible refine atDst 47 ?_); refine wpList_load_one _ _ rfl (by rfl) _ 9 rfl Ka0.out Tryz.underlying24 rfl (show ((msR m l))[9]? = some (l.o) from rfl) ?_) | ((with_reducible refine atDst 42 ?_); refine wpList_load_part _ _ rfl (by rfl) _ 7 rfl Kb0.out Tryz.underlying23 rfl #[.int .i64 m2.at_.1, .int .i64 m2.at_.2] (by kernel_rfl) (two_at rfl rfl) ?_) | ((with_reducible refine atDst 40 ?_); refine wpList_load_part _ _ rfl (by rfl) _ 7 rfl Ka0.out Tryz.underlying23 rfl #[.int .i64 m.at_.1, .int .i64 m.at_.2] (by kernel_rfl) (two_at rfl rfl) ?_) | ((with_reducible refine atDst 35 ?_); refine wpList_load_part _ _ rfl (by rfl) _ 5 rfl Kb0.out Tryz.underlying23 rfl #[.int .i64 m2.bal.1, .int .i64 m2.bal.2] (by kernel_rfl) (two_at rfl rfl) ?_) | ((with_reducible refine atDst 33 ?_); refine wpList_load_part _ _ rfl (by rfl) _ 5 rfl Ka0.out Tryz.underlying23 rfl #[.int .i64 m.bal.1, .int .i64 m.bal.2] (by kernel_rfl) (two_at rfl rfl) ?_) | ((with_reducible refine atDst 28 ?_); refine wpList_load_part _ _ rfl (by rfl) _ 3 rfl Kb0.out Tryz.underlying23 rfl #[.int .i64 m2.id.1, .int .i64 m2.id.2] (by kernel_rfl) (two_at rfl rfl) ?_) | ((with_reducible refine atDst 26 ?_); refine wpList_load_part _ _ rfl (by rfl) _ 3 rfl Ka0.out Tryz.underlying23 rfl #[.int .i64 m.id.1, .int .i64 m.id.2] (by kernel_rfl) (two_at rfl rfl) ?_) | ((with_reducible refine atDst 21 ?_); refine wpList_load_one _ _ rfl (by rfl) _ 2 rfl Kb0.out Tryz.underlying3 rfl (show ((msR m2 l2))[2]? = some (.int .i64 m2.dst) from rfl) ?_) | ((with_reducible refine atDst 19 ?_); refine wpList_load_one _ _ rfl (by rfl) _ 2 rfl Ka0.out Tryz.underlying3 rfl (show ((msR m l))[2]? = some (.int .i64 m.dst) from rfl) ?_) | ((with_reducible refine atDst 14 ?_); refine wpList_load_one _ _ rfl (by rfl) _ 1 rfl Kb0.out Tryz.underlying3 rfl (show ((msR m2 l2))[1]? = some (.int .i64 m2.frm) from rfl) ?_) | ((with_reducible refine atDst 12 ?_); refine wpList_load_one _ _ rfl (by rfl) _ 1 rfl Ka0.out Tryz.underlying3 rfl (show ((msR m l))[1]? = some (.int .i64 m.frm) from rfl) ?_) | ((with_reducible refine atDst 8 ?_); refine wpList_load_one _ _ rfl (by rfl) _ 0 rfl Kb0.out Tryz.underlying3 rfl (show ((msR m2 l2))[0]? = some (.int .i64 m2.kind) from rfl) ?_) | ((with_reducible refine atDst 6 ?_); refine wpList_load_one _ _ rfl (by rfl) _ 0 rfl Ka0.out Tryz.underlying3 rfl (show ((msR m l))[0]? = some (.int .i64 m.kind) from rfl) ?_))
                   go_ret
                   exact ⟨rfl, HB5.out⟩
                  ·have hv : decide (m = m2) = false := decide_eq_false (fun e => hpairs (congrArg Mg.pairs e))
                   rw [hv]
                   clear hv
                   rw [decide_eq_false hpairs] at HP
                   clear hpairs
                   obtain ⟨w0, he0, hw0, kQa, kQb, hb0⟩ := boxes2 W (.cells (msR m l) 80) (.cells (msR m2 l2) 80)
                   have Ka0 := Lib.hid kQa
                   have Kb0 := Lib.hid kQb
                   have HB0 := Lib.hid hb0
                   have HE0 := Lib.hid he0
                   clear he0 hb0 kQa kQb
                   go_enter Tryz.func60, Tryz.ntmps60
                   go_upto_region 1 with fail
                   rw [← HE0.out]
                   go_wp2_with (first | go_skip | ((with_reducible refine atC w4 ?_); go_at_call 47; refine (HP.out _ HB4.out).mono ?_; rintro e w5 ⟨rfl, h5⟩; have hw5 := Nat.le_trans hw4 h5.size; have HB5 : Hid (Below W.heap.size W w5) := Lib.hid (blThen HB4.out h5); have Ka5 := Lib.hid ((h5.block W.heap.size (by omega)).trans Ka4.out); have Kb5 := Lib.hid ((h5.block (W.heap.size + 1) (by omega)).trans Kb4.out); clear h5) | ((with_reducible refine atDst 97 ?_); refine wpList_load_one _ _ rfl (by rfl) _ 20 rfl Kb4.out Tryz.underlying29 rfl (show ((msR m2 l2))[20]? = some (l2.p) from rfl) ?_) | ((with_reducible refine atDst 95 ?_); refine wpList_load_one _ _ rfl (by rfl) _ 20 rfl Ka4.out Tryz.underlying29 rfl (show ((msR m l))[20]? = some (l.p) from rfl) ?_) | ((with_reducible refine atC w3 ?_); go_at_call 75; refine (HW.out _ HB3.out).mono ?_; rintro e w4 ⟨rfl, h5⟩; have hw4 := Nat.le_trans hw3 h5.size; have HB4 : Hid (Below W.heap.size W w4) := Lib.hid (blThen HB3.out h5); have Ka4 := Lib.hid ((h5.block W.heap.size (by omega)).trans Ka3.out); have Kb4 := Lib.hid ((h5.block (W.heap.size + 1) (by omega)).trans Kb3.out); clear h5) | ((with_reducible refine atDst 90 ?_); refine wpList_load_one _ _ rfl (by rfl) _ 19 rfl Kb3.out Tryz.underlying28 rfl (show ((msR m2 l2))[19]? = some (l2.w) from rfl) ?_) | ((with_reducible refine atDst 88 ?_); refine wpList_load_one _ _ rfl (by rfl) _ 19 rfl Ka3.out Tryz.underlying28 rfl (show ((msR m l))[19]? = some (l.w) from rfl) ?_) | ((with_reducible refine atC w2 ?_); go_at_call 34; refine (HV.out _ HB2.out).mono ?_; rintro e w3 ⟨rfl, h5⟩; have hw3 := Nat.le_trans hw2 h5.size; have HB3 : Hid (Below W.heap.size W w3) := Lib.hid (blThen HB2.out h5); have Ka3 := Lib.hid ((h5.block W.heap.size (by omega)).trans Ka2.out); have Kb3 := Lib.hid ((h5.block (W.heap.size + 1) (by omega)).trans Kb2.out); clear h5) | ((with_reducible refine atDst 83 ?_); refine wpList_load_part _ _ rfl (by rfl) _ 15 rfl Kb2.out Tryz.underlying27 rfl #[.bool m2.val.1, .int .i64 m2.val.2.1.1, .int .i64 m2.val.2.1.2, l2.v] (by kernel_rfl) (four_at rfl rfl rfl rfl) ?_) | ((with_reducible refine atDst 81 ?_); refine wpList_load_part _ _ rfl (by rfl) _ 15 rfl Ka2.out Tryz.underlying27 rfl #[.bool m.val.1, .int .i64 m.val.2.1.1, .int .i64 m.val.2.1.2, l.v] (by kernel_rfl) (four_at rfl rfl rfl rfl) ?_) | ((with_reducible refine atDst 76 ?_); refine wpList_load_part _ _ rfl (by rfl) _ 13 rfl Kb2.out Tryz.underlying23 rfl #[.int .i64 m2.acc.1, .int .i64 m2.acc.2] (by kernel_rfl) (two_at rfl rfl) ?_) | ((with_reducible refine atDst 74 ?_); refine wpList_load_part _ _ rfl (by rfl) _ 13 rfl Ka2.out Tryz.underlying23 rfl #[.int .i64 m.acc.1, .int .i64 m.acc.2] (by kernel_rfl) (two_at rfl rfl) ?_) | ((with_reducible refine atDst 69 ?_); refine wpList_load_one _ _ rfl (by rfl) _ 12 rfl Kb2.out Tryz.underlying4 rfl (show ((msR m2 l2))[12]? = some (.bool m2.has) from rfl) ?_) | ((with_reducible refine atDst 67 ?_); refine wpList_load_one _ _ rfl (by rfl) _ 12 rfl Ka2.out Tryz.underlying4 rfl (show ((msR m l))[12]? = some (.bool m.has) from rfl) ?_) | ((with_reducible refine atC w1 ?_); go_at_call 50; refine (HD.out _ HB1.out).mono ?_; rintro e w2 ⟨rfl, h5⟩; have hw2 := Nat.le_trans hw1 h5.size; have HB2 : Hid (Below W.heap.size W w2) := Lib.hid (blThen HB1.out h5); have Ka2 := Lib.hid ((h5.block W.heap.size (by omega)).trans Ka1.out); have Kb2 := Lib.hid ((h5.block (W.heap.size + 1) (by omega)).trans Kb1.out); clear h5) | ((with_reducible refine atDst 63 ?_); refine wpList_load_one _ _ rfl (by rfl) _ 11 rfl Kb1.out Tryz.underlying25 rfl (show ((msR m2 l2))[11]? = some (l2.d) from rfl) ?_) | ((with_reducible refine atDst 61 ?_); refine wpList_load_one _ _ rfl (by rfl) _ 11 rfl Ka1.out Tryz.underlying25 rfl (show ((msR m l))[11]? = some (l.d) from rfl) ?_) | ((with_reducible refine atDst 57 ?_); refine wpList_load_one _ _ rfl (by rfl) _ 10 rfl Kb1.out Tryz.underlying4 rfl (show ((msR m2 l2))[10]? = some (.bool m2.fast) from rfl) ?_) | ((with_reducible refine atDst 55 ?_); refine wpList_load_one _ _ rfl (by rfl) _ 10 rfl Ka1.out Tryz.underlying4 rfl (show ((msR m l))[10]? = some (.bool m.fast) from rfl) ?_) | ((with_reducible refine atC w0 ?_); go_at_call 33; refine (HO.out _ HB0.out).mono ?_; rintro e w1 ⟨rfl, h5⟩; have hw1 := Nat.le_trans hw0 h5.size; have HB1 : Hid (Below W.heap.size W w1) := Lib.hid (blThen HB0.out h5); have Ka1 := Lib.hid ((h5.block W.heap.size (by omega)).trans Ka0.out); have Kb1 := Lib.hid ((h5.block (W.heap.size + 1) (by omega)).trans Kb0.out); clear h5) | ((with_reducible refine atDst 49 ?_); refine wpList_load_one _ _ rfl (by rfl) _ 9 rfl Kb0.out Tryz.underlying24 rfl (show ((msR m2 l2))[9]? = some (l2.o) from rfl) ?_) | ((with_reducible refine atDst 47 ?_); refine wpList_load_one _ _ rfl (by rfl) _ 9 rfl Ka0.out Tryz.underlying24 rfl (show ((msR m l))[9]? = some (l.o) from rfl) ?_) | ((with_reducible refine atDst 42 ?_); refine wpList_load_part _ _ rfl (by rfl) _ 7 rfl Kb0.out Tryz.underlying23 rfl #[.int .i64 m2.at_.1, .int .i64 m2.at_.2] (by kernel_rfl) (two_at rfl rfl) ?_) | ((with_reducible refine atDst 40 ?_); refine wpList_load_part _ _ rfl (by rfl) _ 7 rfl Ka0.out Tryz.underlying23 rfl #[.int .i64 m.at_.1, .int .i64 m.at_.2] (by kernel_rfl) (two_at rfl rfl) ?_) | ((with_reducible refine atDst 35 ?_); refine wpList_load_part _ _ rfl (by rfl) _ 5 rfl Kb0.out Tryz.underlying23 rfl #[.int .i64 m2.bal.1, .int .i64 m2.bal.2] (by kernel_rfl) (two_at rfl rfl) ?_) | ((with_reducible refine atDst 33 ?_); refine wpList_load_part _ _ rfl (by rfl) _ 5 rfl Ka0.out Tryz.underlying23 rfl #[.int .i64 m.bal.1, .int .i64 m.bal.2] (by kernel_rfl) (two_at rfl rfl) ?_) | ((with_reducible refine atDst 28 ?_); refine wpList_load_part _ _ rfl (by rfl) _ 3 rfl Kb0.out Tryz.underlying23 rfl #[.int .i64 m2.id.1, .int .i64 m2.id.2] (by kernel_rfl) (two_at rfl rfl) ?_) | ((with_reducible refine atDst 26 ?_); refine wpList_load_part _ _ rfl (by rfl) _ 3 rfl Ka0.out Tryz.underlying23 rfl #[.int .i64 m.id.1, .int .i64 m.id.2] (by kernel_rfl) (two_at rfl rfl) ?_) | ((with_reducible refine atDst 21 ?_); refine wpList_load_one _ _ rfl (by rfl) _ 2 rfl Kb0.out Tryz.underlying3 rfl (show ((msR m2 l2))[2]? = some (.int .i64 m2.dst) from rfl) ?_) | ((with_reducible refine atDst 19 ?_); refine wpList_load_one _ _ rfl (by rfl) _ 2 rfl Ka0.out Tryz.underlying3 rfl (show ((msR m l))[2]? = some (.int .i64 m.dst) from rfl) ?_) | ((with_reducible refine atDst 14 ?_); refine wpList_load_one _ _ rfl (by rfl) _ 1 rfl Kb0.out Tryz.underlying3 rfl (show ((msR m2 l2))[1]? = some (.int .i64 m2.frm) from rfl) ?_) | ((with_reducible refine atDst 12 ?_); refine wpList_load_one _ _ rfl (by rfl) _ 1 rfl Ka0.out Tryz.underlying3 rfl (show ((msR m l))[1]? = some (.int .i64 m.frm) from rfl) ?_) | ((with_reducible refine atDst 8 ?_); refine wpList_load_one _ _ rfl (by rfl) _ 0 rfl Kb0.out Tryz.underlying3 rfl (show ((msR m2 l2))[0]? = some (.int .i64 m2.kind) from rfl) ?_) | ((with_reducible refine atDst 6 ?_); refine wpList_load_one _ _ rfl (by rfl) _ 0 rfl Ka0.out Tryz.underlying3 rfl (show ((msR m l))[0]? = some (.int .i64 m.kind) from rfl) ?_))
                   go_ret
                   exact ⟨rfl, HB5.out⟩
                 ·have hv : decide (m = m2) = false := decide_eq_false (fun e => hwrites (congrArg Mg.writes e))
                  rw [hv]
                  clear hv
                  rw [decide_eq_false hwrites] at HW
                  clear hwrites
                  obtain ⟨w0, he0, hw0, kQa, kQb, hb0⟩ := boxes2 W (.cells (msR m l) 80) (.cells (msR m2 l2) 80)
                  have Ka0 := Lib.hid kQa
                  have Kb0 := Lib.hid kQb
                  have HB0 := Lib.hid hb0
                  have HE0 := Lib.hid he0
                  clear he0 hb0 kQa kQb
                  go_enter Tryz.func60, Tryz.ntmps60
                  go_upto_region 1 with fail
                  rw [← HE0.out]
                  go_wp2_with (first | go_skip | ((with_reducible refine atC w3 ?_); go_at_call 75; refine (HW.out _ HB3.out).mono ?_; rintro e w4 ⟨rfl, h5⟩; have hw4 := Nat.le_trans hw3 h5.size; have HB4 : Hid (Below W.heap.size W w4) := Lib.hid (blThen HB3.out h5); have Ka4 := Lib.hid ((h5.block W.heap.size (by omega)).trans Ka3.out); have Kb4 := Lib.hid ((h5.block (W.heap.size + 1) (by omega)).trans Kb3.out); clear h5) | ((with_reducible refine atDst 90 ?_); refine wpList_load_one _ _ rfl (by rfl) _ 19 rfl Kb3.out Tryz.underlying28 rfl (show ((msR m2 l2))[19]? = some (l2.w) from rfl) ?_) | ((with_reducible refine atDst 88 ?_); refine wpList_load_one _ _ rfl (by rfl) _ 19 rfl Ka3.out Tryz.underlying28 rfl (show ((msR m l))[19]? = some (l.w) from rfl) ?_) | ((with_reducible refine atC w2 ?_); go_at_call 34; refine (HV.out _ HB2.out).mono ?_; rintro e w3 ⟨rfl, h5⟩; have hw3 := Nat.le_trans hw2 h5.size; have HB3 : Hid (Below W.heap.size W w3) := Lib.hid (blThen HB2.out h5); have Ka3 := Lib.hid ((h5.block W.heap.size (by omega)).trans Ka2.out); have Kb3 := Lib.hid ((h5.block (W.heap.size + 1) (by omega)).trans Kb2.out); clear h5) | ((with_reducible refine atDst 83 ?_); refine wpList_load_part _ _ rfl (by rfl) _ 15 rfl Kb2.out Tryz.underlying27 rfl #[.bool m2.val.1, .int .i64 m2.val.2.1.1, .int .i64 m2.val.2.1.2, l2.v] (by kernel_rfl) (four_at rfl rfl rfl rfl) ?_) | ((with_reducible refine atDst 81 ?_); refine wpList_load_part _ _ rfl (by rfl) _ 15 rfl Ka2.out Tryz.underlying27 rfl #[.bool m.val.1, .int .i64 m.val.2.1.1, .int .i64 m.val.2.1.2, l.v] (by kernel_rfl) (four_at rfl rfl rfl rfl) ?_) | ((with_reducible refine atDst 76 ?_); refine wpList_load_part _ _ rfl (by rfl) _ 13 rfl Kb2.out Tryz.underlying23 rfl #[.int .i64 m2.acc.1, .int .i64 m2.acc.2] (by kernel_rfl) (two_at rfl rfl) ?_) | ((with_reducible refine atDst 74 ?_); refine wpList_load_part _ _ rfl (by rfl) _ 13 rfl Ka2.out Tryz.underlying23 rfl #[.int .i64 m.acc.1, .int .i64 m.acc.2] (by kernel_rfl) (two_at rfl rfl) ?_) | ((with_reducible refine atDst 69 ?_); refine wpList_load_one _ _ rfl (by rfl) _ 12 rfl Kb2.out Tryz.underlying4 rfl (show ((msR m2 l2))[12]? = some (.bool m2.has) from rfl) ?_) | ((with_reducible refine atDst 67 ?_); refine wpList_load_one _ _ rfl (by rfl) _ 12 rfl Ka2.out Tryz.underlying4 rfl (show ((msR m l))[12]? = some (.bool m.has) from rfl) ?_) | ((with_reducible refine atC w1 ?_); go_at_call 50; refine (HD.out _ HB1.out).mono ?_; rintro e w2 ⟨rfl, h5⟩; have hw2 := Nat.le_trans hw1 h5.size; have HB2 : Hid (Below W.heap.size W w2) := Lib.hid (blThen HB1.out h5); have Ka2 := Lib.hid ((h5.block W.heap.size (by omega)).trans Ka1.out); have Kb2 := Lib.hid ((h5.block (W.heap.size + 1) (by omega)).trans Kb1.out); clear h5) | ((with_reducible refine atDst 63 ?_); refine wpList_load_one _ _ rfl (by rfl) _ 11 rfl Kb1.out Tryz.underlying25 rfl (show ((msR m2 l2))[11]? = some (l2.d) from rfl) ?_) | ((with_reducible refine atDst 61 ?_); refine wpList_load_one _ _ rfl (by rfl) _ 11 rfl Ka1.out Tryz.underlying25 rfl (show ((msR m l))[11]? = some (l.d) from rfl) ?_) | ((with_reducible refine atDst 57 ?_); refine wpList_load_one _ _ rfl (by rfl) _ 10 rfl Kb1.out Tryz.underlying4 rfl (show ((msR m2 l2))[10]? = some (.bool m2.fast) from rfl) ?_) | ((with_reducible refine atDst 55 ?_); refine wpList_load_one _ _ rfl (by rfl) _ 10 rfl Ka1.out Tryz.underlying4 rfl (show ((msR m l))[10]? = some (.bool m.fast) from rfl) ?_) | ((with_reducible refine atC w0 ?_); go_at_call 33; refine (HO.out _ HB0.out).mono ?_; rintro e w1 ⟨rfl, h5⟩; have hw1 := Nat.le_trans hw0 h5.size; have HB1 : Hid (Below W.heap.size W w1) := Lib.hid (blThen HB0.out h5); have Ka1 := Lib.hid ((h5.block W.heap.size (by omega)).trans Ka0.out); have Kb1 := Lib.hid ((h5.block (W.heap.size + 1) (by omega)).trans Kb0.out); clear h5) | ((with_reducible refine atDst 49 ?_); refine wpList_load_one _ _ rfl (by rfl) _ 9 rfl Kb0.out Tryz.underlying24 rfl (show ((msR m2 l2))[9]? = some (l2.o) from rfl) ?_) | ((with_reducible refine atDst 47 ?_); refine wpList_load_one _ _ rfl (by rfl) _ 9 rfl Ka0.out Tryz.underlying24 rfl (show ((msR m l))[9]? = some (l.o) from rfl) ?_) | ((with_reducible refine atDst 42 ?_); refine wpList_load_part _ _ rfl (by rfl) _ 7 rfl Kb0.out Tryz.underlying23 rfl #[.int .i64 m2.at_.1, .int .i64 m2.at_.2] (by kernel_rfl) (two_at rfl rfl) ?_) | ((with_reducible refine atDst 40 ?_); refine wpList_load_part _ _ rfl (by rfl) _ 7 rfl Ka0.out Tryz.underlying23 rfl #[.int .i64 m.at_.1, .int .i64 m.at_.2] (by kernel_rfl) (two_at rfl rfl) ?_) | ((with_reducible refine atDst 35 ?_); refine wpList_load_part _ _ rfl (by rfl) _ 5 rfl Kb0.out Tryz.underlying23 rfl #[.int .i64 m2.bal.1, .int .i64 m2.bal.2] (by kernel_rfl) (two_at rfl rfl) ?_) | ((with_reducible refine atDst 33 ?_); refine wpList_load_part _ _ rfl (by rfl) _ 5 rfl Ka0.out Tryz.underlying23 rfl #[.int .i64 m.bal.1, .int .i64 m.bal.2] (by kernel_rfl) (two_at rfl rfl) ?_) | ((with_reducible refine atDst 28 ?_); refine wpList_load_part _ _ rfl (by rfl) _ 3 rfl Kb0.out Tryz.underlying23 rfl #[.int .i64 m2.id.1, .int .i64 m2.id.2] (by kernel_rfl) (two_at rfl rfl) ?_) | ((with_reducible refine atDst 26 ?_); refine wpList_load_part _ _ rfl (by rfl) _ 3 rfl Ka0.out Tryz.underlying23 rfl #[.int .i64 m.id.1, .int .i64 m.id.2] (by kernel_rfl) (two_at rfl rfl) ?_) | ((with_reducible refine atDst 21 ?_); refine wpList_load_one _ _ rfl (by rfl) _ 2 rfl Kb0.out Tryz.underlying3 rfl (show ((msR m2 l2))[2]? = some (.int .i64 m2.dst) from rfl) ?_) | ((with_reducible refine atDst 19 ?_); refine wpList_load_one _ _ rfl (by rfl) _ 2 rfl Ka0.out Tryz.underlying3 rfl (show ((msR m l))[2]? = some (.int .i64 m.dst) from rfl) ?_) | ((with_reducible refine atDst 14 ?_); refine wpList_load_one _ _ rfl (by rfl) _ 1 rfl Kb0.out Tryz.underlying3 rfl (show ((msR m2 l2))[1]? = some (.int .i64 m2.frm) from rfl) ?_) | ((with_reducible refine atDst 12 ?_); refine wpList_load_one _ _ rfl (by rfl) _ 1 rfl Ka0.out Tryz.underlying3 rfl (show ((msR m l))[1]? = some (.int .i64 m.frm) from rfl) ?_) | ((with_reducible refine atDst 8 ?_); refine wpList_load_one _ _ rfl (by rfl) _ 0 rfl Kb0.out Tryz.underlying3 rfl (show ((msR m2 l2))[0]? = some (.int .i64 m2.kind) from rfl) ?_) | ((with_reducible refine atDst 6 ?_); refine wpList_load_one _ _ rfl (by rfl) _ 0 rfl Ka0.out Tryz.underlying3 rfl (show ((msR m l))[0]? = some (.int .i64 m.kind) from rfl) ?_))
                  go_ret
                  exact ⟨rfl, HB4.out⟩
                ·have hv : decide (m = m2) = false := decide_eq_false (fun e => hval (congrArg Mg.val e))
                 rw [hv]
                 clear hv
                 rw [decide_eq_false hval] at HV
                 clear hval
                 obtain ⟨w0, he0, hw0, kQa, kQb, hb0⟩ := boxes2 W (.cells (msR m l) 80) (.cells (msR m2 l2) 80)
                 have Ka0 := Lib.hid kQa
                 have Kb0 := Lib.hid kQb
                 have HB0 := Lib.hid hb0
                 have HE0 := Lib.hid he0
                 clear he0 hb0 kQa kQb
                 go_enter Tryz.func60, Tryz.ntmps60
                 go_upto_region 1 with fail
                 rw [← HE0.out]
                 go_wp2_with (first | go_skip | ((with_reducible refine atC w2 ?_); go_at_call 34; refine (HV.out _ HB2.out).mono ?_; rintro e w3 ⟨rfl, h5⟩; have hw3 := Nat.le_trans hw2 h5.size; have HB3 : Hid (Below W.heap.size W w3) := Lib.hid (blThen HB2.out h5); have Ka3 := Lib.hid ((h5.block W.heap.size (by omega)).trans Ka2.out); have Kb3 := Lib.hid ((h5.block (W.heap.size + 1) (by omega)).trans Kb2.out); clear h5) | ((with_reducible refine atDst 83 ?_); refine wpList_load_part _ _ rfl (by rfl) _ 15 rfl Kb2.out Tryz.underlying27 rfl #[.bool m2.val.1, .int .i64 m2.val.2.1.1, .int .i64 m2.val.2.1.2, l2.v] (by kernel_rfl) (four_at rfl rfl rfl rfl) ?_) | ((with_reducible refine atDst 81 ?_); refine wpList_load_part _ _ rfl (by rfl) _ 15 rfl Ka2.out Tryz.underlying27 rfl #[.bool m.val.1, .int .i64 m.val.2.1.1, .int .i64 m.val.2.1.2, l.v] (by kernel_rfl) (four_at rfl rfl rfl rfl) ?_) | ((with_reducible refine atDst 76 ?_); refine wpList_load_part _ _ rfl (by rfl) _ 13 rfl Kb2.out Tryz.underlying23 rfl #[.int .i64 m2.acc.1, .int .i64 m2.acc.2] (by kernel_rfl) (two_at rfl rfl) ?_) | ((with_reducible refine atDst 74 ?_); refine wpList_load_part _ _ rfl (by rfl) _ 13 rfl Ka2.out Tryz.underlying23 rfl #[.int .i64 m.acc.1, .int .i64 m.acc.2] (by kernel_rfl) (two_at rfl rfl) ?_) | ((with_reducible refine atDst 69 ?_); refine wpList_load_one _ _ rfl (by rfl) _ 12 rfl Kb2.out Tryz.underlying4 rfl (show ((msR m2 l2))[12]? = some (.bool m2.has) from rfl) ?_) | ((with_reducible refine atDst 67 ?_); refine wpList_load_one _ _ rfl (by rfl) _ 12 rfl Ka2.out Tryz.underlying4 rfl (show ((msR m l))[12]? = some (.bool m.has) from rfl) ?_) | ((with_reducible refine atC w1 ?_); go_at_call 50; refine (HD.out _ HB1.out).mono ?_; rintro e w2 ⟨rfl, h5⟩; have hw2 := Nat.le_trans hw1 h5.size; have HB2 : Hid (Below W.heap.size W w2) := Lib.hid (blThen HB1.out h5); have Ka2 := Lib.hid ((h5.block W.heap.size (by omega)).trans Ka1.out); have Kb2 := Lib.hid ((h5.block (W.heap.size + 1) (by omega)).trans Kb1.out); clear h5) | ((with_reducible refine atDst 63 ?_); refine wpList_load_one _ _ rfl (by rfl) _ 11 rfl Kb1.out Tryz.underlying25 rfl (show ((msR m2 l2))[11]? = some (l2.d) from rfl) ?_) | ((with_reducible refine atDst 61 ?_); refine wpList_load_one _ _ rfl (by rfl) _ 11 rfl Ka1.out Tryz.underlying25 rfl (show ((msR m l))[11]? = some (l.d) from rfl) ?_) | ((with_reducible refine atDst 57 ?_); refine wpList_load_one _ _ rfl (by rfl) _ 10 rfl Kb1.out Tryz.underlying4 rfl (show ((msR m2 l2))[10]? = some (.bool m2.fast) from rfl) ?_) | ((with_reducible refine atDst 55 ?_); refine wpList_load_one _ _ rfl (by rfl) _ 10 rfl Ka1.out Tryz.underlying4 rfl (show ((msR m l))[10]? = some (.bool m.fast) from rfl) ?_) | ((with_reducible refine atC w0 ?_); go_at_call 33; refine (HO.out _ HB0.out).mono ?_; rintro e w1 ⟨rfl, h5⟩; have hw1 := Nat.le_trans hw0 h5.size; have HB1 : Hid (Below W.heap.size W w1) := Lib.hid (blThen HB0.out h5); have Ka1 := Lib.hid ((h5.block W.heap.size (by omega)).trans Ka0.out); have Kb1 := Lib.hid ((h5.block (W.heap.size + 1) (by omega)).trans Kb0.out); clear h5) | ((with_reducible refine atDst 49 ?_); refine wpList_load_one _ _ rfl (by rfl) _ 9 rfl Kb0.out Tryz.underlying24 rfl (show ((msR m2 l2))[9]? = some (l2.o) from rfl) ?_) | ((with_reducible refine atDst 47 ?_); refine wpList_load_one _ _ rfl (by rfl) _ 9 rfl Ka0.out Tryz.underlying24 rfl (show ((msR m l))[9]? = some (l.o) from rfl) ?_) | ((with_reducible refine atDst 42 ?_); refine wpList_load_part _ _ rfl (by rfl) _ 7 rfl Kb0.out Tryz.underlying23 rfl #[.int .i64 m2.at_.1, .int .i64 m2.at_.2] (by kernel_rfl) (two_at rfl rfl) ?_) | ((with_reducible refine atDst 40 ?_); refine wpList_load_part _ _ rfl (by rfl) _ 7 rfl Ka0.out Tryz.underlying23 rfl #[.int .i64 m.at_.1, .int .i64 m.at_.2] (by kernel_rfl) (two_at rfl rfl) ?_) | ((with_reducible refine atDst 35 ?_); refine wpList_load_part _ _ rfl (by rfl) _ 5 rfl Kb0.out Tryz.underlying23 rfl #[.int .i64 m2.bal.1, .int .i64 m2.bal.2] (by kernel_rfl) (two_at rfl rfl) ?_) | ((with_reducible refine atDst 33 ?_); refine wpList_load_part _ _ rfl (by rfl) _ 5 rfl Ka0.out Tryz.underlying23 rfl #[.int .i64 m.bal.1, .int .i64 m.bal.2] (by kernel_rfl) (two_at rfl rfl) ?_) | ((with_reducible refine atDst 28 ?_); refine wpList_load_part _ _ rfl (by rfl) _ 3 rfl Kb0.out Tryz.underlying23 rfl #[.int .i64 m2.id.1, .int .i64 m2.id.2] (by kernel_rfl) (two_at rfl rfl) ?_) | ((with_reducible refine atDst 26 ?_); refine wpList_load_part _ _ rfl (by rfl) _ 3 rfl Ka0.out Tryz.underlying23 rfl #[.int .i64 m.id.1, .int .i64 m.id.2] (by kernel_rfl) (two_at rfl rfl) ?_) | ((with_reducible refine atDst 21 ?_); refine wpList_load_one _ _ rfl (by rfl) _ 2 rfl Kb0.out Tryz.underlying3 rfl (show ((msR m2 l2))[2]? = some (.int .i64 m2.dst) from rfl) ?_) | ((with_reducible refine atDst 19 ?_); refine wpList_load_one _ _ rfl (by rfl) _ 2 rfl Ka0.out Tryz.underlying3 rfl (show ((msR m l))[2]? = some (.int .i64 m.dst) from rfl) ?_) | ((with_reducible refine atDst 14 ?_); refine wpList_load_one _ _ rfl (by rfl) _ 1 rfl Kb0.out Tryz.underlying3 rfl (show ((msR m2 l2))[1]? = some (.int .i64 m2.frm) from rfl) ?_) | ((with_reducible refine atDst 12 ?_); refine wpList_load_one _ _ rfl (by rfl) _ 1 rfl Ka0.out Tryz.underlying3 rfl (show ((msR m l))[1]? = some (.int .i64 m.frm) from rfl) ?_) | ((with_reducible refine atDst 8 ?_); refine wpList_load_one _ _ rfl (by rfl) _ 0 rfl Kb0.out Tryz.underlying3 rfl (show ((msR m2 l2))[0]? = some (.int .i64 m2.kind) from rfl) ?_) | ((with_reducible refine atDst 6 ?_); refine wpList_load_one _ _ rfl (by rfl) _ 0 rfl Ka0.out Tryz.underlying3 rfl (show ((msR m l))[0]? = some (.int .i64 m.kind) from rfl) ?_))
                 go_ret
                 exact ⟨rfl, HB3.out⟩
               ·have hv : decide (m = m2) = false := decide_eq_false (fun e => hacc2 (congrArg (fun m : Mg => m.acc.2) e))
                rw [hv]
                clear hv
                have e1 : (m.acc.2 == m2.acc.2) = false := by simpa using hacc2
                have e2 : (m.acc.2 != m2.acc.2) = true := by simpa using hacc2
                clear hacc2
                obtain ⟨w0, he0, hw0, kQa, kQb, hb0⟩ := boxes2 W (.cells (msR m l) 80) (.cells (msR m2 l2) 80)
                have Ka0 := Lib.hid kQa
                have Kb0 := Lib.hid kQb
                have HB0 := Lib.hid hb0
                have HE0 := Lib.hid he0
                clear he0 hb0 kQa kQb
                go_enter Tryz.func60, Tryz.ntmps60
                go_upto_region 1 with fail
                rw [← HE0.out]
                go_wp2_with (first | go_skip | ((with_reducible refine atDst 76 ?_); refine wpList_load_part _ _ rfl (by rfl) _ 13 rfl Kb2.out Tryz.underlying23 rfl #[.int .i64 m2.acc.1, .int .i64 m2.acc.2] (by kernel_rfl) (two_at rfl rfl) ?_) | ((with_reducible refine atDst 74 ?_); refine wpList_load_part _ _ rfl (by rfl) _ 13 rfl Ka2.out Tryz.underlying23 rfl #[.int .i64 m.acc.1, .int .i64 m.acc.2] (by kernel_rfl) (two_at rfl rfl) ?_) | ((with_reducible refine atDst 69 ?_); refine wpList_load_one _ _ rfl (by rfl) _ 12 rfl Kb2.out Tryz.underlying4 rfl (show ((msR m2 l2))[12]? = some (.bool m2.has) from rfl) ?_) | ((with_reducible refine atDst 67 ?_); refine wpList_load_one _ _ rfl (by rfl) _ 12 rfl Ka2.out Tryz.underlying4 rfl (show ((msR m l))[12]? = some (.bool m.has) from rfl) ?_) | ((with_reducible refine atC w1 ?_); go_at_call 50; refine (HD.out _ HB1.out).mono ?_; rintro e w2 ⟨rfl, h5⟩; have hw2 := Nat.le_trans hw1 h5.size; have HB2 : Hid (Below W.heap.size W w2) := Lib.hid (blThen HB1.out h5); have Ka2 := Lib.hid ((h5.block W.heap.size (by omega)).trans Ka1.out); have Kb2 := Lib.hid ((h5.block (W.heap.size + 1) (by omega)).trans Kb1.out); clear h5) | ((with_reducible refine atDst 63 ?_); refine wpList_load_one _ _ rfl (by rfl) _ 11 rfl Kb1.out Tryz.underlying25 rfl (show ((msR m2 l2))[11]? = some (l2.d) from rfl) ?_) | ((with_reducible refine atDst 61 ?_); refine wpList_load_one _ _ rfl (by rfl) _ 11 rfl Ka1.out Tryz.underlying25 rfl (show ((msR m l))[11]? = some (l.d) from rfl) ?_) | ((with_reducible refine atDst 57 ?_); refine wpList_load_one _ _ rfl (by rfl) _ 10 rfl Kb1.out Tryz.underlying4 rfl (show ((msR m2 l2))[10]? = some (.bool m2.fast) from rfl) ?_) | ((with_reducible refine atDst 55 ?_); refine wpList_load_one _ _ rfl (by rfl) _ 10 rfl Ka1.out Tryz.underlying4 rfl (show ((msR m l))[10]? = some (.bool m.fast) from rfl) ?_) | ((with_reducible refine atC w0 ?_); go_at_call 33; refine (HO.out _ HB0.out).mono ?_; rintro e w1 ⟨rfl, h5⟩; have hw1 := Nat.le_trans hw0 h5.size; have HB1 : Hid (Below W.heap.size W w1) := Lib.hid (blThen HB0.out h5); have Ka1 := Lib.hid ((h5.block W.heap.size (by omega)).trans Ka0.out); have Kb1 := Lib.hid ((h5.block (W.heap.size + 1) (by omega)).trans Kb0.out); clear h5) | ((with_reducible refine atDst 49 ?_); refine wpList_load_one _ _ rfl (by rfl) _ 9 rfl Kb0.out Tryz.underlying24 rfl (show ((msR m2 l2))[9]? = some (l2.o) from rfl) ?_) | ((with_reducible refine atDst 47 ?_); refine wpList_load_one _ _ rfl (by rfl) _ 9 rfl Ka0.out Tryz.underlying24 rfl (show ((msR m l))[9]? = some (l.o) from rfl) ?_) | ((with_reducible refine atDst 42 ?_); refine wpList_load_part _ _ rfl (by rfl) _ 7 rfl Kb0.out Tryz.underlying23 rfl #[.int .i64 m2.at_.1, .int .i64 m2.at_.2] (by kernel_rfl) (two_at rfl rfl) ?_) | ((with_reducible refine atDst 40 ?_); refine wpList_load_part _ _ rfl (by rfl) _ 7 rfl Ka0.out Tryz.underlying23 rfl #[.int .i64 m.at_.1, .int .i64 m.at_.2] (by kernel_rfl) (two_at rfl rfl) ?_) | ((with_reducible refine atDst 35 ?_); refine wpList_load_part _ _ rfl (by rfl) _ 5 rfl Kb0.out Tryz.underlying23 rfl #[.int .i64 m2.bal.1, .int .i64 m2.bal.2] (by kernel_rfl) (two_at rfl rfl) ?_) | ((with_reducible refine atDst 33 ?_); refine wpList_load_part _ _ rfl (by rfl) _ 5 rfl Ka0.out Tryz.underlying23 rfl #[.int .i64 m.bal.1, .int .i64 m.bal.2] (by kernel_rfl) (two_at rfl rfl) ?_) | ((with_reducible refine atDst 28 ?_); refine wpList_load_part _ _ rfl (by rfl) _ 3 rfl Kb0.out Tryz.underlying23 rfl #[.int .i64 m2.id.1, .int .i64 m2.id.2] (by kernel_rfl) (two_at rfl rfl) ?_) | ((with_reducible refine atDst 26 ?_); refine wpList_load_part _ _ rfl (by rfl) _ 3 rfl Ka0.out Tryz.underlying23 rfl #[.int .i64 m.id.1, .int .i64 m.id.2] (by kernel_rfl) (two_at rfl rfl) ?_) | ((with_reducible refine atDst 21 ?_); refine wpList_load_one _ _ rfl (by rfl) _ 2 rfl Kb0.out Tryz.underlying3 rfl (show ((msR m2 l2))[2]? = some (.int .i64 m2.dst) from rfl) ?_) | ((with_reducible refine atDst 19 ?_); refine wpList_load_one _ _ rfl (by rfl) _ 2 rfl Ka0.out Tryz.underlying3 rfl (show ((msR m l))[2]? = some (.int .i64 m.dst) from rfl) ?_) | ((with_reducible refine atDst 14 ?_); refine wpList_load_one _ _ rfl (by rfl) _ 1 rfl Kb0.out Tryz.underlying3 rfl (show ((msR m2 l2))[1]? = some (.int .i64 m2.frm) from rfl) ?_) | ((with_reducible refine atDst 12 ?_); refine wpList_load_one _ _ rfl (by rfl) _ 1 rfl Ka0.out Tryz.underlying3 rfl (show ((msR m l))[1]? = some (.int .i64 m.frm) from rfl) ?_) | ((with_reducible refine atDst 8 ?_); refine wpList_load_one _ _ rfl (by rfl) _ 0 rfl Kb0.out Tryz.underlying3 rfl (show ((msR m2 l2))[0]? = some (.int .i64 m2.kind) from rfl) ?_) | ((with_reducible refine atDst 6 ?_); refine wpList_load_one _ _ rfl (by rfl) _ 0 rfl Ka0.out Tryz.underlying3 rfl (show ((msR m l))[0]? = some (.int .i64 m.kind) from rfl) ?_))
                go_ret
                exact ⟨rfl, HB2.out⟩
              ·have hv : decide (m = m2) = false := decide_eq_false (fun e => hacc1 (congrArg (fun m : Mg => m.acc.1) e))
               rw [hv]
               clear hv
               have e1 : (m.acc.1 == m2.acc.1) = false := by simpa using hacc1
               have e2 : (m.acc.1 != m2.acc.1) = true := by simpa using hacc1
               clear hacc1
               obtain ⟨w0, he0, hw0, kQa, kQb, hb0⟩ := boxes2 W (.cells (msR m l) 80) (.cells (msR m2 l2) 80)
               have Ka0 := Lib.hid kQa
               have Kb0 := Lib.hid kQb
               have HB0 := Lib.hid hb0
               have HE0 := Lib.hid he0
               clear he0 hb0 kQa kQb
               go_enter Tryz.func60, Tryz.ntmps60
               go_upto_region 1 with fail
               rw [← HE0.out]
               go_wp2_with (first | go_skip | ((with_reducible refine atDst 76 ?_); refine wpList_load_part _ _ rfl (by rfl) _ 13 rfl Kb2.out Tryz.underlying23 rfl #[.int .i64 m2.acc.1, .int .i64 m2.acc.2] (by kernel_rfl) (two_at rfl rfl) ?_) | ((with_reducible refine atDst 74 ?_); refine wpList_load_part _ _ rfl (by rfl) _ 13 rfl Ka2.out Tryz.underlying23 rfl #[.int .i64 m.acc.1, .int .i64 m.acc.2] (by kernel_rfl) (two_at rfl rfl) ?_) | ((with_reducible refine atDst 69 ?_); refine wpList_load_one _ _ rfl (by rfl) _ 12 rfl Kb2.out Tryz.underlying4 rfl (show ((msR m2 l2))[12]? = some (.bool m2.has) from rfl) ?_) | ((with_reducible refine atDst 67 ?_); refine wpList_load_one _ _ rfl (by rfl) _ 12 rfl Ka2.out Tryz.underlying4 rfl (show ((msR m l))[12]? = some (.bool m.has) from rfl) ?_) | ((with_reducible refine atC w1 ?_); go_at_call 50; refine (HD.out _ HB1.out).mono ?_; rintro e w2 ⟨rfl, h5⟩; have hw2 := Nat.le_trans hw1 h5.size; have HB2 : Hid (Below W.heap.size W w2) := Lib.hid (blThen HB1.out h5); have Ka2 := Lib.hid ((h5.block W.heap.size (by omega)).trans Ka1.out); have Kb2 := Lib.hid ((h5.block (W.heap.size + 1) (by omega)).trans Kb1.out); clear h5) | ((with_reducible refine atDst 63 ?_); refine wpList_load_one _ _ rfl (by rfl) _ 11 rfl Kb1.out Tryz.underlying25 rfl (show ((msR m2 l2))[11]? = some (l2.d) from rfl) ?_) | ((with_reducible refine atDst 61 ?_); refine wpList_load_one _ _ rfl (by rfl) _ 11 rfl Ka1.out Tryz.underlying25 rfl (show ((msR m l))[11]? = some (l.d) from rfl) ?_) | ((with_reducible refine atDst 57 ?_); refine wpList_load_one _ _ rfl (by rfl) _ 10 rfl Kb1.out Tryz.underlying4 rfl (show ((msR m2 l2))[10]? = some (.bool m2.fast) from rfl) ?_) | ((with_reducible refine atDst 55 ?_); refine wpList_load_one _ _ rfl (by rfl) _ 10 rfl Ka1.out Tryz.underlying4 rfl (show ((msR m l))[10]? = some (.bool m.fast) from rfl) ?_) | ((with_reducible refine atC w0 ?_); go_at_call 33; refine (HO.out _ HB0.out).mono ?_; rintro e w1 ⟨rfl, h5⟩; have hw1 := Nat.le_trans hw0 h5.size; have HB1 : Hid (Below W.heap.size W w1) := Lib.hid (blThen HB0.out h5); have Ka1 := Lib.hid ((h5.block W.heap.size (by omega)).trans Ka0.out); have Kb1 := Lib.hid ((h5.block (W.heap.size + 1) (by omega)).trans Kb0.out); clear h5) | ((with_reducible refine atDst 49 ?_); refine wpList_load_one _ _ rfl (by rfl) _ 9 rfl Kb0.out Tryz.underlying24 rfl (show ((msR m2 l2))[9]? = some (l2.o) from rfl) ?_) | ((with_reducible refine atDst 47 ?_); refine wpList_load_one _ _ rfl (by rfl) _ 9 rfl Ka0.out Tryz.underlying24 rfl (show ((msR m l))[9]? = some (l.o) from rfl) ?_) | ((with_reducible refine atDst 42 ?_); refine wpList_load_part _ _ rfl (by rfl) _ 7 rfl Kb0.out Tryz.underlying23 rfl #[.int .i64 m2.at_.1, .int .i64 m2.at_.2] (by kernel_rfl) (two_at rfl rfl) ?_) | ((with_reducible refine atDst 40 ?_); refine wpList_load_part _ _ rfl (by rfl) _ 7 rfl Ka0.out Tryz.underlying23 rfl #[.int .i64 m.at_.1, .int .i64 m.at_.2] (by kernel_rfl) (two_at rfl rfl) ?_) | ((with_reducible refine atDst 35 ?_); refine wpList_load_part _ _ rfl (by rfl) _ 5 rfl Kb0.out Tryz.underlying23 rfl #[.int .i64 m2.bal.1, .int .i64 m2.bal.2] (by kernel_rfl) (two_at rfl rfl) ?_) | ((with_reducible refine atDst 33 ?_); refine wpList_load_part _ _ rfl (by rfl) _ 5 rfl Ka0.out Tryz.underlying23 rfl #[.int .i64 m.bal.1, .int .i64 m.bal.2] (by kernel_rfl) (two_at rfl rfl) ?_) | ((with_reducible refine atDst 28 ?_); refine wpList_load_part _ _ rfl (by rfl) _ 3 rfl Kb0.out Tryz.underlying23 rfl #[.int .i64 m2.id.1, .int .i64 m2.id.2] (by kernel_rfl) (two_at rfl rfl) ?_) | ((with_reducible refine atDst 26 ?_); refine wpList_load_part _ _ rfl (by rfl) _ 3 rfl Ka0.out Tryz.underlying23 rfl #[.int .i64 m.id.1, .int .i64 m.id.2] (by kernel_rfl) (two_at rfl rfl) ?_) | ((with_reducible refine atDst 21 ?_); refine wpList_load_one _ _ rfl (by rfl) _ 2 rfl Kb0.out Tryz.underlying3 rfl (show ((msR m2 l2))[2]? = some (.int .i64 m2.dst) from rfl) ?_) | ((with_reducible refine atDst 19 ?_); refine wpList_load_one _ _ rfl (by rfl) _ 2 rfl Ka0.out Tryz.underlying3 rfl (show ((msR m l))[2]? = some (.int .i64 m.dst) from rfl) ?_) | ((with_reducible refine atDst 14 ?_); refine wpList_load_one _ _ rfl (by rfl) _ 1 rfl Kb0.out Tryz.underlying3 rfl (show ((msR m2 l2))[1]? = some (.int .i64 m2.frm) from rfl) ?_) | ((with_reducible refine atDst 12 ?_); refine wpList_load_one _ _ rfl (by rfl) _ 1 rfl Ka0.out Tryz.underlying3 rfl (show ((msR m l))[1]? = some (.int .i64 m.frm) from rfl) ?_) | ((with_reducible refine atDst 8 ?_); refine wpList_load_one _ _ rfl (by rfl) _ 0 rfl Kb0.out Tryz.underlying3 rfl (show ((msR m2 l2))[0]? = some (.int .i64 m2.kind) from rfl) ?_) | ((with_reducible refine atDst 6 ?_); refine wpList_load_one _ _ rfl (by rfl) _ 0 rfl Ka0.out Tryz.underlying3 rfl (show ((msR m l))[0]? = some (.int .i64 m.kind) from rfl) ?_))
               go_ret
               exact ⟨rfl, HB2.out⟩
             ·have hv : decide (m = m2) = false := decide_eq_false (fun e => hhas (congrArg Mg.has e))
              rw [hv]
              clear hv
              have e1 : (m.has == m2.has) = false := by simpa using hhas
              have e2 : (m.has != m2.has) = true := by simpa using hhas
              clear hhas
              obtain ⟨w0, he0, hw0, kQa, kQb, hb0⟩ := boxes2 W (.cells (msR m l) 80) (.cells (msR m2 l2) 80)
              have Ka0 := Lib.hid kQa
              have Kb0 := Lib.hid kQb
              have HB0 := Lib.hid hb0
              have HE0 := Lib.hid he0
              clear he0 hb0 kQa kQb
              go_enter Tryz.func60, Tryz.ntmps60
              go_upto_region 1 with fail
              rw [← HE0.out]
              go_wp2_with (first | go_skip | ((with_reducible refine atDst 69 ?_); refine wpList_load_one _ _ rfl (by rfl) _ 12 rfl Kb2.out Tryz.underlying4 rfl (show ((msR m2 l2))[12]? = some (.bool m2.has) from rfl) ?_) | ((with_reducible refine atDst 67 ?_); refine wpList_load_one _ _ rfl (by rfl) _ 12 rfl Ka2.out Tryz.underlying4 rfl (show ((msR m l))[12]? = some (.bool m.has) from rfl) ?_) | ((with_reducible refine atC w1 ?_); go_at_call 50; refine (HD.out _ HB1.out).mono ?_; rintro e w2 ⟨rfl, h5⟩; have hw2 := Nat.le_trans hw1 h5.size; have HB2 : Hid (Below W.heap.size W w2) := Lib.hid (blThen HB1.out h5); have Ka2 := Lib.hid ((h5.block W.heap.size (by omega)).trans Ka1.out); have Kb2 := Lib.hid ((h5.block (W.heap.size + 1) (by omega)).trans Kb1.out); clear h5) | ((with_reducible refine atDst 63 ?_); refine wpList_load_one _ _ rfl (by rfl) _ 11 rfl Kb1.out Tryz.underlying25 rfl (show ((msR m2 l2))[11]? = some (l2.d) from rfl) ?_) | ((with_reducible refine atDst 61 ?_); refine wpList_load_one _ _ rfl (by rfl) _ 11 rfl Ka1.out Tryz.underlying25 rfl (show ((msR m l))[11]? = some (l.d) from rfl) ?_) | ((with_reducible refine atDst 57 ?_); refine wpList_load_one _ _ rfl (by rfl) _ 10 rfl Kb1.out Tryz.underlying4 rfl (show ((msR m2 l2))[10]? = some (.bool m2.fast) from rfl) ?_) | ((with_reducible refine atDst 55 ?_); refine wpList_load_one _ _ rfl (by rfl) _ 10 rfl Ka1.out Tryz.underlying4 rfl (show ((msR m l))[10]? = some (.bool m.fast) from rfl) ?_) | ((with_reducible refine atC w0 ?_); go_at_call 33; refine (HO.out _ HB0.out).mono ?_; rintro e w1 ⟨rfl, h5⟩; have hw1 := Nat.le_trans hw0 h5.size; have HB1 : Hid (Below W.heap.size W w1) := Lib.hid (blThen HB0.out h5); have Ka1 := Lib.hid ((h5.block W.heap.size (by omega)).trans Ka0.out); have Kb1 := Lib.hid ((h5.block (W.heap.size + 1) (by omega)).trans Kb0.out); clear h5) | ((with_reducible refine atDst 49 ?_); refine wpList_load_one _ _ rfl (by rfl) _ 9 rfl Kb0.out Tryz.underlying24 rfl (show ((msR m2 l2))[9]? = some (l2.o) from rfl) ?_) | ((with_reducible refine atDst 47 ?_); refine wpList_load_one _ _ rfl (by rfl) _ 9 rfl Ka0.out Tryz.underlying24 rfl (show ((msR m l))[9]? = some (l.o) from rfl) ?_) | ((with_reducible refine atDst 42 ?_); refine wpList_load_part _ _ rfl (by rfl) _ 7 rfl Kb0.out Tryz.underlying23 rfl #[.int .i64 m2.at_.1, .int .i64 m2.at_.2] (by kernel_rfl) (two_at rfl rfl) ?_) | ((with_reducible refine atDst 40 ?_); refine wpList_load_part _ _ rfl (by rfl) _ 7 rfl Ka0.out Tryz.underlying23 rfl #[.int .i64 m.at_.1, .int .i64 m.at_.2] (by kernel_rfl) (two_at rfl rfl) ?_) | ((with_reducible refine atDst 35 ?_); refine wpList_load_part _ _ rfl (by rfl) _ 5 rfl Kb0.out Tryz.underlying23 rfl #[.int .i64 m2.bal.1, .int .i64 m2.bal.2] (by kernel_rfl) (two_at rfl rfl) ?_) | ((with_reducible refine atDst 33 ?_); refine wpList_load_part _ _ rfl (by rfl) _ 5 rfl Ka0.out Tryz.underlying23 rfl #[.int .i64 m.bal.1, .int .i64 m.bal.2] (by kernel_rfl) (two_at rfl rfl) ?_) | ((with_reducible refine atDst 28 ?_); refine wpList_load_part _ _ rfl (by rfl) _ 3 rfl Kb0.out Tryz.underlying23 rfl #[.int .i64 m2.id.1, .int .i64 m2.id.2] (by kernel_rfl) (two_at rfl rfl) ?_) | ((with_reducible refine atDst 26 ?_); refine wpList_load_part _ _ rfl (by rfl) _ 3 rfl Ka0.out Tryz.underlying23 rfl #[.int .i64 m.id.1, .int .i64 m.id.2] (by kernel_rfl) (two_at rfl rfl) ?_) | ((with_reducible refine atDst 21 ?_); refine wpList_load_one _ _ rfl (by rfl) _ 2 rfl Kb0.out Tryz.underlying3 rfl (show ((msR m2 l2))[2]? = some (.int .i64 m2.dst) from rfl) ?_) | ((with_reducible refine atDst 19 ?_); refine wpList_load_one _ _ rfl (by rfl) _ 2 rfl Ka0.out Tryz.underlying3 rfl (show ((msR m l))[2]? = some (.int .i64 m.dst) from rfl) ?_) | ((with_reducible refine atDst 14 ?_); refine wpList_load_one _ _ rfl (by rfl) _ 1 rfl Kb0.out Tryz.underlying3 rfl (show ((msR m2 l2))[1]? = some (.int .i64 m2.frm) from rfl) ?_) | ((with_reducible refine atDst 12 ?_); refine wpList_load_one _ _ rfl (by rfl) _ 1 rfl Ka0.out Tryz.underlying3 rfl (show ((msR m l))[1]? = some (.int .i64 m.frm) from rfl) ?_) | ((with_reducible refine atDst 8 ?_); refine wpList_load_one _ _ rfl (by rfl) _ 0 rfl Kb0.out Tryz.underlying3 rfl (show ((msR m2 l2))[0]? = some (.int .i64 m2.kind) from rfl) ?_) | ((with_reducible refine atDst 6 ?_); refine wpList_load_one _ _ rfl (by rfl) _ 0 rfl Ka0.out Tryz.underlying3 rfl (show ((msR m l))[0]? = some (.int .i64 m.kind) from rfl) ?_))
              go_ret
              exact ⟨rfl, HB2.out⟩
            ·have hv : decide (m = m2) = false := decide_eq_false (fun e => hdeps (congrArg Mg.deps e))
             rw [hv]
             clear hv
             rw [decide_eq_false hdeps] at HD
             clear hdeps
             obtain ⟨w0, he0, hw0, kQa, kQb, hb0⟩ := boxes2 W (.cells (msR m l) 80) (.cells (msR m2 l2) 80)
             have Ka0 := Lib.hid kQa
             have Kb0 := Lib.hid kQb
             have HB0 := Lib.hid hb0
             have HE0 := Lib.hid he0
             clear he0 hb0 kQa kQb
             go_enter Tryz.func60, Tryz.ntmps60
             go_upto_region 1 with fail
             rw [← HE0.out]
             go_wp2_with (first | go_skip | ((with_reducible refine atC w1 ?_); go_at_call 50; refine (HD.out _ HB1.out).mono ?_; rintro e w2 ⟨rfl, h5⟩; have hw2 := Nat.le_trans hw1 h5.size; have HB2 : Hid (Below W.heap.size W w2) := Lib.hid (blThen HB1.out h5); have Ka2 := Lib.hid ((h5.block W.heap.size (by omega)).trans Ka1.out); have Kb2 := Lib.hid ((h5.block (W.heap.size + 1) (by omega)).trans Kb1.out); clear h5) | ((with_reducible refine atDst 63 ?_); refine wpList_load_one _ _ rfl (by rfl) _ 11 rfl Kb1.out Tryz.underlying25 rfl (show ((msR m2 l2))[11]? = some (l2.d) from rfl) ?_) | ((with_reducible refine atDst 61 ?_); refine wpList_load_one _ _ rfl (by rfl) _ 11 rfl Ka1.out Tryz.underlying25 rfl (show ((msR m l))[11]? = some (l.d) from rfl) ?_) | ((with_reducible refine atDst 57 ?_); refine wpList_load_one _ _ rfl (by rfl) _ 10 rfl Kb1.out Tryz.underlying4 rfl (show ((msR m2 l2))[10]? = some (.bool m2.fast) from rfl) ?_) | ((with_reducible refine atDst 55 ?_); refine wpList_load_one _ _ rfl (by rfl) _ 10 rfl Ka1.out Tryz.underlying4 rfl (show ((msR m l))[10]? = some (.bool m.fast) from rfl) ?_) | ((with_reducible refine atC w0 ?_); go_at_call 33; refine (HO.out _ HB0.out).mono ?_; rintro e w1 ⟨rfl, h5⟩; have hw1 := Nat.le_trans hw0 h5.size; have HB1 : Hid (Below W.heap.size W w1) := Lib.hid (blThen HB0.out h5); have Ka1 := Lib.hid ((h5.block W.heap.size (by omega)).trans Ka0.out); have Kb1 := Lib.hid ((h5.block (W.heap.size + 1) (by omega)).trans Kb0.out); clear h5) | ((with_reducible refine atDst 49 ?_); refine wpList_load_one _ _ rfl (by rfl) _ 9 rfl Kb0.out Tryz.underlying24 rfl (show ((msR m2 l2))[9]? = some (l2.o) from rfl) ?_) | ((with_reducible refine atDst 47 ?_); refine wpList_load_one _ _ rfl (by rfl) _ 9 rfl Ka0.out Tryz.underlying24 rfl (show ((msR m l))[9]? = some (l.o) from rfl) ?_) | ((with_reducible refine atDst 42 ?_); refine wpList_load_part _ _ rfl (by rfl) _ 7 rfl Kb0.out Tryz.underlying23 rfl #[.int .i64 m2.at_.1, .int .i64 m2.at_.2] (by kernel_rfl) (two_at rfl rfl) ?_) | ((with_reducible refine atDst 40 ?_); refine wpList_load_part _ _ rfl (by rfl) _ 7 rfl Ka0.out Tryz.underlying23 rfl #[.int .i64 m.at_.1, .int .i64 m.at_.2] (by kernel_rfl) (two_at rfl rfl) ?_) | ((with_reducible refine atDst 35 ?_); refine wpList_load_part _ _ rfl (by rfl) _ 5 rfl Kb0.out Tryz.underlying23 rfl #[.int .i64 m2.bal.1, .int .i64 m2.bal.2] (by kernel_rfl) (two_at rfl rfl) ?_) | ((with_reducible refine atDst 33 ?_); refine wpList_load_part _ _ rfl (by rfl) _ 5 rfl Ka0.out Tryz.underlying23 rfl #[.int .i64 m.bal.1, .int .i64 m.bal.2] (by kernel_rfl) (two_at rfl rfl) ?_) | ((with_reducible refine atDst 28 ?_); refine wpList_load_part _ _ rfl (by rfl) _ 3 rfl Kb0.out Tryz.underlying23 rfl #[.int .i64 m2.id.1, .int .i64 m2.id.2] (by kernel_rfl) (two_at rfl rfl) ?_) | ((with_reducible refine atDst 26 ?_); refine wpList_load_part _ _ rfl (by rfl) _ 3 rfl Ka0.out Tryz.underlying23 rfl #[.int .i64 m.id.1, .int .i64 m.id.2] (by kernel_rfl) (two_at rfl rfl) ?_) | ((with_reducible refine atDst 21 ?_); refine wpList_load_one _ _ rfl (by rfl) _ 2 rfl Kb0.out Tryz.underlying3 rfl (show ((msR m2 l2))[2]? = some (.int .i64 m2.dst) from rfl) ?_) | ((with_reducible refine atDst 19 ?_); refine wpList_load_one _ _ rfl (by rfl) _ 2 rfl Ka0.out Tryz.underlying3 rfl (show ((msR m l))[2]? = some (.int .i64 m.dst) from rfl) ?_) | ((with_reducible refine atDst 14 ?_); refine wpList_load_one _ _ rfl (by rfl) _ 1 rfl Kb0.out Tryz.underlying3 rfl (show ((msR m2 l2))[1]? = some (.int .i64 m2.frm) from rfl) ?_) | ((with_reducible refine atDst 12 ?_); refine wpList_load_one _ _ rfl (by rfl) _ 1 rfl Ka0.out Tryz.underlying3 rfl (show ((msR m l))[1]? = some (.int .i64 m.frm) from rfl) ?_) | ((with_reducible refine atDst 8 ?_); refine wpList_load_one _ _ rfl (by rfl) _ 0 rfl Kb0.out Tryz.underlying3 rfl (show ((msR m2 l2))[0]? = some (.int .i64 m2.kind) from rfl) ?_) | ((with_reducible refine atDst 6 ?_); refine wpList_load_one _ _ rfl (by rfl) _ 0 rfl Ka0.out Tryz.underlying3 rfl (show ((msR m l))[0]? = some (.int .i64 m.kind) from rfl) ?_))
             go_ret
             exact ⟨rfl, HB2.out⟩
           ·have hv : decide (m = m2) = false := decide_eq_false (fun e => hfast (congrArg Mg.fast e))
            rw [hv]
            clear hv
            have e1 : (m.fast == m2.fast) = false := by simpa using hfast
            have e2 : (m.fast != m2.fast) = true := by simpa using hfast
            clear hfast
            obtain ⟨w0, he0, hw0, kQa, kQb, hb0⟩ := boxes2 W (.cells (msR m l) 80) (.cells (msR m2 l2) 80)
            have Ka0 := Lib.hid kQa
            have Kb0 := Lib.hid kQb
            have HB0 := Lib.hid hb0
            have HE0 := Lib.hid he0
            clear he0 hb0 kQa kQb
            go_enter Tryz.func60, Tryz.ntmps60
            go_upto_region 1 with fail
            rw [← HE0.out]
            go_wp2_with (first | go_skip | ((with_reducible refine atDst 57 ?_); refine wpList_load_one _ _ rfl (by rfl) _ 10 rfl Kb1.out Tryz.underlying4 rfl (show ((msR m2 l2))[10]? = some (.bool m2.fast) from rfl) ?_) | ((with_reducible refine atDst 55 ?_); refine wpList_load_one _ _ rfl (by rfl) _ 10 rfl Ka1.out Tryz.underlying4 rfl (show ((msR m l))[10]? = some (.bool m.fast) from rfl) ?_) | ((with_reducible refine atC w0 ?_); go_at_call 33; refine (HO.out _ HB0.out).mono ?_; rintro e w1 ⟨rfl, h5⟩; have hw1 := Nat.le_trans hw0 h5.size; have HB1 : Hid (Below W.heap.size W w1) := Lib.hid (blThen HB0.out h5); have Ka1 := Lib.hid ((h5.block W.heap.size (by omega)).trans Ka0.out); have Kb1 := Lib.hid ((h5.block (W.heap.size + 1) (by omega)).trans Kb0.out); clear h5) | ((with_reducible refine atDst 49 ?_); refine wpList_load_one _ _ rfl (by rfl) _ 9 rfl Kb0.out Tryz.underlying24 rfl (show ((msR m2 l2))[9]? = some (l2.o) from rfl) ?_) | ((with_reducible refine atDst 47 ?_); refine wpList_load_one _ _ rfl (by rfl) _ 9 rfl Ka0.out Tryz.underlying24 rfl (show ((msR m l))[9]? = some (l.o) from rfl) ?_) | ((with_reducible refine atDst 42 ?_); refine wpList_load_part _ _ rfl (by rfl) _ 7 rfl Kb0.out Tryz.underlying23 rfl #[.int .i64 m2.at_.1, .int .i64 m2.at_.2] (by kernel_rfl) (two_at rfl rfl) ?_) | ((with_reducible refine atDst 40 ?_); refine wpList_load_part _ _ rfl (by rfl) _ 7 rfl Ka0.out Tryz.underlying23 rfl #[.int .i64 m.at_.1, .int .i64 m.at_.2] (by kernel_rfl) (two_at rfl rfl) ?_) | ((with_reducible refine atDst 35 ?_); refine wpList_load_part _ _ rfl (by rfl) _ 5 rfl Kb0.out Tryz.underlying23 rfl #[.int .i64 m2.bal.1, .int .i64 m2.bal.2] (by kernel_rfl) (two_at rfl rfl) ?_) | ((with_reducible refine atDst 33 ?_); refine wpList_load_part _ _ rfl (by rfl) _ 5 rfl Ka0.out Tryz.underlying23 rfl #[.int .i64 m.bal.1, .int .i64 m.bal.2] (by kernel_rfl) (two_at rfl rfl) ?_) | ((with_reducible refine atDst 28 ?_); refine wpList_load_part _ _ rfl (by rfl) _ 3 rfl Kb0.out Tryz.underlying23 rfl #[.int .i64 m2.id.1, .int .i64 m2.id.2] (by kernel_rfl) (two_at rfl rfl) ?_) | ((with_reducible refine atDst 26 ?_); refine wpList_load_part _ _ rfl (by rfl) _ 3 rfl Ka0.out Tryz.underlying23 rfl #[.int .i64 m.id.1, .int .i64 m.id.2] (by kernel_rfl) (two_at rfl rfl) ?_) | ((with_reducible refine atDst 21 ?_); refine wpList_load_one _ _ rfl (by rfl) _ 2 rfl Kb0.out Tryz.underlying3 rfl (show ((msR m2 l2))[2]? = some (.int .i64 m2.dst) from rfl) ?_) | ((with_reducible refine atDst 19 ?_); refine wpList_load_one _ _ rfl (by rfl) _ 2 rfl Ka0.out Tryz.underlying3 rfl (show ((msR m l))[2]? = some (.int .i64 m.dst) from rfl) ?_) | ((with_reducible refine atDst 14 ?_); refine wpList_load_one _ _ rfl (by rfl) _ 1 rfl Kb0.out Tryz.underlying3 rfl (show ((msR m2 l2))[1]? = some (.int .i64 m2.frm) from rfl) ?_) | ((with_reducible refine atDst 12 ?_); refine wpList_load_one _ _ rfl (by rfl) _ 1 rfl Ka0.out Tryz.underlying3 rfl (show ((msR m l))[1]? = some (.int .i64 m.frm) from rfl) ?_) | ((with_reducible refine atDst 8 ?_); refine wpList_load_one _ _ rfl (by rfl) _ 0 rfl Kb0.out Tryz.underlying3 rfl (show ((msR m2 l2))[0]? = some (.int .i64 m2.kind) from rfl) ?_) | ((with_reducible refine atDst 6 ?_); refine wpList_load_one _ _ rfl (by rfl) _ 0 rfl Ka0.out Tryz.underlying3 rfl (show ((msR m l))[0]? = some (.int .i64 m.kind) from rfl) ?_))
            go_ret
            exact ⟨rfl, HB1.out⟩
          ·have hv : decide (m = m2) = false := decide_eq_false (fun e => hops (congrArg Mg.ops e))
           rw [hv]
           clear hv
           rw [decide_eq_false hops] at HO
           clear hops
           obtain ⟨w0, he0, hw0, kQa, kQb, hb0⟩ := boxes2 W (.cells (msR m l) 80) (.cells (msR m2 l2) 80)
           have Ka0 := Lib.hid kQa
           have Kb0 := Lib.hid kQb
           have HB0 := Lib.hid hb0
           have HE0 := Lib.hid he0
           clear he0 hb0 kQa kQb
           go_enter Tryz.func60, Tryz.ntmps60
           go_upto_region 1 with fail
           rw [← HE0.out]
           go_wp2_with (first | go_skip | ((with_reducible refine atC w0 ?_); go_at_call 33; refine (HO.out _ HB0.out).mono ?_; rintro e w1 ⟨rfl, h5⟩; have hw1 := Nat.le_trans hw0 h5.size; have HB1 : Hid (Below W.heap.size W w1) := Lib.hid (blThen HB0.out h5); have Ka1 := Lib.hid ((h5.block W.heap.size (by omega)).trans Ka0.out); have Kb1 := Lib.hid ((h5.block (W.heap.size + 1) (by omega)).trans Kb0.out); clear h5) | ((with_reducible refine atDst 49 ?_); refine wpList_load_one _ _ rfl (by rfl) _ 9 rfl Kb0.out Tryz.underlying24 rfl (show ((msR m2 l2))[9]? = some (l2.o) from rfl) ?_) | ((with_reducible refine atDst 47 ?_); refine wpList_load_one _ _ rfl (by rfl) _ 9 rfl Ka0.out Tryz.underlying24 rfl (show ((msR m l))[9]? = some (l.o) from rfl) ?_) | ((with_reducible refine atDst 42 ?_); refine wpList_load_part _ _ rfl (by rfl) _ 7 rfl Kb0.out Tryz.underlying23 rfl #[.int .i64 m2.at_.1, .int .i64 m2.at_.2] (by kernel_rfl) (two_at rfl rfl) ?_) | ((with_reducible refine atDst 40 ?_); refine wpList_load_part _ _ rfl (by rfl) _ 7 rfl Ka0.out Tryz.underlying23 rfl #[.int .i64 m.at_.1, .int .i64 m.at_.2] (by kernel_rfl) (two_at rfl rfl) ?_) | ((with_reducible refine atDst 35 ?_); refine wpList_load_part _ _ rfl (by rfl) _ 5 rfl Kb0.out Tryz.underlying23 rfl #[.int .i64 m2.bal.1, .int .i64 m2.bal.2] (by kernel_rfl) (two_at rfl rfl) ?_) | ((with_reducible refine atDst 33 ?_); refine wpList_load_part _ _ rfl (by rfl) _ 5 rfl Ka0.out Tryz.underlying23 rfl #[.int .i64 m.bal.1, .int .i64 m.bal.2] (by kernel_rfl) (two_at rfl rfl) ?_) | ((with_reducible refine atDst 28 ?_); refine wpList_load_part _ _ rfl (by rfl) _ 3 rfl Kb0.out Tryz.underlying23 rfl #[.int .i64 m2.id.1, .int .i64 m2.id.2] (by kernel_rfl) (two_at rfl rfl) ?_) | ((with_reducible refine atDst 26 ?_); refine wpList_load_part _ _ rfl (by rfl) _ 3 rfl Ka0.out Tryz.underlying23 rfl #[.int .i64 m.id.1, .int .i64 m.id.2] (by kernel_rfl) (two_at rfl rfl) ?_) | ((with_reducible refine atDst 21 ?_); refine wpList_load_one _ _ rfl (by rfl) _ 2 rfl Kb0.out Tryz.underlying3 rfl (show ((msR m2 l2))[2]? = some (.int .i64 m2.dst) from rfl) ?_) | ((with_reducible refine atDst 19 ?_); refine wpList_load_one _ _ rfl (by rfl) _ 2 rfl Ka0.out Tryz.underlying3 rfl (show ((msR m l))[2]? = some (.int .i64 m.dst) from rfl) ?_) | ((with_reducible refine atDst 14 ?_); refine wpList_load_one _ _ rfl (by rfl) _ 1 rfl Kb0.out Tryz.underlying3 rfl (show ((msR m2 l2))[1]? = some (.int .i64 m2.frm) from rfl) ?_) | ((with_reducible refine atDst 12 ?_); refine wpList_load_one _ _ rfl (by rfl) _ 1 rfl Ka0.out Tryz.underlying3 rfl (show ((msR m l))[1]? = some (.int .i64 m.frm) from rfl) ?_) | ((with_reducible refine atDst 8 ?_); refine wpList_load_one _ _ rfl (by rfl) _ 0 rfl Kb0.out Tryz.underlying3 rfl (show ((msR m2 l2))[0]? = some (.int .i64 m2.kind) from rfl) ?_) | ((with_reducible refine atDst 6 ?_); refine wpList_load_one _ _ rfl (by rfl) _ 0 rfl Ka0.out Tryz.underlying3 rfl (show ((msR m l))[0]? = some (.int .i64 m.kind) from rfl) ?_))
           go_ret
           exact ⟨rfl, HB1.out⟩
         ·have hv : decide (m = m2) = false := decide_eq_false (fun e => hat_2 (congrArg (fun m : Mg => m.at_.2) e))
          rw [hv]
          clear hv
          have e1 : (m.at_.2 == m2.at_.2) = false := by simpa using hat_2
          have e2 : (m.at_.2 != m2.at_.2) = true := by simpa using hat_2
          clear hat_2
          obtain ⟨w0, he0, hw0, kQa, kQb, hb0⟩ := boxes2 W (.cells (msR m l) 80) (.cells (msR m2 l2) 80)
          have Ka0 := Lib.hid kQa
          have Kb0 := Lib.hid kQb
          have HB0 := Lib.hid hb0
          have HE0 := Lib.hid he0
          clear he0 hb0 kQa kQb
          go_enter Tryz.func60, Tryz.ntmps60
          go_upto_region 1 with fail
          rw [← HE0.out]
          go_wp2_with (first | go_skip | ((with_reducible refine atDst 42 ?_); refine wpList_load_part _ _ rfl (by rfl) _ 7 rfl Kb0.out Tryz.underlying23 rfl #[.int .i64 m2.at_.1, .int .i64 m2.at_.2] (by kernel_rfl) (two_at rfl rfl) ?_) | ((with_reducible refine atDst 40 ?_); refine wpList_load_part _ _ rfl (by rfl) _ 7 rfl Ka0.out Tryz.underlying23 rfl #[.int .i64 m.at_.1, .int .i64 m.at_.2] (by kernel_rfl) (two_at rfl rfl) ?_) | ((with_reducible refine atDst 35 ?_); refine wpList_load_part _ _ rfl (by rfl) _ 5 rfl Kb0.out Tryz.underlying23 rfl #[.int .i64 m2.bal.1, .int .i64 m2.bal.2] (by kernel_rfl) (two_at rfl rfl) ?_) | ((with_reducible refine atDst 33 ?_); refine wpList_load_part _ _ rfl (by rfl) _ 5 rfl Ka0.out Tryz.underlying23 rfl #[.int .i64 m.bal.1, .int .i64 m.bal.2] (by kernel_rfl) (two_at rfl rfl) ?_) | ((with_reducible refine atDst 28 ?_); refine wpList_load_part _ _ rfl (by rfl) _ 3 rfl Kb0.out Tryz.underlying23 rfl #[.int .i64 m2.id.1, .int .i64 m2.id.2] (by kernel_rfl) (two_at rfl rfl) ?_) | ((with_reducible refine atDst 26 ?_); refine wpList_load_part _ _ rfl (by rfl) _ 3 rfl Ka0.out Tryz.underlying23 rfl #[.int .i64 m.id.1, .int .i64 m.id.2] (by kernel_rfl) (two_at rfl rfl) ?_) | ((with_reducible refine atDst 21 ?_); refine wpList_load_one _ _ rfl (by rfl) _ 2 rfl Kb0.out Tryz.underlying3 rfl (show ((msR m2 l2))[2]? = some (.int .i64 m2.dst) from rfl) ?_) | ((with_reducible refine atDst 19 ?_); refine wpList_load_one _ _ rfl (by rfl) _ 2 rfl Ka0.out Tryz.underlying3 rfl (show ((msR m l))[2]? = some (.int .i64 m.dst) from rfl) ?_) | ((with_reducible refine atDst 14 ?_); refine wpList_load_one _ _ rfl (by rfl) _ 1 rfl Kb0.out Tryz.underlying3 rfl (show ((msR m2 l2))[1]? = some (.int .i64 m2.frm) from rfl) ?_) | ((with_reducible refine atDst 12 ?_); refine wpList_load_one _ _ rfl (by rfl) _ 1 rfl Ka0.out Tryz.underlying3 rfl (show ((msR m l))[1]? = some (.int .i64 m.frm) from rfl) ?_) | ((with_reducible refine atDst 8 ?_); refine wpList_load_one _ _ rfl (by rfl) _ 0 rfl Kb0.out Tryz.underlying3 rfl (show ((msR m2 l2))[0]? = some (.int .i64 m2.kind) from rfl) ?_) | ((with_reducible refine atDst 6 ?_); refine wpList_load_one _ _ rfl (by rfl) _ 0 rfl Ka0.out Tryz.underlying3 rfl (show ((msR m l))[0]? = some (.int .i64 m.kind) from rfl) ?_))
          go_ret
          exact ⟨rfl, HB0.out⟩
        ·have hv : decide (m = m2) = false := decide_eq_false (fun e => hat_1 (congrArg (fun m : Mg => m.at_.1) e))
         rw [hv]
         clear hv
         have e1 : (m.at_.1 == m2.at_.1) = false := by simpa using hat_1
         have e2 : (m.at_.1 != m2.at_.1) = true := by simpa using hat_1
         clear hat_1
         obtain ⟨w0, he0, hw0, kQa, kQb, hb0⟩ := boxes2 W (.cells (msR m l) 80) (.cells (msR m2 l2) 80)
         have Ka0 := Lib.hid kQa
         have Kb0 := Lib.hid kQb
         have HB0 := Lib.hid hb0
         have HE0 := Lib.hid he0
         clear he0 hb0 kQa kQb
         go_enter Tryz.func60, Tryz.ntmps60
         go_upto_region 1 with fail
         rw [← HE0.out]
         go_wp2_with (first | go_skip | ((with_reducible refine atDst 42 ?_); refine wpList_load_part _ _ rfl (by rfl) _ 7 rfl Kb0.out Tryz.underlying23 rfl #[.int .i64 m2.at_.1, .int .i64 m2.at_.2] (by kernel_rfl) (two_at rfl rfl) ?_) | ((with_reducible refine atDst 40 ?_); refine wpList_load_part _ _ rfl (by rfl) _ 7 rfl Ka0.out Tryz.underlying23 rfl #[.int .i64 m.at_.1, .int .i64 m.at_.2] (by kernel_rfl) (two_at rfl rfl) ?_) | ((with_reducible refine atDst 35 ?_); refine wpList_load_part _ _ rfl (by rfl) _ 5 rfl Kb0.out Tryz.underlying23 rfl #[.int .i64 m2.bal.1, .int .i64 m2.bal.2] (by kernel_rfl) (two_at rfl rfl) ?_) | ((with_reducible refine atDst 33 ?_); refine wpList_load_part _ _ rfl (by rfl) _ 5 rfl Ka0.out Tryz.underlying23 rfl #[.int .i64 m.bal.1, .int .i64 m.bal.2] (by kernel_rfl) (two_at rfl rfl) ?_) | ((with_reducible refine atDst 28 ?_); refine wpList_load_part _ _ rfl (by rfl) _ 3 rfl Kb0.out Tryz.underlying23 rfl #[.int .i64 m2.id.1, .int .i64 m2.id.2] (by kernel_rfl) (two_at rfl rfl) ?_) | ((with_reducible refine atDst 26 ?_); refine wpList_load_part _ _ rfl (by rfl) _ 3 rfl Ka0.out Tryz.underlying23 rfl #[.int .i64 m.id.1, .int .i64 m.id.2] (by kernel_rfl) (two_at rfl rfl) ?_) | ((with_reducible refine atDst 21 ?_); refine wpList_load_one _ _ rfl (by rfl) _ 2 rfl Kb0.out Tryz.underlying3 rfl (show ((msR m2 l2))[2]? = some (.int .i64 m2.dst) from rfl) ?_) | ((with_reducible refine atDst 19 ?_); refine wpList_load_one _ _ rfl (by rfl) _ 2 rfl Ka0.out Tryz.underlying3 rfl (show ((msR m l))[2]? = some (.int .i64 m.dst) from rfl) ?_) | ((with_reducible refine atDst 14 ?_); refine wpList_load_one _ _ rfl (by rfl) _ 1 rfl Kb0.out Tryz.underlying3 rfl (show ((msR m2 l2))[1]? = some (.int .i64 m2.frm) from rfl) ?_) | ((with_reducible refine atDst 12 ?_); refine wpList_load_one _ _ rfl (by rfl) _ 1 rfl Ka0.out Tryz.underlying3 rfl (show ((msR m l))[1]? = some (.int .i64 m.frm) from rfl) ?_) | ((with_reducible refine atDst 8 ?_); refine wpList_load_one _ _ rfl (by rfl) _ 0 rfl Kb0.out Tryz.underlying3 rfl (show ((msR m2 l2))[0]? = some (.int .i64 m2.kind) from rfl) ?_) | ((with_reducible refine atDst 6 ?_); refine wpList_load_one _ _ rfl (by rfl) _ 0 rfl Ka0.out Tryz.underlying3 rfl (show ((msR m l))[0]? = some (.int .i64 m.kind) from rfl) ?_))
         go_ret
         exact ⟨rfl, HB0.out⟩
       ·have hv : decide (m = m2) = false := decide_eq_false (fun e => hbal2 (congrArg (fun m : Mg => m.bal.2) e))
        rw [hv]
        clear hv
        have e1 : (m.bal.2 == m2.bal.2) = false := by simpa using hbal2
        have e2 : (m.bal.2 != m2.bal.2) = true := by simpa using hbal2
        clear hbal2
        obtain ⟨w0, he0, hw0, kQa, kQb, hb0⟩ := boxes2 W (.cells (msR m l) 80) (.cells (msR m2 l2) 80)
        have Ka0 := Lib.hid kQa
        have Kb0 := Lib.hid kQb
        have HB0 := Lib.hid hb0
        have HE0 := Lib.hid he0
        clear he0 hb0 kQa kQb
        go_enter Tryz.func60, Tryz.ntmps60
        go_upto_region 1 with fail
        rw [← HE0.out]
        go_wp2_with (first | go_skip | ((with_reducible refine atDst 35 ?_); refine wpList_load_part _ _ rfl (by rfl) _ 5 rfl Kb0.out Tryz.underlying23 rfl #[.int .i64 m2.bal.1, .int .i64 m2.bal.2] (by kernel_rfl) (two_at rfl rfl) ?_) | ((with_reducible refine atDst 33 ?_); refine wpList_load_part _ _ rfl (by rfl) _ 5 rfl Ka0.out Tryz.underlying23 rfl #[.int .i64 m.bal.1, .int .i64 m.bal.2] (by kernel_rfl) (two_at rfl rfl) ?_) | ((with_reducible refine atDst 28 ?_); refine wpList_load_part _ _ rfl (by rfl) _ 3 rfl Kb0.out Tryz.underlying23 rfl #[.int .i64 m2.id.1, .int .i64 m2.id.2] (by kernel_rfl) (two_at rfl rfl) ?_) | ((with_reducible refine atDst 26 ?_); refine wpList_load_part _ _ rfl (by rfl) _ 3 rfl Ka0.out Tryz.underlying23 rfl #[.int .i64 m.id.1, .int .i64 m.id.2] (by kernel_rfl) (two_at rfl rfl) ?_) | ((with_reducible refine atDst 21 ?_); refine wpList_load_one _ _ rfl (by rfl) _ 2 rfl Kb0.out Tryz.underlying3 rfl (show ((msR m2 l2))[2]? = some (.int .i64 m2.dst) from rfl) ?_) | ((with_reducible refine atDst 19 ?_); refine wpList_load_one _ _ rfl (by rfl) _ 2 rfl Ka0.out Tryz.underlying3 rfl (show ((msR m l))[2]? = some (.int .i64 m.dst) from rfl) ?_) | ((with_reducible refine atDst 14 ?_); refine wpList_load_one _ _ rfl (by rfl) _ 1 rfl Kb0.out Tryz.underlying3 rfl (show ((msR m2 l2))[1]? = some (.int .i64 m2.frm) from rfl) ?_) | ((with_reducible refine atDst 12 ?_); refine wpList_load_one _ _ rfl (by rfl) _ 1 rfl Ka0.out Tryz.underlying3 rfl (show ((msR m l))[1]? = some (.int .i64 m.frm) from rfl) ?_) | ((with_reducible refine atDst 8 ?_); refine wpList_load_one _ _ rfl (by rfl) _ 0 rfl Kb0.out Tryz.underlying3 rfl (show ((msR m2 l2))[0]? = some (.int .i64 m2.kind) from rfl) ?_) | ((with_reducible refine atDst 6 ?_); refine wpList_load_one _ _ rfl (by rfl) _ 0 rfl Ka0.out Tryz.underlying3 rfl (show ((msR m l))[0]? = some (.int .i64 m.kind) from rfl) ?_))
        go_ret
        exact ⟨rfl, HB0.out⟩
      ·have hv : decide (m = m2) = false := decide_eq_false (fun e => hbal1 (congrArg (fun m : Mg => m.bal.1) e))
       rw [hv]
       clear hv
       have e1 : (m.bal.1 == m2.bal.1) = false := by simpa using hbal1
       have e2 : (m.bal.1 != m2.bal.1) = true := by simpa using hbal1
       clear hbal1
       obtain ⟨w0, he0, hw0, kQa, kQb, hb0⟩ := boxes2 W (.cells (msR m l) 80) (.cells (msR m2 l2) 80)
       have Ka0 := Lib.hid kQa
       have Kb0 := Lib.hid kQb
       have HB0 := Lib.hid hb0
       have HE0 := Lib.hid he0
       clear he0 hb0 kQa kQb
       go_enter Tryz.func60, Tryz.ntmps60
       go_upto_region 1 with fail
       rw [← HE0.out]
       go_wp2_with (first | go_skip | ((with_reducible refine atDst 35 ?_); refine wpList_load_part _ _ rfl (by rfl) _ 5 rfl Kb0.out Tryz.underlying23 rfl #[.int .i64 m2.bal.1, .int .i64 m2.bal.2] (by kernel_rfl) (two_at rfl rfl) ?_) | ((with_reducible refine atDst 33 ?_); refine wpList_load_part _ _ rfl (by rfl) _ 5 rfl Ka0.out Tryz.underlying23 rfl #[.int .i64 m.bal.1, .int .i64 m.bal.2] (by kernel_rfl) (two_at rfl rfl) ?_) | ((with_reducible refine atDst 28 ?_); refine wpList_load_part _ _ rfl (by rfl) _ 3 rfl Kb0.out Tryz.underlying23 rfl #[.int .i64 m2.id.1, .int .i64 m2.id.2] (by kernel_rfl) (two_at rfl rfl) ?_) | ((with_reducible refine atDst 26 ?_); refine wpList_load_part _ _ rfl (by rfl) _ 3 rfl Ka0.out Tryz.underlying23 rfl #[.int .i64 m.id.1, .int .i64 m.id.2] (by kernel_rfl) (two_at rfl rfl) ?_) | ((with_reducible refine atDst 21 ?_); refine wpList_load_one _ _ rfl (by rfl) _ 2 rfl Kb0.out Tryz.underlying3 rfl (show ((msR m2 l2))[2]? = some (.int .i64 m2.dst) from rfl) ?_) | ((with_reducible refine atDst 19 ?_); refine wpList_load_one _ _ rfl (by rfl) _ 2 rfl Ka0.out Tryz.underlying3 rfl (show ((msR m l))[2]? = some (.int .i64 m.dst) from rfl) ?_) | ((with_reducible refine atDst 14 ?_); refine wpList_load_one _ _ rfl (by rfl) _ 1 rfl Kb0.out Tryz.underlying3 rfl (show ((msR m2 l2))[1]? = some (.int .i64 m2.frm) from rfl) ?_) | ((with_reducible refine atDst 12 ?_); refine wpList_load_one _ _ rfl (by rfl) _ 1 rfl Ka0.out Tryz.underlying3 rfl (show ((msR m l))[1]? = some (.int .i64 m.frm) from rfl) ?_) | ((with_reducible refine atDst 8 ?_); refine wpList_load_one _ _ rfl (by rfl) _ 0 rfl Kb0.out Tryz.underlying3 rfl (show ((msR m2 l2))[0]? = some (.int .i64 m2.kind) from rfl) ?_) | ((with_reducible refine atDst 6 ?_); refine wpList_load_one _ _ rfl (by rfl) _ 0 rfl Ka0.out Tryz.underlying3 rfl (show ((msR m l))[0]? = some (.int .i64 m.kind) from rfl) ?_))
       go_ret
       exact ⟨rfl, HB0.out⟩
     ·have hv : decide (m = m2) = false := decide_eq_false (fun e => hid2 (congrArg (fun m : Mg => m.id.2) e))
      rw [hv]
      clear hv
      have e1 : (m.id.2 == m2.id.2) = false := by simpa using hid2
      have e2 : (m.id.2 != m2.id.2) = true := by simpa using hid2
      clear hid2
      obtain ⟨w0, he0, hw0, kQa, kQb, hb0⟩ := boxes2 W (.cells (msR m l) 80) (.cells (msR m2 l2) 80)
      have Ka0 := Lib.hid kQa
      have Kb0 := Lib.hid kQb
      have HB0 := Lib.hid hb0
      have HE0 := Lib.hid he0
      clear he0 hb0 kQa kQb
      go_enter Tryz.func60, Tryz.ntmps60
      go_upto_region 1 with fail
      rw [← HE0.out]
      go_wp2_with (first | go_skip | ((with_reducible refine atDst 28 ?_); refine wpList_load_part _ _ rfl (by rfl) _ 3 rfl Kb0.out Tryz.underlying23 rfl #[.int .i64 m2.id.1, .int .i64 m2.id.2] (by kernel_rfl) (two_at rfl rfl) ?_) | ((with_reducible refine atDst 26 ?_); refine wpList_load_part _ _ rfl (by rfl) _ 3 rfl Ka0.out Tryz.underlying23 rfl #[.int .i64 m.id.1, .int .i64 m.id.2] (by kernel_rfl) (two_at rfl rfl) ?_) | ((with_reducible refine atDst 21 ?_); refine wpList_load_one _ _ rfl (by rfl) _ 2 rfl Kb0.out Tryz.underlying3 rfl (show ((msR m2 l2))[2]? = some (.int .i64 m2.dst) from rfl) ?_) | ((with_reducible refine atDst 19 ?_); refine wpList_load_one _ _ rfl (by rfl) _ 2 rfl Ka0.out Tryz.underlying3 rfl (show ((msR m l))[2]? = some (.int .i64 m.dst) from rfl) ?_) | ((with_reducible refine atDst 14 ?_); refine wpList_load_one _ _ rfl (by rfl) _ 1 rfl Kb0.out Tryz.underlying3 rfl (show ((msR m2 l2))[1]? = some (.int .i64 m2.frm) from rfl) ?_) | ((with_reducible refine atDst 12 ?_); refine wpList_load_one _ _ rfl (by rfl) _ 1 rfl Ka0.out Tryz.underlying3 rfl (show ((msR m l))[1]? = some (.int .i64 m.frm) from rfl) ?_) | ((with_reducible refine atDst 8 ?_); refine wpList_load_one _ _ rfl (by rfl) _ 0 rfl Kb0.out Tryz.underlying3 rfl (show ((msR m2 l2))[0]? = some (.int .i64 m2.kind) from rfl) ?_) | ((with_reducible refine atDst 6 ?_); refine wpList_load_one _ _ rfl (by rfl) _ 0 rfl Ka0.out Tryz.underlying3 rfl (show ((msR m l))[0]? = some (.int .i64 m.kind) from rfl) ?_))
      go_ret
      exact ⟨rfl, HB0.out⟩
    ·have hv : decide (m = m2) = false := decide_eq_false (fun e => hid1 (congrArg (fun m : Mg => m.id.1) e))
     rw [hv]
     clear hv
     have e1 : (m.id.1 == m2.id.1) = false := by simpa using hid1
     have e2 : (m.id.1 != m2.id.1) = true := by simpa using hid1
     clear hid1
     obtain ⟨w0, he0, hw0, kQa, kQb, hb0⟩ := boxes2 W (.cells (msR m l) 80) (.cells (msR m2 l2) 80)
     have Ka0 := Lib.hid kQa
     have Kb0 := Lib.hid kQb
     have HB0 := Lib.hid hb0
     have HE0 := Lib.hid he0
     clear he0 hb0 kQa kQb
     go_enter Tryz.func60, Tryz.ntmps60
     go_upto_region 1 with fail
     rw [← HE0.out]
     go_wp2_with (first | go_skip | ((with_reducible refine atDst 28 ?_); refine wpList_load_part _ _ rfl (by rfl) _ 3 rfl Kb0.out Tryz.underlying23 rfl #[.int .i64 m2.id.1, .int .i64 m2.id.2] (by kernel_rfl) (two_at rfl rfl) ?_) | ((with_reducible refine atDst 26 ?_); refine wpList_load_part _ _ rfl (by rfl) _ 3 rfl Ka0.out Tryz.underlying23 rfl #[.int .i64 m.id.1, .int .i64 m.id.2] (by kernel_rfl) (two_at rfl rfl) ?_) | ((with_reducible refine atDst 21 ?_); refine wpList_load_one _ _ rfl (by rfl) _ 2 rfl Kb0.out Tryz.underlying3 rfl (show ((msR m2 l2))[2]? = some (.int .i64 m2.dst) from rfl) ?_) | ((with_reducible refine atDst 19 ?_); refine wpList_load_one _ _ rfl (by rfl) _ 2 rfl Ka0.out Tryz.underlying3 rfl (show ((msR m l))[2]? = some (.int .i64 m.dst) from rfl) ?_) | ((with_reducible refine atDst 14 ?_); refine wpList_load_one _ _ rfl (by rfl) _ 1 rfl Kb0.out Tryz.underlying3 rfl (show ((msR m2 l2))[1]? = some (.int .i64 m2.frm) from rfl) ?_) | ((with_reducible refine atDst 12 ?_); refine wpList_load_one _ _ rfl (by rfl) _ 1 rfl Ka0.out Tryz.underlying3 rfl (show ((msR m l))[1]? = some (.int .i64 m.frm) from rfl) ?_) | ((with_reducible refine atDst 8 ?_); refine wpList_load_one _ _ rfl (by rfl) _ 0 rfl Kb0.out Tryz.underlying3 rfl (show ((msR m2 l2))[0]? = some (.int .i64 m2.kind) from rfl) ?_) | ((with_reducible refine atDst 6 ?_); refine wpList_load_one _ _ rfl (by rfl) _ 0 rfl Ka0.out Tryz.underlying3 rfl (show ((msR m l))[0]? = some (.int .i64 m.kind) from rfl) ?_))
     go_ret
     exact ⟨rfl, HB0.out⟩
   ·have hv : decide (m = m2) = false := decide_eq_false (fun e => hdst (congrArg Mg.dst e))
    rw [hv]
    clear hv
    have e1 : (m.dst == m2.dst) = false := by simpa using hdst
    have e2 : (m.dst != m2.dst) = true := by simpa using hdst
    clear hdst
    obtain ⟨w0, he0, hw0, kQa, kQb, hb0⟩ := boxes2 W (.cells (msR m l) 80) (.cells (msR m2 l2) 80)
    have Ka0 := Lib.hid kQa
    have Kb0 := Lib.hid kQb
    have HB0 := Lib.hid hb0
    have HE0 := Lib.hid he0
    clear he0 hb0 kQa kQb
    go_enter Tryz.func60, Tryz.ntmps60
    go_upto_region 1 with fail
    rw [← HE0.out]
    go_wp2_with (first | go_skip | ((with_reducible refine atDst 21 ?_); refine wpList_load_one _ _ rfl (by rfl) _ 2 rfl Kb0.out Tryz.underlying3 rfl (show ((msR m2 l2))[2]? = some (.int .i64 m2.dst) from rfl) ?_) | ((with_reducible refine atDst 19 ?_); refine wpList_load_one _ _ rfl (by rfl) _ 2 rfl Ka0.out Tryz.underlying3 rfl (show ((msR m l))[2]? = some (.int .i64 m.dst) from rfl) ?_) | ((with_reducible refine atDst 14 ?_); refine wpList_load_one _ _ rfl (by rfl) _ 1 rfl Kb0.out Tryz.underlying3 rfl (show ((msR m2 l2))[1]? = some (.int .i64 m2.frm) from rfl) ?_) | ((with_reducible refine atDst 12 ?_); refine wpList_load_one _ _ rfl (by rfl) _ 1 rfl Ka0.out Tryz.underlying3 rfl (show ((msR m l))[1]? = some (.int .i64 m.frm) from rfl) ?_) | ((with_reducible refine atDst 8 ?_); refine wpList_load_one _ _ rfl (by rfl) _ 0 rfl Kb0.out Tryz.underlying3 rfl (show ((msR m2 l2))[0]? = some (.int .i64 m2.kind) from rfl) ?_) | ((with_reducible refine atDst 6 ?_); refine wpList_load_one _ _ rfl (by rfl) _ 0 rfl Ka0.out Tryz.underlying3 rfl (show ((msR m l))[0]? = some (.int .i64 m.kind) from rfl) ?_))
    go_ret
    exact ⟨rfl, HB0.out⟩
  ·have hv : decide (m = m2) = false := decide_eq_false (fun e => hfrm (congrArg Mg.frm e))
   rw [hv]
   clear hv
   have e1 : (m.frm == m2.frm) = false := by simpa using hfrm
   have e2 : (m.frm != m2.frm) = true := by simpa using hfrm
   clear hfrm
   obtain ⟨w0, he0, hw0, kQa, kQb, hb0⟩ := boxes2 W (.cells (msR m l) 80) (.cells (msR m2 l2) 80)
   have Ka0 := Lib.hid kQa
   have Kb0 := Lib.hid kQb
   have HB0 := Lib.hid hb0
   have HE0 := Lib.hid he0
   clear he0 hb0 kQa kQb
   go_enter Tryz.func60, Tryz.ntmps60
   go_upto_region 1 with fail
   rw [← HE0.out]
   go_wp2_with (first | go_skip | ((with_reducible refine atDst 14 ?_); refine wpList_load_one _ _ rfl (by rfl) _ 1 rfl Kb0.out Tryz.underlying3 rfl (show ((msR m2 l2))[1]? = some (.int .i64 m2.frm) from rfl) ?_) | ((with_reducible refine atDst 12 ?_); refine wpList_load_one _ _ rfl (by rfl) _ 1 rfl Ka0.out Tryz.underlying3 rfl (show ((msR m l))[1]? = some (.int .i64 m.frm) from rfl) ?_) | ((with_reducible refine atDst 8 ?_); refine wpList_load_one _ _ rfl (by rfl) _ 0 rfl Kb0.out Tryz.underlying3 rfl (show ((msR m2 l2))[0]? = some (.int .i64 m2.kind) from rfl) ?_) | ((with_reducible refine atDst 6 ?_); refine wpList_load_one _ _ rfl (by rfl) _ 0 rfl Ka0.out Tryz.underlying3 rfl (show ((msR m l))[0]? = some (.int .i64 m.kind) from rfl) ?_))
   go_ret
   exact ⟨rfl, HB0.out⟩
 ·have hv : decide (m = m2) = false := decide_eq_false (fun e => hkind (congrArg Mg.kind e))
  rw [hv]
  clear hv
  have e1 : (m.kind == m2.kind) = false := by simpa using hkind
  have e2 : (m.kind != m2.kind) = true := by simpa using hkind
  clear hkind
  obtain ⟨w0, he0, hw0, kQa, kQb, hb0⟩ := boxes2 W (.cells (msR m l) 80) (.cells (msR m2 l2) 80)
  have Ka0 := Lib.hid kQa
  have Kb0 := Lib.hid kQb
  have HB0 := Lib.hid hb0
  have HE0 := Lib.hid he0
  clear he0 hb0 kQa kQb
  go_enter Tryz.func60, Tryz.ntmps60
  go_upto_region 1 with fail
  rw [← HE0.out]
  go_wp2_with (first | go_skip | ((with_reducible refine atDst 8 ?_); refine wpList_load_one _ _ rfl (by rfl) _ 0 rfl Kb0.out Tryz.underlying3 rfl (show ((msR m2 l2))[0]? = some (.int .i64 m2.kind) from rfl) ?_) | ((with_reducible refine atDst 6 ?_); refine wpList_load_one _ _ rfl (by rfl) _ 0 rfl Ka0.out Tryz.underlying3 rfl (show ((msR m l))[0]? = some (.int .i64 m.kind) from rfl) ?_))
  go_ret
  exact ⟨rfl, HB0.out⟩

def sL : Mg := ⟨1, 1, 2, (3, 1), z2, z2, [opL], false, [], false, z2, val0, [], []⟩
def sB : Mg := ⟨1, 1, 2, (3, 1), z2, z2, [], false, [], false, z2, val0, [], []⟩
def lS (k : Nat) : PlM := ⟨.slice (some ⟨k, 0, none⟩) 1 1, .slice none 0 0, .slice none 0 0, .slice none 0 0, .slice none 0 0⟩
def lN : PlM := ⟨.slice none 0 0, .slice none 0 0, .slice none 0 0, .slice none 0 0, .slice none 0 0⟩
theorem sL_check : checkMB sL = true := by decide +kernel
theorem sB_check : checkMB sB = false := by decide +kernel
theorem mg0_check : checkM mg0 = 130 := by decide +kernel
theorem few_sL : FewM sL := ⟨by decide, ⟨by decide, by decide⟩, ⟨by decide, by decide⟩, by decide, by decide⟩
theorem few_sB : FewM sB := ⟨by decide, ⟨by decide, by decide⟩, ⟨by decide, by decide⟩, by decide, by decide⟩
theorem few_mg0 : FewM mg0 := ⟨by decide, ⟨by decide, by decide⟩, ⟨by decide, by decide⟩, by decide, by decide⟩
theorem put_sL : PutM sL := ⟨fun o ho => (by have e : o = opL := (by simpa [sL] using ho); rw [e]; exact ⟨by decide, by decide⟩), fun o ho => (by cases ho), fun o ho => (by cases ho)⟩
theorem put_sB : PutM sB := ⟨fun o ho => (by cases ho), fun o ho => (by cases ho), fun o ho => (by cases ho)⟩
theorem num_sL : NumM sL := ⟨fun o ho => (by have e : o = opL := (by simpa [sL] using ho); rw [e]; decide), fun o ho => (by cases ho), fun o ho => (by cases ho), by decide, by decide⟩
theorem parse_sL : parseM (layM sL) = some sL := parseM_back sL_check num_sL
theorem len_sL : (layM sL).length = 180 := by
 rw [layM_len, bodyM_is]
 rfl
theorem ms_nil (W : World) : MsAt W mg0 lN := nil_ms W
theorem ms_nilB (W : World) : MsAt W sB lN := ⟨slG_nil9 _ _, dlV_nil9 _, dlV_nil9 _, slG_nil9 _ _, slG_nil9 _ _⟩
theorem slG_block {α : Type} {E : Enc α} {w : World} {k : Nat} {cs : Array Value} {T : TypeId} (h : w.heap[k]? = some (.cells cs T (0, 0))) (l : List α) (hcs : cs = (cellsG E l).toArray) (n : Nat) (hn : n = l.length) : SlG E w (.slice (some ⟨k, 0, none⟩) n n) l := by
 subst hcs
 subst hn
 refine ⟨_, _, rfl, fun h => (by cases h), fun _ => ⟨k, 0, rfl, lt_of_block h, fun i y hi j u hu => ?_⟩⟩
 have e := cellsG_at l i y hi j (enc_lt hu)
 rw [hu] at e
 simp only [World.cell?, h]
 simpa using e
theorem row_len {w : World} {g : Option Nat} {v : Value} {l : List UInt8} (h : S2.Row w g v l) : ∃ a cap, v = .slice a l.length cap ∧ (a ≠ none → l.length ≤ cap) ∧ S2.Bw w (g.getD 0) v l := by
 have hb := h.bs.bw
 rcases h.1.2 with ⟨rfl, h0⟩ | ⟨b, cap, cur, rfl, _, _, hc, _⟩
 ·refine ⟨none, 0, ?_, fun h => absurd rfl h, hb⟩
  have e : l.length = 0 := h0
  rw [e]
 ·exact ⟨_, cap, rfl, fun _ => hc, hb⟩
theorem num13_any (n : Int) (w : World) : Calls Tryz.prog 57 #[.int .i64 n] w fun e w' => e = .returned (.int .i64 n) ∧ w = w' := by
 go_enter Tryz.func57, Tryz.ntmps57
 go_wp2
 go_ret
 exact ⟨rfl, rfl⟩
theorem some_any2 (W : World) : Calls Tryz.prog 61 #[] W fun e w' => ∃ k, e = .returned (.agg (msR sL (lS k))) ∧ MsAt w' sL (lS k) ∧ Below W.heap.size W w' ∧ W.heap.size ≤ k ∧ w'.heap[k]? = some (.cells #[.int .i64 1, .string ⟨#[97]⟩, .string ⟨#[]⟩, .int .u64 0] 106 (0, 0)) := by
 have K0 : Hid (((W.alloc (.cells #[.int .i64 0, .int .i64 0, .int .i64 0, .int .i64 0, .int .i64 0, .int .i64 0, .int .i64 0, .int .i64 0, .int .i64 0, .slice none 0 0, .bool false, .slice none 0 0, .bool false, .int .i64 0, .int .i64 0, .bool false, .int .i64 0, .int .i64 0, .slice none 0 0, .slice none 0 0, .slice none 0 0] 80)).alloc (.cells #[.int .i64 1, .string ⟨#[97]⟩, .string ⟨#[]⟩, .int .u64 0] 106)).heap[W.heap.size]? = some (.cells #[.int .i64 0, .int .i64 0, .int .i64 0, .int .i64 0, .int .i64 0, .int .i64 0, .int .i64 0, .int .i64 0, .int .i64 0, .slice none 0 0, .bool false, .slice none 0 0, .bool false, .int .i64 0, .int .i64 0, .bool false, .int .i64 0, .int .i64 0, .slice none 0 0, .slice none 0 0, .slice none 0 0] 80 (0, 0))) := Lib.hid (nth_box W [(.cells #[.int .i64 0, .int .i64 0, .int .i64 0, .int .i64 0, .int .i64 0, .int .i64 0, .int .i64 0, .int .i64 0, .int .i64 0, .slice none 0 0, .bool false, .slice none 0 0, .bool false, .int .i64 0, .int .i64 0, .bool false, .int .i64 0, .int .i64 0, .slice none 0 0, .slice none 0 0, .slice none 0 0] 80), (.cells #[.int .i64 1, .string ⟨#[97]⟩, .string ⟨#[]⟩, .int .u64 0] 106)] 0 _ rfl).1
 have K1 : Hid (((W.alloc (.cells #[.int .i64 0, .int .i64 0, .int .i64 0, .int .i64 0, .int .i64 0, .int .i64 0, .int .i64 0, .int .i64 0, .int .i64 0, .slice none 0 0, .bool false, .slice none 0 0, .bool false, .int .i64 0, .int .i64 0, .bool false, .int .i64 0, .int .i64 0, .slice none 0 0, .slice none 0 0, .slice none 0 0] 80)).alloc (.cells #[.int .i64 1, .string ⟨#[97]⟩, .string ⟨#[]⟩, .int .u64 0] 106)).heap[W.heap.size + 1]? = some (.cells #[.int .i64 1, .string ⟨#[97]⟩, .string ⟨#[]⟩, .int .u64 0] 106 (0, 0))) := Lib.hid (nth_box W [(.cells #[.int .i64 0, .int .i64 0, .int .i64 0, .int .i64 0, .int .i64 0, .int .i64 0, .int .i64 0, .int .i64 0, .int .i64 0, .slice none 0 0, .bool false, .slice none 0 0, .bool false, .int .i64 0, .int .i64 0, .bool false, .int .i64 0, .int .i64 0, .slice none 0 0, .slice none 0 0, .slice none 0 0] 80), (.cells #[.int .i64 1, .string ⟨#[97]⟩, .string ⟨#[]⟩, .int .u64 0] 106)] 1 _ rfl).1
 have HB : Hid (Below W.heap.size W ((W.alloc (.cells #[.int .i64 0, .int .i64 0, .int .i64 0, .int .i64 0, .int .i64 0, .int .i64 0, .int .i64 0, .int .i64 0, .int .i64 0, .slice none 0 0, .bool false, .slice none 0 0, .bool false, .int .i64 0, .int .i64 0, .bool false, .int .i64 0, .int .i64 0, .slice none 0 0, .slice none 0 0, .slice none 0 0] 80)).alloc (.cells #[.int .i64 1, .string ⟨#[97]⟩, .string ⟨#[]⟩, .int .u64 0] 106))) := Lib.hid (blAlloc (blAlloc (Below.refl _ _) _) _)
 go_enter Tryz.func61, Tryz.ntmps61
 go_wp2_with (first | ((with_reducible refine atW ((W.alloc (.cells #[.int .i64 0, .int .i64 0, .int .i64 0, .int .i64 0, .int .i64 0, .int .i64 0, .int .i64 0, .int .i64 0, .int .i64 0, .slice none 0 0, .bool false, .slice none 0 0, .bool false, .int .i64 0, .int .i64 0, .bool false, .int .i64 0, .int .i64 0, .slice none 0 0, .slice none 0 0, .slice none 0 0] 80)).alloc (.cells #[.int .i64 1, .string ⟨#[97]⟩, .string ⟨#[]⟩, .int .u64 0] 106)) ?_); refine storeM _ _ rfl rfl _ rfl rfl K0.out rfl rfl (by simp [Value.oneCell']) ?_; intro w2 h1 h2; have K2 := Lib.hid h1; have KO := Lib.hid (grown_other9 K1.out h2 (by simp) (by omega)); have HB2 : Hid (Below W.heap.size W w2) := Lib.hid (below_grown9 HB.out h2 (Nat.le_refl _)); clear h1 h2))
 refine bodyPost_ret (results_cell_row Tryz.results61 _ _ _ 80 _ (0, 0) _ rfl K2.out Tryz.underlying80 rfl szMsg) rfl ?_
 exact ⟨W.heap.size + 1, rfl, ⟨slG_block KO.out [opL] rfl 1 rfl, dlV_nil9 _, dlV_nil9 _, slG_nil9 _ _, slG_nil9 _ _⟩, HB2.out, Nat.le_succ _, KO.out⟩
theorem some_any (W : World) : Calls Tryz.prog 61 #[] W fun e w' => ∃ k, e = .returned (.agg (msR sL (lS k))) ∧ MsAt w' sL (lS k) ∧ Below W.heap.size W w' := (some_any2 W).mono fun e w' ⟨k, h1, h2, h3, _⟩ => ⟨k, h1, h2, h3⟩
theorem live13_any (W : World) : Calls Tryz.prog 52 #[] W fun e w' => e = .returned (.bool true) ∧ Below W.heap.size W w' := by
 have HPA := Lib.hid (fun (gv : Nat) (ba : Option Addr) (bc : Nat) (w : World) (hB : S2.Bw w gv (.slice ba (layM sL).length bc) (layM sL)) (hcap : ba ≠ none → (layM sL).length ≤ bc) => parse13_any gv ba bc (layM sL) w hB hcap (by rw [len_sL]; decide))
 obtain ⟨nL, hnL⟩ : ∃ x, x = (layM sL).length := ⟨_, rfl⟩
 rw [← hnL] at HPA
 have n50 : (50 : Int) < (nL : Int) := by rw [hnL, len_sL]; decide
 have d50 : decide ((50 : Int) < (nL : Int)) = true := decide_eq_true n50
 have HNL := Lib.hid hnL
 have w00 : IntKind.i64.wrap 0 = 0 := rfl
 have w01 : wrap64 0 = 0 := by unfold wrap64; omega
 clear hnL
 go_enter Tryz.func52, Tryz.ntmps52
 go_upto_region 6 with (first | go_skip | ((with_reducible refine atC w7 ?_); go_at_call 53; go_must (refine (put13_any sB lN w7 (ms_nilB _) few_sB (fun _ => put_sB) rfl).mono ?_; intro e w8 h; unfold RetPut at h; rw [if_neg (by rw [sB_check]; simp)] at h; obtain ⟨rfl, h5⟩ := h; have HB8 : Hid (Below w5.heap.size w5 w8) := Lib.hid (blThen HB7.out h5); have K8 := Lib.hid ((h5.block w3.heap.size (lt_of_block K7.out)).trans K7.out); have HBT : Hid (Below W.heap.size W w8) := Lib.hid (blThen (blThen (blThen HB3.out HB4.out) HB5.out) HB8.out); have HT8 : Hid (Below w3.heap.size w3 w8) := Lib.hid (blThen (blThen HB4.out HB5.out) HB8.out); clear h5)) | ((with_reducible refine atW w7 ?_); refine loadM _ rfl rfl _ rfl N7.out rfl ?_) | ((with_reducible refine atW w6 ?_); refine wpList_store_part _ _ _ rfl (by rfl) _ 9 rfl rfl (cs := #[.slice none 0 0]) rfl N6.out (by kernel_rfl) (by simp [msR]) (by simp [Value.oneCell']) (D := msR sB lN) rfl ?_; intro w7 h1 h2; have N7 := Lib.hid h1; have K7 := Lib.hid (grown_other9 K6.out h2 (lt_of_block K6.out) (by have := lt_of_block K5.out; omega)); have HB7 : Hid (Below w5.heap.size w5 w7) := Lib.hid (below_grown9 HB6.out h2 (Nat.le_refl _)); clear h1 h2) | ((with_reducible refine atW (w5.alloc (.cells #[.int .i64 0, .int .i64 0, .int .i64 0, .int .i64 0, .int .i64 0, .int .i64 0, .int .i64 0, .int .i64 0, .int .i64 0, .slice none 0 0, .bool false, .slice none 0 0, .bool false, .int .i64 0, .int .i64 0, .bool false, .int .i64 0, .int .i64 0, .slice none 0 0, .slice none 0 0, .slice none 0 0] 80)) ?_); refine storeM _ _ rfl rfl _ rfl rfl (new_blockC w5 _ _) rfl rfl (ms_one HA5.out) ?_; intro w6 h1 h2; have N6 := Lib.hid h1; have K6 := Lib.hid (grown_other9 (((blAlloc (Below.refl w5.heap.size w5) (.cells #[.int .i64 0, .int .i64 0, .int .i64 0, .int .i64 0, .int .i64 0, .int .i64 0, .int .i64 0, .int .i64 0, .int .i64 0, .slice none 0 0, .bool false, .slice none 0 0, .bool false, .int .i64 0, .int .i64 0, .bool false, .int .i64 0, .int .i64 0, .slice none 0 0, .slice none 0 0, .slice none 0 0] 80)).block w3.heap.size (lt_of_block K5.out)).trans K5.out) h2 (by have := lt_of_block K5.out; simp; omega) (by have := lt_of_block K5.out; omega)); have HB6 : Hid (Below w5.heap.size w5 w6) := Lib.hid (below_grown9 (blAlloc (Below.refl _ _) _) h2 (Nat.le_refl _)); clear h1 h2) | ((with_reducible refine atC w4 ?_); go_at_call 61; go_must (refine (some_any _).mono ?_; rintro e w5 ⟨k5, rfl, ha, h5⟩; have HA5 := Lib.hid ha; have HB5 : Hid (Below w4.heap.size w4 w5) := Lib.hid h5; have K5 := Lib.hid ((h5.block w3.heap.size (lt_of_block K4.out)).trans K4.out); clear ha h5)) | ((with_reducible refine atW (w3.alloc (.cells #[.int .i64 0, .int .i64 0, .int .i64 0, .int .i64 0, .int .i64 0, .int .i64 0, .int .i64 0, .int .i64 0, .int .i64 0, .slice none 0 0, .bool false, .slice none 0 0, .bool false, .int .i64 0, .int .i64 0, .bool false, .int .i64 0, .int .i64 0, .slice none 0 0, .slice none 0 0, .slice none 0 0] 80)) ?_); go_must (refine storeM _ _ rfl rfl _ rfl rfl (new_blockC w3 _ _) rfl rfl (ms_one HA3.out) ?_); intro w4 h1 h2; have K4 := Lib.hid h1; have HB4 : Hid (Below w3.heap.size w3 w4) := Lib.hid (below_grown9 (blAlloc (Below.refl _ _) _) h2 (Nat.le_refl _)); clear h1 h2) | ((with_reducible refine atC w2 ?_); go_at_call 55; go_must (refine (HPA.out _ ba bc w2 HBW.out HCAP.out).mono ?_; intro e w3 h; unfold RetPm at h; rw [parse_sL] at h; obtain ⟨⟨po, pd, pv, pw, pp⟩, he, ha, h5⟩ := h; have ha : MsAt w3 sL ⟨po, pd, pv, pw, pp⟩ := ha; have he2 : e = .returned (.tuple #[.agg (msR sL ⟨po, pd, pv, pw, pp⟩), .int .i64 0]) := he; subst he2; clear he; have HA3 := Lib.hid ha; obtain ⟨poa, poc, pda, pdc, pva, pvc, pwa, pwc, ppa, ppc, hpl⟩ := ms_form ha; simp only [PlM.mk.injEq] at hpl; obtain ⟨rfl, rfl, rfl, rfl, rfl⟩ := hpl; have HB3 : Hid (Below W.heap.size W w3) := Lib.hid (blThen HB2.out h5); clear ha h5)) | ((with_reducible refine atC w1 ?_); go_at_call 53; go_must (refine (put13_any sL (lS k1) w1 HA1.out few_sL (fun _ => put_sL) rfl).mono ?_; intro e w2 h; unfold RetPut at h; rw [if_pos sL_check] at h; obtain ⟨v, g, rfl, hr, hn, h5⟩ := h; obtain ⟨ba, bc, rfl, hcap, hbw⟩ := row_len hr; rw [← HNL.out] at hbw hcap ⊢; have HBW := Lib.hid hbw; have HCAP := Lib.hid hcap; have HB2 : Hid (Below W.heap.size W w2) := Lib.hid (blThen HB1.out h5); clear hr hn h5 hcap hbw)) | ((with_reducible refine atC W ?_); go_at_call 61; go_must (refine (some_any _).mono ?_; rintro e w1 ⟨k1, rfl, ha, h5⟩; have HA1 := Lib.hid ha; have HB1 := Lib.hid h5; clear ha h5)))
 refine wp_region_held_drew (S := fun Y => Y.heap[w3.heap.size]? = some (.cells (msR sL ⟨.slice poa sL.ops.length poc, .slice pda sL.deps.length pdc, .slice pva sL.val.2.2.length pvc, .slice pwa sL.writes.length pwc, .slice ppa sL.pairs.length ppc⟩) 80 (0, 0))) (by kernel_rfl) (K8.out) (fun hHeld => ?_)
 have K9 : Hid (w8.drew.heap[w3.heap.size]? = some (.cells (msR sL ⟨.slice poa sL.ops.length poc, .slice pda sL.deps.length pdc, .slice pva sL.val.2.2.length pvc, .slice pwa sL.writes.length pwc, .slice ppa sL.pairs.length ppc⟩) 80 (0, 0))) := Lib.hid K8.out
 have HB9 : Hid (Below W.heap.size W w8.drew) := Lib.hid HBT.out.drew
 have HT9 : Hid (Below w3.heap.size w3 w8.drew) := Lib.hid HT8.out.drew
 generalize w8.drew = w9 at *
 refine wpAnyH_take (i := 0) (oi := ⟨_, _, _, _, _, _⟩) (v := ?_) rfl (by kernel_rfl) (by kernel_rfl) (by kernel_rfl) (fun _ _ _ h => h) (Or.inl ⟨by rfl, ?_⟩) (by assumption) ?_
 rotate_left
 ·intro w hSw
  try dsimp only at hSw
  go_simp
  try with_reducible rfl
 try simp only [Act.put, List.setIfInBounds_toArray, List.set_cons_zero, List.set_cons_succ]
 refine wpAnyH_take (i := 2) (oi := ⟨_, _, _, _, _, _⟩) (v := ?_) rfl (by kernel_rfl) (by kernel_rfl) (by kernel_rfl) (fun _ _ _ h => h) (Or.inl ⟨by rfl, ?_⟩) (by assumption) ?_
 rotate_left
 ·intro w hSw
  try dsimp only at hSw
  go_simp
  try with_reducible rfl
 try simp only [Act.put, List.setIfInBounds_toArray, List.set_cons_zero, List.set_cons_succ]
 refine wpAnyH_ready (rs := [1]) (by kernel_rfl) (by simp) ?_
 refine AllReadyH.cons (o := ⟨_, _, _, _, _, _⟩) rfl (fun K hK => ?_) ?_
 rotate_left
 ·exact AllReadyH.nil
 go_simp
 go_at_call 57
 refine (num13_any _ _).mono ?_
 rintro e wn ⟨rfl, rfl⟩
 refine hK.out _ _ (hHeld) (fun hHeld => ?_)
 clear hK K
 try simp only [Act.put, List.setIfInBounds_toArray, List.set_cons_zero, List.set_cons_succ]
 refine wpAnyH_ready (rs := [3]) (by kernel_rfl) (by simp) ?_
 refine AllReadyH.cons (o := ⟨_, _, _, _, _, _⟩) rfl (fun K hK => ?_) ?_
 rotate_left
 ·exact AllReadyH.nil
 go_simp
 go_at_call 57
 refine (num13_any _ _).mono ?_
 rintro e wn ⟨rfl, rfl⟩
 refine hK.out _ _ (hHeld) (fun hHeld => ?_)
 clear hK K
 try simp only [Act.put, List.setIfInBounds_toArray, List.set_cons_zero, List.set_cons_succ]
 refine wpAnyH_take (i := 4) (oi := ⟨_, _, _, _, _, _⟩) (v := ?_) rfl (by kernel_rfl) (by kernel_rfl) (by kernel_rfl) (fun _ _ _ h => h) (Or.inl ⟨by rfl, ?_⟩) (by assumption) ?_
 rotate_left
 ·intro w hSw
  try dsimp only at hSw
  go_simp
  try with_reducible rfl
 try simp only [Act.put, List.setIfInBounds_toArray, List.set_cons_zero, List.set_cons_succ]
 refine wpAnyH_take (i := 5) (oi := ⟨_, _, _, _, _, _⟩) (v := ?_) rfl (by kernel_rfl) (by kernel_rfl) (by kernel_rfl) (fun _ _ _ h => h) (Or.inl ⟨by rfl, ?_⟩) (by assumption) ?_
 rotate_left
 ·intro w hSw
  try dsimp only at hSw
  go_simp
  try with_reducible rfl
 try simp only [Act.put, List.setIfInBounds_toArray, List.set_cons_zero, List.set_cons_succ]
 refine wpAnyH_take (i := 6) (oi := ⟨_, _, _, _, _, _⟩) (v := ?_) rfl (by kernel_rfl) (by kernel_rfl) (by kernel_rfl) (fun _ _ _ h => h) (Or.inl ⟨by rfl, ?_⟩) (by assumption) ?_
 rotate_left
 ·intro w hSw
  try dsimp only at hSw
  go_simp
  try with_reducible rfl
 try simp only [Act.put, List.setIfInBounds_toArray, List.set_cons_zero, List.set_cons_succ]
 refine wpAnyH_take (i := 7) (oi := ⟨_, _, _, _, _, _⟩) (v := ?_) rfl (by kernel_rfl) (by kernel_rfl) (by kernel_rfl) (fun _ _ _ h => h) (Or.inl ⟨by rfl, ?_⟩) (by assumption) ?_
 rotate_left
 ·intro w hSw
  try dsimp only at hSw
  go_simp
  try with_reducible rfl
 try simp only [Act.put, List.setIfInBounds_toArray, List.set_cons_zero, List.set_cons_succ]
 refine wpAnyH_take (i := 8) (oi := ⟨_, _, _, _, _, _⟩) (v := ?_) rfl (by kernel_rfl) (by kernel_rfl) (by kernel_rfl) (fun _ _ _ h => h) (Or.inl ⟨by rfl, ?_⟩) (by assumption) ?_
 rotate_left
 ·intro w hSw
  try dsimp only at hSw
  go_simp
  try with_reducible rfl
 try simp only [Act.put, List.setIfInBounds_toArray, List.set_cons_zero, List.set_cons_succ]
 refine wpAnyH_take (i := 9) (oi := ⟨_, _, _, _, _, _⟩) (v := ?_) rfl (by kernel_rfl) (by kernel_rfl) (by kernel_rfl) (fun _ _ _ h => h) (Or.inl ⟨by rfl, ?_⟩) (by assumption) ?_
 rotate_left
 ·intro w hSw
  try dsimp only at hSw
  go_simp
  try with_reducible rfl
 try simp only [Act.put, List.setIfInBounds_toArray, List.set_cons_zero, List.set_cons_succ]
 refine wpAnyH_take (i := 10) (oi := ⟨_, _, _, _, _, _⟩) (v := ?_) rfl (by kernel_rfl) (by kernel_rfl) (by kernel_rfl) (fun _ _ _ h => h) (Or.inl ⟨by rfl, ?_⟩) (by assumption) ?_
 rotate_left
 ·intro w hSw
  try dsimp only at hSw
  go_simp
  try with_reducible rfl
 try simp only [Act.put, List.setIfInBounds_toArray, List.set_cons_zero, List.set_cons_succ]
 refine wpAnyH_take (i := 11) (oi := ⟨_, _, _, _, _, _⟩) (v := ?_) rfl (by kernel_rfl) (by kernel_rfl) (by kernel_rfl) (fun _ _ _ h => h) (Or.inl ⟨by rfl, ?_⟩) (by assumption) ?_
 rotate_left
 ·intro w hSw
  try dsimp only at hSw
  go_simp
  try with_reducible rfl
 try simp only [Act.put, List.setIfInBounds_toArray, List.set_cons_zero, List.set_cons_succ]
 refine wpAnyH_take (i := 12) (oi := ⟨_, _, _, _, _, _⟩) rfl (by kernel_rfl) (by kernel_rfl) (by kernel_rfl) (fun _ _ _ h => h) (yields_row (by rfl) _ _ rfl _ 0 rfl (fun w h => h) Tryz.underlying80 rfl (msR sL ⟨.slice poa sL.ops.length poc, .slice pda sL.deps.length pdc, .slice pva sL.val.2.2.length pvc, .slice pwa sL.writes.length pwc, .slice ppa sL.pairs.length ppc⟩) szMsg all_at) (by assumption) ?_
 try simp only [Act.put, List.setIfInBounds_toArray, List.set_cons_zero, List.set_cons_succ]
 refine wpAnyH_ready (rs := [13]) (by kernel_rfl) (by simp) ?_
 refine AllReadyH.cons (o := ⟨_, _, _, _, _, _⟩) rfl (fun K hK => ?_) ?_
 rotate_left
 ·exact AllReadyH.nil
 go_simp
 go_at_call 61
 refine (some_any _).mono ?_
 rintro e wa ⟨ka, rfl, ha, h5⟩
 have HAa := Lib.hid ha
 have Ka := Lib.hid ((h5.block w3.heap.size (lt_of_block K9.out)).trans K9.out)
 have HBa : Hid (Below W.heap.size W wa) := Lib.hid (blThen HB9.out h5)
 have HTa : Hid (Below w3.heap.size w3 wa) := Lib.hid (blThen HT9.out h5)
 clear ha h5
 refine hK.out _ _ (Ka.out) (fun hHeld => ?_)
 clear hK K
 try simp only [Act.put, List.setIfInBounds_toArray, List.set_cons_zero, List.set_cons_succ]
 refine wpAnyH_ready (rs := [14]) (by kernel_rfl) (by simp) ?_
 refine AllReadyH.cons (o := ⟨_, _, _, _, _, _⟩) rfl (fun K hK => ?_) ?_
 rotate_left
 ·exact AllReadyH.nil
 go_simp
 go_at_call 60
 refine (rsameM_any sL sL ⟨.slice poa sL.ops.length poc, .slice pda sL.deps.length pdc, .slice pva sL.val.2.2.length pvc, .slice pwa sL.writes.length pwc, .slice ppa sL.pairs.length ppc⟩ (lS ka) wa (HA3.out.later HTa.out) HAa.out few_sL few_sL).mono ?_
 rw [decide_eq_true rfl]
 rintro e wb ⟨rfl, h5⟩
 have Kb := Lib.hid ((h5.block w3.heap.size (lt_of_block Ka.out)).trans Ka.out)
 have HBb : Hid (Below W.heap.size W wb) := Lib.hid (blThen HBa.out h5)
 clear h5
 refine hK.out _ _ (Kb.out) (fun hHeld => ?_)
 clear hK K
 try simp only [Act.put, List.setIfInBounds_toArray, List.set_cons_zero, List.set_cons_succ]
 refine wpAnyH_take (i := 15) (oi := ⟨_, _, _, _, _, _⟩) (v := ?_) rfl (by kernel_rfl) (by kernel_rfl) (by kernel_rfl) (fun _ _ _ h => h) (Or.inl ⟨by rfl, ?_⟩) (by assumption) ?_
 rotate_left
 ·intro w hSw
  try dsimp only at hSw
  go_simp
  try with_reducible rfl
 try simp only [Act.put, List.setIfInBounds_toArray, List.set_cons_zero, List.set_cons_succ]
 refine wpAnyH_take (i := 16) (oi := ⟨_, _, _, _, _, _⟩) (v := ?_) rfl (by kernel_rfl) (by kernel_rfl) (by kernel_rfl) (fun _ _ _ h => h) (Or.inl ⟨by rfl, ?_⟩) (by assumption) ?_
 rotate_left
 ·intro w hSw
  try dsimp only at hSw
  go_simp
  try with_reducible rfl
 try simp only [Act.put, List.setIfInBounds_toArray, List.set_cons_zero, List.set_cons_succ]
 refine wpAnyH_take (i := 17) (oi := ⟨_, _, _, _, _, _⟩) (v := ?_) rfl (by kernel_rfl) (by kernel_rfl) (by kernel_rfl) (fun _ _ _ h => h) (Or.inl ⟨by rfl, ?_⟩) (by assumption) ?_
 rotate_left
 ·intro w hSw
  try dsimp only at hSw
  go_simp
  try with_reducible rfl
 try simp only [Act.put, List.setIfInBounds_toArray, List.set_cons_zero, List.set_cons_succ]
 refine wpAnyH_ready (rs := [18]) (by kernel_rfl) (by simp) ?_
 refine AllReadyH.cons (o := ⟨_, _, _, _, _, _⟩) rfl (fun K hK => ?_) ?_
 rotate_left
 ·exact AllReadyH.nil
 go_simp
 go_at_call 57
 refine (num13_any _ _).mono ?_
 rintro e wn ⟨rfl, rfl⟩
 refine hK.out _ _ (hHeld) (fun hHeld => ?_)
 clear hK K
 try simp only [Act.put, List.setIfInBounds_toArray, List.set_cons_zero, List.set_cons_succ]
 refine wpAnyH_take (i := 19) (oi := ⟨_, _, _, _, _, _⟩) (v := ?_) rfl (by kernel_rfl) (by kernel_rfl) (by kernel_rfl) (fun _ _ _ h => h) (Or.inl ⟨by rfl, ?_⟩) (by assumption) ?_
 rotate_left
 ·intro w hSw
  try dsimp only at hSw
  go_simp
  try with_reducible rfl
 try simp only [Act.put, List.setIfInBounds_toArray, List.set_cons_zero, List.set_cons_succ]
 refine wpAnyH_take (i := 20) (oi := ⟨_, _, _, _, _, _⟩) (v := ?_) rfl (by kernel_rfl) (by kernel_rfl) (by kernel_rfl) (fun _ _ _ h => h) (Or.inl ⟨by rfl, ?_⟩) (by assumption) ?_
 rotate_left
 ·intro w hSw
  try dsimp only at hSw
  go_simp
  try with_reducible rfl
 try simp only [Act.put, List.setIfInBounds_toArray, List.set_cons_zero, List.set_cons_succ]
 refine wpAnyH_take (i := 21) (oi := ⟨_, _, _, _, _, _⟩) (v := ?_) rfl (by kernel_rfl) (by kernel_rfl) (by kernel_rfl) (fun _ _ _ h => h) (Or.inl ⟨by rfl, ?_⟩) (by assumption) ?_
 rotate_left
 ·intro w hSw
  try dsimp only at hSw
  go_simp
  try with_reducible rfl
 try simp only [Act.put, List.setIfInBounds_toArray, List.set_cons_zero, List.set_cons_succ]
 refine wpAnyH_take (i := 22) (oi := ⟨_, _, _, _, _, _⟩) (v := ?_) rfl (by kernel_rfl) (by kernel_rfl) (by kernel_rfl) (fun _ _ _ h => h) (Or.inl ⟨by rfl, ?_⟩) (by assumption) ?_
 rotate_left
 ·intro w hSw
  try dsimp only at hSw
  go_simp
  try with_reducible rfl
 try simp only [Act.put, List.setIfInBounds_toArray, List.set_cons_zero, List.set_cons_succ]
 refine wpAnyH_ready (rs := [23]) (by kernel_rfl) (by simp) ?_
 refine AllReadyH.cons (o := ⟨_, _, _, _, _, _⟩) rfl (fun K hK => ?_) ?_
 rotate_left
 ·exact AllReadyH.nil
 go_simp
 go_at_call 58
 refine (check13_any mg0 lN wb (ms_nil _) few_mg0 rfl).mono ?_
 rw [mg0_check]
 rintro e wc ⟨rfl, h5⟩
 have Kc := Lib.hid ((h5.block w3.heap.size (lt_of_block Kb.out)).trans Kb.out)
 have HBc : Hid (Below W.heap.size W wc) := Lib.hid (blThen HBb.out h5)
 clear h5
 refine hK.out _ _ (Kc.out) (fun hHeld => ?_)
 clear hK K
 try simp only [Act.put, List.setIfInBounds_toArray, List.set_cons_zero, List.set_cons_succ]
 refine wpAnyH_ready (rs := [24]) (by kernel_rfl) (by simp) ?_
 refine AllReadyH.cons (o := ⟨_, _, _, _, _, _⟩) rfl (fun K hK => ?_) ?_
 rotate_left
 ·exact AllReadyH.nil
 go_simp
 go_at_call 57
 refine (num13_any _ _).mono ?_
 rintro e wn ⟨rfl, rfl⟩
 refine hK.out _ _ (hHeld) (fun hHeld => ?_)
 clear hK K
 try simp only [Act.put, List.setIfInBounds_toArray, List.set_cons_zero, List.set_cons_succ]
 refine wpAnyH_take (i := 25) (oi := ⟨_, _, _, _, _, _⟩) (v := ?_) rfl (by kernel_rfl) (by kernel_rfl) (by kernel_rfl) (fun _ _ _ h => h) (Or.inl ⟨by rfl, ?_⟩) (by assumption) ?_
 rotate_left
 ·intro w hSw
  try dsimp only at hSw
  go_simp
  try with_reducible rfl
 try simp only [Act.put, List.setIfInBounds_toArray, List.set_cons_zero, List.set_cons_succ]
 refine wpAnyH_take (i := 26) (oi := ⟨_, _, _, _, _, _⟩) (v := ?_) rfl (by kernel_rfl) (by kernel_rfl) (by kernel_rfl) (fun _ _ _ h => h) (Or.inl ⟨by rfl, ?_⟩) (by assumption) ?_
 rotate_left
 ·intro w hSw
  try dsimp only at hSw
  go_simp
  try with_reducible rfl
 try simp only [Act.put, List.setIfInBounds_toArray, List.set_cons_zero, List.set_cons_succ]
 refine wpAnyH_take (i := 27) (oi := ⟨_, _, _, _, _, _⟩) (v := ?_) rfl (by kernel_rfl) (by kernel_rfl) (by kernel_rfl) (fun _ _ _ h => h) (Or.inl ⟨by rfl, ?_⟩) (by assumption) ?_
 rotate_left
 ·intro w hSw
  try dsimp only at hSw
  go_simp
  try with_reducible rfl
 try simp only [Act.put, List.setIfInBounds_toArray, List.set_cons_zero, List.set_cons_succ]
 refine wpAnyH_done (by kernel_rfl) ?_ _
 go_wp2
 go_ret
 exact ⟨rfl, HBc.out⟩
end SI
end Go.Proofs.YtmpbpeelankihaaGreat
