/- Whether two messages are the same, as the document's answer tells it. Conditions: lists of a size that contracts serve. -/
import Derived.Deep.RegionHeld3
import Derived.WalkSpells
import Derived.Deep.QuietTactic
import Derived.BigQuiet
import Derived.SizedLaws
import Derived.Test.YtgipkikedacmdaaGreatMg53
import Derived.Test.YtgipkikedacmdaaGreatMg51
import Derived.Test.YtgipkikedacmdaaGreatMg21
import Derived.Test.YtgipkikedacmdaaGreatMg49
import Derived.Test.YtgipkikedacmdaaGreatMg48
set_option maxRecDepth 100000
set_option maxHeartbeats 16000000
set_option linter.unusedVariables false
set_option linter.unusedSimpArgs false
namespace Go.Proofs.YtgipkikedacmdaaGreat
open S3 SC SN SP
namespace SI
open Go.ChangeShapes Go.WideShapes Go.ChangeAt Go.RowKit Go.Joins Go.Deep
theorem ite_no13 {b : Bool} [Decidable (b = true)] {p q : Prop} (h : b = false) (hq : q) : if b = true then p else q := by rw [if_neg (by rw [h]; decide)]; exact hq
def RetPm (w : World) (B : List UInt8) (e : Ending) (w' : World) : Prop := ∃ l, e = .returned (.tuple #[msV ((parseM B).getD mg0) l, .int .i64 (if (parseM B).isSome = true then 0 else 130)]) ∧ MsAt w' ((parseM B).getD mg0) l ∧ Below w.heap.size w w'
theorem nil_ms (W : World) : MsAt W mg0 ⟨.slice none 0 0, .slice none 0 0, .slice none 0 0, .slice none 0 0, .slice none 0 0⟩ := ⟨slG_nil9 _ _, dlV_nil9 _, dlV_nil9 _, slG_nil9 _ _, slG_nil9 _ _⟩
theorem parseM_no {B : List UInt8} (h : wholeM B = false ∨ ¬ checkM (readM B) = 0) : parseM B = none := by
 unfold parseM
 rw [if_neg]
 rintro ⟨h1, h2⟩
 rcases h with h | h
 ·rw [h1] at h; cases h
 ·exact h h2
theorem parseM_yes {B : List UInt8} (h1 : wholeM B = true) (h2 : checkM (readM B) = 0) : parseM B = some (readM B) := by
 unfold parseM
 rw [if_pos ⟨h1, h2⟩]
theorem parse13_any (gv : Nat) (ba : Option Addr) (bc : Nat) (B : List UInt8) (w : World) (hB : S2.Bw w gv (.slice ba B.length bc) B) (hcap : ba ≠ none → B.length ≤ bc) (hlen : B.length ≤ 50000) : Calls Tryz.prog 35 #[.slice ba B.length bc] w (RetPm w B) := by
 have HBS : Hid (S2.Bw (w.alloc (.cells #[.int .i64 0, .int .i64 0, .int .i64 0, .int .i64 0, .int .i64 0, .int .i64 0, .int .i64 0, .int .i64 0, .int .i64 0, .slice none 0 0, .bool false, .slice none 0 0, .bool false, .int .i64 0, .int .i64 0, .bool false, .int .i64 0, .int .i64 0, .slice none 0 0, .slice none 0 0, .slice none 0 0] 61)) gv (.slice ba B.length bc) B) := Lib.hid (hB.keep (S2.kAlloc (S2.Keeps.refl (fun _ => False) w) _) (fun _ h => h))
 have HBW := Lib.hid hB
 have HLB := Lib.hid hlen
 have HNE : Hid (ba = none → B = []) := Lib.hid (fun e => by obtain ⟨a, c, hv, h0, _⟩ := hB; cases hv; exact (h0 e).1)
 have hF := few_read B hlen
 have hWF := read_wf B
 have HPN0 := Lib.hid (fun h => parseM_no (B := B) h)
 have HPS0 := Lib.hid (fun h1 h2 => parseM_yes (B := B) h1 h2)
 have HWH : Hid (wholeM B = (decide ((curM B).1.length = 8) && decide (cI.val (curM B) = sumN (B.take (B.length - 8))) && decide (doneC (cI.fin (curM B)) = 0))) := Lib.hid rfl
 have HCE0 : Hid (mgOf (cM.val (B, false, false)) = readM B) := Lib.hid (by rw [readM])
 have HUE0 : Hid (cM.fin (B, false, false) = curM B) := Lib.hid (curM_is B).symm
 have HLEC : Hid ((curM B).1.length ≤ B.length) := Lib.hid (by rw [curM_is]; exact cM_ok.len (B, false, false))
 obtain ⟨C, hC⟩ : ∃ x, x = readM B := ⟨_, rfl⟩
 obtain ⟨U, hU⟩ : ∃ x, x = curM B := ⟨_, rfl⟩
 rw [← hC] at hF hWF HPN0 HPS0 HCE0
 rw [← hU] at HWH HUE0 HLEC
 have HCH := Lib.hid (fun (l : PlM) (Y : World) (h : MsAt Y C l) => check13_any C l Y h hF hWF)
 obtain ⟨kind, frm, dst, ⟨id1, id2⟩, ⟨b1, b2⟩, ⟨a1, a2⟩, ops, fast, deps, has, ⟨q1, q2⟩, ⟨gone, ⟨t1, t2⟩, vdeps⟩, writes, pairs⟩ := C
 obtain ⟨cl, cb, cd⟩ := U
 simp only [msV] at HCH
 simp only at HWH HLEC
 have HCE := HCE0
 have HUE := HUE0
 have Kr0 : Hid ((w.alloc (.cells #[.int .i64 0, .int .i64 0, .int .i64 0, .int .i64 0, .int .i64 0, .int .i64 0, .int .i64 0, .int .i64 0, .int .i64 0, .slice none 0 0, .bool false, .slice none 0 0, .bool false, .int .i64 0, .int .i64 0, .bool false, .int .i64 0, .int .i64 0, .slice none 0 0, .slice none 0 0, .slice none 0 0] 61)).heap[w.heap.size]? = some (.cells #[.int .i64 0, .int .i64 0, .int .i64 0, .int .i64 0, .int .i64 0, .int .i64 0, .int .i64 0, .int .i64 0, .int .i64 0, .slice none 0 0, .bool false, .slice none 0 0, .bool false, .int .i64 0, .int .i64 0, .bool false, .int .i64 0, .int .i64 0, .slice none 0 0, .slice none 0 0, .slice none 0 0] 61 (0, 0))) := Lib.hid (new_blockC w _ _)
 obtain ⟨kk, hkk⟩ : ∃ x, x = B.length - 8 := ⟨_, rfl⟩
 obtain ⟨iv, hiv⟩ : ∃ x, x = cI.val (cl, cb, cd) := ⟨_, rfl⟩
 obtain ⟨sv, hsv⟩ : ∃ x, x = sumN (B.take (B.length - 8)) := ⟨_, rfl⟩
 obtain ⟨dv, hdv⟩ : ∃ x, x = doneC (cI.fin (cl, cb, cd)) := ⟨_, rfl⟩
 rw [← hiv, ← hsv, ← hdv] at HWH
 rw [← hkk] at hsv
 have HIV := Lib.hid hiv.symm
 have HSV := Lib.hid hsv.symm
 have HDV := Lib.hid hdv.symm
 have HKE := Lib.hid hkk
 clear hB hlen hF hWF hC hU hkk hiv hsv hdv HCE0 HUE0
 obtain ⟨nl, hnl⟩ : ∃ x, x = cl.length := ⟨_, rfl⟩
 rw [← hnl] at HWH HLEC
 have HNL := Lib.hid hnl.symm
 clear hnl
 by_cases h8 : nl = 8
 ·have HLE8 : Hid (8 ≤ B.length) := Lib.hid (by have := HLEC.out; omega)
  have HKK : Hid (kk < B.length) := Lib.hid (by have := HLE8.out; have := HKE.out; omega)
  have hbc : B.length ≤ bc := hcap (fun e => by have := HLE8.out; rw [HNE.out e] at this; simp at this)
  subst h8
  have s1 : wrap64 ((B.length : Int) - 8) = ((kk : Nat) : Int) := by have := HLE8.out; have := HKE.out; have := HLB.out; unfold wrap64; omega
  have s2 : IntKind.i64.wrap ((B.length : Int) - 8) = ((kk : Nat) : Int) := by have := HLE8.out; have := HKE.out; have := HLB.out; rw [IntKind.wrap_i64]; omega
  have s3 : (0 : Int) ≤ ((kk : Nat) : Int) := by omega
  have s4 : ((kk : Nat) : Int) ≤ (bc : Int) := by have := HKE.out; omega
  have s5 : kk ≤ bc := by have := HKE.out; omega
  clear hcap hbc
  by_cases hi : iv = sv
  ·subst hi
   by_cases hd : dv = 0
   ·subst hd
    have HWT : Hid (wholeM B = true) := Lib.hid (by rw [HWH.out]; simp)
    by_cases hck : checkM ⟨kind, frm, dst, (id1, id2), (b1, b2), (a1, a2), ops, fast, deps, has, (q1, q2), (gone, (t1, t2), vdeps), writes, pairs⟩ = 0
    ·have HPS := Lib.hid (HPS0.out HWT.out hck)
     go_enter Tryz.func35, Tryz.ntmps35
     go_upto_region 3 with (first | go_skip | ((with_reducible refine atW (w2.alloc (.cells #[.int .i64 0, .int .i64 0, .int .i64 0, .int .i64 0, .int .i64 0, .int .i64 0, .int .i64 0, .int .i64 0, .int .i64 0, .slice none 0 0, .bool false, .slice none 0 0, .bool false, .int .i64 0, .int .i64 0, .bool false, .int .i64 0, .int .i64 0, .slice none 0 0, .slice none 0 0, .slice none 0 0] 61)) ?_); refine storeM _ _ rfl rfl _ rfl rfl K50.out rfl rfl (by simp [Value.oneCell']) ?_; intro w3 h1 h2; have K53 := Lib.hid h1; have h6 : w2.heap.size < w3.heap.size := (by have := h2.size; simp only [World.size_alloc] at this; omega); have Kr4 := Lib.hid (grown_other9 Kr3.out h2 (by simp; omega) (by omega)); have HE4 := Lib.hid (eyeS_store HE3.out h2 (by have := HL2.out; omega) (by have := HL2.out; omega) (fun hne => by have := HE2.out.lt.2.2 hne; omega)); have hb3 := below_grown9 (blAlloc (Below.refl _ _) _) h2 (Nat.le_refl _); have HO3 := Lib.hid (HO2.out.kp (S2.Keeps.ofBelow hb3)); have HB3 : Hid (Below w.heap.size w w3) := Lib.hid (blThen HB2.out hb3); clear h1 h2 hb3) | ((with_reducible refine atC w1 ?_); go_at_call 101; go_must (refine (readM_any HE1.out (by have := HLB.out; show B.length ≤ _; omega)).mono ?_; intro e w2 h; unfold SeeMs at h; rw [HCE.out, HUE.out] at h; obtain ⟨⟨lo, ld, lv, lw, lp⟩, rfl, ho1, he2, hk2⟩ := h; have HO2 := Lib.hid ho1; obtain ⟨oa, oc, rfl⟩ := ho1.o.form; obtain ⟨da, dn, dc, rfl⟩ := ho1.d.form; obtain ⟨va, vn, vc, rfl⟩ := ho1.v.form; obtain ⟨wa, wc, rfl⟩ := ho1.w.form; obtain ⟨pa, pc, rfl⟩ := ho1.p.form; simp only [msV]; generalize ops.length = on at *; generalize writes.length = wn at *; generalize pairs.length = pn at *; have HE2 := Lib.hid he2; have Kr2 := Lib.hid ((hk2.block w.heap.size (by omega) (by have := HSB.out; rintro (e | e) <;> omega)).trans Kr1.out); have hw2 : w1.heap.size ≤ w2.heap.size := hk2.size; have HB2 : Hid (Below w.heap.size w w2) := Lib.hid (HB1.out.trans (hk2.below (by omega) (fun x hx e => by have := HSB.out; rcases e with e | e <;> omega))); have HL2 : Hid (s < w1.heap.size ∧ b < w1.heap.size) := Lib.hid ⟨HE1.out.lt.1, HE1.out.lt.2.1⟩; have K50 : Hid ((w2.alloc (.cells #[.int .i64 0, .int .i64 0, .int .i64 0, .int .i64 0, .int .i64 0, .int .i64 0, .int .i64 0, .int .i64 0, .int .i64 0, .slice none 0 0, .bool false, .slice none 0 0, .bool false, .int .i64 0, .int .i64 0, .bool false, .int .i64 0, .int .i64 0, .slice none 0 0, .slice none 0 0, .slice none 0 0] 61)).heap[w2.heap.size]? = some (.cells #[.int .i64 0, .int .i64 0, .int .i64 0, .int .i64 0, .int .i64 0, .int .i64 0, .int .i64 0, .int .i64 0, .int .i64 0, .slice none 0 0, .bool false, .slice none 0 0, .bool false, .int .i64 0, .int .i64 0, .bool false, .int .i64 0, .int .i64 0, .slice none 0 0, .slice none 0 0, .slice none 0 0] 61 (0, 0))) := Lib.hid (new_blockC w2 _ _); have Kr3 : Hid ((w2.alloc (.cells #[.int .i64 0, .int .i64 0, .int .i64 0, .int .i64 0, .int .i64 0, .int .i64 0, .int .i64 0, .int .i64 0, .int .i64 0, .slice none 0 0, .bool false, .slice none 0 0, .bool false, .int .i64 0, .int .i64 0, .bool false, .int .i64 0, .int .i64 0, .slice none 0 0, .slice none 0 0, .slice none 0 0] 61)).heap[w.heap.size]? = some (.cells #[.int .i64 0, .int .i64 0, .int .i64 0, .int .i64 0, .int .i64 0, .int .i64 0, .int .i64 0, .int .i64 0, .int .i64 0, .slice none 0 0, .bool false, .slice none 0 0, .bool false, .int .i64 0, .int .i64 0, .bool false, .int .i64 0, .int .i64 0, .slice none 0 0, .slice none 0 0, .slice none 0 0] 61 (0, 0))) := Lib.hid (((blAlloc (Below.refl _ _) _ : Below w2.heap.size w2 (w2.alloc (.cells #[.int .i64 0, .int .i64 0, .int .i64 0, .int .i64 0, .int .i64 0, .int .i64 0, .int .i64 0, .int .i64 0, .int .i64 0, .slice none 0 0, .bool false, .slice none 0 0, .bool false, .int .i64 0, .int .i64 0, .bool false, .int .i64 0, .int .i64 0, .slice none 0 0, .slice none 0 0, .slice none 0 0] 61))).block w.heap.size (by omega)).trans Kr2.out); have HE3 : Hid (EyeS (w2.alloc (.cells #[.int .i64 0, .int .i64 0, .int .i64 0, .int .i64 0, .int .i64 0, .int .i64 0, .int .i64 0, .int .i64 0, .int .i64 0, .slice none 0 0, .bool false, .slice none 0 0, .bool false, .int .i64 0, .int .i64 0, .bool false, .int .i64 0, .int .i64 0, .slice none 0 0, .slice none 0 0, .slice none 0 0] 61)) s b g (cl, cb, cd)) := Lib.hid (HE2.out.before (S2.kAlloc (S2.Keeps.refl _ _) _)); clear ho1 he2 hk2)) | ((with_reducible refine atC (w.alloc (.cells #[.int .i64 0, .int .i64 0, .int .i64 0, .int .i64 0, .int .i64 0, .int .i64 0, .int .i64 0, .int .i64 0, .int .i64 0, .slice none 0 0, .bool false, .slice none 0 0, .bool false, .int .i64 0, .int .i64 0, .bool false, .int .i64 0, .int .i64 0, .slice none 0 0, .slice none 0 0, .slice none 0 0] 61)) ?_); go_at_call 44; go_must (refine (sopen_any gv (.slice ba B.length bc) B _ HBS.out (by have := HLB.out; omega)).mono ?_; intro e w1 h; obtain ⟨s, b, g, rfl, he1, hs1, hs2, hs3, h5⟩ := h; have HE1 := Lib.hid he1; have HSB : Hid (w.heap.size + 1 ≤ s ∧ w.heap.size + 1 ≤ b) := Lib.hid (by simp only [World.size_alloc] at hs1 hs2; exact ⟨hs1, hs2⟩); have Kr1 := Lib.hid ((h5.block w.heap.size (by simp)).trans Kr0.out); have hw1 : w.heap.size + 1 ≤ w1.heap.size := (by have := h5.size; simp only [World.size_alloc] at this; exact this); have HB1 : Hid (Below w.heap.size w w1) := Lib.hid (blThen (blAlloc (Below.refl _ _) _) h5); clear he1 hs1 hs2 hs3 h5)))
     have p4 := HE4.out.ptr
     refine wp_region_held_drew (S := fun Y => Y.cell? ⟨s, 0, none⟩ = some (.pointer (some ⟨b, 0, none⟩))) (by kernel_rfl) (p4) (fun hHeld => ?_)
     have HE5 : Hid (EyeS w3.drew s b g (cl, cb, cd)) := Lib.hid (HE4.out.before (S2.kDrew (S2.Keeps.refl _ _)))
     have Kr5 : Hid (w3.drew.heap[w.heap.size]? = some (.cells #[.int .i64 0, .int .i64 0, .int .i64 0, .int .i64 0, .int .i64 0, .int .i64 0, .int .i64 0, .int .i64 0, .int .i64 0, .slice none 0 0, .bool false, .slice none 0 0, .bool false, .int .i64 0, .int .i64 0, .bool false, .int .i64 0, .int .i64 0, .slice none 0 0, .slice none 0 0, .slice none 0 0] 61 (0, 0))) := Kr4
     have K55 : Hid (w3.drew.heap[w2.heap.size]? = some (.cells #[.int .i64 kind, .int .i64 frm, .int .i64 dst, .int .i64 id1, .int .i64 id2, .int .i64 b1, .int .i64 b2, .int .i64 a1, .int .i64 a2, .slice oa on oc, .bool fast, .slice da dn dc, .bool has, .int .i64 q1, .int .i64 q2, .bool gone, .int .i64 t1, .int .i64 t2, .slice va vn vc, .slice wa wn wc, .slice pa pn pc] 61 (0, 0))) := K53
     have HO5 := Lib.hid (HO3.out.kp (S2.kDrew (S2.Keeps.refl _ w3)))
     have HB5 : Hid (Below w.heap.size w w3.drew) := Lib.hid HB3.out.drew
     have h65 : w2.heap.size < w3.drew.heap.size := h6
     have p5 := HE5.out.ptr
     clear HE4 Kr4 K53 HO3 HB3 p4
     generalize w3.drew = w5 at *
     refine wpAnyH_take (i := 0) (oi := ⟨_, _, _, _, _, _⟩) (v := ?_) rfl (by kernel_rfl) (by kernel_rfl) (by kernel_rfl) (fun _ _ _ h => h) (Or.inl ⟨by rfl, ?_⟩) (by assumption) ?_
     rotate_left
     ·intro w hSw
      try dsimp only at hSw
      go_simp
      try with_reducible rfl
     try simp only [Act.put, List.setIfInBounds_toArray, List.set_cons_zero, List.set_cons_succ]
     refine wpAnyH_take (i := 1) (oi := ⟨_, _, _, _, _, _⟩) (v := ?_) rfl (by kernel_rfl) (by kernel_rfl) (by kernel_rfl) (fun _ _ _ h => h) (Or.inl ⟨by rfl, ?_⟩) (by assumption) ?_
     rotate_left
     ·intro w hSw
      try dsimp only at hSw
      go_simp
      try with_reducible rfl
     try simp only [Act.put, List.setIfInBounds_toArray, List.set_cons_zero, List.set_cons_succ]
     refine wpAnyH_take (i := 2) (oi := ⟨_, _, _, _, _, _⟩) (v := ?_) rfl (by kernel_rfl) (by kernel_rfl) (by kernel_rfl) (fun _ _ _ h => h) (Or.inl ⟨by rfl, ?_⟩) (by assumption) ?_
     rotate_left
     ·intro w hSw
      try dsimp only at hSw
      go_simp
      try with_reducible rfl
     try simp only [Act.put, List.setIfInBounds_toArray, List.set_cons_zero, List.set_cons_succ]
     refine wpAnyH_take (i := 3) (oi := ⟨_, _, _, _, _, _⟩) (v := ?_) rfl (by kernel_rfl) (by kernel_rfl) (by kernel_rfl) (fun _ _ _ h => h) (Or.inl ⟨by rfl, ?_⟩) (by assumption) ?_
     rotate_left
     ·intro w hSw
      try dsimp only at hSw
      go_simp
      try with_reducible rfl
     try simp only [Act.put, List.setIfInBounds_toArray, List.set_cons_zero, List.set_cons_succ]
     refine wpAnyH_ready (rs := [4]) (by kernel_rfl) (by simp) ?_
     refine AllReadyH.cons (o := ⟨_, _, _, _, _, _⟩) rfl (fun K hK => ?_) ?_
     rotate_left
     ·exact AllReadyH.nil
     go_simp
     (go_at_call 102; refine (S2.left_any _ b g cl cb HE5.out.2.1).mono ?_; rintro e wq ⟨rfl, rfl⟩; rw [HNL.out])
     refine hK.out _ _ (p5) (fun hHeld => ?_)
     clear hK K
     try simp only [Act.put, List.setIfInBounds_toArray, List.set_cons_zero, List.set_cons_succ]
     refine wpAnyH_take (i := 5) (oi := ⟨_, _, _, _, _, _⟩) (v := ?_) rfl (by kernel_rfl) (by kernel_rfl) (by kernel_rfl) (fun _ _ _ h => h) (Or.inl ⟨by rfl, ?_⟩) (by assumption) ?_
     rotate_left
     ·intro w hSw
      try dsimp only at hSw
      go_simp
      try with_reducible rfl
     try simp only [Act.put, List.setIfInBounds_toArray, List.set_cons_zero, List.set_cons_succ]
     refine wpAnyH_take (i := 6) (oi := ⟨_, _, _, _, _, _⟩) (v := ?_) rfl (by kernel_rfl) (by kernel_rfl) (by kernel_rfl) (fun _ _ _ h => h) (Or.inl ⟨by rfl, ?_⟩) (by assumption) ?_
     rotate_left
     ·intro w hSw
      try dsimp only at hSw
      go_simp
      try with_reducible rfl
     try simp only [Act.put, List.setIfInBounds_toArray, List.set_cons_zero, List.set_cons_succ]
     refine wpAnyH_take (i := 7) (oi := ⟨_, _, _, _, _, _⟩) (v := ?_) rfl (by kernel_rfl) (by kernel_rfl) (by kernel_rfl) (fun _ _ _ h => h) (Or.inl ⟨by rfl, ?_⟩) (by assumption) ?_
     rotate_left
     ·intro w hSw
      try dsimp only at hSw
      go_simp
      try with_reducible rfl
     try simp only [Act.put, List.setIfInBounds_toArray, List.set_cons_zero, List.set_cons_succ]
     refine wpAnyH_take (i := 8) (oi := ⟨_, _, _, _, _, _⟩) (v := ?_) rfl (by kernel_rfl) (by kernel_rfl) (by kernel_rfl) (fun _ _ _ h => h) (Or.inl ⟨by rfl, ?_⟩) (by assumption) ?_
     rotate_left
     ·intro w hSw
      try dsimp only at hSw
      go_simp
      try with_reducible rfl
     try simp only [Act.put, List.setIfInBounds_toArray, List.set_cons_zero, List.set_cons_succ]
     refine wpAnyH_take (i := 9) (oi := ⟨_, _, _, _, _, _⟩) (v := ?_) rfl (by kernel_rfl) (by kernel_rfl) (by kernel_rfl) (fun _ _ _ h => h) (Or.inl ⟨by rfl, ?_⟩) (by assumption) ?_
     rotate_left
     ·intro w hSw
      try dsimp only at hSw
      go_simp
      try with_reducible rfl
     try simp only [Act.put, List.setIfInBounds_toArray, List.set_cons_zero, List.set_cons_succ]
     refine wpAnyH_take (i := 10) (oi := ⟨_, _, _, _, _, _⟩) (v := ?_) rfl (by kernel_rfl) (by kernel_rfl) (by kernel_rfl) (fun _ _ _ h => h) (Or.inl ⟨by rfl, ?_⟩) (by assumption) ?_
     rotate_left
     ·intro w hSw
      try dsimp only at hSw
      go_simp
      try with_reducible rfl
     try simp only [Act.put, List.setIfInBounds_toArray, List.set_cons_zero, List.set_cons_succ]
     refine wpAnyH_take (i := 12) (oi := ⟨_, _, _, _, _, _⟩) (v := ?_) rfl (by kernel_rfl) (by kernel_rfl) (by kernel_rfl) (fun _ _ _ h => h) (Or.inl ⟨by rfl, ?_⟩) (by assumption) ?_
     rotate_left
     ·intro w hSw
      try dsimp only at hSw
      go_simp
      try with_reducible rfl
     try simp only [Act.put, List.setIfInBounds_toArray, List.set_cons_zero, List.set_cons_succ]
     refine wpAnyH_take (i := 13) (oi := ⟨_, _, _, _, _, _⟩) (v := ?_) rfl (by kernel_rfl) (by kernel_rfl) (by kernel_rfl) (fun _ _ _ h => h) (Or.inl ⟨by rfl, ?_⟩) (by assumption) ?_
     rotate_left
     ·intro w hSw
      try dsimp only at hSw
      go_simp
      try with_reducible rfl
     try simp only [Act.put, List.setIfInBounds_toArray, List.set_cons_zero, List.set_cons_succ]
     refine wpAnyH_take (i := 14) (oi := ⟨_, _, _, _, _, _⟩) (v := ?_) rfl (by kernel_rfl) (by kernel_rfl) (by kernel_rfl) (fun _ _ _ h => h) (Or.inl ⟨by rfl, ?_⟩) (by assumption) ?_
     rotate_left
     ·intro w hSw
      try dsimp only at hSw
      go_simp
      try with_reducible rfl
     try simp only [Act.put, List.setIfInBounds_toArray, List.set_cons_zero, List.set_cons_succ]
     refine wpAnyH_take (i := 15) (oi := ⟨_, _, _, _, _, _⟩) (v := ?_) rfl (by kernel_rfl) (by kernel_rfl) (by kernel_rfl) (fun _ _ _ h => h) (Or.inl ⟨by rfl, ?_⟩) (by assumption) ?_
     rotate_left
     ·intro w hSw
      try dsimp only at hSw
      go_simp
      try with_reducible rfl
     try simp only [Act.put, List.setIfInBounds_toArray, List.set_cons_zero, List.set_cons_succ]
     refine wpAnyH_take (i := 16) (oi := ⟨_, _, _, _, _, _⟩) (v := ?_) rfl (by kernel_rfl) (by kernel_rfl) (by kernel_rfl) (fun _ _ _ h => h) (Or.inl ⟨by rfl, ?_⟩) (by assumption) ?_
     rotate_left
     ·intro w hSw
      try dsimp only at hSw
      go_simp
      try with_reducible rfl
     try simp only [Act.put, List.setIfInBounds_toArray, List.set_cons_zero, List.set_cons_succ]
     refine wpAnyH_ready (rs := [11]) (by kernel_rfl) (by simp) ?_
     refine AllReadyH.cons (o := ⟨_, _, _, _, _, _⟩) rfl (fun K hK => ?_) ?_
     rotate_left
     ·exact AllReadyH.nil
     go_simp
     (go_at_call 103; refine (sint_any HE5.out).mono ?_; intro e w6 h; unfold SeeS at h; obtain ⟨rfl, he1, hk1⟩ := h; have hk2 := (both_of (s := s) hk1); rw [HIV.out]; have HE6 := Lib.hid he1; have p6 := he1.ptr; have Kr6 := Lib.hid ((hk2.block w.heap.size (by omega) (by have := HSB.out; rintro (e | e) <;> omega)).trans Kr5.out); have K56 := Lib.hid ((hk2.block w2.heap.size h65 (by have := HL2.out; rintro (e | e) <;> omega)).trans K55.out); have HO6 := Lib.hid (HO5.out.kp (both_lt hk2 (by have := HL2.out; omega) (by have := HL2.out; omega))); have HB6 : Hid (Below w.heap.size w w6) := Lib.hid (HB5.out.trans (hk2.below (by omega) (fun x hx e => by have := HSB.out; rcases e with e | e <;> omega))); have h66 : w2.heap.size < w6.heap.size := Nat.lt_of_lt_of_le h65 hk2.size; clear he1 hk1 hk2)
     refine hK.out _ _ (p6) (fun hHeld => ?_)
     clear hK K
     try simp only [Act.put, List.setIfInBounds_toArray, List.set_cons_zero, List.set_cons_succ]
     refine wpAnyH_ready (rs := [17]) (by kernel_rfl) (by simp) ?_
     refine AllReadyH.cons (o := ⟨_, _, _, _, _, _⟩) rfl (fun K hK => ?_) ?_
     rotate_left
     ·exact AllReadyH.nil
     go_simp
     (go_at_call 98; refine (wsum_any (.slice ba kk bc) (B.take kk) _ (S2.sum_w _ gv _ _ (bw_cut (bw_keep HBW.out HB6.out) HKK.out))).mono ?_; rintro e wq ⟨rfl, rfl⟩; rw [HSV.out])
     refine hK.out _ _ (p6) (fun hHeld => ?_)
     clear hK K
     try simp only [Act.put, List.setIfInBounds_toArray, List.set_cons_zero, List.set_cons_succ]
     refine wpAnyH_take (i := 18) (oi := ⟨_, _, _, _, _, _⟩) (v := ?_) rfl (by kernel_rfl) (by kernel_rfl) (by kernel_rfl) (fun _ _ _ h => h) (Or.inl ⟨by rfl, ?_⟩) (by assumption) ?_
     rotate_left
     ·intro w hSw
      try dsimp only at hSw
      go_simp
      try with_reducible rfl
     try simp only [Act.put, List.setIfInBounds_toArray, List.set_cons_zero, List.set_cons_succ]
     refine wpAnyH_take (i := 19) (oi := ⟨_, _, _, _, _, _⟩) (v := ?_) rfl (by kernel_rfl) (by kernel_rfl) (by kernel_rfl) (fun _ _ _ h => h) (Or.inl ⟨by rfl, ?_⟩) (by assumption) ?_
     rotate_left
     ·intro w hSw
      try dsimp only at hSw
      go_simp
      try with_reducible rfl
     try simp only [Act.put, List.setIfInBounds_toArray, List.set_cons_zero, List.set_cons_succ]
     refine wpAnyH_take (i := 20) (oi := ⟨_, _, _, _, _, _⟩) (v := ?_) rfl (by kernel_rfl) (by kernel_rfl) (by kernel_rfl) (fun _ _ _ h => h) (Or.inl ⟨by rfl, ?_⟩) (by assumption) ?_
     rotate_left
     ·intro w hSw
      try dsimp only at hSw
      go_simp
      try with_reducible rfl
     try simp only [Act.put, List.setIfInBounds_toArray, List.set_cons_zero, List.set_cons_succ]
     refine wpAnyH_take (i := 21) (oi := ⟨_, _, _, _, _, _⟩) (v := ?_) rfl (by kernel_rfl) (by kernel_rfl) (by kernel_rfl) (fun _ _ _ h => h) (Or.inl ⟨by rfl, ?_⟩) (by assumption) ?_
     rotate_left
     ·intro w hSw
      try dsimp only at hSw
      go_simp
      try with_reducible rfl
     try simp only [Act.put, List.setIfInBounds_toArray, List.set_cons_zero, List.set_cons_succ]
     refine wpAnyH_ready (rs := [22]) (by kernel_rfl) (by simp) ?_
     refine AllReadyH.cons (o := ⟨_, _, _, _, _, _⟩) rfl (fun K hK => ?_) ?_
     rotate_left
     ·exact AllReadyH.nil
     go_simp
     (go_at_call 46; refine (sdone_any HE6.out).mono ?_; rintro e wq ⟨rfl, rfl⟩; rw [HDV.out])
     refine hK.out _ _ (p6) (fun hHeld => ?_)
     clear hK K
     try simp only [Act.put, List.setIfInBounds_toArray, List.set_cons_zero, List.set_cons_succ]
     refine wpAnyH_take (i := 23) (oi := ⟨_, _, _, _, _, _⟩) (v := ?_) rfl (by kernel_rfl) (by kernel_rfl) (by kernel_rfl) (fun _ _ _ h => h) (Or.inl ⟨by rfl, ?_⟩) (by assumption) ?_
     rotate_left
     ·intro w hSw
      try dsimp only at hSw
      go_simp
      try with_reducible rfl
     try simp only [Act.put, List.setIfInBounds_toArray, List.set_cons_zero, List.set_cons_succ]
     refine wpAnyH_take (i := 24) (oi := ⟨_, _, _, _, _, _⟩) (v := ?_) rfl (by kernel_rfl) (by kernel_rfl) (by kernel_rfl) (fun _ _ _ h => h) (Or.inl ⟨by rfl, ?_⟩) (by assumption) ?_
     rotate_left
     ·intro w hSw
      try dsimp only at hSw
      go_simp
      try with_reducible rfl
     try simp only [Act.put, List.setIfInBounds_toArray, List.set_cons_zero, List.set_cons_succ]
     refine wpAnyH_take (i := 25) (oi := ⟨_, _, _, _, _, _⟩) (v := ?_) rfl (by kernel_rfl) (by kernel_rfl) (by kernel_rfl) (fun _ _ _ h => h) (Or.inl ⟨by rfl, ?_⟩) (by assumption) ?_
     rotate_left
     ·intro w hSw
      try dsimp only at hSw
      go_simp
      try with_reducible rfl
     try simp only [Act.put, List.setIfInBounds_toArray, List.set_cons_zero, List.set_cons_succ]
     refine wpAnyH_done (by kernel_rfl) ?_ _
     go_wp2_with (first | go_skip | ((with_reducible refine atW w7 ?_); refine storeM _ _ rfl rfl _ rfl rfl Kr7.out rfl rfl (by simp [Value.oneCell']) ?_; intro w9 h1 h2; have K9 := Lib.hid h1; have HO9 := Lib.hid (HO7.out.kp (grown_lt h2 (by omega))); have HB9 : Hid (Below w.heap.size w w9) := Lib.hid (below_grown9 HB7.out h2 (Nat.le_refl _)); clear h1 h2) | ((with_reducible refine atW w7 ?_); refine loadM _ rfl rfl _ rfl K57.out rfl ?_) | ((with_reducible refine atC w6 ?_); go_at_call 38; go_must (refine (HCH.out ⟨.slice oa on oc, .slice da dn dc, .slice va vn vc, .slice wa wn wc, .slice pa pn pc⟩ w6 HO6.out.at).mono ?_; rw [hck]; rintro e w7 ⟨rfl, h5⟩; have HB7 : Hid (Below w.heap.size w w7) := Lib.hid (blThen HB6.out h5); have K57 := Lib.hid ((h5.block w2.heap.size h66).trans K56.out); have Kr7 := Lib.hid ((h5.block w.heap.size (by omega)).trans Kr6.out); have HO7 := Lib.hid (HO6.out.kp (S2.Keeps.ofBelow h5)); have hw7 := h5.size; clear h5)) | ((with_reducible refine atW w6 ?_); refine loadM _ rfl rfl _ rfl K56.out rfl ?_))
     refine bodyPost_ret (results_cell_tmp9 Tryz.results35 _ _ _ 61 _ (0, 0) _ rfl K9.out Tryz.underlying61 rfl szMsg) rfl ?_
     exact ⟨⟨.slice oa on oc, .slice da dn dc, .slice va vn vc, .slice wa wn wc, .slice pa pn pc⟩, by rw [HPS.out]; rfl, by rw [HPS.out]; exact HO9.out.at, HB9.out⟩
    ·have HPN := Lib.hid (HPN0.out (.inr hck))
     obtain ⟨k, hk⟩ : ∃ k, k = checkM ⟨kind, frm, dst, (id1, id2), (b1, b2), (a1, a2), ops, fast, deps, has, (q1, q2), (gone, (t1, t2), vdeps), writes, pairs⟩ := ⟨_, rfl⟩
     rw [← hk] at hck HCH
     have hck2 : ((k == 0) = false) := by simpa using hck
     have hck3 : ((k != 0) = true) := by simpa using hck
     clear hk
     go_enter Tryz.func35, Tryz.ntmps35
     go_upto_region 3 with (first | go_skip | ((with_reducible refine atW (w2.alloc (.cells #[.int .i64 0, .int .i64 0, .int .i64 0, .int .i64 0, .int .i64 0, .int .i64 0, .int .i64 0, .int .i64 0, .int .i64 0, .slice none 0 0, .bool false, .slice none 0 0, .bool false, .int .i64 0, .int .i64 0, .bool false, .int .i64 0, .int .i64 0, .slice none 0 0, .slice none 0 0, .slice none 0 0] 61)) ?_); refine storeM _ _ rfl rfl _ rfl rfl K50.out rfl rfl (by simp [Value.oneCell']) ?_; intro w3 h1 h2; have K53 := Lib.hid h1; have h6 : w2.heap.size < w3.heap.size := (by have := h2.size; simp only [World.size_alloc] at this; omega); have Kr4 := Lib.hid (grown_other9 Kr3.out h2 (by simp; omega) (by omega)); have HE4 := Lib.hid (eyeS_store HE3.out h2 (by have := HL2.out; omega) (by have := HL2.out; omega) (fun hne => by have := HE2.out.lt.2.2 hne; omega)); have hb3 := below_grown9 (blAlloc (Below.refl _ _) _) h2 (Nat.le_refl _); have HO3 := Lib.hid (HO2.out.kp (S2.Keeps.ofBelow hb3)); have HB3 : Hid (Below w.heap.size w w3) := Lib.hid (blThen HB2.out hb3); clear h1 h2 hb3) | ((with_reducible refine atC w1 ?_); go_at_call 101; go_must (refine (readM_any HE1.out (by have := HLB.out; show B.length ≤ _; omega)).mono ?_; intro e w2 h; unfold SeeMs at h; rw [HCE.out, HUE.out] at h; obtain ⟨⟨lo, ld, lv, lw, lp⟩, rfl, ho1, he2, hk2⟩ := h; have HO2 := Lib.hid ho1; obtain ⟨oa, oc, rfl⟩ := ho1.o.form; obtain ⟨da, dn, dc, rfl⟩ := ho1.d.form; obtain ⟨va, vn, vc, rfl⟩ := ho1.v.form; obtain ⟨wa, wc, rfl⟩ := ho1.w.form; obtain ⟨pa, pc, rfl⟩ := ho1.p.form; simp only [msV]; generalize ops.length = on at *; generalize writes.length = wn at *; generalize pairs.length = pn at *; have HE2 := Lib.hid he2; have Kr2 := Lib.hid ((hk2.block w.heap.size (by omega) (by have := HSB.out; rintro (e | e) <;> omega)).trans Kr1.out); have hw2 : w1.heap.size ≤ w2.heap.size := hk2.size; have HB2 : Hid (Below w.heap.size w w2) := Lib.hid (HB1.out.trans (hk2.below (by omega) (fun x hx e => by have := HSB.out; rcases e with e | e <;> omega))); have HL2 : Hid (s < w1.heap.size ∧ b < w1.heap.size) := Lib.hid ⟨HE1.out.lt.1, HE1.out.lt.2.1⟩; have K50 : Hid ((w2.alloc (.cells #[.int .i64 0, .int .i64 0, .int .i64 0, .int .i64 0, .int .i64 0, .int .i64 0, .int .i64 0, .int .i64 0, .int .i64 0, .slice none 0 0, .bool false, .slice none 0 0, .bool false, .int .i64 0, .int .i64 0, .bool false, .int .i64 0, .int .i64 0, .slice none 0 0, .slice none 0 0, .slice none 0 0] 61)).heap[w2.heap.size]? = some (.cells #[.int .i64 0, .int .i64 0, .int .i64 0, .int .i64 0, .int .i64 0, .int .i64 0, .int .i64 0, .int .i64 0, .int .i64 0, .slice none 0 0, .bool false, .slice none 0 0, .bool false, .int .i64 0, .int .i64 0, .bool false, .int .i64 0, .int .i64 0, .slice none 0 0, .slice none 0 0, .slice none 0 0] 61 (0, 0))) := Lib.hid (new_blockC w2 _ _); have Kr3 : Hid ((w2.alloc (.cells #[.int .i64 0, .int .i64 0, .int .i64 0, .int .i64 0, .int .i64 0, .int .i64 0, .int .i64 0, .int .i64 0, .int .i64 0, .slice none 0 0, .bool false, .slice none 0 0, .bool false, .int .i64 0, .int .i64 0, .bool false, .int .i64 0, .int .i64 0, .slice none 0 0, .slice none 0 0, .slice none 0 0] 61)).heap[w.heap.size]? = some (.cells #[.int .i64 0, .int .i64 0, .int .i64 0, .int .i64 0, .int .i64 0, .int .i64 0, .int .i64 0, .int .i64 0, .int .i64 0, .slice none 0 0, .bool false, .slice none 0 0, .bool false, .int .i64 0, .int .i64 0, .bool false, .int .i64 0, .int .i64 0, .slice none 0 0, .slice none 0 0, .slice none 0 0] 61 (0, 0))) := Lib.hid (((blAlloc (Below.refl _ _) _ : Below w2.heap.size w2 (w2.alloc (.cells #[.int .i64 0, .int .i64 0, .int .i64 0, .int .i64 0, .int .i64 0, .int .i64 0, .int .i64 0, .int .i64 0, .int .i64 0, .slice none 0 0, .bool false, .slice none 0 0, .bool false, .int .i64 0, .int .i64 0, .bool false, .int .i64 0, .int .i64 0, .slice none 0 0, .slice none 0 0, .slice none 0 0] 61))).block w.heap.size (by omega)).trans Kr2.out); have HE3 : Hid (EyeS (w2.alloc (.cells #[.int .i64 0, .int .i64 0, .int .i64 0, .int .i64 0, .int .i64 0, .int .i64 0, .int .i64 0, .int .i64 0, .int .i64 0, .slice none 0 0, .bool false, .slice none 0 0, .bool false, .int .i64 0, .int .i64 0, .bool false, .int .i64 0, .int .i64 0, .slice none 0 0, .slice none 0 0, .slice none 0 0] 61)) s b g (cl, cb, cd)) := Lib.hid (HE2.out.before (S2.kAlloc (S2.Keeps.refl _ _) _)); clear ho1 he2 hk2)) | ((with_reducible refine atC (w.alloc (.cells #[.int .i64 0, .int .i64 0, .int .i64 0, .int .i64 0, .int .i64 0, .int .i64 0, .int .i64 0, .int .i64 0, .int .i64 0, .slice none 0 0, .bool false, .slice none 0 0, .bool false, .int .i64 0, .int .i64 0, .bool false, .int .i64 0, .int .i64 0, .slice none 0 0, .slice none 0 0, .slice none 0 0] 61)) ?_); go_at_call 44; go_must (refine (sopen_any gv (.slice ba B.length bc) B _ HBS.out (by have := HLB.out; omega)).mono ?_; intro e w1 h; obtain ⟨s, b, g, rfl, he1, hs1, hs2, hs3, h5⟩ := h; have HE1 := Lib.hid he1; have HSB : Hid (w.heap.size + 1 ≤ s ∧ w.heap.size + 1 ≤ b) := Lib.hid (by simp only [World.size_alloc] at hs1 hs2; exact ⟨hs1, hs2⟩); have Kr1 := Lib.hid ((h5.block w.heap.size (by simp)).trans Kr0.out); have hw1 : w.heap.size + 1 ≤ w1.heap.size := (by have := h5.size; simp only [World.size_alloc] at this; exact this); have HB1 : Hid (Below w.heap.size w w1) := Lib.hid (blThen (blAlloc (Below.refl _ _) _) h5); clear he1 hs1 hs2 hs3 h5)))
     have p4 := HE4.out.ptr
     refine wp_region_held_drew (S := fun Y => Y.cell? ⟨s, 0, none⟩ = some (.pointer (some ⟨b, 0, none⟩))) (by kernel_rfl) (p4) (fun hHeld => ?_)
     have HE5 : Hid (EyeS w3.drew s b g (cl, cb, cd)) := Lib.hid (HE4.out.before (S2.kDrew (S2.Keeps.refl _ _)))
     have Kr5 : Hid (w3.drew.heap[w.heap.size]? = some (.cells #[.int .i64 0, .int .i64 0, .int .i64 0, .int .i64 0, .int .i64 0, .int .i64 0, .int .i64 0, .int .i64 0, .int .i64 0, .slice none 0 0, .bool false, .slice none 0 0, .bool false, .int .i64 0, .int .i64 0, .bool false, .int .i64 0, .int .i64 0, .slice none 0 0, .slice none 0 0, .slice none 0 0] 61 (0, 0))) := Kr4
     have K55 : Hid (w3.drew.heap[w2.heap.size]? = some (.cells #[.int .i64 kind, .int .i64 frm, .int .i64 dst, .int .i64 id1, .int .i64 id2, .int .i64 b1, .int .i64 b2, .int .i64 a1, .int .i64 a2, .slice oa on oc, .bool fast, .slice da dn dc, .bool has, .int .i64 q1, .int .i64 q2, .bool gone, .int .i64 t1, .int .i64 t2, .slice va vn vc, .slice wa wn wc, .slice pa pn pc] 61 (0, 0))) := K53
     have HO5 := Lib.hid (HO3.out.kp (S2.kDrew (S2.Keeps.refl _ w3)))
     have HB5 : Hid (Below w.heap.size w w3.drew) := Lib.hid HB3.out.drew
     have h65 : w2.heap.size < w3.drew.heap.size := h6
     have p5 := HE5.out.ptr
     clear HE4 Kr4 K53 HO3 HB3 p4
     generalize w3.drew = w5 at *
     refine wpAnyH_take (i := 0) (oi := ⟨_, _, _, _, _, _⟩) (v := ?_) rfl (by kernel_rfl) (by kernel_rfl) (by kernel_rfl) (fun _ _ _ h => h) (Or.inl ⟨by rfl, ?_⟩) (by assumption) ?_
     rotate_left
     ·intro w hSw
      try dsimp only at hSw
      go_simp
      try with_reducible rfl
     try simp only [Act.put, List.setIfInBounds_toArray, List.set_cons_zero, List.set_cons_succ]
     refine wpAnyH_take (i := 1) (oi := ⟨_, _, _, _, _, _⟩) (v := ?_) rfl (by kernel_rfl) (by kernel_rfl) (by kernel_rfl) (fun _ _ _ h => h) (Or.inl ⟨by rfl, ?_⟩) (by assumption) ?_
     rotate_left
     ·intro w hSw
      try dsimp only at hSw
      go_simp
      try with_reducible rfl
     try simp only [Act.put, List.setIfInBounds_toArray, List.set_cons_zero, List.set_cons_succ]
     refine wpAnyH_take (i := 2) (oi := ⟨_, _, _, _, _, _⟩) (v := ?_) rfl (by kernel_rfl) (by kernel_rfl) (by kernel_rfl) (fun _ _ _ h => h) (Or.inl ⟨by rfl, ?_⟩) (by assumption) ?_
     rotate_left
     ·intro w hSw
      try dsimp only at hSw
      go_simp
      try with_reducible rfl
     try simp only [Act.put, List.setIfInBounds_toArray, List.set_cons_zero, List.set_cons_succ]
     refine wpAnyH_take (i := 3) (oi := ⟨_, _, _, _, _, _⟩) (v := ?_) rfl (by kernel_rfl) (by kernel_rfl) (by kernel_rfl) (fun _ _ _ h => h) (Or.inl ⟨by rfl, ?_⟩) (by assumption) ?_
     rotate_left
     ·intro w hSw
      try dsimp only at hSw
      go_simp
      try with_reducible rfl
     try simp only [Act.put, List.setIfInBounds_toArray, List.set_cons_zero, List.set_cons_succ]
     refine wpAnyH_ready (rs := [4]) (by kernel_rfl) (by simp) ?_
     refine AllReadyH.cons (o := ⟨_, _, _, _, _, _⟩) rfl (fun K hK => ?_) ?_
     rotate_left
     ·exact AllReadyH.nil
     go_simp
     (go_at_call 102; refine (S2.left_any _ b g cl cb HE5.out.2.1).mono ?_; rintro e wq ⟨rfl, rfl⟩; rw [HNL.out])
     refine hK.out _ _ (p5) (fun hHeld => ?_)
     clear hK K
     try simp only [Act.put, List.setIfInBounds_toArray, List.set_cons_zero, List.set_cons_succ]
     refine wpAnyH_take (i := 5) (oi := ⟨_, _, _, _, _, _⟩) (v := ?_) rfl (by kernel_rfl) (by kernel_rfl) (by kernel_rfl) (fun _ _ _ h => h) (Or.inl ⟨by rfl, ?_⟩) (by assumption) ?_
     rotate_left
     ·intro w hSw
      try dsimp only at hSw
      go_simp
      try with_reducible rfl
     try simp only [Act.put, List.setIfInBounds_toArray, List.set_cons_zero, List.set_cons_succ]
     refine wpAnyH_take (i := 6) (oi := ⟨_, _, _, _, _, _⟩) (v := ?_) rfl (by kernel_rfl) (by kernel_rfl) (by kernel_rfl) (fun _ _ _ h => h) (Or.inl ⟨by rfl, ?_⟩) (by assumption) ?_
     rotate_left
     ·intro w hSw
      try dsimp only at hSw
      go_simp
      try with_reducible rfl
     try simp only [Act.put, List.setIfInBounds_toArray, List.set_cons_zero, List.set_cons_succ]
     refine wpAnyH_take (i := 7) (oi := ⟨_, _, _, _, _, _⟩) (v := ?_) rfl (by kernel_rfl) (by kernel_rfl) (by kernel_rfl) (fun _ _ _ h => h) (Or.inl ⟨by rfl, ?_⟩) (by assumption) ?_
     rotate_left
     ·intro w hSw
      try dsimp only at hSw
      go_simp
      try with_reducible rfl
     try simp only [Act.put, List.setIfInBounds_toArray, List.set_cons_zero, List.set_cons_succ]
     refine wpAnyH_take (i := 8) (oi := ⟨_, _, _, _, _, _⟩) (v := ?_) rfl (by kernel_rfl) (by kernel_rfl) (by kernel_rfl) (fun _ _ _ h => h) (Or.inl ⟨by rfl, ?_⟩) (by assumption) ?_
     rotate_left
     ·intro w hSw
      try dsimp only at hSw
      go_simp
      try with_reducible rfl
     try simp only [Act.put, List.setIfInBounds_toArray, List.set_cons_zero, List.set_cons_succ]
     refine wpAnyH_take (i := 9) (oi := ⟨_, _, _, _, _, _⟩) (v := ?_) rfl (by kernel_rfl) (by kernel_rfl) (by kernel_rfl) (fun _ _ _ h => h) (Or.inl ⟨by rfl, ?_⟩) (by assumption) ?_
     rotate_left
     ·intro w hSw
      try dsimp only at hSw
      go_simp
      try with_reducible rfl
     try simp only [Act.put, List.setIfInBounds_toArray, List.set_cons_zero, List.set_cons_succ]
     refine wpAnyH_take (i := 10) (oi := ⟨_, _, _, _, _, _⟩) (v := ?_) rfl (by kernel_rfl) (by kernel_rfl) (by kernel_rfl) (fun _ _ _ h => h) (Or.inl ⟨by rfl, ?_⟩) (by assumption) ?_
     rotate_left
     ·intro w hSw
      try dsimp only at hSw
      go_simp
      try with_reducible rfl
     try simp only [Act.put, List.setIfInBounds_toArray, List.set_cons_zero, List.set_cons_succ]
     refine wpAnyH_take (i := 12) (oi := ⟨_, _, _, _, _, _⟩) (v := ?_) rfl (by kernel_rfl) (by kernel_rfl) (by kernel_rfl) (fun _ _ _ h => h) (Or.inl ⟨by rfl, ?_⟩) (by assumption) ?_
     rotate_left
     ·intro w hSw
      try dsimp only at hSw
      go_simp
      try with_reducible rfl
     try simp only [Act.put, List.setIfInBounds_toArray, List.set_cons_zero, List.set_cons_succ]
     refine wpAnyH_take (i := 13) (oi := ⟨_, _, _, _, _, _⟩) (v := ?_) rfl (by kernel_rfl) (by kernel_rfl) (by kernel_rfl) (fun _ _ _ h => h) (Or.inl ⟨by rfl, ?_⟩) (by assumption) ?_
     rotate_left
     ·intro w hSw
      try dsimp only at hSw
      go_simp
      try with_reducible rfl
     try simp only [Act.put, List.setIfInBounds_toArray, List.set_cons_zero, List.set_cons_succ]
     refine wpAnyH_take (i := 14) (oi := ⟨_, _, _, _, _, _⟩) (v := ?_) rfl (by kernel_rfl) (by kernel_rfl) (by kernel_rfl) (fun _ _ _ h => h) (Or.inl ⟨by rfl, ?_⟩) (by assumption) ?_
     rotate_left
     ·intro w hSw
      try dsimp only at hSw
      go_simp
      try with_reducible rfl
     try simp only [Act.put, List.setIfInBounds_toArray, List.set_cons_zero, List.set_cons_succ]
     refine wpAnyH_take (i := 15) (oi := ⟨_, _, _, _, _, _⟩) (v := ?_) rfl (by kernel_rfl) (by kernel_rfl) (by kernel_rfl) (fun _ _ _ h => h) (Or.inl ⟨by rfl, ?_⟩) (by assumption) ?_
     rotate_left
     ·intro w hSw
      try dsimp only at hSw
      go_simp
      try with_reducible rfl
     try simp only [Act.put, List.setIfInBounds_toArray, List.set_cons_zero, List.set_cons_succ]
     refine wpAnyH_take (i := 16) (oi := ⟨_, _, _, _, _, _⟩) (v := ?_) rfl (by kernel_rfl) (by kernel_rfl) (by kernel_rfl) (fun _ _ _ h => h) (Or.inl ⟨by rfl, ?_⟩) (by assumption) ?_
     rotate_left
     ·intro w hSw
      try dsimp only at hSw
      go_simp
      try with_reducible rfl
     try simp only [Act.put, List.setIfInBounds_toArray, List.set_cons_zero, List.set_cons_succ]
     refine wpAnyH_ready (rs := [11]) (by kernel_rfl) (by simp) ?_
     refine AllReadyH.cons (o := ⟨_, _, _, _, _, _⟩) rfl (fun K hK => ?_) ?_
     rotate_left
     ·exact AllReadyH.nil
     go_simp
     (go_at_call 103; refine (sint_any HE5.out).mono ?_; intro e w6 h; unfold SeeS at h; obtain ⟨rfl, he1, hk1⟩ := h; have hk2 := (both_of (s := s) hk1); rw [HIV.out]; have HE6 := Lib.hid he1; have p6 := he1.ptr; have Kr6 := Lib.hid ((hk2.block w.heap.size (by omega) (by have := HSB.out; rintro (e | e) <;> omega)).trans Kr5.out); have K56 := Lib.hid ((hk2.block w2.heap.size h65 (by have := HL2.out; rintro (e | e) <;> omega)).trans K55.out); have HO6 := Lib.hid (HO5.out.kp (both_lt hk2 (by have := HL2.out; omega) (by have := HL2.out; omega))); have HB6 : Hid (Below w.heap.size w w6) := Lib.hid (HB5.out.trans (hk2.below (by omega) (fun x hx e => by have := HSB.out; rcases e with e | e <;> omega))); have h66 : w2.heap.size < w6.heap.size := Nat.lt_of_lt_of_le h65 hk2.size; clear he1 hk1 hk2)
     refine hK.out _ _ (p6) (fun hHeld => ?_)
     clear hK K
     try simp only [Act.put, List.setIfInBounds_toArray, List.set_cons_zero, List.set_cons_succ]
     refine wpAnyH_ready (rs := [17]) (by kernel_rfl) (by simp) ?_
     refine AllReadyH.cons (o := ⟨_, _, _, _, _, _⟩) rfl (fun K hK => ?_) ?_
     rotate_left
     ·exact AllReadyH.nil
     go_simp
     (go_at_call 98; refine (wsum_any (.slice ba kk bc) (B.take kk) _ (S2.sum_w _ gv _ _ (bw_cut (bw_keep HBW.out HB6.out) HKK.out))).mono ?_; rintro e wq ⟨rfl, rfl⟩; rw [HSV.out])
     refine hK.out _ _ (p6) (fun hHeld => ?_)
     clear hK K
     try simp only [Act.put, List.setIfInBounds_toArray, List.set_cons_zero, List.set_cons_succ]
     refine wpAnyH_take (i := 18) (oi := ⟨_, _, _, _, _, _⟩) (v := ?_) rfl (by kernel_rfl) (by kernel_rfl) (by kernel_rfl) (fun _ _ _ h => h) (Or.inl ⟨by rfl, ?_⟩) (by assumption) ?_
     rotate_left
     ·intro w hSw
      try dsimp only at hSw
      go_simp
      try with_reducible rfl
     try simp only [Act.put, List.setIfInBounds_toArray, List.set_cons_zero, List.set_cons_succ]
     refine wpAnyH_take (i := 19) (oi := ⟨_, _, _, _, _, _⟩) (v := ?_) rfl (by kernel_rfl) (by kernel_rfl) (by kernel_rfl) (fun _ _ _ h => h) (Or.inl ⟨by rfl, ?_⟩) (by assumption) ?_
     rotate_left
     ·intro w hSw
      try dsimp only at hSw
      go_simp
      try with_reducible rfl
     try simp only [Act.put, List.setIfInBounds_toArray, List.set_cons_zero, List.set_cons_succ]
     refine wpAnyH_take (i := 20) (oi := ⟨_, _, _, _, _, _⟩) (v := ?_) rfl (by kernel_rfl) (by kernel_rfl) (by kernel_rfl) (fun _ _ _ h => h) (Or.inl ⟨by rfl, ?_⟩) (by assumption) ?_
     rotate_left
     ·intro w hSw
      try dsimp only at hSw
      go_simp
      try with_reducible rfl
     try simp only [Act.put, List.setIfInBounds_toArray, List.set_cons_zero, List.set_cons_succ]
     refine wpAnyH_take (i := 21) (oi := ⟨_, _, _, _, _, _⟩) (v := ?_) rfl (by kernel_rfl) (by kernel_rfl) (by kernel_rfl) (fun _ _ _ h => h) (Or.inl ⟨by rfl, ?_⟩) (by assumption) ?_
     rotate_left
     ·intro w hSw
      try dsimp only at hSw
      go_simp
      try with_reducible rfl
     try simp only [Act.put, List.setIfInBounds_toArray, List.set_cons_zero, List.set_cons_succ]
     refine wpAnyH_ready (rs := [22]) (by kernel_rfl) (by simp) ?_
     refine AllReadyH.cons (o := ⟨_, _, _, _, _, _⟩) rfl (fun K hK => ?_) ?_
     rotate_left
     ·exact AllReadyH.nil
     go_simp
     (go_at_call 46; refine (sdone_any HE6.out).mono ?_; rintro e wq ⟨rfl, rfl⟩; rw [HDV.out])
     refine hK.out _ _ (p6) (fun hHeld => ?_)
     clear hK K
     try simp only [Act.put, List.setIfInBounds_toArray, List.set_cons_zero, List.set_cons_succ]
     refine wpAnyH_take (i := 23) (oi := ⟨_, _, _, _, _, _⟩) (v := ?_) rfl (by kernel_rfl) (by kernel_rfl) (by kernel_rfl) (fun _ _ _ h => h) (Or.inl ⟨by rfl, ?_⟩) (by assumption) ?_
     rotate_left
     ·intro w hSw
      try dsimp only at hSw
      go_simp
      try with_reducible rfl
     try simp only [Act.put, List.setIfInBounds_toArray, List.set_cons_zero, List.set_cons_succ]
     refine wpAnyH_take (i := 24) (oi := ⟨_, _, _, _, _, _⟩) (v := ?_) rfl (by kernel_rfl) (by kernel_rfl) (by kernel_rfl) (fun _ _ _ h => h) (Or.inl ⟨by rfl, ?_⟩) (by assumption) ?_
     rotate_left
     ·intro w hSw
      try dsimp only at hSw
      go_simp
      try with_reducible rfl
     try simp only [Act.put, List.setIfInBounds_toArray, List.set_cons_zero, List.set_cons_succ]
     refine wpAnyH_take (i := 25) (oi := ⟨_, _, _, _, _, _⟩) (v := ?_) rfl (by kernel_rfl) (by kernel_rfl) (by kernel_rfl) (fun _ _ _ h => h) (Or.inl ⟨by rfl, ?_⟩) (by assumption) ?_
     rotate_left
     ·intro w hSw
      try dsimp only at hSw
      go_simp
      try with_reducible rfl
     try simp only [Act.put, List.setIfInBounds_toArray, List.set_cons_zero, List.set_cons_succ]
     refine wpAnyH_done (by kernel_rfl) ?_ _
     go_wp2_with (first | go_skip | ((with_reducible refine atW w7 ?_); refine storeM _ _ rfl rfl _ rfl rfl Kr7.out rfl rfl (by simp [Value.oneCell']) ?_; intro w9 h1 h2; have K9 := Lib.hid h1; have HB9 : Hid (Below w.heap.size w w9) := Lib.hid (below_grown9 HB7.out h2 (Nat.le_refl _)); clear h1 h2) | ((with_reducible refine atC w6 ?_); go_at_call 38; go_must (refine (HCH.out ⟨.slice oa on oc, .slice da dn dc, .slice va vn vc, .slice wa wn wc, .slice pa pn pc⟩ w6 HO6.out.at).mono ?_; rintro e w7 ⟨rfl, h5⟩; have HB7 : Hid (Below w.heap.size w w7) := Lib.hid (blThen HB6.out h5); have K57 := Lib.hid ((h5.block w2.heap.size h66).trans K56.out); have Kr7 := Lib.hid ((h5.block w.heap.size (by omega)).trans Kr6.out); have HO7 := Lib.hid (HO6.out.kp (S2.Keeps.ofBelow h5)); have hw7 := h5.size; clear h5)) | ((with_reducible refine atW w6 ?_); refine loadM _ rfl rfl _ rfl K56.out rfl ?_))
     refine bodyPost_ret (results_cell_tmp9 Tryz.results35 _ _ _ 61 _ (0, 0) _ rfl K9.out Tryz.underlying61 rfl szMsg) rfl ?_
     exact ⟨⟨.slice none 0 0, .slice none 0 0, .slice none 0 0, .slice none 0 0, .slice none 0 0⟩, by rw [HPN.out]; rfl, by rw [HPN.out]; exact nil_ms _, HB9.out⟩
   ·have HPN := Lib.hid (HPN0.out (.inl (by rw [HWH.out, decide_eq_false hd]; simp)))
    have hd2 : ((dv == 0) = false) := by simpa using hd
    go_enter Tryz.func35, Tryz.ntmps35
    go_upto_region 3 with (first | go_skip | ((with_reducible refine atW (w2.alloc (.cells #[.int .i64 0, .int .i64 0, .int .i64 0, .int .i64 0, .int .i64 0, .int .i64 0, .int .i64 0, .int .i64 0, .int .i64 0, .slice none 0 0, .bool false, .slice none 0 0, .bool false, .int .i64 0, .int .i64 0, .bool false, .int .i64 0, .int .i64 0, .slice none 0 0, .slice none 0 0, .slice none 0 0] 61)) ?_); refine storeM _ _ rfl rfl _ rfl rfl K50.out rfl rfl (by simp [Value.oneCell']) ?_; intro w3 h1 h2; have K53 := Lib.hid h1; have h6 : w2.heap.size < w3.heap.size := (by have := h2.size; simp only [World.size_alloc] at this; omega); have Kr4 := Lib.hid (grown_other9 Kr3.out h2 (by simp; omega) (by omega)); have HE4 := Lib.hid (eyeS_store HE3.out h2 (by have := HL2.out; omega) (by have := HL2.out; omega) (fun hne => by have := HE2.out.lt.2.2 hne; omega)); have hb3 := below_grown9 (blAlloc (Below.refl _ _) _) h2 (Nat.le_refl _); have HO3 := Lib.hid (HO2.out.kp (S2.Keeps.ofBelow hb3)); have HB3 : Hid (Below w.heap.size w w3) := Lib.hid (blThen HB2.out hb3); clear h1 h2 hb3) | ((with_reducible refine atC w1 ?_); go_at_call 101; go_must (refine (readM_any HE1.out (by have := HLB.out; show B.length ≤ _; omega)).mono ?_; intro e w2 h; unfold SeeMs at h; rw [HCE.out, HUE.out] at h; obtain ⟨⟨lo, ld, lv, lw, lp⟩, rfl, ho1, he2, hk2⟩ := h; have HO2 := Lib.hid ho1; obtain ⟨oa, oc, rfl⟩ := ho1.o.form; obtain ⟨da, dn, dc, rfl⟩ := ho1.d.form; obtain ⟨va, vn, vc, rfl⟩ := ho1.v.form; obtain ⟨wa, wc, rfl⟩ := ho1.w.form; obtain ⟨pa, pc, rfl⟩ := ho1.p.form; simp only [msV]; generalize ops.length = on at *; generalize writes.length = wn at *; generalize pairs.length = pn at *; have HE2 := Lib.hid he2; have Kr2 := Lib.hid ((hk2.block w.heap.size (by omega) (by have := HSB.out; rintro (e | e) <;> omega)).trans Kr1.out); have hw2 : w1.heap.size ≤ w2.heap.size := hk2.size; have HB2 : Hid (Below w.heap.size w w2) := Lib.hid (HB1.out.trans (hk2.below (by omega) (fun x hx e => by have := HSB.out; rcases e with e | e <;> omega))); have HL2 : Hid (s < w1.heap.size ∧ b < w1.heap.size) := Lib.hid ⟨HE1.out.lt.1, HE1.out.lt.2.1⟩; have K50 : Hid ((w2.alloc (.cells #[.int .i64 0, .int .i64 0, .int .i64 0, .int .i64 0, .int .i64 0, .int .i64 0, .int .i64 0, .int .i64 0, .int .i64 0, .slice none 0 0, .bool false, .slice none 0 0, .bool false, .int .i64 0, .int .i64 0, .bool false, .int .i64 0, .int .i64 0, .slice none 0 0, .slice none 0 0, .slice none 0 0] 61)).heap[w2.heap.size]? = some (.cells #[.int .i64 0, .int .i64 0, .int .i64 0, .int .i64 0, .int .i64 0, .int .i64 0, .int .i64 0, .int .i64 0, .int .i64 0, .slice none 0 0, .bool false, .slice none 0 0, .bool false, .int .i64 0, .int .i64 0, .bool false, .int .i64 0, .int .i64 0, .slice none 0 0, .slice none 0 0, .slice none 0 0] 61 (0, 0))) := Lib.hid (new_blockC w2 _ _); have Kr3 : Hid ((w2.alloc (.cells #[.int .i64 0, .int .i64 0, .int .i64 0, .int .i64 0, .int .i64 0, .int .i64 0, .int .i64 0, .int .i64 0, .int .i64 0, .slice none 0 0, .bool false, .slice none 0 0, .bool false, .int .i64 0, .int .i64 0, .bool false, .int .i64 0, .int .i64 0, .slice none 0 0, .slice none 0 0, .slice none 0 0] 61)).heap[w.heap.size]? = some (.cells #[.int .i64 0, .int .i64 0, .int .i64 0, .int .i64 0, .int .i64 0, .int .i64 0, .int .i64 0, .int .i64 0, .int .i64 0, .slice none 0 0, .bool false, .slice none 0 0, .bool false, .int .i64 0, .int .i64 0, .bool false, .int .i64 0, .int .i64 0, .slice none 0 0, .slice none 0 0, .slice none 0 0] 61 (0, 0))) := Lib.hid (((blAlloc (Below.refl _ _) _ : Below w2.heap.size w2 (w2.alloc (.cells #[.int .i64 0, .int .i64 0, .int .i64 0, .int .i64 0, .int .i64 0, .int .i64 0, .int .i64 0, .int .i64 0, .int .i64 0, .slice none 0 0, .bool false, .slice none 0 0, .bool false, .int .i64 0, .int .i64 0, .bool false, .int .i64 0, .int .i64 0, .slice none 0 0, .slice none 0 0, .slice none 0 0] 61))).block w.heap.size (by omega)).trans Kr2.out); have HE3 : Hid (EyeS (w2.alloc (.cells #[.int .i64 0, .int .i64 0, .int .i64 0, .int .i64 0, .int .i64 0, .int .i64 0, .int .i64 0, .int .i64 0, .int .i64 0, .slice none 0 0, .bool false, .slice none 0 0, .bool false, .int .i64 0, .int .i64 0, .bool false, .int .i64 0, .int .i64 0, .slice none 0 0, .slice none 0 0, .slice none 0 0] 61)) s b g (cl, cb, cd)) := Lib.hid (HE2.out.before (S2.kAlloc (S2.Keeps.refl _ _) _)); clear ho1 he2 hk2)) | ((with_reducible refine atC (w.alloc (.cells #[.int .i64 0, .int .i64 0, .int .i64 0, .int .i64 0, .int .i64 0, .int .i64 0, .int .i64 0, .int .i64 0, .int .i64 0, .slice none 0 0, .bool false, .slice none 0 0, .bool false, .int .i64 0, .int .i64 0, .bool false, .int .i64 0, .int .i64 0, .slice none 0 0, .slice none 0 0, .slice none 0 0] 61)) ?_); go_at_call 44; go_must (refine (sopen_any gv (.slice ba B.length bc) B _ HBS.out (by have := HLB.out; omega)).mono ?_; intro e w1 h; obtain ⟨s, b, g, rfl, he1, hs1, hs2, hs3, h5⟩ := h; have HE1 := Lib.hid he1; have HSB : Hid (w.heap.size + 1 ≤ s ∧ w.heap.size + 1 ≤ b) := Lib.hid (by simp only [World.size_alloc] at hs1 hs2; exact ⟨hs1, hs2⟩); have Kr1 := Lib.hid ((h5.block w.heap.size (by simp)).trans Kr0.out); have hw1 : w.heap.size + 1 ≤ w1.heap.size := (by have := h5.size; simp only [World.size_alloc] at this; exact this); have HB1 : Hid (Below w.heap.size w w1) := Lib.hid (blThen (blAlloc (Below.refl _ _) _) h5); clear he1 hs1 hs2 hs3 h5)))
    have p4 := HE4.out.ptr
    refine wp_region_held_drew (S := fun Y => Y.cell? ⟨s, 0, none⟩ = some (.pointer (some ⟨b, 0, none⟩))) (by kernel_rfl) (p4) (fun hHeld => ?_)
    have HE5 : Hid (EyeS w3.drew s b g (cl, cb, cd)) := Lib.hid (HE4.out.before (S2.kDrew (S2.Keeps.refl _ _)))
    have Kr5 : Hid (w3.drew.heap[w.heap.size]? = some (.cells #[.int .i64 0, .int .i64 0, .int .i64 0, .int .i64 0, .int .i64 0, .int .i64 0, .int .i64 0, .int .i64 0, .int .i64 0, .slice none 0 0, .bool false, .slice none 0 0, .bool false, .int .i64 0, .int .i64 0, .bool false, .int .i64 0, .int .i64 0, .slice none 0 0, .slice none 0 0, .slice none 0 0] 61 (0, 0))) := Kr4
    have K55 : Hid (w3.drew.heap[w2.heap.size]? = some (.cells #[.int .i64 kind, .int .i64 frm, .int .i64 dst, .int .i64 id1, .int .i64 id2, .int .i64 b1, .int .i64 b2, .int .i64 a1, .int .i64 a2, .slice oa on oc, .bool fast, .slice da dn dc, .bool has, .int .i64 q1, .int .i64 q2, .bool gone, .int .i64 t1, .int .i64 t2, .slice va vn vc, .slice wa wn wc, .slice pa pn pc] 61 (0, 0))) := K53
    have HO5 := Lib.hid (HO3.out.kp (S2.kDrew (S2.Keeps.refl _ w3)))
    have HB5 : Hid (Below w.heap.size w w3.drew) := Lib.hid HB3.out.drew
    have h65 : w2.heap.size < w3.drew.heap.size := h6
    have p5 := HE5.out.ptr
    clear HE4 Kr4 K53 HO3 HB3 p4
    generalize w3.drew = w5 at *
    refine wpAnyH_take (i := 0) (oi := ⟨_, _, _, _, _, _⟩) (v := ?_) rfl (by kernel_rfl) (by kernel_rfl) (by kernel_rfl) (fun _ _ _ h => h) (Or.inl ⟨by rfl, ?_⟩) (by assumption) ?_
    rotate_left
    ·intro w hSw
     try dsimp only at hSw
     go_simp
     try with_reducible rfl
    try simp only [Act.put, List.setIfInBounds_toArray, List.set_cons_zero, List.set_cons_succ]
    refine wpAnyH_take (i := 1) (oi := ⟨_, _, _, _, _, _⟩) (v := ?_) rfl (by kernel_rfl) (by kernel_rfl) (by kernel_rfl) (fun _ _ _ h => h) (Or.inl ⟨by rfl, ?_⟩) (by assumption) ?_
    rotate_left
    ·intro w hSw
     try dsimp only at hSw
     go_simp
     try with_reducible rfl
    try simp only [Act.put, List.setIfInBounds_toArray, List.set_cons_zero, List.set_cons_succ]
    refine wpAnyH_take (i := 2) (oi := ⟨_, _, _, _, _, _⟩) (v := ?_) rfl (by kernel_rfl) (by kernel_rfl) (by kernel_rfl) (fun _ _ _ h => h) (Or.inl ⟨by rfl, ?_⟩) (by assumption) ?_
    rotate_left
    ·intro w hSw
     try dsimp only at hSw
     go_simp
     try with_reducible rfl
    try simp only [Act.put, List.setIfInBounds_toArray, List.set_cons_zero, List.set_cons_succ]
    refine wpAnyH_take (i := 3) (oi := ⟨_, _, _, _, _, _⟩) (v := ?_) rfl (by kernel_rfl) (by kernel_rfl) (by kernel_rfl) (fun _ _ _ h => h) (Or.inl ⟨by rfl, ?_⟩) (by assumption) ?_
    rotate_left
    ·intro w hSw
     try dsimp only at hSw
     go_simp
     try with_reducible rfl
    try simp only [Act.put, List.setIfInBounds_toArray, List.set_cons_zero, List.set_cons_succ]
    refine wpAnyH_ready (rs := [4]) (by kernel_rfl) (by simp) ?_
    refine AllReadyH.cons (o := ⟨_, _, _, _, _, _⟩) rfl (fun K hK => ?_) ?_
    rotate_left
    ·exact AllReadyH.nil
    go_simp
    (go_at_call 102; refine (S2.left_any _ b g cl cb HE5.out.2.1).mono ?_; rintro e wq ⟨rfl, rfl⟩; rw [HNL.out])
    refine hK.out _ _ (p5) (fun hHeld => ?_)
    clear hK K
    try simp only [Act.put, List.setIfInBounds_toArray, List.set_cons_zero, List.set_cons_succ]
    refine wpAnyH_take (i := 5) (oi := ⟨_, _, _, _, _, _⟩) (v := ?_) rfl (by kernel_rfl) (by kernel_rfl) (by kernel_rfl) (fun _ _ _ h => h) (Or.inl ⟨by rfl, ?_⟩) (by assumption) ?_
    rotate_left
    ·intro w hSw
     try dsimp only at hSw
     go_simp
     try with_reducible rfl
    try simp only [Act.put, List.setIfInBounds_toArray, List.set_cons_zero, List.set_cons_succ]
    refine wpAnyH_take (i := 6) (oi := ⟨_, _, _, _, _, _⟩) (v := ?_) rfl (by kernel_rfl) (by kernel_rfl) (by kernel_rfl) (fun _ _ _ h => h) (Or.inl ⟨by rfl, ?_⟩) (by assumption) ?_
    rotate_left
    ·intro w hSw
     try dsimp only at hSw
     go_simp
     try with_reducible rfl
    try simp only [Act.put, List.setIfInBounds_toArray, List.set_cons_zero, List.set_cons_succ]
    refine wpAnyH_take (i := 7) (oi := ⟨_, _, _, _, _, _⟩) (v := ?_) rfl (by kernel_rfl) (by kernel_rfl) (by kernel_rfl) (fun _ _ _ h => h) (Or.inl ⟨by rfl, ?_⟩) (by assumption) ?_
    rotate_left
    ·intro w hSw
     try dsimp only at hSw
     go_simp
     try with_reducible rfl
    try simp only [Act.put, List.setIfInBounds_toArray, List.set_cons_zero, List.set_cons_succ]
    refine wpAnyH_take (i := 8) (oi := ⟨_, _, _, _, _, _⟩) (v := ?_) rfl (by kernel_rfl) (by kernel_rfl) (by kernel_rfl) (fun _ _ _ h => h) (Or.inl ⟨by rfl, ?_⟩) (by assumption) ?_
    rotate_left
    ·intro w hSw
     try dsimp only at hSw
     go_simp
     try with_reducible rfl
    try simp only [Act.put, List.setIfInBounds_toArray, List.set_cons_zero, List.set_cons_succ]
    refine wpAnyH_take (i := 9) (oi := ⟨_, _, _, _, _, _⟩) (v := ?_) rfl (by kernel_rfl) (by kernel_rfl) (by kernel_rfl) (fun _ _ _ h => h) (Or.inl ⟨by rfl, ?_⟩) (by assumption) ?_
    rotate_left
    ·intro w hSw
     try dsimp only at hSw
     go_simp
     try with_reducible rfl
    try simp only [Act.put, List.setIfInBounds_toArray, List.set_cons_zero, List.set_cons_succ]
    refine wpAnyH_take (i := 10) (oi := ⟨_, _, _, _, _, _⟩) (v := ?_) rfl (by kernel_rfl) (by kernel_rfl) (by kernel_rfl) (fun _ _ _ h => h) (Or.inl ⟨by rfl, ?_⟩) (by assumption) ?_
    rotate_left
    ·intro w hSw
     try dsimp only at hSw
     go_simp
     try with_reducible rfl
    try simp only [Act.put, List.setIfInBounds_toArray, List.set_cons_zero, List.set_cons_succ]
    refine wpAnyH_take (i := 12) (oi := ⟨_, _, _, _, _, _⟩) (v := ?_) rfl (by kernel_rfl) (by kernel_rfl) (by kernel_rfl) (fun _ _ _ h => h) (Or.inl ⟨by rfl, ?_⟩) (by assumption) ?_
    rotate_left
    ·intro w hSw
     try dsimp only at hSw
     go_simp
     try with_reducible rfl
    try simp only [Act.put, List.setIfInBounds_toArray, List.set_cons_zero, List.set_cons_succ]
    refine wpAnyH_take (i := 13) (oi := ⟨_, _, _, _, _, _⟩) (v := ?_) rfl (by kernel_rfl) (by kernel_rfl) (by kernel_rfl) (fun _ _ _ h => h) (Or.inl ⟨by rfl, ?_⟩) (by assumption) ?_
    rotate_left
    ·intro w hSw
     try dsimp only at hSw
     go_simp
     try with_reducible rfl
    try simp only [Act.put, List.setIfInBounds_toArray, List.set_cons_zero, List.set_cons_succ]
    refine wpAnyH_take (i := 14) (oi := ⟨_, _, _, _, _, _⟩) (v := ?_) rfl (by kernel_rfl) (by kernel_rfl) (by kernel_rfl) (fun _ _ _ h => h) (Or.inl ⟨by rfl, ?_⟩) (by assumption) ?_
    rotate_left
    ·intro w hSw
     try dsimp only at hSw
     go_simp
     try with_reducible rfl
    try simp only [Act.put, List.setIfInBounds_toArray, List.set_cons_zero, List.set_cons_succ]
    refine wpAnyH_take (i := 15) (oi := ⟨_, _, _, _, _, _⟩) (v := ?_) rfl (by kernel_rfl) (by kernel_rfl) (by kernel_rfl) (fun _ _ _ h => h) (Or.inl ⟨by rfl, ?_⟩) (by assumption) ?_
    rotate_left
    ·intro w hSw
     try dsimp only at hSw
     go_simp
     try with_reducible rfl
    try simp only [Act.put, List.setIfInBounds_toArray, List.set_cons_zero, List.set_cons_succ]
    refine wpAnyH_take (i := 16) (oi := ⟨_, _, _, _, _, _⟩) (v := ?_) rfl (by kernel_rfl) (by kernel_rfl) (by kernel_rfl) (fun _ _ _ h => h) (Or.inl ⟨by rfl, ?_⟩) (by assumption) ?_
    rotate_left
    ·intro w hSw
     try dsimp only at hSw
     go_simp
     try with_reducible rfl
    try simp only [Act.put, List.setIfInBounds_toArray, List.set_cons_zero, List.set_cons_succ]
    refine wpAnyH_ready (rs := [11]) (by kernel_rfl) (by simp) ?_
    refine AllReadyH.cons (o := ⟨_, _, _, _, _, _⟩) rfl (fun K hK => ?_) ?_
    rotate_left
    ·exact AllReadyH.nil
    go_simp
    (go_at_call 103; refine (sint_any HE5.out).mono ?_; intro e w6 h; unfold SeeS at h; obtain ⟨rfl, he1, hk1⟩ := h; have hk2 := (both_of (s := s) hk1); rw [HIV.out]; have HE6 := Lib.hid he1; have p6 := he1.ptr; have Kr6 := Lib.hid ((hk2.block w.heap.size (by omega) (by have := HSB.out; rintro (e | e) <;> omega)).trans Kr5.out); have K56 := Lib.hid ((hk2.block w2.heap.size h65 (by have := HL2.out; rintro (e | e) <;> omega)).trans K55.out); have HO6 := Lib.hid (HO5.out.kp (both_lt hk2 (by have := HL2.out; omega) (by have := HL2.out; omega))); have HB6 : Hid (Below w.heap.size w w6) := Lib.hid (HB5.out.trans (hk2.below (by omega) (fun x hx e => by have := HSB.out; rcases e with e | e <;> omega))); have h66 : w2.heap.size < w6.heap.size := Nat.lt_of_lt_of_le h65 hk2.size; clear he1 hk1 hk2)
    refine hK.out _ _ (p6) (fun hHeld => ?_)
    clear hK K
    try simp only [Act.put, List.setIfInBounds_toArray, List.set_cons_zero, List.set_cons_succ]
    refine wpAnyH_ready (rs := [17]) (by kernel_rfl) (by simp) ?_
    refine AllReadyH.cons (o := ⟨_, _, _, _, _, _⟩) rfl (fun K hK => ?_) ?_
    rotate_left
    ·exact AllReadyH.nil
    go_simp
    (go_at_call 98; refine (wsum_any (.slice ba kk bc) (B.take kk) _ (S2.sum_w _ gv _ _ (bw_cut (bw_keep HBW.out HB6.out) HKK.out))).mono ?_; rintro e wq ⟨rfl, rfl⟩; rw [HSV.out])
    refine hK.out _ _ (p6) (fun hHeld => ?_)
    clear hK K
    try simp only [Act.put, List.setIfInBounds_toArray, List.set_cons_zero, List.set_cons_succ]
    refine wpAnyH_take (i := 18) (oi := ⟨_, _, _, _, _, _⟩) (v := ?_) rfl (by kernel_rfl) (by kernel_rfl) (by kernel_rfl) (fun _ _ _ h => h) (Or.inl ⟨by rfl, ?_⟩) (by assumption) ?_
    rotate_left
    ·intro w hSw
     try dsimp only at hSw
     go_simp
     try with_reducible rfl
    try simp only [Act.put, List.setIfInBounds_toArray, List.set_cons_zero, List.set_cons_succ]
    refine wpAnyH_take (i := 19) (oi := ⟨_, _, _, _, _, _⟩) (v := ?_) rfl (by kernel_rfl) (by kernel_rfl) (by kernel_rfl) (fun _ _ _ h => h) (Or.inl ⟨by rfl, ?_⟩) (by assumption) ?_
    rotate_left
    ·intro w hSw
     try dsimp only at hSw
     go_simp
     try with_reducible rfl
    try simp only [Act.put, List.setIfInBounds_toArray, List.set_cons_zero, List.set_cons_succ]
    refine wpAnyH_take (i := 20) (oi := ⟨_, _, _, _, _, _⟩) (v := ?_) rfl (by kernel_rfl) (by kernel_rfl) (by kernel_rfl) (fun _ _ _ h => h) (Or.inl ⟨by rfl, ?_⟩) (by assumption) ?_
    rotate_left
    ·intro w hSw
     try dsimp only at hSw
     go_simp
     try with_reducible rfl
    try simp only [Act.put, List.setIfInBounds_toArray, List.set_cons_zero, List.set_cons_succ]
    refine wpAnyH_take (i := 21) (oi := ⟨_, _, _, _, _, _⟩) (v := ?_) rfl (by kernel_rfl) (by kernel_rfl) (by kernel_rfl) (fun _ _ _ h => h) (Or.inl ⟨by rfl, ?_⟩) (by assumption) ?_
    rotate_left
    ·intro w hSw
     try dsimp only at hSw
     go_simp
     try with_reducible rfl
    try simp only [Act.put, List.setIfInBounds_toArray, List.set_cons_zero, List.set_cons_succ]
    refine wpAnyH_ready (rs := [22]) (by kernel_rfl) (by simp) ?_
    refine AllReadyH.cons (o := ⟨_, _, _, _, _, _⟩) rfl (fun K hK => ?_) ?_
    rotate_left
    ·exact AllReadyH.nil
    go_simp
    (go_at_call 46; refine (sdone_any HE6.out).mono ?_; rintro e wq ⟨rfl, rfl⟩; rw [HDV.out])
    refine hK.out _ _ (p6) (fun hHeld => ?_)
    clear hK K
    try simp only [Act.put, List.setIfInBounds_toArray, List.set_cons_zero, List.set_cons_succ]
    refine wpAnyH_take (i := 23) (oi := ⟨_, _, _, _, _, _⟩) (v := ?_) rfl (by kernel_rfl) (by kernel_rfl) (by kernel_rfl) (fun _ _ _ h => h) (Or.inl ⟨by rfl, ?_⟩) (by assumption) ?_
    rotate_left
    ·intro w hSw
     try dsimp only at hSw
     go_simp
     try with_reducible rfl
    try simp only [Act.put, List.setIfInBounds_toArray, List.set_cons_zero, List.set_cons_succ]
    refine wpAnyH_take (i := 24) (oi := ⟨_, _, _, _, _, _⟩) (v := ?_) rfl (by kernel_rfl) (by kernel_rfl) (by kernel_rfl) (fun _ _ _ h => h) (Or.inl ⟨by rfl, ?_⟩) (by assumption) ?_
    rotate_left
    ·intro w hSw
     try dsimp only at hSw
     go_simp
     try with_reducible rfl
    try simp only [Act.put, List.setIfInBounds_toArray, List.set_cons_zero, List.set_cons_succ]
    refine wpAnyH_take (i := 25) (oi := ⟨_, _, _, _, _, _⟩) (v := ?_) rfl (by kernel_rfl) (by kernel_rfl) (by kernel_rfl) (fun _ _ _ h => h) (Or.inl ⟨by rfl, ?_⟩) (by assumption) ?_
    rotate_left
    ·intro w hSw
     try dsimp only at hSw
     go_simp
     try with_reducible rfl
    try simp only [Act.put, List.setIfInBounds_toArray, List.set_cons_zero, List.set_cons_succ]
    refine wpAnyH_done (by kernel_rfl) ?_ _
    go_wp2_with (first | go_skip | ((with_reducible refine atW w6 ?_); refine storeM _ _ rfl rfl _ rfl rfl Kr6.out rfl rfl (by simp [Value.oneCell']) ?_; intro w9 h1 h2; have K9 := Lib.hid h1; have HB9 : Hid (Below w.heap.size w w9) := Lib.hid (below_grown9 HB6.out h2 (Nat.le_refl _)); clear h1 h2))
    refine bodyPost_ret (results_cell_tmp9 Tryz.results35 _ _ _ 61 _ (0, 0) _ rfl K9.out Tryz.underlying61 rfl szMsg) rfl ?_
    exact ⟨⟨.slice none 0 0, .slice none 0 0, .slice none 0 0, .slice none 0 0, .slice none 0 0⟩, by rw [HPN.out]; rfl, by rw [HPN.out]; exact nil_ms _, HB9.out⟩
  ·have HPN := Lib.hid (HPN0.out (.inl (by rw [HWH.out, decide_eq_false hi]; simp)))
   have hi2 : ((iv == sv) = false) := by simpa using hi
   go_enter Tryz.func35, Tryz.ntmps35
   go_upto_region 3 with (first | go_skip | ((with_reducible refine atW (w2.alloc (.cells #[.int .i64 0, .int .i64 0, .int .i64 0, .int .i64 0, .int .i64 0, .int .i64 0, .int .i64 0, .int .i64 0, .int .i64 0, .slice none 0 0, .bool false, .slice none 0 0, .bool false, .int .i64 0, .int .i64 0, .bool false, .int .i64 0, .int .i64 0, .slice none 0 0, .slice none 0 0, .slice none 0 0] 61)) ?_); refine storeM _ _ rfl rfl _ rfl rfl K50.out rfl rfl (by simp [Value.oneCell']) ?_; intro w3 h1 h2; have K53 := Lib.hid h1; have h6 : w2.heap.size < w3.heap.size := (by have := h2.size; simp only [World.size_alloc] at this; omega); have Kr4 := Lib.hid (grown_other9 Kr3.out h2 (by simp; omega) (by omega)); have HE4 := Lib.hid (eyeS_store HE3.out h2 (by have := HL2.out; omega) (by have := HL2.out; omega) (fun hne => by have := HE2.out.lt.2.2 hne; omega)); have hb3 := below_grown9 (blAlloc (Below.refl _ _) _) h2 (Nat.le_refl _); have HO3 := Lib.hid (HO2.out.kp (S2.Keeps.ofBelow hb3)); have HB3 : Hid (Below w.heap.size w w3) := Lib.hid (blThen HB2.out hb3); clear h1 h2 hb3) | ((with_reducible refine atC w1 ?_); go_at_call 101; go_must (refine (readM_any HE1.out (by have := HLB.out; show B.length ≤ _; omega)).mono ?_; intro e w2 h; unfold SeeMs at h; rw [HCE.out, HUE.out] at h; obtain ⟨⟨lo, ld, lv, lw, lp⟩, rfl, ho1, he2, hk2⟩ := h; have HO2 := Lib.hid ho1; obtain ⟨oa, oc, rfl⟩ := ho1.o.form; obtain ⟨da, dn, dc, rfl⟩ := ho1.d.form; obtain ⟨va, vn, vc, rfl⟩ := ho1.v.form; obtain ⟨wa, wc, rfl⟩ := ho1.w.form; obtain ⟨pa, pc, rfl⟩ := ho1.p.form; simp only [msV]; generalize ops.length = on at *; generalize writes.length = wn at *; generalize pairs.length = pn at *; have HE2 := Lib.hid he2; have Kr2 := Lib.hid ((hk2.block w.heap.size (by omega) (by have := HSB.out; rintro (e | e) <;> omega)).trans Kr1.out); have hw2 : w1.heap.size ≤ w2.heap.size := hk2.size; have HB2 : Hid (Below w.heap.size w w2) := Lib.hid (HB1.out.trans (hk2.below (by omega) (fun x hx e => by have := HSB.out; rcases e with e | e <;> omega))); have HL2 : Hid (s < w1.heap.size ∧ b < w1.heap.size) := Lib.hid ⟨HE1.out.lt.1, HE1.out.lt.2.1⟩; have K50 : Hid ((w2.alloc (.cells #[.int .i64 0, .int .i64 0, .int .i64 0, .int .i64 0, .int .i64 0, .int .i64 0, .int .i64 0, .int .i64 0, .int .i64 0, .slice none 0 0, .bool false, .slice none 0 0, .bool false, .int .i64 0, .int .i64 0, .bool false, .int .i64 0, .int .i64 0, .slice none 0 0, .slice none 0 0, .slice none 0 0] 61)).heap[w2.heap.size]? = some (.cells #[.int .i64 0, .int .i64 0, .int .i64 0, .int .i64 0, .int .i64 0, .int .i64 0, .int .i64 0, .int .i64 0, .int .i64 0, .slice none 0 0, .bool false, .slice none 0 0, .bool false, .int .i64 0, .int .i64 0, .bool false, .int .i64 0, .int .i64 0, .slice none 0 0, .slice none 0 0, .slice none 0 0] 61 (0, 0))) := Lib.hid (new_blockC w2 _ _); have Kr3 : Hid ((w2.alloc (.cells #[.int .i64 0, .int .i64 0, .int .i64 0, .int .i64 0, .int .i64 0, .int .i64 0, .int .i64 0, .int .i64 0, .int .i64 0, .slice none 0 0, .bool false, .slice none 0 0, .bool false, .int .i64 0, .int .i64 0, .bool false, .int .i64 0, .int .i64 0, .slice none 0 0, .slice none 0 0, .slice none 0 0] 61)).heap[w.heap.size]? = some (.cells #[.int .i64 0, .int .i64 0, .int .i64 0, .int .i64 0, .int .i64 0, .int .i64 0, .int .i64 0, .int .i64 0, .int .i64 0, .slice none 0 0, .bool false, .slice none 0 0, .bool false, .int .i64 0, .int .i64 0, .bool false, .int .i64 0, .int .i64 0, .slice none 0 0, .slice none 0 0, .slice none 0 0] 61 (0, 0))) := Lib.hid (((blAlloc (Below.refl _ _) _ : Below w2.heap.size w2 (w2.alloc (.cells #[.int .i64 0, .int .i64 0, .int .i64 0, .int .i64 0, .int .i64 0, .int .i64 0, .int .i64 0, .int .i64 0, .int .i64 0, .slice none 0 0, .bool false, .slice none 0 0, .bool false, .int .i64 0, .int .i64 0, .bool false, .int .i64 0, .int .i64 0, .slice none 0 0, .slice none 0 0, .slice none 0 0] 61))).block w.heap.size (by omega)).trans Kr2.out); have HE3 : Hid (EyeS (w2.alloc (.cells #[.int .i64 0, .int .i64 0, .int .i64 0, .int .i64 0, .int .i64 0, .int .i64 0, .int .i64 0, .int .i64 0, .int .i64 0, .slice none 0 0, .bool false, .slice none 0 0, .bool false, .int .i64 0, .int .i64 0, .bool false, .int .i64 0, .int .i64 0, .slice none 0 0, .slice none 0 0, .slice none 0 0] 61)) s b g (cl, cb, cd)) := Lib.hid (HE2.out.before (S2.kAlloc (S2.Keeps.refl _ _) _)); clear ho1 he2 hk2)) | ((with_reducible refine atC (w.alloc (.cells #[.int .i64 0, .int .i64 0, .int .i64 0, .int .i64 0, .int .i64 0, .int .i64 0, .int .i64 0, .int .i64 0, .int .i64 0, .slice none 0 0, .bool false, .slice none 0 0, .bool false, .int .i64 0, .int .i64 0, .bool false, .int .i64 0, .int .i64 0, .slice none 0 0, .slice none 0 0, .slice none 0 0] 61)) ?_); go_at_call 44; go_must (refine (sopen_any gv (.slice ba B.length bc) B _ HBS.out (by have := HLB.out; omega)).mono ?_; intro e w1 h; obtain ⟨s, b, g, rfl, he1, hs1, hs2, hs3, h5⟩ := h; have HE1 := Lib.hid he1; have HSB : Hid (w.heap.size + 1 ≤ s ∧ w.heap.size + 1 ≤ b) := Lib.hid (by simp only [World.size_alloc] at hs1 hs2; exact ⟨hs1, hs2⟩); have Kr1 := Lib.hid ((h5.block w.heap.size (by simp)).trans Kr0.out); have hw1 : w.heap.size + 1 ≤ w1.heap.size := (by have := h5.size; simp only [World.size_alloc] at this; exact this); have HB1 : Hid (Below w.heap.size w w1) := Lib.hid (blThen (blAlloc (Below.refl _ _) _) h5); clear he1 hs1 hs2 hs3 h5)))
   have p4 := HE4.out.ptr
   refine wp_region_held_drew (S := fun Y => Y.cell? ⟨s, 0, none⟩ = some (.pointer (some ⟨b, 0, none⟩))) (by kernel_rfl) (p4) (fun hHeld => ?_)
   have HE5 : Hid (EyeS w3.drew s b g (cl, cb, cd)) := Lib.hid (HE4.out.before (S2.kDrew (S2.Keeps.refl _ _)))
   have Kr5 : Hid (w3.drew.heap[w.heap.size]? = some (.cells #[.int .i64 0, .int .i64 0, .int .i64 0, .int .i64 0, .int .i64 0, .int .i64 0, .int .i64 0, .int .i64 0, .int .i64 0, .slice none 0 0, .bool false, .slice none 0 0, .bool false, .int .i64 0, .int .i64 0, .bool false, .int .i64 0, .int .i64 0, .slice none 0 0, .slice none 0 0, .slice none 0 0] 61 (0, 0))) := Kr4
   have K55 : Hid (w3.drew.heap[w2.heap.size]? = some (.cells #[.int .i64 kind, .int .i64 frm, .int .i64 dst, .int .i64 id1, .int .i64 id2, .int .i64 b1, .int .i64 b2, .int .i64 a1, .int .i64 a2, .slice oa on oc, .bool fast, .slice da dn dc, .bool has, .int .i64 q1, .int .i64 q2, .bool gone, .int .i64 t1, .int .i64 t2, .slice va vn vc, .slice wa wn wc, .slice pa pn pc] 61 (0, 0))) := K53
   have HO5 := Lib.hid (HO3.out.kp (S2.kDrew (S2.Keeps.refl _ w3)))
   have HB5 : Hid (Below w.heap.size w w3.drew) := Lib.hid HB3.out.drew
   have h65 : w2.heap.size < w3.drew.heap.size := h6
   have p5 := HE5.out.ptr
   clear HE4 Kr4 K53 HO3 HB3 p4
   generalize w3.drew = w5 at *
   refine wpAnyH_take (i := 0) (oi := ⟨_, _, _, _, _, _⟩) (v := ?_) rfl (by kernel_rfl) (by kernel_rfl) (by kernel_rfl) (fun _ _ _ h => h) (Or.inl ⟨by rfl, ?_⟩) (by assumption) ?_
   rotate_left
   ·intro w hSw
    try dsimp only at hSw
    go_simp
    try with_reducible rfl
   try simp only [Act.put, List.setIfInBounds_toArray, List.set_cons_zero, List.set_cons_succ]
   refine wpAnyH_take (i := 1) (oi := ⟨_, _, _, _, _, _⟩) (v := ?_) rfl (by kernel_rfl) (by kernel_rfl) (by kernel_rfl) (fun _ _ _ h => h) (Or.inl ⟨by rfl, ?_⟩) (by assumption) ?_
   rotate_left
   ·intro w hSw
    try dsimp only at hSw
    go_simp
    try with_reducible rfl
   try simp only [Act.put, List.setIfInBounds_toArray, List.set_cons_zero, List.set_cons_succ]
   refine wpAnyH_take (i := 2) (oi := ⟨_, _, _, _, _, _⟩) (v := ?_) rfl (by kernel_rfl) (by kernel_rfl) (by kernel_rfl) (fun _ _ _ h => h) (Or.inl ⟨by rfl, ?_⟩) (by assumption) ?_
   rotate_left
   ·intro w hSw
    try dsimp only at hSw
    go_simp
    try with_reducible rfl
   try simp only [Act.put, List.setIfInBounds_toArray, List.set_cons_zero, List.set_cons_succ]
   refine wpAnyH_take (i := 3) (oi := ⟨_, _, _, _, _, _⟩) (v := ?_) rfl (by kernel_rfl) (by kernel_rfl) (by kernel_rfl) (fun _ _ _ h => h) (Or.inl ⟨by rfl, ?_⟩) (by assumption) ?_
   rotate_left
   ·intro w hSw
    try dsimp only at hSw
    go_simp
    try with_reducible rfl
   try simp only [Act.put, List.setIfInBounds_toArray, List.set_cons_zero, List.set_cons_succ]
   refine wpAnyH_ready (rs := [4]) (by kernel_rfl) (by simp) ?_
   refine AllReadyH.cons (o := ⟨_, _, _, _, _, _⟩) rfl (fun K hK => ?_) ?_
   rotate_left
   ·exact AllReadyH.nil
   go_simp
   (go_at_call 102; refine (S2.left_any _ b g cl cb HE5.out.2.1).mono ?_; rintro e wq ⟨rfl, rfl⟩; rw [HNL.out])
   refine hK.out _ _ (p5) (fun hHeld => ?_)
   clear hK K
   try simp only [Act.put, List.setIfInBounds_toArray, List.set_cons_zero, List.set_cons_succ]
   refine wpAnyH_take (i := 5) (oi := ⟨_, _, _, _, _, _⟩) (v := ?_) rfl (by kernel_rfl) (by kernel_rfl) (by kernel_rfl) (fun _ _ _ h => h) (Or.inl ⟨by rfl, ?_⟩) (by assumption) ?_
   rotate_left
   ·intro w hSw
    try dsimp only at hSw
    go_simp
    try with_reducible rfl
   try simp only [Act.put, List.setIfInBounds_toArray, List.set_cons_zero, List.set_cons_succ]
   refine wpAnyH_take (i := 6) (oi := ⟨_, _, _, _, _, _⟩) (v := ?_) rfl (by kernel_rfl) (by kernel_rfl) (by kernel_rfl) (fun _ _ _ h => h) (Or.inl ⟨by rfl, ?_⟩) (by assumption) ?_
   rotate_left
   ·intro w hSw
    try dsimp only at hSw
    go_simp
    try with_reducible rfl
   try simp only [Act.put, List.setIfInBounds_toArray, List.set_cons_zero, List.set_cons_succ]
   refine wpAnyH_take (i := 7) (oi := ⟨_, _, _, _, _, _⟩) (v := ?_) rfl (by kernel_rfl) (by kernel_rfl) (by kernel_rfl) (fun _ _ _ h => h) (Or.inl ⟨by rfl, ?_⟩) (by assumption) ?_
   rotate_left
   ·intro w hSw
    try dsimp only at hSw
    go_simp
    try with_reducible rfl
   try simp only [Act.put, List.setIfInBounds_toArray, List.set_cons_zero, List.set_cons_succ]
   refine wpAnyH_take (i := 8) (oi := ⟨_, _, _, _, _, _⟩) (v := ?_) rfl (by kernel_rfl) (by kernel_rfl) (by kernel_rfl) (fun _ _ _ h => h) (Or.inl ⟨by rfl, ?_⟩) (by assumption) ?_
   rotate_left
   ·intro w hSw
    try dsimp only at hSw
    go_simp
    try with_reducible rfl
   try simp only [Act.put, List.setIfInBounds_toArray, List.set_cons_zero, List.set_cons_succ]
   refine wpAnyH_take (i := 9) (oi := ⟨_, _, _, _, _, _⟩) (v := ?_) rfl (by kernel_rfl) (by kernel_rfl) (by kernel_rfl) (fun _ _ _ h => h) (Or.inl ⟨by rfl, ?_⟩) (by assumption) ?_
   rotate_left
   ·intro w hSw
    try dsimp only at hSw
    go_simp
    try with_reducible rfl
   try simp only [Act.put, List.setIfInBounds_toArray, List.set_cons_zero, List.set_cons_succ]
   refine wpAnyH_take (i := 10) (oi := ⟨_, _, _, _, _, _⟩) (v := ?_) rfl (by kernel_rfl) (by kernel_rfl) (by kernel_rfl) (fun _ _ _ h => h) (Or.inl ⟨by rfl, ?_⟩) (by assumption) ?_
   rotate_left
   ·intro w hSw
    try dsimp only at hSw
    go_simp
    try with_reducible rfl
   try simp only [Act.put, List.setIfInBounds_toArray, List.set_cons_zero, List.set_cons_succ]
   refine wpAnyH_take (i := 12) (oi := ⟨_, _, _, _, _, _⟩) (v := ?_) rfl (by kernel_rfl) (by kernel_rfl) (by kernel_rfl) (fun _ _ _ h => h) (Or.inl ⟨by rfl, ?_⟩) (by assumption) ?_
   rotate_left
   ·intro w hSw
    try dsimp only at hSw
    go_simp
    try with_reducible rfl
   try simp only [Act.put, List.setIfInBounds_toArray, List.set_cons_zero, List.set_cons_succ]
   refine wpAnyH_take (i := 13) (oi := ⟨_, _, _, _, _, _⟩) (v := ?_) rfl (by kernel_rfl) (by kernel_rfl) (by kernel_rfl) (fun _ _ _ h => h) (Or.inl ⟨by rfl, ?_⟩) (by assumption) ?_
   rotate_left
   ·intro w hSw
    try dsimp only at hSw
    go_simp
    try with_reducible rfl
   try simp only [Act.put, List.setIfInBounds_toArray, List.set_cons_zero, List.set_cons_succ]
   refine wpAnyH_take (i := 14) (oi := ⟨_, _, _, _, _, _⟩) (v := ?_) rfl (by kernel_rfl) (by kernel_rfl) (by kernel_rfl) (fun _ _ _ h => h) (Or.inl ⟨by rfl, ?_⟩) (by assumption) ?_
   rotate_left
   ·intro w hSw
    try dsimp only at hSw
    go_simp
    try with_reducible rfl
   try simp only [Act.put, List.setIfInBounds_toArray, List.set_cons_zero, List.set_cons_succ]
   refine wpAnyH_take (i := 15) (oi := ⟨_, _, _, _, _, _⟩) (v := ?_) rfl (by kernel_rfl) (by kernel_rfl) (by kernel_rfl) (fun _ _ _ h => h) (Or.inl ⟨by rfl, ?_⟩) (by assumption) ?_
   rotate_left
   ·intro w hSw
    try dsimp only at hSw
    go_simp
    try with_reducible rfl
   try simp only [Act.put, List.setIfInBounds_toArray, List.set_cons_zero, List.set_cons_succ]
   refine wpAnyH_take (i := 16) (oi := ⟨_, _, _, _, _, _⟩) (v := ?_) rfl (by kernel_rfl) (by kernel_rfl) (by kernel_rfl) (fun _ _ _ h => h) (Or.inl ⟨by rfl, ?_⟩) (by assumption) ?_
   rotate_left
   ·intro w hSw
    try dsimp only at hSw
    go_simp
    try with_reducible rfl
   try simp only [Act.put, List.setIfInBounds_toArray, List.set_cons_zero, List.set_cons_succ]
   refine wpAnyH_ready (rs := [11]) (by kernel_rfl) (by simp) ?_
   refine AllReadyH.cons (o := ⟨_, _, _, _, _, _⟩) rfl (fun K hK => ?_) ?_
   rotate_left
   ·exact AllReadyH.nil
   go_simp
   (go_at_call 103; refine (sint_any HE5.out).mono ?_; intro e w6 h; unfold SeeS at h; obtain ⟨rfl, he1, hk1⟩ := h; have hk2 := (both_of (s := s) hk1); rw [HIV.out]; have HE6 := Lib.hid he1; have p6 := he1.ptr; have Kr6 := Lib.hid ((hk2.block w.heap.size (by omega) (by have := HSB.out; rintro (e | e) <;> omega)).trans Kr5.out); have K56 := Lib.hid ((hk2.block w2.heap.size h65 (by have := HL2.out; rintro (e | e) <;> omega)).trans K55.out); have HO6 := Lib.hid (HO5.out.kp (both_lt hk2 (by have := HL2.out; omega) (by have := HL2.out; omega))); have HB6 : Hid (Below w.heap.size w w6) := Lib.hid (HB5.out.trans (hk2.below (by omega) (fun x hx e => by have := HSB.out; rcases e with e | e <;> omega))); have h66 : w2.heap.size < w6.heap.size := Nat.lt_of_lt_of_le h65 hk2.size; clear he1 hk1 hk2)
   refine hK.out _ _ (p6) (fun hHeld => ?_)
   clear hK K
   try simp only [Act.put, List.setIfInBounds_toArray, List.set_cons_zero, List.set_cons_succ]
   refine wpAnyH_ready (rs := [17]) (by kernel_rfl) (by simp) ?_
   refine AllReadyH.cons (o := ⟨_, _, _, _, _, _⟩) rfl (fun K hK => ?_) ?_
   rotate_left
   ·exact AllReadyH.nil
   go_simp
   (go_at_call 98; refine (wsum_any (.slice ba kk bc) (B.take kk) _ (S2.sum_w _ gv _ _ (bw_cut (bw_keep HBW.out HB6.out) HKK.out))).mono ?_; rintro e wq ⟨rfl, rfl⟩; rw [HSV.out])
   refine hK.out _ _ (p6) (fun hHeld => ?_)
   clear hK K
   try simp only [Act.put, List.setIfInBounds_toArray, List.set_cons_zero, List.set_cons_succ]
   refine wpAnyH_take (i := 18) (oi := ⟨_, _, _, _, _, _⟩) (v := ?_) rfl (by kernel_rfl) (by kernel_rfl) (by kernel_rfl) (fun _ _ _ h => h) (Or.inl ⟨by rfl, ?_⟩) (by assumption) ?_
   rotate_left
   ·intro w hSw
    try dsimp only at hSw
    go_simp
    try with_reducible rfl
   try simp only [Act.put, List.setIfInBounds_toArray, List.set_cons_zero, List.set_cons_succ]
   refine wpAnyH_take (i := 19) (oi := ⟨_, _, _, _, _, _⟩) (v := ?_) rfl (by kernel_rfl) (by kernel_rfl) (by kernel_rfl) (fun _ _ _ h => h) (Or.inl ⟨by rfl, ?_⟩) (by assumption) ?_
   rotate_left
   ·intro w hSw
    try dsimp only at hSw
    go_simp
    try with_reducible rfl
   try simp only [Act.put, List.setIfInBounds_toArray, List.set_cons_zero, List.set_cons_succ]
   refine wpAnyH_take (i := 20) (oi := ⟨_, _, _, _, _, _⟩) (v := ?_) rfl (by kernel_rfl) (by kernel_rfl) (by kernel_rfl) (fun _ _ _ h => h) (Or.inl ⟨by rfl, ?_⟩) (by assumption) ?_
   rotate_left
   ·intro w hSw
    try dsimp only at hSw
    go_simp
    try with_reducible rfl
   try simp only [Act.put, List.setIfInBounds_toArray, List.set_cons_zero, List.set_cons_succ]
   refine wpAnyH_take (i := 21) (oi := ⟨_, _, _, _, _, _⟩) (v := undef) rfl (by kernel_rfl) (by kernel_rfl) (by kernel_rfl) (fun _ _ _ h => h) (Or.inr ⟨by rfl, rfl⟩) (by assumption) ?_
   try simp only [Act.put, List.setIfInBounds_toArray, List.set_cons_zero, List.set_cons_succ]
   refine wpAnyH_ready (rs := [22]) (by kernel_rfl) (by simp) ?_
   refine AllReadyH.cons (o := ⟨_, _, _, _, _, _⟩) rfl (fun K hK => ?_) ?_
   rotate_left
   ·exact AllReadyH.nil
   refine ite_no13 (by rfl) ?_
   refine hK.out _ _ hHeld (fun hHeld => ?_)
   clear hK K
   try simp only [Act.put, List.setIfInBounds_toArray, List.set_cons_zero, List.set_cons_succ]
   refine wpAnyH_take (i := 23) (oi := ⟨_, _, _, _, _, _⟩) (v := undef) rfl (by kernel_rfl) (by kernel_rfl) (by kernel_rfl) (fun _ _ _ h => h) (Or.inr ⟨by rfl, rfl⟩) (by assumption) ?_
   try simp only [Act.put, List.setIfInBounds_toArray, List.set_cons_zero, List.set_cons_succ]
   refine wpAnyH_take (i := 24) (oi := ⟨_, _, _, _, _, _⟩) (v := ?_) rfl (by kernel_rfl) (by kernel_rfl) (by kernel_rfl) (fun _ _ _ h => h) (Or.inl ⟨by rfl, ?_⟩) (by assumption) ?_
   rotate_left
   ·intro w hSw
    try dsimp only at hSw
    go_simp
    try with_reducible rfl
   try simp only [Act.put, List.setIfInBounds_toArray, List.set_cons_zero, List.set_cons_succ]
   refine wpAnyH_take (i := 25) (oi := ⟨_, _, _, _, _, _⟩) (v := ?_) rfl (by kernel_rfl) (by kernel_rfl) (by kernel_rfl) (fun _ _ _ h => h) (Or.inl ⟨by rfl, ?_⟩) (by assumption) ?_
   rotate_left
   ·intro w hSw
    try dsimp only at hSw
    go_simp
    try with_reducible rfl
   try simp only [Act.put, List.setIfInBounds_toArray, List.set_cons_zero, List.set_cons_succ]
   refine wpAnyH_done (by kernel_rfl) ?_ _
   go_wp2_with (first | go_skip | ((with_reducible refine atW w6 ?_); refine storeM _ _ rfl rfl _ rfl rfl Kr6.out rfl rfl (by simp [Value.oneCell']) ?_; intro w9 h1 h2; have K9 := Lib.hid h1; have HB9 : Hid (Below w.heap.size w w9) := Lib.hid (below_grown9 HB6.out h2 (Nat.le_refl _)); clear h1 h2))
   refine bodyPost_ret (results_cell_tmp9 Tryz.results35 _ _ _ 61 _ (0, 0) _ rfl K9.out Tryz.underlying61 rfl szMsg) rfl ?_
   exact ⟨⟨.slice none 0 0, .slice none 0 0, .slice none 0 0, .slice none 0 0, .slice none 0 0⟩, by rw [HPN.out]; rfl, by rw [HPN.out]; exact nil_ms _, HB9.out⟩
 ·have HPN := Lib.hid (HPN0.out (.inl (by rw [HWH.out, decide_eq_false h8]; simp)))
  have h82 : (((nl : Int) == 8) = false) := by simp; omega
  go_enter Tryz.func35, Tryz.ntmps35
  go_upto_region 3 with (first | go_skip | ((with_reducible refine atW (w2.alloc (.cells #[.int .i64 0, .int .i64 0, .int .i64 0, .int .i64 0, .int .i64 0, .int .i64 0, .int .i64 0, .int .i64 0, .int .i64 0, .slice none 0 0, .bool false, .slice none 0 0, .bool false, .int .i64 0, .int .i64 0, .bool false, .int .i64 0, .int .i64 0, .slice none 0 0, .slice none 0 0, .slice none 0 0] 61)) ?_); refine storeM _ _ rfl rfl _ rfl rfl K50.out rfl rfl (by simp [Value.oneCell']) ?_; intro w3 h1 h2; have K53 := Lib.hid h1; have h6 : w2.heap.size < w3.heap.size := (by have := h2.size; simp only [World.size_alloc] at this; omega); have Kr4 := Lib.hid (grown_other9 Kr3.out h2 (by simp; omega) (by omega)); have HE4 := Lib.hid (eyeS_store HE3.out h2 (by have := HL2.out; omega) (by have := HL2.out; omega) (fun hne => by have := HE2.out.lt.2.2 hne; omega)); have hb3 := below_grown9 (blAlloc (Below.refl _ _) _) h2 (Nat.le_refl _); have HO3 := Lib.hid (HO2.out.kp (S2.Keeps.ofBelow hb3)); have HB3 : Hid (Below w.heap.size w w3) := Lib.hid (blThen HB2.out hb3); clear h1 h2 hb3) | ((with_reducible refine atC w1 ?_); go_at_call 101; go_must (refine (readM_any HE1.out (by have := HLB.out; show B.length ≤ _; omega)).mono ?_; intro e w2 h; unfold SeeMs at h; rw [HCE.out, HUE.out] at h; obtain ⟨⟨lo, ld, lv, lw, lp⟩, rfl, ho1, he2, hk2⟩ := h; have HO2 := Lib.hid ho1; obtain ⟨oa, oc, rfl⟩ := ho1.o.form; obtain ⟨da, dn, dc, rfl⟩ := ho1.d.form; obtain ⟨va, vn, vc, rfl⟩ := ho1.v.form; obtain ⟨wa, wc, rfl⟩ := ho1.w.form; obtain ⟨pa, pc, rfl⟩ := ho1.p.form; simp only [msV]; generalize ops.length = on at *; generalize writes.length = wn at *; generalize pairs.length = pn at *; have HE2 := Lib.hid he2; have Kr2 := Lib.hid ((hk2.block w.heap.size (by omega) (by have := HSB.out; rintro (e | e) <;> omega)).trans Kr1.out); have hw2 : w1.heap.size ≤ w2.heap.size := hk2.size; have HB2 : Hid (Below w.heap.size w w2) := Lib.hid (HB1.out.trans (hk2.below (by omega) (fun x hx e => by have := HSB.out; rcases e with e | e <;> omega))); have HL2 : Hid (s < w1.heap.size ∧ b < w1.heap.size) := Lib.hid ⟨HE1.out.lt.1, HE1.out.lt.2.1⟩; have K50 : Hid ((w2.alloc (.cells #[.int .i64 0, .int .i64 0, .int .i64 0, .int .i64 0, .int .i64 0, .int .i64 0, .int .i64 0, .int .i64 0, .int .i64 0, .slice none 0 0, .bool false, .slice none 0 0, .bool false, .int .i64 0, .int .i64 0, .bool false, .int .i64 0, .int .i64 0, .slice none 0 0, .slice none 0 0, .slice none 0 0] 61)).heap[w2.heap.size]? = some (.cells #[.int .i64 0, .int .i64 0, .int .i64 0, .int .i64 0, .int .i64 0, .int .i64 0, .int .i64 0, .int .i64 0, .int .i64 0, .slice none 0 0, .bool false, .slice none 0 0, .bool false, .int .i64 0, .int .i64 0, .bool false, .int .i64 0, .int .i64 0, .slice none 0 0, .slice none 0 0, .slice none 0 0] 61 (0, 0))) := Lib.hid (new_blockC w2 _ _); have Kr3 : Hid ((w2.alloc (.cells #[.int .i64 0, .int .i64 0, .int .i64 0, .int .i64 0, .int .i64 0, .int .i64 0, .int .i64 0, .int .i64 0, .int .i64 0, .slice none 0 0, .bool false, .slice none 0 0, .bool false, .int .i64 0, .int .i64 0, .bool false, .int .i64 0, .int .i64 0, .slice none 0 0, .slice none 0 0, .slice none 0 0] 61)).heap[w.heap.size]? = some (.cells #[.int .i64 0, .int .i64 0, .int .i64 0, .int .i64 0, .int .i64 0, .int .i64 0, .int .i64 0, .int .i64 0, .int .i64 0, .slice none 0 0, .bool false, .slice none 0 0, .bool false, .int .i64 0, .int .i64 0, .bool false, .int .i64 0, .int .i64 0, .slice none 0 0, .slice none 0 0, .slice none 0 0] 61 (0, 0))) := Lib.hid (((blAlloc (Below.refl _ _) _ : Below w2.heap.size w2 (w2.alloc (.cells #[.int .i64 0, .int .i64 0, .int .i64 0, .int .i64 0, .int .i64 0, .int .i64 0, .int .i64 0, .int .i64 0, .int .i64 0, .slice none 0 0, .bool false, .slice none 0 0, .bool false, .int .i64 0, .int .i64 0, .bool false, .int .i64 0, .int .i64 0, .slice none 0 0, .slice none 0 0, .slice none 0 0] 61))).block w.heap.size (by omega)).trans Kr2.out); have HE3 : Hid (EyeS (w2.alloc (.cells #[.int .i64 0, .int .i64 0, .int .i64 0, .int .i64 0, .int .i64 0, .int .i64 0, .int .i64 0, .int .i64 0, .int .i64 0, .slice none 0 0, .bool false, .slice none 0 0, .bool false, .int .i64 0, .int .i64 0, .bool false, .int .i64 0, .int .i64 0, .slice none 0 0, .slice none 0 0, .slice none 0 0] 61)) s b g (cl, cb, cd)) := Lib.hid (HE2.out.before (S2.kAlloc (S2.Keeps.refl _ _) _)); clear ho1 he2 hk2)) | ((with_reducible refine atC (w.alloc (.cells #[.int .i64 0, .int .i64 0, .int .i64 0, .int .i64 0, .int .i64 0, .int .i64 0, .int .i64 0, .int .i64 0, .int .i64 0, .slice none 0 0, .bool false, .slice none 0 0, .bool false, .int .i64 0, .int .i64 0, .bool false, .int .i64 0, .int .i64 0, .slice none 0 0, .slice none 0 0, .slice none 0 0] 61)) ?_); go_at_call 44; go_must (refine (sopen_any gv (.slice ba B.length bc) B _ HBS.out (by have := HLB.out; omega)).mono ?_; intro e w1 h; obtain ⟨s, b, g, rfl, he1, hs1, hs2, hs3, h5⟩ := h; have HE1 := Lib.hid he1; have HSB : Hid (w.heap.size + 1 ≤ s ∧ w.heap.size + 1 ≤ b) := Lib.hid (by simp only [World.size_alloc] at hs1 hs2; exact ⟨hs1, hs2⟩); have Kr1 := Lib.hid ((h5.block w.heap.size (by simp)).trans Kr0.out); have hw1 : w.heap.size + 1 ≤ w1.heap.size := (by have := h5.size; simp only [World.size_alloc] at this; exact this); have HB1 : Hid (Below w.heap.size w w1) := Lib.hid (blThen (blAlloc (Below.refl _ _) _) h5); clear he1 hs1 hs2 hs3 h5)))
  have p4 := HE4.out.ptr
  refine wp_region_held_drew (S := fun Y => Y.cell? ⟨s, 0, none⟩ = some (.pointer (some ⟨b, 0, none⟩))) (by kernel_rfl) (p4) (fun hHeld => ?_)
  have HE5 : Hid (EyeS w3.drew s b g (cl, cb, cd)) := Lib.hid (HE4.out.before (S2.kDrew (S2.Keeps.refl _ _)))
  have Kr5 : Hid (w3.drew.heap[w.heap.size]? = some (.cells #[.int .i64 0, .int .i64 0, .int .i64 0, .int .i64 0, .int .i64 0, .int .i64 0, .int .i64 0, .int .i64 0, .int .i64 0, .slice none 0 0, .bool false, .slice none 0 0, .bool false, .int .i64 0, .int .i64 0, .bool false, .int .i64 0, .int .i64 0, .slice none 0 0, .slice none 0 0, .slice none 0 0] 61 (0, 0))) := Kr4
  have K55 : Hid (w3.drew.heap[w2.heap.size]? = some (.cells #[.int .i64 kind, .int .i64 frm, .int .i64 dst, .int .i64 id1, .int .i64 id2, .int .i64 b1, .int .i64 b2, .int .i64 a1, .int .i64 a2, .slice oa on oc, .bool fast, .slice da dn dc, .bool has, .int .i64 q1, .int .i64 q2, .bool gone, .int .i64 t1, .int .i64 t2, .slice va vn vc, .slice wa wn wc, .slice pa pn pc] 61 (0, 0))) := K53
  have HO5 := Lib.hid (HO3.out.kp (S2.kDrew (S2.Keeps.refl _ w3)))
  have HB5 : Hid (Below w.heap.size w w3.drew) := Lib.hid HB3.out.drew
  have h65 : w2.heap.size < w3.drew.heap.size := h6
  have p5 := HE5.out.ptr
  clear HE4 Kr4 K53 HO3 HB3 p4
  generalize w3.drew = w5 at *
  refine wpAnyH_take (i := 0) (oi := ⟨_, _, _, _, _, _⟩) (v := ?_) rfl (by kernel_rfl) (by kernel_rfl) (by kernel_rfl) (fun _ _ _ h => h) (Or.inl ⟨by rfl, ?_⟩) (by assumption) ?_
  rotate_left
  ·intro w hSw
   try dsimp only at hSw
   go_simp
   try with_reducible rfl
  try simp only [Act.put, List.setIfInBounds_toArray, List.set_cons_zero, List.set_cons_succ]
  refine wpAnyH_take (i := 1) (oi := ⟨_, _, _, _, _, _⟩) (v := ?_) rfl (by kernel_rfl) (by kernel_rfl) (by kernel_rfl) (fun _ _ _ h => h) (Or.inl ⟨by rfl, ?_⟩) (by assumption) ?_
  rotate_left
  ·intro w hSw
   try dsimp only at hSw
   go_simp
   try with_reducible rfl
  try simp only [Act.put, List.setIfInBounds_toArray, List.set_cons_zero, List.set_cons_succ]
  refine wpAnyH_take (i := 2) (oi := ⟨_, _, _, _, _, _⟩) (v := ?_) rfl (by kernel_rfl) (by kernel_rfl) (by kernel_rfl) (fun _ _ _ h => h) (Or.inl ⟨by rfl, ?_⟩) (by assumption) ?_
  rotate_left
  ·intro w hSw
   try dsimp only at hSw
   go_simp
   try with_reducible rfl
  try simp only [Act.put, List.setIfInBounds_toArray, List.set_cons_zero, List.set_cons_succ]
  refine wpAnyH_take (i := 3) (oi := ⟨_, _, _, _, _, _⟩) (v := ?_) rfl (by kernel_rfl) (by kernel_rfl) (by kernel_rfl) (fun _ _ _ h => h) (Or.inl ⟨by rfl, ?_⟩) (by assumption) ?_
  rotate_left
  ·intro w hSw
   try dsimp only at hSw
   go_simp
   try with_reducible rfl
  try simp only [Act.put, List.setIfInBounds_toArray, List.set_cons_zero, List.set_cons_succ]
  refine wpAnyH_ready (rs := [4]) (by kernel_rfl) (by simp) ?_
  refine AllReadyH.cons (o := ⟨_, _, _, _, _, _⟩) rfl (fun K hK => ?_) ?_
  rotate_left
  ·exact AllReadyH.nil
  go_simp
  (go_at_call 102; refine (S2.left_any _ b g cl cb HE5.out.2.1).mono ?_; rintro e wq ⟨rfl, rfl⟩; rw [HNL.out])
  refine hK.out _ _ (p5) (fun hHeld => ?_)
  clear hK K
  try simp only [Act.put, List.setIfInBounds_toArray, List.set_cons_zero, List.set_cons_succ]
  refine wpAnyH_take (i := 5) (oi := ⟨_, _, _, _, _, _⟩) (v := ?_) rfl (by kernel_rfl) (by kernel_rfl) (by kernel_rfl) (fun _ _ _ h => h) (Or.inl ⟨by rfl, ?_⟩) (by assumption) ?_
  rotate_left
  ·intro w hSw
   try dsimp only at hSw
   go_simp
   try with_reducible rfl
  try simp only [Act.put, List.setIfInBounds_toArray, List.set_cons_zero, List.set_cons_succ]
  refine wpAnyH_take (i := 6) (oi := ⟨_, _, _, _, _, _⟩) (v := ?_) rfl (by kernel_rfl) (by kernel_rfl) (by kernel_rfl) (fun _ _ _ h => h) (Or.inl ⟨by rfl, ?_⟩) (by assumption) ?_
  rotate_left
  ·intro w hSw
   try dsimp only at hSw
   go_simp
   try with_reducible rfl
  try simp only [Act.put, List.setIfInBounds_toArray, List.set_cons_zero, List.set_cons_succ]
  refine wpAnyH_take (i := 7) (oi := ⟨_, _, _, _, _, _⟩) (v := undef) rfl (by kernel_rfl) (by kernel_rfl) (by kernel_rfl) (fun _ _ _ h => h) (Or.inr ⟨by rfl, rfl⟩) (by assumption) ?_
  try simp only [Act.put, List.setIfInBounds_toArray, List.set_cons_zero, List.set_cons_succ]
  refine wpAnyH_take (i := 8) (oi := ⟨_, _, _, _, _, _⟩) (v := undef) rfl (by kernel_rfl) (by kernel_rfl) (by kernel_rfl) (fun _ _ _ h => h) (Or.inr ⟨by rfl, rfl⟩) (by assumption) ?_
  try simp only [Act.put, List.setIfInBounds_toArray, List.set_cons_zero, List.set_cons_succ]
  refine wpAnyH_take (i := 9) (oi := ⟨_, _, _, _, _, _⟩) (v := undef) rfl (by kernel_rfl) (by kernel_rfl) (by kernel_rfl) (fun _ _ _ h => h) (Or.inr ⟨by rfl, rfl⟩) (by assumption) ?_
  try simp only [Act.put, List.setIfInBounds_toArray, List.set_cons_zero, List.set_cons_succ]
  refine wpAnyH_take (i := 10) (oi := ⟨_, _, _, _, _, _⟩) (v := undef) rfl (by kernel_rfl) (by kernel_rfl) (by kernel_rfl) (fun _ _ _ h => h) (Or.inr ⟨by rfl, rfl⟩) (by assumption) ?_
  try simp only [Act.put, List.setIfInBounds_toArray, List.set_cons_zero, List.set_cons_succ]
  refine wpAnyH_take (i := 12) (oi := ⟨_, _, _, _, _, _⟩) (v := undef) rfl (by kernel_rfl) (by kernel_rfl) (by kernel_rfl) (fun _ _ _ h => h) (Or.inr ⟨by rfl, rfl⟩) (by assumption) ?_
  try simp only [Act.put, List.setIfInBounds_toArray, List.set_cons_zero, List.set_cons_succ]
  refine wpAnyH_take (i := 13) (oi := ⟨_, _, _, _, _, _⟩) (v := undef) rfl (by kernel_rfl) (by kernel_rfl) (by kernel_rfl) (fun _ _ _ h => h) (Or.inr ⟨by rfl, rfl⟩) (by assumption) ?_
  try simp only [Act.put, List.setIfInBounds_toArray, List.set_cons_zero, List.set_cons_succ]
  refine wpAnyH_take (i := 14) (oi := ⟨_, _, _, _, _, _⟩) (v := undef) rfl (by kernel_rfl) (by kernel_rfl) (by kernel_rfl) (fun _ _ _ h => h) (Or.inr ⟨by rfl, rfl⟩) (by assumption) ?_
  try simp only [Act.put, List.setIfInBounds_toArray, List.set_cons_zero, List.set_cons_succ]
  refine wpAnyH_take (i := 15) (oi := ⟨_, _, _, _, _, _⟩) (v := undef) rfl (by kernel_rfl) (by kernel_rfl) (by kernel_rfl) (fun _ _ _ h => h) (Or.inr ⟨by rfl, rfl⟩) (by assumption) ?_
  try simp only [Act.put, List.setIfInBounds_toArray, List.set_cons_zero, List.set_cons_succ]
  refine wpAnyH_take (i := 16) (oi := ⟨_, _, _, _, _, _⟩) (v := undef) rfl (by kernel_rfl) (by kernel_rfl) (by kernel_rfl) (fun _ _ _ h => h) (Or.inr ⟨by rfl, rfl⟩) (by assumption) ?_
  try simp only [Act.put, List.setIfInBounds_toArray, List.set_cons_zero, List.set_cons_succ]
  refine wpAnyH_ready (rs := [11]) (by kernel_rfl) (by simp) ?_
  refine AllReadyH.cons (o := ⟨_, _, _, _, _, _⟩) rfl (fun K hK => ?_) ?_
  rotate_left
  ·exact AllReadyH.nil
  refine ite_no13 (by rfl) ?_
  refine hK.out _ _ hHeld (fun hHeld => ?_)
  clear hK K
  try simp only [Act.put, List.setIfInBounds_toArray, List.set_cons_zero, List.set_cons_succ]
  refine wpAnyH_ready (rs := [17]) (by kernel_rfl) (by simp) ?_
  refine AllReadyH.cons (o := ⟨_, _, _, _, _, _⟩) rfl (fun K hK => ?_) ?_
  rotate_left
  ·exact AllReadyH.nil
  refine ite_no13 (by rfl) ?_
  refine hK.out _ _ hHeld (fun hHeld => ?_)
  clear hK K
  try simp only [Act.put, List.setIfInBounds_toArray, List.set_cons_zero, List.set_cons_succ]
  refine wpAnyH_take (i := 18) (oi := ⟨_, _, _, _, _, _⟩) (v := undef) rfl (by kernel_rfl) (by kernel_rfl) (by kernel_rfl) (fun _ _ _ h => h) (Or.inr ⟨by rfl, rfl⟩) (by assumption) ?_
  try simp only [Act.put, List.setIfInBounds_toArray, List.set_cons_zero, List.set_cons_succ]
  refine wpAnyH_take (i := 19) (oi := ⟨_, _, _, _, _, _⟩) (v := ?_) rfl (by kernel_rfl) (by kernel_rfl) (by kernel_rfl) (fun _ _ _ h => h) (Or.inl ⟨by rfl, ?_⟩) (by assumption) ?_
  rotate_left
  ·intro w hSw
   try dsimp only at hSw
   go_simp
   try with_reducible rfl
  try simp only [Act.put, List.setIfInBounds_toArray, List.set_cons_zero, List.set_cons_succ]
  refine wpAnyH_take (i := 20) (oi := ⟨_, _, _, _, _, _⟩) (v := ?_) rfl (by kernel_rfl) (by kernel_rfl) (by kernel_rfl) (fun _ _ _ h => h) (Or.inl ⟨by rfl, ?_⟩) (by assumption) ?_
  rotate_left
  ·intro w hSw
   try dsimp only at hSw
   go_simp
   try with_reducible rfl
  try simp only [Act.put, List.setIfInBounds_toArray, List.set_cons_zero, List.set_cons_succ]
  refine wpAnyH_take (i := 21) (oi := ⟨_, _, _, _, _, _⟩) (v := undef) rfl (by kernel_rfl) (by kernel_rfl) (by kernel_rfl) (fun _ _ _ h => h) (Or.inr ⟨by rfl, rfl⟩) (by assumption) ?_
  try simp only [Act.put, List.setIfInBounds_toArray, List.set_cons_zero, List.set_cons_succ]
  refine wpAnyH_ready (rs := [22]) (by kernel_rfl) (by simp) ?_
  refine AllReadyH.cons (o := ⟨_, _, _, _, _, _⟩) rfl (fun K hK => ?_) ?_
  rotate_left
  ·exact AllReadyH.nil
  refine ite_no13 (by rfl) ?_
  refine hK.out _ _ hHeld (fun hHeld => ?_)
  clear hK K
  try simp only [Act.put, List.setIfInBounds_toArray, List.set_cons_zero, List.set_cons_succ]
  refine wpAnyH_take (i := 23) (oi := ⟨_, _, _, _, _, _⟩) (v := undef) rfl (by kernel_rfl) (by kernel_rfl) (by kernel_rfl) (fun _ _ _ h => h) (Or.inr ⟨by rfl, rfl⟩) (by assumption) ?_
  try simp only [Act.put, List.setIfInBounds_toArray, List.set_cons_zero, List.set_cons_succ]
  refine wpAnyH_take (i := 24) (oi := ⟨_, _, _, _, _, _⟩) (v := ?_) rfl (by kernel_rfl) (by kernel_rfl) (by kernel_rfl) (fun _ _ _ h => h) (Or.inl ⟨by rfl, ?_⟩) (by assumption) ?_
  rotate_left
  ·intro w hSw
   try dsimp only at hSw
   go_simp
   try with_reducible rfl
  try simp only [Act.put, List.setIfInBounds_toArray, List.set_cons_zero, List.set_cons_succ]
  refine wpAnyH_take (i := 25) (oi := ⟨_, _, _, _, _, _⟩) (v := ?_) rfl (by kernel_rfl) (by kernel_rfl) (by kernel_rfl) (fun _ _ _ h => h) (Or.inl ⟨by rfl, ?_⟩) (by assumption) ?_
  rotate_left
  ·intro w hSw
   try dsimp only at hSw
   go_simp
   try with_reducible rfl
  try simp only [Act.put, List.setIfInBounds_toArray, List.set_cons_zero, List.set_cons_succ]
  refine wpAnyH_done (by kernel_rfl) ?_ _
  go_wp2_with (first | go_skip | ((with_reducible refine atW w5 ?_); refine storeM _ _ rfl rfl _ rfl rfl Kr5.out rfl rfl (by simp [Value.oneCell']) ?_; intro w9 h1 h2; have K9 := Lib.hid h1; have HB9 : Hid (Below w.heap.size w w9) := Lib.hid (below_grown9 HB5.out h2 (Nat.le_refl _)); clear h1 h2))
  refine bodyPost_ret (results_cell_tmp9 Tryz.results35 _ _ _ 61 _ (0, 0) _ rfl K9.out Tryz.underlying61 rfl szMsg) rfl ?_
  exact ⟨⟨.slice none 0 0, .slice none 0 0, .slice none 0 0, .slice none 0 0, .slice none 0 0⟩, by rw [HPN.out]; rfl, by rw [HPN.out]; exact nil_ms _, HB9.out⟩

def fE (x : Int × List (Int × Int)) : Nat := 16 * x.2.length
def fJ (s : SD.Dp) : Nat := 16 * s.ids.length
theorem szL_toE (F : List SD.Dp) : szL fE (SD.toD F) = szL fJ F := by
 unfold szL SD.toD
 rw [List.map_map]
 rfl
theorem mul16_lt {n : Nat} (h : n ≤ 140737488355328) : (16 : Int) * (n : Int) < 9223372036854775808 := by omega
def smallM (m : Mg) : Bool := decide (m.ops.length + m.deps.length + m.val.2.2.length + m.writes.length + m.pairs.length ≤ 200 ∧ szL fO m.ops + szL fE m.deps + szL fE m.val.2.2 + szL fW m.writes + szL fP m.pairs ≤ 20000)
theorem smallM_no1 {m : Mg} (h : 200 < m.ops.length + m.deps.length + m.val.2.2.length + m.writes.length + m.pairs.length) : smallM m = false := decide_eq_false fun q => absurd q.1 (Nat.not_le_of_lt h)
theorem smallM_no2 {m : Mg} {n : Nat} (e : n = szL fO m.ops + szL fE m.deps + szL fE m.val.2.2 + szL fW m.writes + szL fP m.pairs) (h : ¬ n ≤ 20000) : smallM m = false := decide_eq_false fun q => h (by rw [e]; exact q.2)
theorem smallM_yes {m : Mg} {q n : Nat} (d : q = m.ops.length + m.deps.length + m.val.2.2.length + m.writes.length + m.pairs.length) (g : q ≤ 200) (e : n = szL fO m.ops + szL fE m.deps + szL fE m.val.2.2 + szL fW m.writes + szL fP m.pairs) (h : n ≤ 20000) : smallM m = true := decide_eq_true ⟨by rw [← d]; exact g, by rw [← e]; exact h⟩
structure ReachM (m : Mg) : Prop where
 ol : m.ops.length ≤ 140737488355328
 sl : m.deps.length ≤ 140737488355328
 dl : m.val.2.2.length ≤ 140737488355328
 wl : m.writes.length ≤ 140737488355328
 pl : m.pairs.length ≤ 140737488355328
 o : ∀ x ∈ m.ops, fO x ≤ 281474976710656
 s : ∀ x ∈ m.deps, fD x ≤ 140737488355328
 d : ∀ x ∈ m.val.2.2, fD x ≤ 140737488355328
 w : ∀ x ∈ m.writes, fW x ≤ 140737488355328
 p : ∀ x ∈ m.pairs, fP x ≤ 140737488355328
theorem szL_fE (d : SD.Dd) : szL fE d = 16 * SD.idsN d := by
 induction d with
 | nil => rfl
 | cons x r ih =>
  have e1 : szL fE (x :: r) = fE x + szL fE r := rfl
  have e2 : SD.idsN (x :: r) = x.2.length + SD.idsN r := rfl
  rw [e1, e2, ih, Nat.mul_add]
  rfl
theorem few_smallM {m : Mg} (h : smallM m = true) : FewM m := by
 have h1 := of_decide_eq_true h
 rw [szL_fE, szL_fE] at h1
 exact ⟨by omega, ⟨by omega, by omega⟩, ⟨by omega, by omega⟩, by omega, by omega⟩
theorem small13_any (m : Mg) (l : PlM) (W : World) (h : MsAt W m l) (hr : ReachM m) : Calls Tryz.prog 31 #[msV m l] W fun e w' => e = .returned (.bool (smallM m)) ∧ Below W.heap.size W w' := by
 obtain ⟨kind, frm, dst, ⟨id1, id2⟩, ⟨b1, b2⟩, ⟨a1, a2⟩, ops, fast, deps, has, ⟨q1, q2⟩, ⟨gone, ⟨t1, t2⟩, vdeps⟩, writes, pairs⟩ := m
 obtain ⟨lo, ld, lv, lw, lp⟩ := l
 have ho := h.o
 have hw := h.w
 have hp := h.p
 obtain ⟨sa, sc, sF, hls, hsl, hst, _⟩ := h.d
 obtain ⟨da, dc, dF, hld, hdl, hdt, _⟩ := h.v
 simp only at ho hw hp hls hld hst hdt
 subst hls hld hst hdt
 obtain ⟨oa, oc, rfl⟩ := ho.form
 obtain ⟨wa, wc, rfl⟩ := hw.form
 obtain ⟨pa, pc, rfl⟩ := hp.form
 have HO := Lib.hid ho
 have HS := Lib.hid hsl
 have HD := Lib.hid hdl
 have HW := Lib.hid hw
 have HP := Lib.hid hp
 have HZS := Lib.hid (szL_toE sF)
 have HZD := Lib.hid (szL_toE dF)
 have HRs : Hid (∀ s ∈ sF, fJ s ≤ 2251799813685248) := Lib.hid (fun s hs => Nat.mul_le_mul_left 16 (hr.s (s.sh, s.ids) (List.mem_map.2 ⟨s, hs, rfl⟩)))
 have HRd : Hid (∀ s ∈ dF, fJ s ≤ 2251799813685248) := Lib.hid (fun s hs => Nat.mul_le_mul_left 16 (hr.d (s.sh, s.ids) (List.mem_map.2 ⟨s, hs, rfl⟩)))
 have HRo : Hid (∀ x ∈ ops, fO x ≤ 281474976710656) := Lib.hid hr.o
 have HRw : Hid (∀ x ∈ writes, fW x ≤ 140737488355328) := Lib.hid hr.w
 have HRp : Hid (∀ x ∈ pairs, fP x ≤ 140737488355328) := Lib.hid hr.p
 have hol : ops.length ≤ 140737488355328 := hr.ol
 have hsl2 : sF.length ≤ 140737488355328 := by have := hr.sl; simpa [SD.toD] using this
 have hdl2 : dF.length ≤ 140737488355328 := by have := hr.dl; simpa [SD.toD] using this
 have hwl : writes.length ≤ 140737488355328 := hr.wl
 have hpl : pairs.length ≤ 140737488355328 := hr.pl
 have HBN : Hid (ops.length ≤ 140737488355328 ∧ sF.length ≤ 140737488355328 ∧ dF.length ≤ 140737488355328 ∧ writes.length ≤ 140737488355328 ∧ pairs.length ≤ 140737488355328) := Lib.hid ⟨hol, hsl2, hdl2, hwl, hpl⟩
 clear h hr ho hw hp hsl hdl hol hsl2 hdl2 hwl hpl
 unfold msV
 simp only
 obtain ⟨w0, he0, hw0, kQc, hb0⟩ := boxes1 W (.cells #[.int .i64 kind, .int .i64 frm, .int .i64 dst, .int .i64 id1, .int .i64 id2, .int .i64 b1, .int .i64 b2, .int .i64 a1, .int .i64 a2, .slice oa ops.length oc, .bool fast, .slice sa sF.length sc, .bool has, .int .i64 q1, .int .i64 q2, .bool gone, .int .i64 t1, .int .i64 t2, .slice da dF.length dc, .slice wa writes.length wc, .slice pa pairs.length pc] 61)
 have Kc0 := Lib.hid kQc
 have HB0 := Lib.hid hb0
 have HE0 := Lib.hid he0
 clear he0 hb0 kQc
 go_enter Tryz.func31, Tryz.ntmps31
 go_upto_region 1 with fail
 rw [← HE0.out]
 have HL : Hid (W.heap.size < w0.heap.size) := Lib.hid (by omega)
 clear hw0
 have HBW := HB0
 have c9 := cell_row Kc0.out 9 _ rfl
 have c11 := cell_row Kc0.out 11 _ rfl
 have c18 := cell_row Kc0.out 18 _ rfl
 have c19 := cell_row Kc0.out 19 _ rfl
 have c20 := cell_row Kc0.out 20 _ rfl
 clear Kc0 HE0 HB0
 by_cases h200 : 200 < ops.length + sF.length + dF.length + writes.length + pairs.length
 ·have hd2 : (200 : Int) < (ops.length : Int) + (sF.length : Int) + (dF.length : Int) + (writes.length : Int) + (pairs.length : Int) := by exact_mod_cast h200
  have hd1 := decide_eq_true hd2
  have HV : Hid (smallM ⟨kind, frm, dst, (id1, id2), (b1, b2), (a1, a2), ops, fast, SD.toD sF, has, (q1, q2), (gone, (t1, t2), SD.toD dF), writes, pairs⟩ = false) := Lib.hid (smallM_no1 (by simp only [SD.toD, List.length_map]; omega))
  have hq : ((0 : Int) ≤ (ops.length : Int) + (sF.length : Int) ∧ (ops.length : Int) + (sF.length : Int) < 9223372036854775808) ∧ ((0 : Int) ≤ (ops.length : Int) + (sF.length : Int) + (dF.length : Int) ∧ (ops.length : Int) + (sF.length : Int) + (dF.length : Int) < 9223372036854775808) ∧ ((0 : Int) ≤ (ops.length : Int) + (sF.length : Int) + (dF.length : Int) + (writes.length : Int) ∧ (ops.length : Int) + (sF.length : Int) + (dF.length : Int) + (writes.length : Int) < 9223372036854775808) ∧ ((0 : Int) ≤ (ops.length : Int) + (sF.length : Int) + (dF.length : Int) + (writes.length : Int) + (pairs.length : Int) ∧ (ops.length : Int) + (sF.length : Int) + (dF.length : Int) + (writes.length : Int) + (pairs.length : Int) < 9223372036854775808) := by have h5 := HBN.out; obtain ⟨q1, q2, q3, q4, q5⟩ := h5; omega
  have hw2 : wrap64 ((ops.length : Int) + (sF.length : Int)) = (ops.length : Int) + (sF.length : Int) := w64_9 hq.1.1 hq.1.2
  have hw3 : wrap64 ((ops.length : Int) + (sF.length : Int) + (dF.length : Int)) = (ops.length : Int) + (sF.length : Int) + (dF.length : Int) := w64_9 hq.2.1.1 hq.2.1.2
  have hw4 : wrap64 ((ops.length : Int) + (sF.length : Int) + (dF.length : Int) + (writes.length : Int)) = (ops.length : Int) + (sF.length : Int) + (dF.length : Int) + (writes.length : Int) := w64_9 hq.2.2.1.1 hq.2.2.1.2
  have hw5 : wrap64 ((ops.length : Int) + (sF.length : Int) + (dF.length : Int) + (writes.length : Int) + (pairs.length : Int)) = (ops.length : Int) + (sF.length : Int) + (dF.length : Int) + (writes.length : Int) + (pairs.length : Int) := w64_9 hq.2.2.2.1 hq.2.2.2.2
  clear hq
  go_wp2
  go_ret
  exact ⟨ret_bool HV.out.symm, HBW.out⟩
 ·have hd2 : ¬ (200 : Int) < (ops.length : Int) + (sF.length : Int) + (dF.length : Int) + (writes.length : Int) + (pairs.length : Int) := by exact_mod_cast h200
  have hd1 := decide_eq_false hd2
  have HN200 : Hid (ops.length + (SD.toD sF).length + (SD.toD dF).length + writes.length + pairs.length ≤ 200) := Lib.hid (by simp only [SD.toD, List.length_map]; omega)
  have HBI : Hid (Below w0.heap.size w0 w0) := Lib.hid (Below.refl _ _)
  have hq : ((0 : Int) ≤ (ops.length : Int) + (sF.length : Int) ∧ (ops.length : Int) + (sF.length : Int) < 9223372036854775808) ∧ ((0 : Int) ≤ (ops.length : Int) + (sF.length : Int) + (dF.length : Int) ∧ (ops.length : Int) + (sF.length : Int) + (dF.length : Int) < 9223372036854775808) ∧ ((0 : Int) ≤ (ops.length : Int) + (sF.length : Int) + (dF.length : Int) + (writes.length : Int) ∧ (ops.length : Int) + (sF.length : Int) + (dF.length : Int) + (writes.length : Int) < 9223372036854775808) ∧ ((0 : Int) ≤ (ops.length : Int) + (sF.length : Int) + (dF.length : Int) + (writes.length : Int) + (pairs.length : Int) ∧ (ops.length : Int) + (sF.length : Int) + (dF.length : Int) + (writes.length : Int) + (pairs.length : Int) < 9223372036854775808) := by have h5 := HBN.out; obtain ⟨q1, q2, q3, q4, q5⟩ := h5; omega
  have hw2 : wrap64 ((ops.length : Int) + (sF.length : Int)) = (ops.length : Int) + (sF.length : Int) := w64_9 hq.1.1 hq.1.2
  have hw3 : wrap64 ((ops.length : Int) + (sF.length : Int) + (dF.length : Int)) = (ops.length : Int) + (sF.length : Int) + (dF.length : Int) := w64_9 hq.2.1.1 hq.2.1.2
  have hw4 : wrap64 ((ops.length : Int) + (sF.length : Int) + (dF.length : Int) + (writes.length : Int)) = (ops.length : Int) + (sF.length : Int) + (dF.length : Int) + (writes.length : Int) := w64_9 hq.2.2.1.1 hq.2.2.1.2
  have hw5 : wrap64 ((ops.length : Int) + (sF.length : Int) + (dF.length : Int) + (writes.length : Int) + (pairs.length : Int)) = (ops.length : Int) + (sF.length : Int) + (dF.length : Int) + (writes.length : Int) + (pairs.length : Int) := w64_9 hq.2.2.2.1 hq.2.2.2.2
  clear hq
  go_wp2
  clear hw2 hw3 hw4 hw5
  go_loopw [4, 5] (fun b i wr => ∃ k : Nat, k ≤ ops.length ∧ b = .int .i64 (szL fO (ops.take k) : Nat) ∧ i = .int .i64 k ∧ Below w0.heap.size w0 wr) (fun _ i _ => ops.length - (RowKit.intOf i).toNat)
  case atStart => exact ⟨0, Nat.zero_le _, by simp [szL], rfl, HBI.out⟩
  case round =>
   clear HBI
   obtain ⟨k, hk, rfl, rfl, hb⟩ := hrel
   have HB0 := Lib.hid hb
   have cb := cell_up9 hb HL.out c9
   clear hb
   have hbig := szL_big fO 281474976710656 HRo.out k
   by_cases hlt : k < ops.length
   ·have hk1 : (k : Int) < (ops.length : Int) := by omega
    have hk0 : (0 : Int) ≤ (k : Int) := by omega
    have hdk : decide ((k : Int) < (ops.length : Int)) = true := decide_eq_true hk1
    obtain ⟨⟨kd, key, to_, nm⟩, hx⟩ := at_lt hlt
    obtain ⟨g, o, hA, hg, d0, d1, d2, d3⟩ := ops_at HO.out hx
    simp only at d1 d2
    have e1 := cell_in HBW.out hg d1
    have e1 := cell_in HB0.out (Nat.lt_of_lt_of_le hg HBW.out.size) e1
    have e2 := cell_in HBW.out hg d2
    have e2 := cell_in HB0.out (Nat.lt_of_lt_of_le hg HBW.out.size) e2
    have HFT := Lib.hid (szL_take fO hx)
    have hsz : key.size + to_.size ≤ 281474976710656 := HRo.out _ (List.mem_of_getElem? hx)
    clear hx d0 d1 d2 d3
    subst hA
    generalize hG : szL fO (ops.take k) = G at *
    clear hG
    have hq : ((0 : Int) ≤ (G : Int) + (key.size : Int) ∧ (G : Int) + (key.size : Int) < 9223372036854775808) ∧ (0 : Int) ≤ (G : Int) + (key.size : Int) + (to_.size : Int) ∧ (G : Int) + (key.size : Int) + (to_.size : Int) < 9223372036854775808 := by omega
    have hw1 := wrap_in64 hq.1.1 hq.1.2
    have hw2 := wrap_in64 hq.2.1 hq.2.2
    have hv1 := w64_9 hq.1.1 hq.1.2
    have hv2 := w64_9 hq.2.1 hq.2.2
    clear hq
    go_wp2_with fail
    go_quiet (fail)
    go_wp2
    go_roundw
    case rel => exact ⟨k + 1, hlt, by rw [HFT.out]; show _ = Value.int .i64 (((G + (key.size + to_.size) : Nat)) : Int); (try simp only [hw1, hw2, hv1, hv2]); rw [← Nat.add_assoc, Int.natCast_add, Int.natCast_add], by go_num, HB0.out.trans ⟨rfl, rfl, rfl, Nat.le_refl _, fun _ _ => rfl⟩⟩
    case measure => clear hv1 hv2 hw1 hw2; simp [RowKit.intOf]; omega
   ·have hge : ¬ (k : Int) < (ops.length : Int) := by omega
    have hdk : decide ((k : Int) < (ops.length : Int)) = false := decide_eq_false hge
    generalize hS : szL fO (ops.take k) = S1 at *
    have HS1 : Hid (S1 = szL fO ops) := Lib.hid (by rw [← hS, List.take_of_length_le (by omega)])
    have hbS1 : S1 ≤ 56294995342131200 := by omega
    clear hS hbig
    go_wp2
    clear cb hdk hge hk
    go_loopw [4, 6] (fun b i wr => ∃ k : Nat, k ≤ sF.length ∧ b = .int .i64 ((S1 : Int) + (szL fJ (sF.take k) : Nat)) ∧ i = .int .i64 k ∧ Below w0.heap.size w0 wr) (fun _ i _ => sF.length - (RowKit.intOf i).toNat)
    case atStart => exact ⟨0, Nat.zero_le _, by simp [szL], rfl, HB0.out⟩
    case round =>
     clear HB0
     obtain ⟨k, hk, rfl, rfl, hb⟩ := hrel
     have HB1 := Lib.hid hb
     have cb := cell_up9 hb HL.out c11
     clear hb
     have hbig := szL_big fJ 2251799813685248 HRs.out k
     by_cases hlt : k < sF.length
     ·have hk1 : (k : Int) < (sF.length : Int) := by omega
      have hk0 : (0 : Int) ≤ (k : Int) := by omega
      have hdk : decide ((k : Int) < (sF.length : Int)) = true := decide_eq_true hk1
      obtain ⟨s, hx⟩ := at_lt hlt
      obtain ⟨g, o, hA, hg, d0, d1, _⟩ := SD.Dl.at HS.out hx
      unfold SD.ilD at d1
      have e1 := cell_in HBW.out hg d1
      have e1 := cell_in HB1.out (Nat.lt_of_lt_of_le hg HBW.out.size) e1
      have HFT := Lib.hid (szL_take fJ hx)
      have hsz : (16 * s.ids.length) ≤ 2251799813685248 := HRs.out _ (List.mem_of_getElem? hx)
      obtain ⟨zz, hzz⟩ : ∃ z, z = 16 * s.ids.length := ⟨_, rfl⟩
      have hfz : fJ s = zz := by rw [hzz]; rfl
      rw [hfz] at HFT
      have hzb : zz ≤ 2251799813685248 := by rw [hzz]; exact hsz
      have HZZ := Lib.hid hzz
      have hsb : s.ids.length ≤ 140737488355328 := by omega
      clear hsz hzz hfz
      clear hx d0 d1
      subst hA
      generalize hG : szL fJ (sF.take k) = G at *
      clear hG
      have hq : (0 : Int) ≤ (S1 : Int) + (G : Int) + (zz : Int) ∧ (S1 : Int) + (G : Int) + (zz : Int) < 9223372036854775808 := by omega
      have hw1 := wrap_in64 hq.1 hq.2
      have hv1 := w64_9 hq.1 hq.2
      clear hq
      have hmw : wrap64 (16 * (s.ids.length : Int)) = ((zz : Nat) : Int) := by rw [HZZ.out, Int.natCast_mul]; exact w64_9 (Int.mul_nonneg (by decide) (Int.natCast_nonneg _)) (mul16_lt hsb)
      have hmx : IntKind.i64.wrap (16 * (s.ids.length : Int)) = ((zz : Nat) : Int) := by rw [HZZ.out, Int.natCast_mul]; exact wrap_in64 (Int.mul_nonneg (by decide) (Int.natCast_nonneg _)) (mul16_lt hsb)
      go_wp2
      go_roundw
      case rel => exact ⟨k + 1, hlt, by rw [HFT.out]; show _ = Value.int .i64 ((S1 : Int) + ((G + zz : Nat) : Int)); (try simp only [hw1, hv1]); rw [Int.natCast_add, Int.add_assoc], by go_num, HB1.out⟩
      case measure => clear hv1 hw1 hmw hmx; simp [RowKit.intOf]; omega
     ·have hge : ¬ (k : Int) < (sF.length : Int) := by omega
      have hdk : decide ((k : Int) < (sF.length : Int)) = false := decide_eq_false hge
      have hG2 : szL fJ (sF.take k) = szL fJ sF := by rw [List.take_of_length_le (by omega)]
      obtain ⟨S2, hS⟩ : ∃ q_ : Nat, q_ = S1 + szL fJ (sF.take k) := ⟨_, rfl⟩
      have hSI : (S1 : Int) + (szL fJ (sF.take k) : Int) = (S2 : Int) := by rw [hS]; exact (Int.natCast_add _ _).symm
      have HS2 : Hid (S2 = szL fO ops + szL fJ sF) := Lib.hid (by rw [hS, HS1.out, hG2])
      have hbS2 : S2 ≤ 506654958079180800 := by omega
      rw [hSI]
      clear hS hSI hG2 hbig HS1 hbS1
      go_wp2
      clear cb hdk hge hk
      go_loopw [4, 7] (fun b i wr => ∃ k : Nat, k ≤ dF.length ∧ b = .int .i64 ((S2 : Int) + (szL fJ (dF.take k) : Nat)) ∧ i = .int .i64 k ∧ Below w0.heap.size w0 wr) (fun _ i _ => dF.length - (RowKit.intOf i).toNat)
      case atStart => exact ⟨0, Nat.zero_le _, by simp [szL], rfl, HB1.out⟩
      case round =>
       clear HB1
       obtain ⟨k, hk, rfl, rfl, hb⟩ := hrel
       have HB2 := Lib.hid hb
       have cb := cell_up9 hb HL.out c18
       clear hb
       have hbig := szL_big fJ 2251799813685248 HRd.out k
       by_cases hlt : k < dF.length
       ·have hk1 : (k : Int) < (dF.length : Int) := by omega
        have hk0 : (0 : Int) ≤ (k : Int) := by omega
        have hdk : decide ((k : Int) < (dF.length : Int)) = true := decide_eq_true hk1
        obtain ⟨s, hx⟩ := at_lt hlt
        obtain ⟨g, o, hA, hg, d0, d1, _⟩ := SD.Dl.at HD.out hx
        unfold SD.ilD at d1
        have e1 := cell_in HBW.out hg d1
        have e1 := cell_in HB2.out (Nat.lt_of_lt_of_le hg HBW.out.size) e1
        have HFT := Lib.hid (szL_take fJ hx)
        have hsz : (16 * s.ids.length) ≤ 2251799813685248 := HRd.out _ (List.mem_of_getElem? hx)
        obtain ⟨zz, hzz⟩ : ∃ z, z = 16 * s.ids.length := ⟨_, rfl⟩
        have hfz : fJ s = zz := by rw [hzz]; rfl
        rw [hfz] at HFT
        have hzb : zz ≤ 2251799813685248 := by rw [hzz]; exact hsz
        have HZZ := Lib.hid hzz
        have hsb : s.ids.length ≤ 140737488355328 := by omega
        clear hsz hzz hfz
        clear hx d0 d1
        subst hA
        generalize hG : szL fJ (dF.take k) = G at *
        clear hG
        have hq : (0 : Int) ≤ (S2 : Int) + (G : Int) + (zz : Int) ∧ (S2 : Int) + (G : Int) + (zz : Int) < 9223372036854775808 := by omega
        have hw1 := wrap_in64 hq.1 hq.2
        have hv1 := w64_9 hq.1 hq.2
        clear hq
        have hmw : wrap64 (16 * (s.ids.length : Int)) = ((zz : Nat) : Int) := by rw [HZZ.out, Int.natCast_mul]; exact w64_9 (Int.mul_nonneg (by decide) (Int.natCast_nonneg _)) (mul16_lt hsb)
        have hmx : IntKind.i64.wrap (16 * (s.ids.length : Int)) = ((zz : Nat) : Int) := by rw [HZZ.out, Int.natCast_mul]; exact wrap_in64 (Int.mul_nonneg (by decide) (Int.natCast_nonneg _)) (mul16_lt hsb)
        go_wp2
        go_roundw
        case rel => exact ⟨k + 1, hlt, by rw [HFT.out]; show _ = Value.int .i64 ((S2 : Int) + ((G + zz : Nat) : Int)); (try simp only [hw1, hv1]); rw [Int.natCast_add, Int.add_assoc], by go_num, HB2.out⟩
        case measure => clear hv1 hw1 hmw hmx; simp [RowKit.intOf]; omega
       ·have hge : ¬ (k : Int) < (dF.length : Int) := by omega
        have hdk : decide ((k : Int) < (dF.length : Int)) = false := decide_eq_false hge
        have hG2 : szL fJ (dF.take k) = szL fJ dF := by rw [List.take_of_length_le (by omega)]
        obtain ⟨S3, hS⟩ : ∃ q_ : Nat, q_ = S2 + szL fJ (dF.take k) := ⟨_, rfl⟩
        have hSI : (S2 : Int) + (szL fJ (dF.take k) : Int) = (S3 : Int) := by rw [hS]; exact (Int.natCast_add _ _).symm
        have HS3 : Hid (S3 = szL fO ops + szL fJ sF + szL fJ dF) := Lib.hid (by rw [hS, HS2.out, hG2])
        have hbS3 : S3 ≤ 957014920816230400 := by omega
        rw [hSI]
        clear hS hSI hG2 hbig HS2 hbS2
        go_wp2
        clear cb hdk hge hk
        go_loopw [4, 8] (fun b i wr => ∃ k : Nat, k ≤ writes.length ∧ b = .int .i64 ((S3 : Int) + (szL fW (writes.take k) : Nat)) ∧ i = .int .i64 k ∧ Below w0.heap.size w0 wr) (fun _ i _ => writes.length - (RowKit.intOf i).toNat)
        case atStart => exact ⟨0, Nat.zero_le _, by simp [szL], rfl, HB2.out⟩
        case round =>
         clear HB2
         obtain ⟨k, hk, rfl, rfl, hb⟩ := hrel
         have HB3 := Lib.hid hb
         have cb := cell_up9 hb HL.out c19
         clear hb
         have hbig := szL_big fW 140737488355328 HRw.out k
         by_cases hlt : k < writes.length
         ·have hk1 : (k : Int) < (writes.length : Int) := by omega
          have hk0 : (0 : Int) ≤ (k : Int) := by omega
          have hdk : decide ((k : Int) < (writes.length : Int)) = true := decide_eq_true hk1
          obtain ⟨⟨key, nm, gn⟩, hx⟩ := at_lt hlt
          obtain ⟨g, o, hA, hg, d0, d1, d2⟩ := wrs_at HW.out hx
          simp only at d0
          have e1 := cell_in HBW.out hg d0
          have e1 := cell_in HB3.out (Nat.lt_of_lt_of_le hg HBW.out.size) e1
          have HFT := Lib.hid (szL_take fW hx)
          have hsz : key.size ≤ 140737488355328 := HRw.out _ (List.mem_of_getElem? hx)
          clear hx d0 d1 d2
          subst hA
          generalize hG : szL fW (writes.take k) = G at *
          clear hG
          have hq : (0 : Int) ≤ (S3 : Int) + (G : Int) + (key.size : Int) ∧ (S3 : Int) + (G : Int) + (key.size : Int) < 9223372036854775808 := by omega
          have hw1 := wrap_in64 hq.1 hq.2
          have hv1 := w64_9 hq.1 hq.2
          clear hq
          go_wp2
          go_roundw
          case rel => exact ⟨k + 1, hlt, by rw [HFT.out]; show _ = Value.int .i64 ((S3 : Int) + ((G + key.size : Nat) : Int)); (try simp only [hw1, hv1]); rw [Int.natCast_add, Int.add_assoc], by go_num, HB3.out⟩
          case measure => clear hv1 hw1; simp [RowKit.intOf]; omega
         ·have hge : ¬ (k : Int) < (writes.length : Int) := by omega
          have hdk : decide ((k : Int) < (writes.length : Int)) = false := decide_eq_false hge
          have hG2 : szL fW (writes.take k) = szL fW writes := by rw [List.take_of_length_le (by omega)]
          obtain ⟨S4, hS⟩ : ∃ q_ : Nat, q_ = S3 + szL fW (writes.take k) := ⟨_, rfl⟩
          have hSI : (S3 : Int) + (szL fW (writes.take k) : Int) = (S4 : Int) := by rw [hS]; exact (Int.natCast_add _ _).symm
          have HS4 : Hid (S4 = szL fO ops + szL fJ sF + szL fJ dF + szL fW writes) := Lib.hid (by rw [hS, HS3.out, hG2])
          have hbS4 : S4 ≤ 985162418487296000 := by omega
          rw [hSI]
          clear hS hSI hG2 hbig HS3 hbS3
          go_wp2
          clear cb hdk hge hk
          go_loopw [4, 9] (fun b i wr => ∃ k : Nat, k ≤ pairs.length ∧ b = .int .i64 ((S4 : Int) + (szL fP (pairs.take k) : Nat)) ∧ i = .int .i64 k ∧ Below w0.heap.size w0 wr) (fun _ i _ => pairs.length - (RowKit.intOf i).toNat)
          case atStart => exact ⟨0, Nat.zero_le _, by simp [szL], rfl, HB3.out⟩
          case round =>
           clear HB3
           obtain ⟨k, hk, rfl, rfl, hb⟩ := hrel
           have HB4 := Lib.hid hb
           have cb := cell_up9 hb HL.out c20
           clear hb
           have hbig := szL_big fP 140737488355328 HRp.out k
           by_cases hlt : k < pairs.length
           ·have hk1 : (k : Int) < (pairs.length : Int) := by omega
            have hk0 : (0 : Int) ≤ (k : Int) := by omega
            have hdk : decide ((k : Int) < (pairs.length : Int)) = true := decide_eq_true hk1
            obtain ⟨⟨key, nm⟩, hx⟩ := at_lt hlt
            obtain ⟨g, o, hA, hg, d0, d1⟩ := prs_at HP.out hx
            simp only at d0
            have e1 := cell_in HBW.out hg d0
            have e1 := cell_in HB4.out (Nat.lt_of_lt_of_le hg HBW.out.size) e1
            have HFT := Lib.hid (szL_take fP hx)
            have hsz : key.size ≤ 140737488355328 := HRp.out _ (List.mem_of_getElem? hx)
            clear hx d0 d1
            subst hA
            generalize hG : szL fP (pairs.take k) = G at *
            clear hG
            have hq : (0 : Int) ≤ (S4 : Int) + (G : Int) + (key.size : Int) ∧ (S4 : Int) + (G : Int) + (key.size : Int) < 9223372036854775808 := by omega
            have hw1 := wrap_in64 hq.1 hq.2
            have hv1 := w64_9 hq.1 hq.2
            clear hq
            go_wp2
            go_roundw
            case rel => exact ⟨k + 1, hlt, by rw [HFT.out]; show _ = Value.int .i64 ((S4 : Int) + ((G + key.size : Nat) : Int)); (try simp only [hw1, hv1]); rw [Int.natCast_add, Int.add_assoc], by go_num, HB4.out⟩
            case measure => clear hv1 hw1; simp [RowKit.intOf]; omega
           ·have hge : ¬ (k : Int) < (pairs.length : Int) := by omega
            have hdk : decide ((k : Int) < (pairs.length : Int)) = false := decide_eq_false hge
            have hG2 : szL fP (pairs.take k) = szL fP pairs := by rw [List.take_of_length_le (by omega)]
            obtain ⟨S5, hS⟩ : ∃ q_ : Nat, q_ = S4 + szL fP (pairs.take k) := ⟨_, rfl⟩
            have hSI : (S4 : Int) + (szL fP (pairs.take k) : Int) = (S5 : Int) := by rw [hS]; exact (Int.natCast_add _ _).symm
            have HS5 : Hid (S5 = szL fO ops + szL fJ sF + szL fJ dF + szL fW writes + szL fP pairs) := Lib.hid (by rw [hS, HS4.out, hG2])
            have hbS5 : S5 ≤ 1013309916158361600 := by omega
            rw [hSI]
            clear hS hSI hG2 hbig HS4 hbS4
            have HTOT : Hid (S5 = szL fO ops + szL fE (SD.toD sF) + szL fE (SD.toD dF) + szL fW writes + szL fP pairs) := Lib.hid (by rw [HZS.out, HZD.out]; exact HS5.out)
            by_cases hn : S5 ≤ 20000
            ·have hnl : decide ((S5 : Int) ≤ 20000) = true := decide_eq_true (by omega)
             have HV : Hid (smallM ⟨kind, frm, dst, (id1, id2), (b1, b2), (a1, a2), ops, fast, SD.toD sF, has, (q1, q2), (gone, (t1, t2), SD.toD dF), writes, pairs⟩ = true) := Lib.hid (smallM_yes rfl HN200.out (HTOT.out) hn)
             go_wp2
             go_ret
             exact ⟨ret_bool HV.out.symm, blThen HBW.out HB4.out⟩
            ·have hnl : decide ((S5 : Int) ≤ 20000) = false := decide_eq_false (by omega)
             have HV : Hid (smallM ⟨kind, frm, dst, (id1, id2), (b1, b2), (a1, a2), ops, fast, SD.toD sF, has, (q1, q2), (gone, (t1, t2), SD.toD dF), writes, pairs⟩ = false) := Lib.hid (smallM_no2 (HTOT.out) hn)
             go_wp2
             go_ret
             exact ⟨ret_bool HV.out.symm, blThen HBW.out HB4.out⟩

theorem cellsMsg13 : Tryz.prog.cellsOf 61 = 21 := by kernel_rfl
section
variable {H : Type} {enc : TypeId × Value → H}
structure WM (t : TypeId) (y : DataW H) (m : Mg) : Prop where
 ol : WB t y m.ops.length
 sl : WB t y m.deps.length
 dl : WB t y m.val.2.2.length
 wl : WB t y m.writes.length
 pl : WB t y m.pairs.length
 o : ∀ q ∈ m.ops, WB t y q.2.1.size ∧ WB t y q.2.2.1.size
 s : ∀ q ∈ m.deps, WB t y q.2.length
 d : ∀ q ∈ m.val.2.2, WB t y q.2.length
 w : ∀ q ∈ m.writes, WB t y q.1.size
 p : ∀ q ∈ m.pairs, WB t y q.1.size
structure NM (m : Mg) : Prop where
 kind : (Lit.int .i64 m.kind).wf = true
 no : ∀ o ∈ m.ops, o.2.2.2 < 18446744073709551616
 nw : ∀ o ∈ m.writes, o.2.1 < 18446744073709551616
 np : ∀ o ∈ m.pairs, o.2 < 18446744073709551616
theorem WM.reach {t : TypeId} {d : DataW H} {m : Mg} (k : WM t d m) {ts : List TypeId} {ds : List (DataW H)} (hsz : (DataW.weightsEach Tryz.prog ts ds).all (· ≤ reachBytes) = true) {j : Nat} (ht : ts[j]? = some t) (hd : ds[j]? = some d) : ReachM m := by
 have R : ∀ {n : Nat}, WB t d n → n ≤ 140737488355328 := fun h => h.reach hsz ht hd
 refine ⟨R k.ol, R k.sl, R k.dl, R k.wl, R k.pl, fun q hq => ?_, fun q hq => R (k.s q hq), fun q hq => R (k.d q hq), fun q hq => R (k.w q hq), fun q hq => R (k.p q hq)⟩
 have h1 := R (k.o q hq).1
 have h2 := R (k.o q hq).2
 show q.2.1.size + q.2.2.1.size ≤ _
 omega
theorem msg_cells13 {w : World} {c0 c1 c2 c3 c4 c5 c6 c7 c8 c9 c10 c11 c12 c13 c14 c15 c16 c17 c18 c19 c20 : Value} {fuel : Nat} {x : DataW H × List MemPlace} (hf : DataW.trod enc Tryz.prog w 0 (fun _ => true) true fuel 61 [c0, c1, c2, c3, c4, c5, c6, c7, c8, c9, c10, c11, c12, c13, c14, c15, c16, c17, c18, c19, c20] = some x) :
  ∃ (m : Mg) (l : PlM), #[c0, c1, c2, c3, c4, c5, c6, c7, c8, c9, c10, c11, c12, c13, c14, c15, c16, c17, c18, c19, c20] = msR m l ∧ MsAt w m l ∧ NM m ∧ WM 61 x.1 m := by
 obtain ⟨xs, n, _, rfl, _, hlen, hfs⟩ := DataW.trod_struct Tryz.underlying61 hf
 match xs, hlen with
 | [y0, y1, y2, y3, y4, y5, y6, y7, y8, y9, y10, y11, y12, y13], _ =>
  have e0 : DataW.trod enc Tryz.prog w 0 (fun _ => true) true n 3 [c0] = some y0 := by simpa [cellsI9] using hfs 0 _ rfl
  have e1 : DataW.trod enc Tryz.prog w 0 (fun _ => true) true n 3 [c1] = some y1 := by simpa [cellsI9] using hfs 1 _ rfl
  have e2 : DataW.trod enc Tryz.prog w 0 (fun _ => true) true n 3 [c2] = some y2 := by simpa [cellsI9] using hfs 2 _ rfl
  have e3 : DataW.trod enc Tryz.prog w 0 (fun _ => true) true n 23 [c3, c4] = some y3 := by simpa [cellsSt9] using hfs 3 _ rfl
  have e4 : DataW.trod enc Tryz.prog w 0 (fun _ => true) true n 23 [c5, c6] = some y4 := by simpa [cellsSt9] using hfs 4 _ rfl
  have e5 : DataW.trod enc Tryz.prog w 0 (fun _ => true) true n 23 [c7, c8] = some y5 := by simpa [cellsSt9] using hfs 5 _ rfl
  have e6 : DataW.trod enc Tryz.prog w 0 (fun _ => true) true n 24 [c9] = some y6 := by simpa [cellsOps9] using hfs 6 _ rfl
  have e7 : DataW.trod enc Tryz.prog w 0 (fun _ => true) true n 4 [c10] = some y7 := by simpa [cellsB9] using hfs 7 _ rfl
  have e8 : DataW.trod enc Tryz.prog w 0 (fun _ => true) true n 25 [c11] = some y8 := by simpa [cellsD9] using hfs 8 _ rfl
  have e9 : DataW.trod enc Tryz.prog w 0 (fun _ => true) true n 4 [c12] = some y9 := by simpa [cellsB9] using hfs 9 _ rfl
  have e10 : DataW.trod enc Tryz.prog w 0 (fun _ => true) true n 23 [c13, c14] = some y10 := by simpa [cellsSt9] using hfs 10 _ rfl
  have e11 : DataW.trod enc Tryz.prog w 0 (fun _ => true) true n 27 [c15, c16, c17, c18] = some y11 := by simpa [cellsVl9] using hfs 11 _ rfl
  have e12 : DataW.trod enc Tryz.prog w 0 (fun _ => true) true n 28 [c19] = some y12 := by simpa [cellsWrs9] using hfs 12 _ rfl
  have e13 : DataW.trod enc Tryz.prog w 0 (fun _ => true) true n 29 [c20] = some y13 := by simpa [cellsPrs9] using hfs 13 _ rfl
  obtain ⟨kd, hk0, _, wk⟩ := DataW.trod_int Tryz.underlying3 e0
  obtain ⟨kf, hk1, _, _⟩ := DataW.trod_int Tryz.underlying3 e1
  obtain ⟨kt, hk2, _, _⟩ := DataW.trod_int Tryz.underlying3 e2
  simp only [List.cons.injEq, and_true] at hk0 hk1 hk2
  obtain ⟨i1, i2, rfl, rfl, _, _⟩ := stamp_cells9 e3
  obtain ⟨b1, b2, rfl, rfl, _, _⟩ := stamp_cells9 e4
  obtain ⟨a1, a2, rfl, rfl, _, _⟩ := stamp_cells9 e5
  obtain ⟨v6, po, hc6, ho, _, hro⟩ := ops_cells9 e6
  simp only [List.cons.injEq, and_true] at hc6
  obtain ⟨fs, hg7, _⟩ := DataW.trod_bool Tryz.underlying4 e7
  simp only [List.cons.injEq, and_true] at hg7
  obtain ⟨sa, sF, sc, hc8, hsd, _, hsn, _, hsw, _, hsr⟩ := SD.deps_cells e8
  simp only [List.cons.injEq, and_true] at hc8
  obtain ⟨hs, hg9, _⟩ := DataW.trod_bool Tryz.underlying4 e9
  simp only [List.cons.injEq, and_true] at hg9
  obtain ⟨q1, q2, rfl, rfl, _, _⟩ := stamp_cells9 e10
  obtain ⟨g, t1, t2, da, dF, dc, rfl, rfl, rfl, rfl, hdd, _, hdn, _, _, _, hdr⟩ := value_cells9 e11
  obtain ⟨v12, ws, hc12, hw, _, hrw⟩ := writes_cells e12
  simp only [List.cons.injEq, and_true] at hc12
  obtain ⟨v13, ps, hc13, hp, _, hrp⟩ := pairs_cells9 e13
  simp only [List.cons.injEq, and_true] at hc13
  subst hk0 hk1 hk2 hc6 hg7 hc8 hg9 hc12 hc13
  obtain ⟨oa, oc, rfl⟩ := ho.form
  obtain ⟨wa, wc, rfl⟩ := hw.form
  obtain ⟨pa, pc, rfl⟩ := hp.form
  have U := Tryz.underlying61
  have m6 := field_w U (ds := [y0.1, y1.1, y2.1, y3.1, y4.1, y5.1, y6.1, y7.1, y8.1, y9.1, y10.1, y11.1, y12.1, y13.1]) 6 rfl rfl
  have m8 := field_w U (ds := [y0.1, y1.1, y2.1, y3.1, y4.1, y5.1, y6.1, y7.1, y8.1, y9.1, y10.1, y11.1, y12.1, y13.1]) 8 rfl rfl
  have m11 := field_w U (ds := [y0.1, y1.1, y2.1, y3.1, y4.1, y5.1, y6.1, y7.1, y8.1, y9.1, y10.1, y11.1, y12.1, y13.1]) 11 rfl rfl
  have m12 := field_w U (ds := [y0.1, y1.1, y2.1, y3.1, y4.1, y5.1, y6.1, y7.1, y8.1, y9.1, y10.1, y11.1, y12.1, y13.1]) 12 rfl rfl
  have m13 := field_w U (ds := [y0.1, y1.1, y2.1, y3.1, y4.1, y5.1, y6.1, y7.1, y8.1, y9.1, y10.1, y11.1, y12.1, y13.1]) 13 rfl rfl
  have q11 : WB 27 y11.1 dF.length := by
   obtain ⟨z0, z1, z2, k, hz, _, _, _, h2⟩ := trod_struct3 Tryz.underlying27 e11
   have d2 : DataW.trod enc Tryz.prog w 0 (fun _ => true) true k 25 [.slice da dF.length dc] = some z2 := by simpa [cellsD9] using h2
   have hz1 : y11.1 = .agg [z0.1, z1.1, z2.1] := congrArg Prod.fst hz
   rw [hz1]
   exact (len_weight9 Tryz.underlying25 bytesDp9e d2).up (field_w Tryz.underlying27 2 rfl rfl)
  refine ⟨⟨kd, kf, kt, (i1, i2), (b1, b2), (a1, a2), po, fs, SD.toD sF, hs, (q1, q2), (g, (t1, t2), SD.toD dF), ws, ps⟩, ⟨.slice oa po.length oc, .slice sa sF.length sc, .slice da dF.length dc, .slice wa ws.length wc, .slice pa ps.length pc⟩, rfl, ⟨ho, ⟨sa, sc, sF, rfl, hsd, rfl, hsn⟩, ⟨da, dc, dF, rfl, hdd, rfl, hdn⟩, hw, hp⟩, ⟨wk, fun q hq => (hro q hq).2.1, fun q hq => (hrw q hq).1, fun q hq => (hrp q hq).1⟩, ?_⟩
  refine ⟨(len_weight9 Tryz.underlying24 bytesOp9e e6).up m6, ?_, ?_, (len_weight9 Tryz.underlying28 bytesWr9e e12).up m12, (len_weight9 Tryz.underlying29 bytesPr9e e13).up m13,
   fun q hq => ⟨(WB.inw (hro q hq).2.2.1).up m6, (WB.inw (hro q hq).2.2.2).up m6⟩, fun q hq => ?_, fun q hq => ?_, fun q hq => (WB.inw (hrw q hq).2).up m12, fun q hq => (WB.inw (hrp q hq).2).up m13⟩
  ·show WB _ _ (SD.toD sF).length
   rw [SD.toD_length]
   exact (len_weight9 Tryz.underlying25 bytesDp9e e8).up m8
  ·show WB _ _ (SD.toD dF).length
   rw [SD.toD_length]
   exact q11.up m11
  ·obtain ⟨s, hs, rfl⟩ := List.mem_map.1 hq
   exact WB.up (hsr s hs) m8
  ·obtain ⟨s, hs, rfl⟩ := List.mem_map.1 hq
   exact WB.up (hdr s hs) m11
theorem open_msg13 {r : Reach} {b0 : Nat} {w : World} {v : Value} {d : DataW H} {p : List MemPlace} (hv : Value.okWide Tryz.prog w r b0 61 v) (h : DataW.Trod enc Tryz.prog w 0 (fun _ => true) true 61 v d p) :
  ∃ (m : Mg) (l : PlM), v = msV m l ∧ MsAt w m l ∧ NM m ∧ WM 61 d m := by
 obtain ⟨cs, rfl, hsz⟩ := okWide_struct Tryz.underlying61 hv
 rw [cellsMsg13] at hsz
 obtain ⟨fuel, hf⟩ := h
 match cs, hsz with
 | ⟨[c0, c1, c2, c3, c4, c5, c6, c7, c8, c9, c10, c11, c12, c13, c14, c15, c16, c17, c18, c19, c20]⟩, _ =>
  have hf' : DataW.trod enc Tryz.prog w 0 (fun _ => true) true fuel 61 [c0, c1, c2, c3, c4, c5, c6, c7, c8, c9, c10, c11, c12, c13, c14, c15, c16, c17, c18, c19, c20] = some (d, p) := by simpa [Value.cells] using hf
  obtain ⟨m, l, h1, h2, h3, h4⟩ := msg_cells13 hf'
  exact ⟨m, l, congrArg Value.agg h1, h2, h3, h4⟩
end

theorem atDst {P : Program} {ops : Array Oper} {Q : Exit → Act → World → Prop} {a : Act} {w : World} {rest : List Oper} {op : Op} {ty : TypeId} {pos : String} {aft : Array Edge} {g : Option (Nat × Bool)} (d : Nat) (h : wpList P ops Q ({dst:=some d,op:=op,type:=ty, pos := pos,after:=aft,guard:=g } :: rest) a w) : wpList P ops Q ({dst:=some d,op:=op,type:=ty, pos := pos,after:=aft,guard:=g } :: rest) a w := h
theorem mg_ext {a b : Mg} (hkind : a.kind = b.kind) (hfrm : a.frm = b.frm) (hdst : a.dst = b.dst) (hid : a.id = b.id) (hbal : a.bal = b.bal) (hat_ : a.at_ = b.at_) (hops : a.ops = b.ops) (hfast : a.fast = b.fast) (hdeps : a.deps = b.deps) (hhas : a.has = b.has) (hacc : a.acc = b.acc) (hval : a.val = b.val) (hwrites : a.writes = b.writes) (hpairs : a.pairs = b.pairs) : a = b := by
 cases a
 cases b
 simp only at hkind hfrm hdst hid hbal hat_ hops hfast hdeps hhas hacc hval hwrites hpairs
 subst hkind hfrm hdst hid hbal hat_ hops hfast hdeps hhas hacc hval hwrites hpairs
 rfl
instance decMg (a b : Mg) : Decidable (a = b) := @decidable_of_iff (a = b) (a.kind = b.kind ∧ a.frm = b.frm ∧ a.dst = b.dst ∧ a.id = b.id ∧ a.bal = b.bal ∧ a.at_ = b.at_ ∧ a.ops = b.ops ∧ a.fast = b.fast ∧ a.deps = b.deps ∧ a.has = b.has ∧ a.acc = b.acc ∧ a.val = b.val ∧ a.writes = b.writes ∧ a.pairs = b.pairs) ⟨fun ⟨hkind, hfrm, hdst, hid, hbal, hat_, hops, hfast, hdeps, hhas, hacc, hval, hwrites, hpairs⟩ => mg_ext hkind hfrm hdst hid hbal hat_ hops hfast hdeps hhas hacc hval hwrites hpairs, fun h => by subst h; exact ⟨rfl, rfl, rfl, rfl, rfl, rfl, rfl, rfl, rfl, rfl, rfl, rfl, rfl, rfl⟩⟩ ((@instDecidableAnd _ _ inferInstance (@instDecidableAnd _ _ inferInstance (@instDecidableAnd _ _ inferInstance (@instDecidableAnd _ _ inferInstance (@instDecidableAnd _ _ inferInstance (@instDecidableAnd _ _ inferInstance (@instDecidableAnd _ _ inferInstance (@instDecidableAnd _ _ inferInstance (@instDecidableAnd _ _ inferInstance (@instDecidableAnd _ _ inferInstance (@instDecidableAnd _ _ inferInstance (@instDecidableAnd _ _ inferInstance (@instDecidableAnd _ _ inferInstance inferInstance))))))))))))))
theorem rsameM_any (m m2 : Mg) (l l2 : PlM) (W : World) (ha : MsAt W m l) (hb : MsAt W m2 l2) (hf : FewM m) (hf2 : FewM m2) : Calls Tryz.prog 40 #[msV m l, msV m2 l2] W fun e w' => e = .returned (.bool (decide (m = m2))) ∧ Below W.heap.size W w' := by
 have HO := Lib.hid (fun (Y : World) (hY : Below W.heap.size W Y) => opsame_any l.o l2.o m.ops m2.ops Y (by have := hf.ops; omega) (by have := hf2.ops; omega) (ha.o.later hY) (hb.o.later hY))
 have HD := Lib.hid (fun (Y : World) (hY : Below W.heap.size W Y) => dsame9 l.d l2.d m.deps m2.deps Y (ha.d.later hY) (hb.d.later hY) hf.deps)
 have HV := Lib.hid (fun (Y : World) (hY : Below W.heap.size W Y) => rsamev_any m.val m2.val l.v l2.v Y (ha.v.later hY) (hb.v.later hY) hf.vdeps)
 have HW := Lib.hid (fun (Y : World) (hY : Below W.heap.size W Y) => wrsame_any l.w l2.w m.writes m2.writes Y (by have := hf.writes; omega) (by have := hf2.writes; omega) (ha.w.later hY) (hb.w.later hY))
 have HP := Lib.hid (fun (Y : World) (hY : Below W.heap.size W Y) => prsame_any l.p l2.p m.pairs m2.pairs Y (by have := hf.pairs; omega) (by have := hf2.pairs; omega) (ha.p.later hY) (hb.p.later hY))
 clear ha hb hf hf2
 show Calls Tryz.prog 40 #[.agg (msR m l), .agg (msR m2 l2)] W fun e w' => e = .returned (.bool (decide (m = m2))) ∧ Below W.heap.size W w'
 simp only [vlV] at HO HD HV HW HP
 by_cases hkind : m.kind = m2.kind
 ·have Ekind := Lib.hid hkind
  have ekind : (m.kind == m2.kind) = true := by simpa using hkind
  have nkind : (m.kind != m2.kind) = false := by simpa using hkind
  clear hkind
  by_cases hfrm : m.frm = m2.frm
  ·have Efrm := Lib.hid hfrm
   have efrm : (m.frm == m2.frm) = true := by simpa using hfrm
   have nfrm : (m.frm != m2.frm) = false := by simpa using hfrm
   clear hfrm
   by_cases hdst : m.dst = m2.dst
   ·have Edst := Lib.hid hdst
    have edst : (m.dst == m2.dst) = true := by simpa using hdst
    have ndst : (m.dst != m2.dst) = false := by simpa using hdst
    clear hdst
    by_cases hid1 : m.id.1 = m2.id.1
    ·have Eid1 := Lib.hid hid1
     have eid1 : (m.id.1 == m2.id.1) = true := by simpa using hid1
     have nid1 : (m.id.1 != m2.id.1) = false := by simpa using hid1
     clear hid1
     by_cases hid2 : m.id.2 = m2.id.2
     ·have Eid2 := Lib.hid hid2
      have eid2 : (m.id.2 == m2.id.2) = true := by simpa using hid2
      have nid2 : (m.id.2 != m2.id.2) = false := by simpa using hid2
      clear hid2
      by_cases hbal1 : m.bal.1 = m2.bal.1
      ·have Ebal1 := Lib.hid hbal1
       have ebal1 : (m.bal.1 == m2.bal.1) = true := by simpa using hbal1
       have nbal1 : (m.bal.1 != m2.bal.1) = false := by simpa using hbal1
       clear hbal1
       by_cases hbal2 : m.bal.2 = m2.bal.2
       ·have Ebal2 := Lib.hid hbal2
        have ebal2 : (m.bal.2 == m2.bal.2) = true := by simpa using hbal2
        have nbal2 : (m.bal.2 != m2.bal.2) = false := by simpa using hbal2
        clear hbal2
        by_cases hat_1 : m.at_.1 = m2.at_.1
        ·have Eat_1 := Lib.hid hat_1
         have eat_1 : (m.at_.1 == m2.at_.1) = true := by simpa using hat_1
         have nat_1 : (m.at_.1 != m2.at_.1) = false := by simpa using hat_1
         clear hat_1
         by_cases hat_2 : m.at_.2 = m2.at_.2
         ·have Eat_2 := Lib.hid hat_2
          have eat_2 : (m.at_.2 == m2.at_.2) = true := by simpa using hat_2
          have nat_2 : (m.at_.2 != m2.at_.2) = false := by simpa using hat_2
          clear hat_2
          by_cases hops : m.ops = m2.ops
          ·have Eops := Lib.hid hops
           rw [decide_eq_true hops] at HO
           clear hops
           by_cases hfast : m.fast = m2.fast
           ·have Efast := Lib.hid hfast
            have efast : (m.fast == m2.fast) = true := by simpa using hfast
            have nfast : (m.fast != m2.fast) = false := by simpa using hfast
            clear hfast
            by_cases hdeps : m.deps = m2.deps
            ·have Edeps := Lib.hid hdeps
             rw [decide_eq_true hdeps] at HD
             clear hdeps
             by_cases hhas : m.has = m2.has
             ·have Ehas := Lib.hid hhas
              have ehas : (m.has == m2.has) = true := by simpa using hhas
              have nhas : (m.has != m2.has) = false := by simpa using hhas
              clear hhas
              by_cases hacc1 : m.acc.1 = m2.acc.1
              ·have Eacc1 := Lib.hid hacc1
               have eacc1 : (m.acc.1 == m2.acc.1) = true := by simpa using hacc1
               have nacc1 : (m.acc.1 != m2.acc.1) = false := by simpa using hacc1
               clear hacc1
               by_cases hacc2 : m.acc.2 = m2.acc.2
               ·have Eacc2 := Lib.hid hacc2
                have eacc2 : (m.acc.2 == m2.acc.2) = true := by simpa using hacc2
                have nacc2 : (m.acc.2 != m2.acc.2) = false := by simpa using hacc2
                clear hacc2
                by_cases hval : m.val = m2.val
                ·have Eval := Lib.hid hval
                 rw [decide_eq_true hval] at HV
                 clear hval
                 by_cases hwrites : m.writes = m2.writes
                 ·have Ewrites := Lib.hid hwrites
                  rw [decide_eq_true hwrites] at HW
                  clear hwrites
                  by_cases hpairs : m.pairs = m2.pairs
                  ·have hv : decide (m = m2) = true := decide_eq_true (mg_ext (Ekind.out) (Efrm.out) (Edst.out) (Prod.ext Eid1.out Eid2.out) (Prod.ext Ebal1.out Ebal2.out) (Prod.ext Eat_1.out Eat_2.out) (Eops.out) (Efast.out) (Edeps.out) (Ehas.out) (Prod.ext Eacc1.out Eacc2.out) (Eval.out) (Ewrites.out) hpairs)
                   rw [hv]
                   clear hv
                   rw [decide_eq_true hpairs] at HP
                   clear hpairs
                   obtain ⟨w0, he0, hw0, kQa, kQb, hb0⟩ := boxes2 W (.cells (msR m l) 61) (.cells (msR m2 l2) 61)
                   have Ka0 := Lib.hid kQa
                   have Kb0 := Lib.hid kQb
                   have HB0 := Lib.hid hb0
                   have HE0 := Lib.hid he0
                   clear he0 hb0 kQa kQb
                   go_enter Tryz.func40, Tryz.ntmps40
                   go_upto_region 1 with fail
                   rw [← HE0.out]
                   go_wp2_with (first | go_skip | ((with_reducible refine atC w4 ?_); go_at_call 65; refine (HP.out _ HB4.out).mono ?_; rintro e w5 ⟨rfl, h5⟩; have hw5 := Nat.le_trans hw4 h5.size; have HB5 : Hid (Below W.heap.size W w5) := Lib.hid (blThen HB4.out h5); have Ka5 := Lib.hid ((h5.block W.heap.size (by omega)).trans Ka4.out); have Kb5 := Lib.hid ((h5.block (W.heap.size + 1) (by omega)).trans Kb4.out); clear h5) | ((with_reducible refine atDst 97 ?_); refine wpList_load_one _ _ rfl (by rfl) _ 20 rfl Kb4.out Tryz.underlying29 rfl (show ((msR m2 l2))[20]? = some (l2.p) from rfl) ?_) | ((with_reducible refine atDst 95 ?_); refine wpList_load_one _ _ rfl (by rfl) _ 20 rfl Ka4.out Tryz.underlying29 rfl (show ((msR m l))[20]? = some (l.p) from rfl) ?_) | ((with_reducible refine atC w3 ?_); go_at_call 64; refine (HW.out _ HB3.out).mono ?_; rintro e w4 ⟨rfl, h5⟩; have hw4 := Nat.le_trans hw3 h5.size; have HB4 : Hid (Below W.heap.size W w4) := Lib.hid (blThen HB3.out h5); have Ka4 := Lib.hid ((h5.block W.heap.size (by omega)).trans Ka3.out); have Kb4 := Lib.hid ((h5.block (W.heap.size + 1) (by omega)).trans Kb3.out); clear h5) | ((with_reducible refine atDst 90 ?_); refine wpList_load_one _ _ rfl (by rfl) _ 19 rfl Kb3.out Tryz.underlying28 rfl (show ((msR m2 l2))[19]? = some (l2.w) from rfl) ?_) | ((with_reducible refine atDst 88 ?_); refine wpList_load_one _ _ rfl (by rfl) _ 19 rfl Ka3.out Tryz.underlying28 rfl (show ((msR m l))[19]? = some (l.w) from rfl) ?_) | ((with_reducible refine atC w2 ?_); go_at_call 30; refine (HV.out _ HB2.out).mono ?_; rintro e w3 ⟨rfl, h5⟩; have hw3 := Nat.le_trans hw2 h5.size; have HB3 : Hid (Below W.heap.size W w3) := Lib.hid (blThen HB2.out h5); have Ka3 := Lib.hid ((h5.block W.heap.size (by omega)).trans Ka2.out); have Kb3 := Lib.hid ((h5.block (W.heap.size + 1) (by omega)).trans Kb2.out); clear h5) | ((with_reducible refine atDst 83 ?_); refine wpList_load_part _ _ rfl (by rfl) _ 15 rfl Kb2.out Tryz.underlying27 rfl #[.bool m2.val.1, .int .i64 m2.val.2.1.1, .int .i64 m2.val.2.1.2, l2.v] (by kernel_rfl) (four_at rfl rfl rfl rfl) ?_) | ((with_reducible refine atDst 81 ?_); refine wpList_load_part _ _ rfl (by rfl) _ 15 rfl Ka2.out Tryz.underlying27 rfl #[.bool m.val.1, .int .i64 m.val.2.1.1, .int .i64 m.val.2.1.2, l.v] (by kernel_rfl) (four_at rfl rfl rfl rfl) ?_) | ((with_reducible refine atDst 76 ?_); refine wpList_load_part _ _ rfl (by rfl) _ 13 rfl Kb2.out Tryz.underlying23 rfl #[.int .i64 m2.acc.1, .int .i64 m2.acc.2] (by kernel_rfl) (two_at rfl rfl) ?_) | ((with_reducible refine atDst 74 ?_); refine wpList_load_part _ _ rfl (by rfl) _ 13 rfl Ka2.out Tryz.underlying23 rfl #[.int .i64 m.acc.1, .int .i64 m.acc.2] (by kernel_rfl) (two_at rfl rfl) ?_) | ((with_reducible refine atDst 69 ?_); refine wpList_load_one _ _ rfl (by rfl) _ 12 rfl Kb2.out Tryz.underlying4 rfl (show ((msR m2 l2))[12]? = some (.bool m2.has) from rfl) ?_) | ((with_reducible refine atDst 67 ?_); refine wpList_load_one _ _ rfl (by rfl) _ 12 rfl Ka2.out Tryz.underlying4 rfl (show ((msR m l))[12]? = some (.bool m.has) from rfl) ?_) | ((with_reducible refine atC w1 ?_); go_at_call 63; refine (HD.out _ HB1.out).mono ?_; rintro e w2 ⟨rfl, h5⟩; have hw2 := Nat.le_trans hw1 h5.size; have HB2 : Hid (Below W.heap.size W w2) := Lib.hid (blThen HB1.out h5); have Ka2 := Lib.hid ((h5.block W.heap.size (by omega)).trans Ka1.out); have Kb2 := Lib.hid ((h5.block (W.heap.size + 1) (by omega)).trans Kb1.out); clear h5) | ((with_reducible refine atDst 63 ?_); refine wpList_load_one _ _ rfl (by rfl) _ 11 rfl Kb1.out Tryz.underlying25 rfl (show ((msR m2 l2))[11]? = some (l2.d) from rfl) ?_) | ((with_reducible refine atDst 61 ?_); refine wpList_load_one _ _ rfl (by rfl) _ 11 rfl Ka1.out Tryz.underlying25 rfl (show ((msR m l))[11]? = some (l.d) from rfl) ?_) | ((with_reducible refine atDst 57 ?_); refine wpList_load_one _ _ rfl (by rfl) _ 10 rfl Kb1.out Tryz.underlying4 rfl (show ((msR m2 l2))[10]? = some (.bool m2.fast) from rfl) ?_) | ((with_reducible refine atDst 55 ?_); refine wpList_load_one _ _ rfl (by rfl) _ 10 rfl Ka1.out Tryz.underlying4 rfl (show ((msR m l))[10]? = some (.bool m.fast) from rfl) ?_) | ((with_reducible refine atC w0 ?_); go_at_call 29; refine (HO.out _ HB0.out).mono ?_; rintro e w1 ⟨rfl, h5⟩; have hw1 := Nat.le_trans hw0 h5.size; have HB1 : Hid (Below W.heap.size W w1) := Lib.hid (blThen HB0.out h5); have Ka1 := Lib.hid ((h5.block W.heap.size (by omega)).trans Ka0.out); have Kb1 := Lib.hid ((h5.block (W.heap.size + 1) (by omega)).trans Kb0.out); clear h5) | ((with_reducible refine atDst 49 ?_); refine wpList_load_one _ _ rfl (by rfl) _ 9 rfl Kb0.out Tryz.underlying24 rfl (show ((msR m2 l2))[9]? = some (l2.o) from rfl) ?_) | ((with_reducible refine atDst 47 ?_); refine wpList_load_one _ _ rfl (by rfl) _ 9 rfl Ka0.out Tryz.underlying24 rfl (show ((msR m l))[9]? = some (l.o) from rfl) ?_) | ((with_reducible refine atDst 42 ?_); refine wpList_load_part _ _ rfl (by rfl) _ 7 rfl Kb0.out Tryz.underlying23 rfl #[.int .i64 m2.at_.1, .int .i64 m2.at_.2] (by kernel_rfl) (two_at rfl rfl) ?_) | ((with_reducible refine atDst 40 ?_); refine wpList_load_part _ _ rfl (by rfl) _ 7 rfl Ka0.out Tryz.underlying23 rfl #[.int .i64 m.at_.1, .int .i64 m.at_.2] (by kernel_rfl) (two_at rfl rfl) ?_) | ((with_reducible refine atDst 35 ?_); refine wpList_load_part _ _ rfl (by rfl) _ 5 rfl Kb0.out Tryz.underlying23 rfl #[.int .i64 m2.bal.1, .int .i64 m2.bal.2] (by kernel_rfl) (two_at rfl rfl) ?_) | ((with_reducible refine atDst 33 ?_); refine wpList_load_part _ _ rfl (by rfl) _ 5 rfl Ka0.out Tryz.underlying23 rfl #[.int .i64 m.bal.1, .int .i64 m.bal.2] (by kernel_rfl) (two_at rfl rfl) ?_) | ((with_reducible refine atDst 28 ?_); refine wpList_load_part _ _ rfl (by rfl) _ 3 rfl Kb0.out Tryz.underlying23 rfl #[.int .i64 m2.id.1, .int .i64 m2.id.2] (by kernel_rfl) (two_at rfl rfl) ?_) | ((with_reducible refine atDst 26 ?_); refine wpList_load_part _ _ rfl (by rfl) _ 3 rfl Ka0.out Tryz.underlying23 rfl #[.int .i64 m.id.1, .int .i64 m.id.2] (by kernel_rfl) (two_at rfl rfl) ?_) | ((with_reducible refine atDst 21 ?_); refine wpList_load_one _ _ rfl (by rfl) _ 2 rfl Kb0.out Tryz.underlying3 rfl (show ((msR m2 l2))[2]? = some (.int .i64 m2.dst) from rfl) ?_) | ((with_reducible refine atDst 19 ?_); refine wpList_load_one _ _ rfl (by rfl) _ 2 rfl Ka0.out Tryz.underlying3 rfl (show ((msR m l))[2]? = some (.int .i64 m.dst) from rfl) ?_) | ((with_reducible refine atDst 14 ?_); refine wpList_load_one _ _ rfl (by rfl) _ 1 rfl Kb0.out Tryz.underlying3 rfl (show ((msR m2 l2))[1]? = some (.int .i64 m2.frm) from rfl) ?_) | ((with_reducible refine atDst 12 ?_); refine wpList_load_one _ _ rfl (by rfl) _ 1 rfl Ka0.out Tryz.underlying3 rfl (show ((msR m l))[1]? = some (.int .i64 m.frm) from rfl) ?_) | ((with_reducible refine atDst 8 ?_); refine wpList_load_one _ _ rfl (by rfl) _ 0 rfl Kb0.out Tryz.underlying3 rfl (show ((msR m2 l2))[0]? = some (.int .i64 m2.kind) from rfl) ?_) | ((with_reducible refine atDst 6 ?_); refine wpList_load_one _ _ rfl (by rfl) _ 0 rfl Ka0.out Tryz.underlying3 rfl (show ((msR m l))[0]? = some (.int .i64 m.kind) from rfl) ?_))
                   go_ret
                   exact ⟨rfl, HB5.out⟩
                  ·have hv : decide (m = m2) = false := decide_eq_false (fun e => hpairs (congrArg Mg.pairs e))
                   rw [hv]
                   clear hv
                   rw [decide_eq_false hpairs] at HP
                   clear hpairs
                   obtain ⟨w0, he0, hw0, kQa, kQb, hb0⟩ := boxes2 W (.cells (msR m l) 61) (.cells (msR m2 l2) 61)
                   have Ka0 := Lib.hid kQa
                   have Kb0 := Lib.hid kQb
                   have HB0 := Lib.hid hb0
                   have HE0 := Lib.hid he0
                   clear he0 hb0 kQa kQb
                   go_enter Tryz.func40, Tryz.ntmps40
                   go_upto_region 1 with fail
                   rw [← HE0.out]
                   go_wp2_with (first | go_skip | ((with_reducible refine atC w4 ?_); go_at_call 65; refine (HP.out _ HB4.out).mono ?_; rintro e w5 ⟨rfl, h5⟩; have hw5 := Nat.le_trans hw4 h5.size; have HB5 : Hid (Below W.heap.size W w5) := Lib.hid (blThen HB4.out h5); have Ka5 := Lib.hid ((h5.block W.heap.size (by omega)).trans Ka4.out); have Kb5 := Lib.hid ((h5.block (W.heap.size + 1) (by omega)).trans Kb4.out); clear h5) | ((with_reducible refine atDst 97 ?_); refine wpList_load_one _ _ rfl (by rfl) _ 20 rfl Kb4.out Tryz.underlying29 rfl (show ((msR m2 l2))[20]? = some (l2.p) from rfl) ?_) | ((with_reducible refine atDst 95 ?_); refine wpList_load_one _ _ rfl (by rfl) _ 20 rfl Ka4.out Tryz.underlying29 rfl (show ((msR m l))[20]? = some (l.p) from rfl) ?_) | ((with_reducible refine atC w3 ?_); go_at_call 64; refine (HW.out _ HB3.out).mono ?_; rintro e w4 ⟨rfl, h5⟩; have hw4 := Nat.le_trans hw3 h5.size; have HB4 : Hid (Below W.heap.size W w4) := Lib.hid (blThen HB3.out h5); have Ka4 := Lib.hid ((h5.block W.heap.size (by omega)).trans Ka3.out); have Kb4 := Lib.hid ((h5.block (W.heap.size + 1) (by omega)).trans Kb3.out); clear h5) | ((with_reducible refine atDst 90 ?_); refine wpList_load_one _ _ rfl (by rfl) _ 19 rfl Kb3.out Tryz.underlying28 rfl (show ((msR m2 l2))[19]? = some (l2.w) from rfl) ?_) | ((with_reducible refine atDst 88 ?_); refine wpList_load_one _ _ rfl (by rfl) _ 19 rfl Ka3.out Tryz.underlying28 rfl (show ((msR m l))[19]? = some (l.w) from rfl) ?_) | ((with_reducible refine atC w2 ?_); go_at_call 30; refine (HV.out _ HB2.out).mono ?_; rintro e w3 ⟨rfl, h5⟩; have hw3 := Nat.le_trans hw2 h5.size; have HB3 : Hid (Below W.heap.size W w3) := Lib.hid (blThen HB2.out h5); have Ka3 := Lib.hid ((h5.block W.heap.size (by omega)).trans Ka2.out); have Kb3 := Lib.hid ((h5.block (W.heap.size + 1) (by omega)).trans Kb2.out); clear h5) | ((with_reducible refine atDst 83 ?_); refine wpList_load_part _ _ rfl (by rfl) _ 15 rfl Kb2.out Tryz.underlying27 rfl #[.bool m2.val.1, .int .i64 m2.val.2.1.1, .int .i64 m2.val.2.1.2, l2.v] (by kernel_rfl) (four_at rfl rfl rfl rfl) ?_) | ((with_reducible refine atDst 81 ?_); refine wpList_load_part _ _ rfl (by rfl) _ 15 rfl Ka2.out Tryz.underlying27 rfl #[.bool m.val.1, .int .i64 m.val.2.1.1, .int .i64 m.val.2.1.2, l.v] (by kernel_rfl) (four_at rfl rfl rfl rfl) ?_) | ((with_reducible refine atDst 76 ?_); refine wpList_load_part _ _ rfl (by rfl) _ 13 rfl Kb2.out Tryz.underlying23 rfl #[.int .i64 m2.acc.1, .int .i64 m2.acc.2] (by kernel_rfl) (two_at rfl rfl) ?_) | ((with_reducible refine atDst 74 ?_); refine wpList_load_part _ _ rfl (by rfl) _ 13 rfl Ka2.out Tryz.underlying23 rfl #[.int .i64 m.acc.1, .int .i64 m.acc.2] (by kernel_rfl) (two_at rfl rfl) ?_) | ((with_reducible refine atDst 69 ?_); refine wpList_load_one _ _ rfl (by rfl) _ 12 rfl Kb2.out Tryz.underlying4 rfl (show ((msR m2 l2))[12]? = some (.bool m2.has) from rfl) ?_) | ((with_reducible refine atDst 67 ?_); refine wpList_load_one _ _ rfl (by rfl) _ 12 rfl Ka2.out Tryz.underlying4 rfl (show ((msR m l))[12]? = some (.bool m.has) from rfl) ?_) | ((with_reducible refine atC w1 ?_); go_at_call 63; refine (HD.out _ HB1.out).mono ?_; rintro e w2 ⟨rfl, h5⟩; have hw2 := Nat.le_trans hw1 h5.size; have HB2 : Hid (Below W.heap.size W w2) := Lib.hid (blThen HB1.out h5); have Ka2 := Lib.hid ((h5.block W.heap.size (by omega)).trans Ka1.out); have Kb2 := Lib.hid ((h5.block (W.heap.size + 1) (by omega)).trans Kb1.out); clear h5) | ((with_reducible refine atDst 63 ?_); refine wpList_load_one _ _ rfl (by rfl) _ 11 rfl Kb1.out Tryz.underlying25 rfl (show ((msR m2 l2))[11]? = some (l2.d) from rfl) ?_) | ((with_reducible refine atDst 61 ?_); refine wpList_load_one _ _ rfl (by rfl) _ 11 rfl Ka1.out Tryz.underlying25 rfl (show ((msR m l))[11]? = some (l.d) from rfl) ?_) | ((with_reducible refine atDst 57 ?_); refine wpList_load_one _ _ rfl (by rfl) _ 10 rfl Kb1.out Tryz.underlying4 rfl (show ((msR m2 l2))[10]? = some (.bool m2.fast) from rfl) ?_) | ((with_reducible refine atDst 55 ?_); refine wpList_load_one _ _ rfl (by rfl) _ 10 rfl Ka1.out Tryz.underlying4 rfl (show ((msR m l))[10]? = some (.bool m.fast) from rfl) ?_) | ((with_reducible refine atC w0 ?_); go_at_call 29; refine (HO.out _ HB0.out).mono ?_; rintro e w1 ⟨rfl, h5⟩; have hw1 := Nat.le_trans hw0 h5.size; have HB1 : Hid (Below W.heap.size W w1) := Lib.hid (blThen HB0.out h5); have Ka1 := Lib.hid ((h5.block W.heap.size (by omega)).trans Ka0.out); have Kb1 := Lib.hid ((h5.block (W.heap.size + 1) (by omega)).trans Kb0.out); clear h5) | ((with_reducible refine atDst 49 ?_); refine wpList_load_one _ _ rfl (by rfl) _ 9 rfl Kb0.out Tryz.underlying24 rfl (show ((msR m2 l2))[9]? = some (l2.o) from rfl) ?_) | ((with_reducible refine atDst 47 ?_); refine wpList_load_one _ _ rfl (by rfl) _ 9 rfl Ka0.out Tryz.underlying24 rfl (show ((msR m l))[9]? = some (l.o) from rfl) ?_) | ((with_reducible refine atDst 42 ?_); refine wpList_load_part _ _ rfl (by rfl) _ 7 rfl Kb0.out Tryz.underlying23 rfl #[.int .i64 m2.at_.1, .int .i64 m2.at_.2] (by kernel_rfl) (two_at rfl rfl) ?_) | ((with_reducible refine atDst 40 ?_); refine wpList_load_part _ _ rfl (by rfl) _ 7 rfl Ka0.out Tryz.underlying23 rfl #[.int .i64 m.at_.1, .int .i64 m.at_.2] (by kernel_rfl) (two_at rfl rfl) ?_) | ((with_reducible refine atDst 35 ?_); refine wpList_load_part _ _ rfl (by rfl) _ 5 rfl Kb0.out Tryz.underlying23 rfl #[.int .i64 m2.bal.1, .int .i64 m2.bal.2] (by kernel_rfl) (two_at rfl rfl) ?_) | ((with_reducible refine atDst 33 ?_); refine wpList_load_part _ _ rfl (by rfl) _ 5 rfl Ka0.out Tryz.underlying23 rfl #[.int .i64 m.bal.1, .int .i64 m.bal.2] (by kernel_rfl) (two_at rfl rfl) ?_) | ((with_reducible refine atDst 28 ?_); refine wpList_load_part _ _ rfl (by rfl) _ 3 rfl Kb0.out Tryz.underlying23 rfl #[.int .i64 m2.id.1, .int .i64 m2.id.2] (by kernel_rfl) (two_at rfl rfl) ?_) | ((with_reducible refine atDst 26 ?_); refine wpList_load_part _ _ rfl (by rfl) _ 3 rfl Ka0.out Tryz.underlying23 rfl #[.int .i64 m.id.1, .int .i64 m.id.2] (by kernel_rfl) (two_at rfl rfl) ?_) | ((with_reducible refine atDst 21 ?_); refine wpList_load_one _ _ rfl (by rfl) _ 2 rfl Kb0.out Tryz.underlying3 rfl (show ((msR m2 l2))[2]? = some (.int .i64 m2.dst) from rfl) ?_) | ((with_reducible refine atDst 19 ?_); refine wpList_load_one _ _ rfl (by rfl) _ 2 rfl Ka0.out Tryz.underlying3 rfl (show ((msR m l))[2]? = some (.int .i64 m.dst) from rfl) ?_) | ((with_reducible refine atDst 14 ?_); refine wpList_load_one _ _ rfl (by rfl) _ 1 rfl Kb0.out Tryz.underlying3 rfl (show ((msR m2 l2))[1]? = some (.int .i64 m2.frm) from rfl) ?_) | ((with_reducible refine atDst 12 ?_); refine wpList_load_one _ _ rfl (by rfl) _ 1 rfl Ka0.out Tryz.underlying3 rfl (show ((msR m l))[1]? = some (.int .i64 m.frm) from rfl) ?_) | ((with_reducible refine atDst 8 ?_); refine wpList_load_one _ _ rfl (by rfl) _ 0 rfl Kb0.out Tryz.underlying3 rfl (show ((msR m2 l2))[0]? = some (.int .i64 m2.kind) from rfl) ?_) | ((with_reducible refine atDst 6 ?_); refine wpList_load_one _ _ rfl (by rfl) _ 0 rfl Ka0.out Tryz.underlying3 rfl (show ((msR m l))[0]? = some (.int .i64 m.kind) from rfl) ?_))
                   go_ret
                   exact ⟨rfl, HB5.out⟩
                 ·have hv : decide (m = m2) = false := decide_eq_false (fun e => hwrites (congrArg Mg.writes e))
                  rw [hv]
                  clear hv
                  rw [decide_eq_false hwrites] at HW
                  clear hwrites
                  obtain ⟨w0, he0, hw0, kQa, kQb, hb0⟩ := boxes2 W (.cells (msR m l) 61) (.cells (msR m2 l2) 61)
                  have Ka0 := Lib.hid kQa
                  have Kb0 := Lib.hid kQb
                  have HB0 := Lib.hid hb0
                  have HE0 := Lib.hid he0
                  clear he0 hb0 kQa kQb
                  go_enter Tryz.func40, Tryz.ntmps40
                  go_upto_region 1 with fail
                  rw [← HE0.out]
                  go_wp2_with (first | go_skip | ((with_reducible refine atC w3 ?_); go_at_call 64; refine (HW.out _ HB3.out).mono ?_; rintro e w4 ⟨rfl, h5⟩; have hw4 := Nat.le_trans hw3 h5.size; have HB4 : Hid (Below W.heap.size W w4) := Lib.hid (blThen HB3.out h5); have Ka4 := Lib.hid ((h5.block W.heap.size (by omega)).trans Ka3.out); have Kb4 := Lib.hid ((h5.block (W.heap.size + 1) (by omega)).trans Kb3.out); clear h5) | ((with_reducible refine atDst 90 ?_); refine wpList_load_one _ _ rfl (by rfl) _ 19 rfl Kb3.out Tryz.underlying28 rfl (show ((msR m2 l2))[19]? = some (l2.w) from rfl) ?_) | ((with_reducible refine atDst 88 ?_); refine wpList_load_one _ _ rfl (by rfl) _ 19 rfl Ka3.out Tryz.underlying28 rfl (show ((msR m l))[19]? = some (l.w) from rfl) ?_) | ((with_reducible refine atC w2 ?_); go_at_call 30; refine (HV.out _ HB2.out).mono ?_; rintro e w3 ⟨rfl, h5⟩; have hw3 := Nat.le_trans hw2 h5.size; have HB3 : Hid (Below W.heap.size W w3) := Lib.hid (blThen HB2.out h5); have Ka3 := Lib.hid ((h5.block W.heap.size (by omega)).trans Ka2.out); have Kb3 := Lib.hid ((h5.block (W.heap.size + 1) (by omega)).trans Kb2.out); clear h5) | ((with_reducible refine atDst 83 ?_); refine wpList_load_part _ _ rfl (by rfl) _ 15 rfl Kb2.out Tryz.underlying27 rfl #[.bool m2.val.1, .int .i64 m2.val.2.1.1, .int .i64 m2.val.2.1.2, l2.v] (by kernel_rfl) (four_at rfl rfl rfl rfl) ?_) | ((with_reducible refine atDst 81 ?_); refine wpList_load_part _ _ rfl (by rfl) _ 15 rfl Ka2.out Tryz.underlying27 rfl #[.bool m.val.1, .int .i64 m.val.2.1.1, .int .i64 m.val.2.1.2, l.v] (by kernel_rfl) (four_at rfl rfl rfl rfl) ?_) | ((with_reducible refine atDst 76 ?_); refine wpList_load_part _ _ rfl (by rfl) _ 13 rfl Kb2.out Tryz.underlying23 rfl #[.int .i64 m2.acc.1, .int .i64 m2.acc.2] (by kernel_rfl) (two_at rfl rfl) ?_) | ((with_reducible refine atDst 74 ?_); refine wpList_load_part _ _ rfl (by rfl) _ 13 rfl Ka2.out Tryz.underlying23 rfl #[.int .i64 m.acc.1, .int .i64 m.acc.2] (by kernel_rfl) (two_at rfl rfl) ?_) | ((with_reducible refine atDst 69 ?_); refine wpList_load_one _ _ rfl (by rfl) _ 12 rfl Kb2.out Tryz.underlying4 rfl (show ((msR m2 l2))[12]? = some (.bool m2.has) from rfl) ?_) | ((with_reducible refine atDst 67 ?_); refine wpList_load_one _ _ rfl (by rfl) _ 12 rfl Ka2.out Tryz.underlying4 rfl (show ((msR m l))[12]? = some (.bool m.has) from rfl) ?_) | ((with_reducible refine atC w1 ?_); go_at_call 63; refine (HD.out _ HB1.out).mono ?_; rintro e w2 ⟨rfl, h5⟩; have hw2 := Nat.le_trans hw1 h5.size; have HB2 : Hid (Below W.heap.size W w2) := Lib.hid (blThen HB1.out h5); have Ka2 := Lib.hid ((h5.block W.heap.size (by omega)).trans Ka1.out); have Kb2 := Lib.hid ((h5.block (W.heap.size + 1) (by omega)).trans Kb1.out); clear h5) | ((with_reducible refine atDst 63 ?_); refine wpList_load_one _ _ rfl (by rfl) _ 11 rfl Kb1.out Tryz.underlying25 rfl (show ((msR m2 l2))[11]? = some (l2.d) from rfl) ?_) | ((with_reducible refine atDst 61 ?_); refine wpList_load_one _ _ rfl (by rfl) _ 11 rfl Ka1.out Tryz.underlying25 rfl (show ((msR m l))[11]? = some (l.d) from rfl) ?_) | ((with_reducible refine atDst 57 ?_); refine wpList_load_one _ _ rfl (by rfl) _ 10 rfl Kb1.out Tryz.underlying4 rfl (show ((msR m2 l2))[10]? = some (.bool m2.fast) from rfl) ?_) | ((with_reducible refine atDst 55 ?_); refine wpList_load_one _ _ rfl (by rfl) _ 10 rfl Ka1.out Tryz.underlying4 rfl (show ((msR m l))[10]? = some (.bool m.fast) from rfl) ?_) | ((with_reducible refine atC w0 ?_); go_at_call 29; refine (HO.out _ HB0.out).mono ?_; rintro e w1 ⟨rfl, h5⟩; have hw1 := Nat.le_trans hw0 h5.size; have HB1 : Hid (Below W.heap.size W w1) := Lib.hid (blThen HB0.out h5); have Ka1 := Lib.hid ((h5.block W.heap.size (by omega)).trans Ka0.out); have Kb1 := Lib.hid ((h5.block (W.heap.size + 1) (by omega)).trans Kb0.out); clear h5) | ((with_reducible refine atDst 49 ?_); refine wpList_load_one _ _ rfl (by rfl) _ 9 rfl Kb0.out Tryz.underlying24 rfl (show ((msR m2 l2))[9]? = some (l2.o) from rfl) ?_) | ((with_reducible refine atDst 47 ?_); refine wpList_load_one _ _ rfl (by rfl) _ 9 rfl Ka0.out Tryz.underlying24 rfl (show ((msR m l))[9]? = some (l.o) from rfl) ?_) | ((with_reducible refine atDst 42 ?_); refine wpList_load_part _ _ rfl (by rfl) _ 7 rfl Kb0.out Tryz.underlying23 rfl #[.int .i64 m2.at_.1, .int .i64 m2.at_.2] (by kernel_rfl) (two_at rfl rfl) ?_) | ((with_reducible refine atDst 40 ?_); refine wpList_load_part _ _ rfl (by rfl) _ 7 rfl Ka0.out Tryz.underlying23 rfl #[.int .i64 m.at_.1, .int .i64 m.at_.2] (by kernel_rfl) (two_at rfl rfl) ?_) | ((with_reducible refine atDst 35 ?_); refine wpList_load_part _ _ rfl (by rfl) _ 5 rfl Kb0.out Tryz.underlying23 rfl #[.int .i64 m2.bal.1, .int .i64 m2.bal.2] (by kernel_rfl) (two_at rfl rfl) ?_) | ((with_reducible refine atDst 33 ?_); refine wpList_load_part _ _ rfl (by rfl) _ 5 rfl Ka0.out Tryz.underlying23 rfl #[.int .i64 m.bal.1, .int .i64 m.bal.2] (by kernel_rfl) (two_at rfl rfl) ?_) | ((with_reducible refine atDst 28 ?_); refine wpList_load_part _ _ rfl (by rfl) _ 3 rfl Kb0.out Tryz.underlying23 rfl #[.int .i64 m2.id.1, .int .i64 m2.id.2] (by kernel_rfl) (two_at rfl rfl) ?_) | ((with_reducible refine atDst 26 ?_); refine wpList_load_part _ _ rfl (by rfl) _ 3 rfl Ka0.out Tryz.underlying23 rfl #[.int .i64 m.id.1, .int .i64 m.id.2] (by kernel_rfl) (two_at rfl rfl) ?_) | ((with_reducible refine atDst 21 ?_); refine wpList_load_one _ _ rfl (by rfl) _ 2 rfl Kb0.out Tryz.underlying3 rfl (show ((msR m2 l2))[2]? = some (.int .i64 m2.dst) from rfl) ?_) | ((with_reducible refine atDst 19 ?_); refine wpList_load_one _ _ rfl (by rfl) _ 2 rfl Ka0.out Tryz.underlying3 rfl (show ((msR m l))[2]? = some (.int .i64 m.dst) from rfl) ?_) | ((with_reducible refine atDst 14 ?_); refine wpList_load_one _ _ rfl (by rfl) _ 1 rfl Kb0.out Tryz.underlying3 rfl (show ((msR m2 l2))[1]? = some (.int .i64 m2.frm) from rfl) ?_) | ((with_reducible refine atDst 12 ?_); refine wpList_load_one _ _ rfl (by rfl) _ 1 rfl Ka0.out Tryz.underlying3 rfl (show ((msR m l))[1]? = some (.int .i64 m.frm) from rfl) ?_) | ((with_reducible refine atDst 8 ?_); refine wpList_load_one _ _ rfl (by rfl) _ 0 rfl Kb0.out Tryz.underlying3 rfl (show ((msR m2 l2))[0]? = some (.int .i64 m2.kind) from rfl) ?_) | ((with_reducible refine atDst 6 ?_); refine wpList_load_one _ _ rfl (by rfl) _ 0 rfl Ka0.out Tryz.underlying3 rfl (show ((msR m l))[0]? = some (.int .i64 m.kind) from rfl) ?_))
                  go_ret
                  exact ⟨rfl, HB4.out⟩
                ·have hv : decide (m = m2) = false := decide_eq_false (fun e => hval (congrArg Mg.val e))
                 rw [hv]
                 clear hv
                 rw [decide_eq_false hval] at HV
                 clear hval
                 obtain ⟨w0, he0, hw0, kQa, kQb, hb0⟩ := boxes2 W (.cells (msR m l) 61) (.cells (msR m2 l2) 61)
                 have Ka0 := Lib.hid kQa
                 have Kb0 := Lib.hid kQb
                 have HB0 := Lib.hid hb0
                 have HE0 := Lib.hid he0
                 clear he0 hb0 kQa kQb
                 go_enter Tryz.func40, Tryz.ntmps40
                 go_upto_region 1 with fail
                 rw [← HE0.out]
                 go_wp2_with (first | go_skip | ((with_reducible refine atC w2 ?_); go_at_call 30; refine (HV.out _ HB2.out).mono ?_; rintro e w3 ⟨rfl, h5⟩; have hw3 := Nat.le_trans hw2 h5.size; have HB3 : Hid (Below W.heap.size W w3) := Lib.hid (blThen HB2.out h5); have Ka3 := Lib.hid ((h5.block W.heap.size (by omega)).trans Ka2.out); have Kb3 := Lib.hid ((h5.block (W.heap.size + 1) (by omega)).trans Kb2.out); clear h5) | ((with_reducible refine atDst 83 ?_); refine wpList_load_part _ _ rfl (by rfl) _ 15 rfl Kb2.out Tryz.underlying27 rfl #[.bool m2.val.1, .int .i64 m2.val.2.1.1, .int .i64 m2.val.2.1.2, l2.v] (by kernel_rfl) (four_at rfl rfl rfl rfl) ?_) | ((with_reducible refine atDst 81 ?_); refine wpList_load_part _ _ rfl (by rfl) _ 15 rfl Ka2.out Tryz.underlying27 rfl #[.bool m.val.1, .int .i64 m.val.2.1.1, .int .i64 m.val.2.1.2, l.v] (by kernel_rfl) (four_at rfl rfl rfl rfl) ?_) | ((with_reducible refine atDst 76 ?_); refine wpList_load_part _ _ rfl (by rfl) _ 13 rfl Kb2.out Tryz.underlying23 rfl #[.int .i64 m2.acc.1, .int .i64 m2.acc.2] (by kernel_rfl) (two_at rfl rfl) ?_) | ((with_reducible refine atDst 74 ?_); refine wpList_load_part _ _ rfl (by rfl) _ 13 rfl Ka2.out Tryz.underlying23 rfl #[.int .i64 m.acc.1, .int .i64 m.acc.2] (by kernel_rfl) (two_at rfl rfl) ?_) | ((with_reducible refine atDst 69 ?_); refine wpList_load_one _ _ rfl (by rfl) _ 12 rfl Kb2.out Tryz.underlying4 rfl (show ((msR m2 l2))[12]? = some (.bool m2.has) from rfl) ?_) | ((with_reducible refine atDst 67 ?_); refine wpList_load_one _ _ rfl (by rfl) _ 12 rfl Ka2.out Tryz.underlying4 rfl (show ((msR m l))[12]? = some (.bool m.has) from rfl) ?_) | ((with_reducible refine atC w1 ?_); go_at_call 63; refine (HD.out _ HB1.out).mono ?_; rintro e w2 ⟨rfl, h5⟩; have hw2 := Nat.le_trans hw1 h5.size; have HB2 : Hid (Below W.heap.size W w2) := Lib.hid (blThen HB1.out h5); have Ka2 := Lib.hid ((h5.block W.heap.size (by omega)).trans Ka1.out); have Kb2 := Lib.hid ((h5.block (W.heap.size + 1) (by omega)).trans Kb1.out); clear h5) | ((with_reducible refine atDst 63 ?_); refine wpList_load_one _ _ rfl (by rfl) _ 11 rfl Kb1.out Tryz.underlying25 rfl (show ((msR m2 l2))[11]? = some (l2.d) from rfl) ?_) | ((with_reducible refine atDst 61 ?_); refine wpList_load_one _ _ rfl (by rfl) _ 11 rfl Ka1.out Tryz.underlying25 rfl (show ((msR m l))[11]? = some (l.d) from rfl) ?_) | ((with_reducible refine atDst 57 ?_); refine wpList_load_one _ _ rfl (by rfl) _ 10 rfl Kb1.out Tryz.underlying4 rfl (show ((msR m2 l2))[10]? = some (.bool m2.fast) from rfl) ?_) | ((with_reducible refine atDst 55 ?_); refine wpList_load_one _ _ rfl (by rfl) _ 10 rfl Ka1.out Tryz.underlying4 rfl (show ((msR m l))[10]? = some (.bool m.fast) from rfl) ?_) | ((with_reducible refine atC w0 ?_); go_at_call 29; refine (HO.out _ HB0.out).mono ?_; rintro e w1 ⟨rfl, h5⟩; have hw1 := Nat.le_trans hw0 h5.size; have HB1 : Hid (Below W.heap.size W w1) := Lib.hid (blThen HB0.out h5); have Ka1 := Lib.hid ((h5.block W.heap.size (by omega)).trans Ka0.out); have Kb1 := Lib.hid ((h5.block (W.heap.size + 1) (by omega)).trans Kb0.out); clear h5) | ((with_reducible refine atDst 49 ?_); refine wpList_load_one _ _ rfl (by rfl) _ 9 rfl Kb0.out Tryz.underlying24 rfl (show ((msR m2 l2))[9]? = some (l2.o) from rfl) ?_) | ((with_reducible refine atDst 47 ?_); refine wpList_load_one _ _ rfl (by rfl) _ 9 rfl Ka0.out Tryz.underlying24 rfl (show ((msR m l))[9]? = some (l.o) from rfl) ?_) | ((with_reducible refine atDst 42 ?_); refine wpList_load_part _ _ rfl (by rfl) _ 7 rfl Kb0.out Tryz.underlying23 rfl #[.int .i64 m2.at_.1, .int .i64 m2.at_.2] (by kernel_rfl) (two_at rfl rfl) ?_) | ((with_reducible refine atDst 40 ?_); refine wpList_load_part _ _ rfl (by rfl) _ 7 rfl Ka0.out Tryz.underlying23 rfl #[.int .i64 m.at_.1, .int .i64 m.at_.2] (by kernel_rfl) (two_at rfl rfl) ?_) | ((with_reducible refine atDst 35 ?_); refine wpList_load_part _ _ rfl (by rfl) _ 5 rfl Kb0.out Tryz.underlying23 rfl #[.int .i64 m2.bal.1, .int .i64 m2.bal.2] (by kernel_rfl) (two_at rfl rfl) ?_) | ((with_reducible refine atDst 33 ?_); refine wpList_load_part _ _ rfl (by rfl) _ 5 rfl Ka0.out Tryz.underlying23 rfl #[.int .i64 m.bal.1, .int .i64 m.bal.2] (by kernel_rfl) (two_at rfl rfl) ?_) | ((with_reducible refine atDst 28 ?_); refine wpList_load_part _ _ rfl (by rfl) _ 3 rfl Kb0.out Tryz.underlying23 rfl #[.int .i64 m2.id.1, .int .i64 m2.id.2] (by kernel_rfl) (two_at rfl rfl) ?_) | ((with_reducible refine atDst 26 ?_); refine wpList_load_part _ _ rfl (by rfl) _ 3 rfl Ka0.out Tryz.underlying23 rfl #[.int .i64 m.id.1, .int .i64 m.id.2] (by kernel_rfl) (two_at rfl rfl) ?_) | ((with_reducible refine atDst 21 ?_); refine wpList_load_one _ _ rfl (by rfl) _ 2 rfl Kb0.out Tryz.underlying3 rfl (show ((msR m2 l2))[2]? = some (.int .i64 m2.dst) from rfl) ?_) | ((with_reducible refine atDst 19 ?_); refine wpList_load_one _ _ rfl (by rfl) _ 2 rfl Ka0.out Tryz.underlying3 rfl (show ((msR m l))[2]? = some (.int .i64 m.dst) from rfl) ?_) | ((with_reducible refine atDst 14 ?_); refine wpList_load_one _ _ rfl (by rfl) _ 1 rfl Kb0.out Tryz.underlying3 rfl (show ((msR m2 l2))[1]? = some (.int .i64 m2.frm) from rfl) ?_) | ((with_reducible refine atDst 12 ?_); refine wpList_load_one _ _ rfl (by rfl) _ 1 rfl Ka0.out Tryz.underlying3 rfl (show ((msR m l))[1]? = some (.int .i64 m.frm) from rfl) ?_) | ((with_reducible refine atDst 8 ?_); refine wpList_load_one _ _ rfl (by rfl) _ 0 rfl Kb0.out Tryz.underlying3 rfl (show ((msR m2 l2))[0]? = some (.int .i64 m2.kind) from rfl) ?_) | ((with_reducible refine atDst 6 ?_); refine wpList_load_one _ _ rfl (by rfl) _ 0 rfl Ka0.out Tryz.underlying3 rfl (show ((msR m l))[0]? = some (.int .i64 m.kind) from rfl) ?_))
                 go_ret
                 exact ⟨rfl, HB3.out⟩
               ·have hv : decide (m = m2) = false := decide_eq_false (fun e => hacc2 (congrArg (fun m : Mg => m.acc.2) e))
                rw [hv]
                clear hv
                have e1 : (m.acc.2 == m2.acc.2) = false := by simpa using hacc2
                have e2 : (m.acc.2 != m2.acc.2) = true := by simpa using hacc2
                clear hacc2
                obtain ⟨w0, he0, hw0, kQa, kQb, hb0⟩ := boxes2 W (.cells (msR m l) 61) (.cells (msR m2 l2) 61)
                have Ka0 := Lib.hid kQa
                have Kb0 := Lib.hid kQb
                have HB0 := Lib.hid hb0
                have HE0 := Lib.hid he0
                clear he0 hb0 kQa kQb
                go_enter Tryz.func40, Tryz.ntmps40
                go_upto_region 1 with fail
                rw [← HE0.out]
                go_wp2_with (first | go_skip | ((with_reducible refine atDst 76 ?_); refine wpList_load_part _ _ rfl (by rfl) _ 13 rfl Kb2.out Tryz.underlying23 rfl #[.int .i64 m2.acc.1, .int .i64 m2.acc.2] (by kernel_rfl) (two_at rfl rfl) ?_) | ((with_reducible refine atDst 74 ?_); refine wpList_load_part _ _ rfl (by rfl) _ 13 rfl Ka2.out Tryz.underlying23 rfl #[.int .i64 m.acc.1, .int .i64 m.acc.2] (by kernel_rfl) (two_at rfl rfl) ?_) | ((with_reducible refine atDst 69 ?_); refine wpList_load_one _ _ rfl (by rfl) _ 12 rfl Kb2.out Tryz.underlying4 rfl (show ((msR m2 l2))[12]? = some (.bool m2.has) from rfl) ?_) | ((with_reducible refine atDst 67 ?_); refine wpList_load_one _ _ rfl (by rfl) _ 12 rfl Ka2.out Tryz.underlying4 rfl (show ((msR m l))[12]? = some (.bool m.has) from rfl) ?_) | ((with_reducible refine atC w1 ?_); go_at_call 63; refine (HD.out _ HB1.out).mono ?_; rintro e w2 ⟨rfl, h5⟩; have hw2 := Nat.le_trans hw1 h5.size; have HB2 : Hid (Below W.heap.size W w2) := Lib.hid (blThen HB1.out h5); have Ka2 := Lib.hid ((h5.block W.heap.size (by omega)).trans Ka1.out); have Kb2 := Lib.hid ((h5.block (W.heap.size + 1) (by omega)).trans Kb1.out); clear h5) | ((with_reducible refine atDst 63 ?_); refine wpList_load_one _ _ rfl (by rfl) _ 11 rfl Kb1.out Tryz.underlying25 rfl (show ((msR m2 l2))[11]? = some (l2.d) from rfl) ?_) | ((with_reducible refine atDst 61 ?_); refine wpList_load_one _ _ rfl (by rfl) _ 11 rfl Ka1.out Tryz.underlying25 rfl (show ((msR m l))[11]? = some (l.d) from rfl) ?_) | ((with_reducible refine atDst 57 ?_); refine wpList_load_one _ _ rfl (by rfl) _ 10 rfl Kb1.out Tryz.underlying4 rfl (show ((msR m2 l2))[10]? = some (.bool m2.fast) from rfl) ?_) | ((with_reducible refine atDst 55 ?_); refine wpList_load_one _ _ rfl (by rfl) _ 10 rfl Ka1.out Tryz.underlying4 rfl (show ((msR m l))[10]? = some (.bool m.fast) from rfl) ?_) | ((with_reducible refine atC w0 ?_); go_at_call 29; refine (HO.out _ HB0.out).mono ?_; rintro e w1 ⟨rfl, h5⟩; have hw1 := Nat.le_trans hw0 h5.size; have HB1 : Hid (Below W.heap.size W w1) := Lib.hid (blThen HB0.out h5); have Ka1 := Lib.hid ((h5.block W.heap.size (by omega)).trans Ka0.out); have Kb1 := Lib.hid ((h5.block (W.heap.size + 1) (by omega)).trans Kb0.out); clear h5) | ((with_reducible refine atDst 49 ?_); refine wpList_load_one _ _ rfl (by rfl) _ 9 rfl Kb0.out Tryz.underlying24 rfl (show ((msR m2 l2))[9]? = some (l2.o) from rfl) ?_) | ((with_reducible refine atDst 47 ?_); refine wpList_load_one _ _ rfl (by rfl) _ 9 rfl Ka0.out Tryz.underlying24 rfl (show ((msR m l))[9]? = some (l.o) from rfl) ?_) | ((with_reducible refine atDst 42 ?_); refine wpList_load_part _ _ rfl (by rfl) _ 7 rfl Kb0.out Tryz.underlying23 rfl #[.int .i64 m2.at_.1, .int .i64 m2.at_.2] (by kernel_rfl) (two_at rfl rfl) ?_) | ((with_reducible refine atDst 40 ?_); refine wpList_load_part _ _ rfl (by rfl) _ 7 rfl Ka0.out Tryz.underlying23 rfl #[.int .i64 m.at_.1, .int .i64 m.at_.2] (by kernel_rfl) (two_at rfl rfl) ?_) | ((with_reducible refine atDst 35 ?_); refine wpList_load_part _ _ rfl (by rfl) _ 5 rfl Kb0.out Tryz.underlying23 rfl #[.int .i64 m2.bal.1, .int .i64 m2.bal.2] (by kernel_rfl) (two_at rfl rfl) ?_) | ((with_reducible refine atDst 33 ?_); refine wpList_load_part _ _ rfl (by rfl) _ 5 rfl Ka0.out Tryz.underlying23 rfl #[.int .i64 m.bal.1, .int .i64 m.bal.2] (by kernel_rfl) (two_at rfl rfl) ?_) | ((with_reducible refine atDst 28 ?_); refine wpList_load_part _ _ rfl (by rfl) _ 3 rfl Kb0.out Tryz.underlying23 rfl #[.int .i64 m2.id.1, .int .i64 m2.id.2] (by kernel_rfl) (two_at rfl rfl) ?_) | ((with_reducible refine atDst 26 ?_); refine wpList_load_part _ _ rfl (by rfl) _ 3 rfl Ka0.out Tryz.underlying23 rfl #[.int .i64 m.id.1, .int .i64 m.id.2] (by kernel_rfl) (two_at rfl rfl) ?_) | ((with_reducible refine atDst 21 ?_); refine wpList_load_one _ _ rfl (by rfl) _ 2 rfl Kb0.out Tryz.underlying3 rfl (show ((msR m2 l2))[2]? = some (.int .i64 m2.dst) from rfl) ?_) | ((with_reducible refine atDst 19 ?_); refine wpList_load_one _ _ rfl (by rfl) _ 2 rfl Ka0.out Tryz.underlying3 rfl (show ((msR m l))[2]? = some (.int .i64 m.dst) from rfl) ?_) | ((with_reducible refine atDst 14 ?_); refine wpList_load_one _ _ rfl (by rfl) _ 1 rfl Kb0.out Tryz.underlying3 rfl (show ((msR m2 l2))[1]? = some (.int .i64 m2.frm) from rfl) ?_) | ((with_reducible refine atDst 12 ?_); refine wpList_load_one _ _ rfl (by rfl) _ 1 rfl Ka0.out Tryz.underlying3 rfl (show ((msR m l))[1]? = some (.int .i64 m.frm) from rfl) ?_) | ((with_reducible refine atDst 8 ?_); refine wpList_load_one _ _ rfl (by rfl) _ 0 rfl Kb0.out Tryz.underlying3 rfl (show ((msR m2 l2))[0]? = some (.int .i64 m2.kind) from rfl) ?_) | ((with_reducible refine atDst 6 ?_); refine wpList_load_one _ _ rfl (by rfl) _ 0 rfl Ka0.out Tryz.underlying3 rfl (show ((msR m l))[0]? = some (.int .i64 m.kind) from rfl) ?_))
                go_ret
                exact ⟨rfl, HB2.out⟩
              ·have hv : decide (m = m2) = false := decide_eq_false (fun e => hacc1 (congrArg (fun m : Mg => m.acc.1) e))
               rw [hv]
               clear hv
               have e1 : (m.acc.1 == m2.acc.1) = false := by simpa using hacc1
               have e2 : (m.acc.1 != m2.acc.1) = true := by simpa using hacc1
               clear hacc1
               obtain ⟨w0, he0, hw0, kQa, kQb, hb0⟩ := boxes2 W (.cells (msR m l) 61) (.cells (msR m2 l2) 61)
               have Ka0 := Lib.hid kQa
               have Kb0 := Lib.hid kQb
               have HB0 := Lib.hid hb0
               have HE0 := Lib.hid he0
               clear he0 hb0 kQa kQb
               go_enter Tryz.func40, Tryz.ntmps40
               go_upto_region 1 with fail
               rw [← HE0.out]
               go_wp2_with (first | go_skip | ((with_reducible refine atDst 76 ?_); refine wpList_load_part _ _ rfl (by rfl) _ 13 rfl Kb2.out Tryz.underlying23 rfl #[.int .i64 m2.acc.1, .int .i64 m2.acc.2] (by kernel_rfl) (two_at rfl rfl) ?_) | ((with_reducible refine atDst 74 ?_); refine wpList_load_part _ _ rfl (by rfl) _ 13 rfl Ka2.out Tryz.underlying23 rfl #[.int .i64 m.acc.1, .int .i64 m.acc.2] (by kernel_rfl) (two_at rfl rfl) ?_) | ((with_reducible refine atDst 69 ?_); refine wpList_load_one _ _ rfl (by rfl) _ 12 rfl Kb2.out Tryz.underlying4 rfl (show ((msR m2 l2))[12]? = some (.bool m2.has) from rfl) ?_) | ((with_reducible refine atDst 67 ?_); refine wpList_load_one _ _ rfl (by rfl) _ 12 rfl Ka2.out Tryz.underlying4 rfl (show ((msR m l))[12]? = some (.bool m.has) from rfl) ?_) | ((with_reducible refine atC w1 ?_); go_at_call 63; refine (HD.out _ HB1.out).mono ?_; rintro e w2 ⟨rfl, h5⟩; have hw2 := Nat.le_trans hw1 h5.size; have HB2 : Hid (Below W.heap.size W w2) := Lib.hid (blThen HB1.out h5); have Ka2 := Lib.hid ((h5.block W.heap.size (by omega)).trans Ka1.out); have Kb2 := Lib.hid ((h5.block (W.heap.size + 1) (by omega)).trans Kb1.out); clear h5) | ((with_reducible refine atDst 63 ?_); refine wpList_load_one _ _ rfl (by rfl) _ 11 rfl Kb1.out Tryz.underlying25 rfl (show ((msR m2 l2))[11]? = some (l2.d) from rfl) ?_) | ((with_reducible refine atDst 61 ?_); refine wpList_load_one _ _ rfl (by rfl) _ 11 rfl Ka1.out Tryz.underlying25 rfl (show ((msR m l))[11]? = some (l.d) from rfl) ?_) | ((with_reducible refine atDst 57 ?_); refine wpList_load_one _ _ rfl (by rfl) _ 10 rfl Kb1.out Tryz.underlying4 rfl (show ((msR m2 l2))[10]? = some (.bool m2.fast) from rfl) ?_) | ((with_reducible refine atDst 55 ?_); refine wpList_load_one _ _ rfl (by rfl) _ 10 rfl Ka1.out Tryz.underlying4 rfl (show ((msR m l))[10]? = some (.bool m.fast) from rfl) ?_) | ((with_reducible refine atC w0 ?_); go_at_call 29; refine (HO.out _ HB0.out).mono ?_; rintro e w1 ⟨rfl, h5⟩; have hw1 := Nat.le_trans hw0 h5.size; have HB1 : Hid (Below W.heap.size W w1) := Lib.hid (blThen HB0.out h5); have Ka1 := Lib.hid ((h5.block W.heap.size (by omega)).trans Ka0.out); have Kb1 := Lib.hid ((h5.block (W.heap.size + 1) (by omega)).trans Kb0.out); clear h5) | ((with_reducible refine atDst 49 ?_); refine wpList_load_one _ _ rfl (by rfl) _ 9 rfl Kb0.out Tryz.underlying24 rfl (show ((msR m2 l2))[9]? = some (l2.o) from rfl) ?_) | ((with_reducible refine atDst 47 ?_); refine wpList_load_one _ _ rfl (by rfl) _ 9 rfl Ka0.out Tryz.underlying24 rfl (show ((msR m l))[9]? = some (l.o) from rfl) ?_) | ((with_reducible refine atDst 42 ?_); refine wpList_load_part _ _ rfl (by rfl) _ 7 rfl Kb0.out Tryz.underlying23 rfl #[.int .i64 m2.at_.1, .int .i64 m2.at_.2] (by kernel_rfl) (two_at rfl rfl) ?_) | ((with_reducible refine atDst 40 ?_); refine wpList_load_part _ _ rfl (by rfl) _ 7 rfl Ka0.out Tryz.underlying23 rfl #[.int .i64 m.at_.1, .int .i64 m.at_.2] (by kernel_rfl) (two_at rfl rfl) ?_) | ((with_reducible refine atDst 35 ?_); refine wpList_load_part _ _ rfl (by rfl) _ 5 rfl Kb0.out Tryz.underlying23 rfl #[.int .i64 m2.bal.1, .int .i64 m2.bal.2] (by kernel_rfl) (two_at rfl rfl) ?_) | ((with_reducible refine atDst 33 ?_); refine wpList_load_part _ _ rfl (by rfl) _ 5 rfl Ka0.out Tryz.underlying23 rfl #[.int .i64 m.bal.1, .int .i64 m.bal.2] (by kernel_rfl) (two_at rfl rfl) ?_) | ((with_reducible refine atDst 28 ?_); refine wpList_load_part _ _ rfl (by rfl) _ 3 rfl Kb0.out Tryz.underlying23 rfl #[.int .i64 m2.id.1, .int .i64 m2.id.2] (by kernel_rfl) (two_at rfl rfl) ?_) | ((with_reducible refine atDst 26 ?_); refine wpList_load_part _ _ rfl (by rfl) _ 3 rfl Ka0.out Tryz.underlying23 rfl #[.int .i64 m.id.1, .int .i64 m.id.2] (by kernel_rfl) (two_at rfl rfl) ?_) | ((with_reducible refine atDst 21 ?_); refine wpList_load_one _ _ rfl (by rfl) _ 2 rfl Kb0.out Tryz.underlying3 rfl (show ((msR m2 l2))[2]? = some (.int .i64 m2.dst) from rfl) ?_) | ((with_reducible refine atDst 19 ?_); refine wpList_load_one _ _ rfl (by rfl) _ 2 rfl Ka0.out Tryz.underlying3 rfl (show ((msR m l))[2]? = some (.int .i64 m.dst) from rfl) ?_) | ((with_reducible refine atDst 14 ?_); refine wpList_load_one _ _ rfl (by rfl) _ 1 rfl Kb0.out Tryz.underlying3 rfl (show ((msR m2 l2))[1]? = some (.int .i64 m2.frm) from rfl) ?_) | ((with_reducible refine atDst 12 ?_); refine wpList_load_one _ _ rfl (by rfl) _ 1 rfl Ka0.out Tryz.underlying3 rfl (show ((msR m l))[1]? = some (.int .i64 m.frm) from rfl) ?_) | ((with_reducible refine atDst 8 ?_); refine wpList_load_one _ _ rfl (by rfl) _ 0 rfl Kb0.out Tryz.underlying3 rfl (show ((msR m2 l2))[0]? = some (.int .i64 m2.kind) from rfl) ?_) | ((with_reducible refine atDst 6 ?_); refine wpList_load_one _ _ rfl (by rfl) _ 0 rfl Ka0.out Tryz.underlying3 rfl (show ((msR m l))[0]? = some (.int .i64 m.kind) from rfl) ?_))
               go_ret
               exact ⟨rfl, HB2.out⟩
             ·have hv : decide (m = m2) = false := decide_eq_false (fun e => hhas (congrArg Mg.has e))
              rw [hv]
              clear hv
              have e1 : (m.has == m2.has) = false := by simpa using hhas
              have e2 : (m.has != m2.has) = true := by simpa using hhas
              clear hhas
              obtain ⟨w0, he0, hw0, kQa, kQb, hb0⟩ := boxes2 W (.cells (msR m l) 61) (.cells (msR m2 l2) 61)
              have Ka0 := Lib.hid kQa
              have Kb0 := Lib.hid kQb
              have HB0 := Lib.hid hb0
              have HE0 := Lib.hid he0
              clear he0 hb0 kQa kQb
              go_enter Tryz.func40, Tryz.ntmps40
              go_upto_region 1 with fail
              rw [← HE0.out]
              go_wp2_with (first | go_skip | ((with_reducible refine atDst 69 ?_); refine wpList_load_one _ _ rfl (by rfl) _ 12 rfl Kb2.out Tryz.underlying4 rfl (show ((msR m2 l2))[12]? = some (.bool m2.has) from rfl) ?_) | ((with_reducible refine atDst 67 ?_); refine wpList_load_one _ _ rfl (by rfl) _ 12 rfl Ka2.out Tryz.underlying4 rfl (show ((msR m l))[12]? = some (.bool m.has) from rfl) ?_) | ((with_reducible refine atC w1 ?_); go_at_call 63; refine (HD.out _ HB1.out).mono ?_; rintro e w2 ⟨rfl, h5⟩; have hw2 := Nat.le_trans hw1 h5.size; have HB2 : Hid (Below W.heap.size W w2) := Lib.hid (blThen HB1.out h5); have Ka2 := Lib.hid ((h5.block W.heap.size (by omega)).trans Ka1.out); have Kb2 := Lib.hid ((h5.block (W.heap.size + 1) (by omega)).trans Kb1.out); clear h5) | ((with_reducible refine atDst 63 ?_); refine wpList_load_one _ _ rfl (by rfl) _ 11 rfl Kb1.out Tryz.underlying25 rfl (show ((msR m2 l2))[11]? = some (l2.d) from rfl) ?_) | ((with_reducible refine atDst 61 ?_); refine wpList_load_one _ _ rfl (by rfl) _ 11 rfl Ka1.out Tryz.underlying25 rfl (show ((msR m l))[11]? = some (l.d) from rfl) ?_) | ((with_reducible refine atDst 57 ?_); refine wpList_load_one _ _ rfl (by rfl) _ 10 rfl Kb1.out Tryz.underlying4 rfl (show ((msR m2 l2))[10]? = some (.bool m2.fast) from rfl) ?_) | ((with_reducible refine atDst 55 ?_); refine wpList_load_one _ _ rfl (by rfl) _ 10 rfl Ka1.out Tryz.underlying4 rfl (show ((msR m l))[10]? = some (.bool m.fast) from rfl) ?_) | ((with_reducible refine atC w0 ?_); go_at_call 29; refine (HO.out _ HB0.out).mono ?_; rintro e w1 ⟨rfl, h5⟩; have hw1 := Nat.le_trans hw0 h5.size; have HB1 : Hid (Below W.heap.size W w1) := Lib.hid (blThen HB0.out h5); have Ka1 := Lib.hid ((h5.block W.heap.size (by omega)).trans Ka0.out); have Kb1 := Lib.hid ((h5.block (W.heap.size + 1) (by omega)).trans Kb0.out); clear h5) | ((with_reducible refine atDst 49 ?_); refine wpList_load_one _ _ rfl (by rfl) _ 9 rfl Kb0.out Tryz.underlying24 rfl (show ((msR m2 l2))[9]? = some (l2.o) from rfl) ?_) | ((with_reducible refine atDst 47 ?_); refine wpList_load_one _ _ rfl (by rfl) _ 9 rfl Ka0.out Tryz.underlying24 rfl (show ((msR m l))[9]? = some (l.o) from rfl) ?_) | ((with_reducible refine atDst 42 ?_); refine wpList_load_part _ _ rfl (by rfl) _ 7 rfl Kb0.out Tryz.underlying23 rfl #[.int .i64 m2.at_.1, .int .i64 m2.at_.2] (by kernel_rfl) (two_at rfl rfl) ?_) | ((with_reducible refine atDst 40 ?_); refine wpList_load_part _ _ rfl (by rfl) _ 7 rfl Ka0.out Tryz.underlying23 rfl #[.int .i64 m.at_.1, .int .i64 m.at_.2] (by kernel_rfl) (two_at rfl rfl) ?_) | ((with_reducible refine atDst 35 ?_); refine wpList_load_part _ _ rfl (by rfl) _ 5 rfl Kb0.out Tryz.underlying23 rfl #[.int .i64 m2.bal.1, .int .i64 m2.bal.2] (by kernel_rfl) (two_at rfl rfl) ?_) | ((with_reducible refine atDst 33 ?_); refine wpList_load_part _ _ rfl (by rfl) _ 5 rfl Ka0.out Tryz.underlying23 rfl #[.int .i64 m.bal.1, .int .i64 m.bal.2] (by kernel_rfl) (two_at rfl rfl) ?_) | ((with_reducible refine atDst 28 ?_); refine wpList_load_part _ _ rfl (by rfl) _ 3 rfl Kb0.out Tryz.underlying23 rfl #[.int .i64 m2.id.1, .int .i64 m2.id.2] (by kernel_rfl) (two_at rfl rfl) ?_) | ((with_reducible refine atDst 26 ?_); refine wpList_load_part _ _ rfl (by rfl) _ 3 rfl Ka0.out Tryz.underlying23 rfl #[.int .i64 m.id.1, .int .i64 m.id.2] (by kernel_rfl) (two_at rfl rfl) ?_) | ((with_reducible refine atDst 21 ?_); refine wpList_load_one _ _ rfl (by rfl) _ 2 rfl Kb0.out Tryz.underlying3 rfl (show ((msR m2 l2))[2]? = some (.int .i64 m2.dst) from rfl) ?_) | ((with_reducible refine atDst 19 ?_); refine wpList_load_one _ _ rfl (by rfl) _ 2 rfl Ka0.out Tryz.underlying3 rfl (show ((msR m l))[2]? = some (.int .i64 m.dst) from rfl) ?_) | ((with_reducible refine atDst 14 ?_); refine wpList_load_one _ _ rfl (by rfl) _ 1 rfl Kb0.out Tryz.underlying3 rfl (show ((msR m2 l2))[1]? = some (.int .i64 m2.frm) from rfl) ?_) | ((with_reducible refine atDst 12 ?_); refine wpList_load_one _ _ rfl (by rfl) _ 1 rfl Ka0.out Tryz.underlying3 rfl (show ((msR m l))[1]? = some (.int .i64 m.frm) from rfl) ?_) | ((with_reducible refine atDst 8 ?_); refine wpList_load_one _ _ rfl (by rfl) _ 0 rfl Kb0.out Tryz.underlying3 rfl (show ((msR m2 l2))[0]? = some (.int .i64 m2.kind) from rfl) ?_) | ((with_reducible refine atDst 6 ?_); refine wpList_load_one _ _ rfl (by rfl) _ 0 rfl Ka0.out Tryz.underlying3 rfl (show ((msR m l))[0]? = some (.int .i64 m.kind) from rfl) ?_))
              go_ret
              exact ⟨rfl, HB2.out⟩
            ·have hv : decide (m = m2) = false := decide_eq_false (fun e => hdeps (congrArg Mg.deps e))
             rw [hv]
             clear hv
             rw [decide_eq_false hdeps] at HD
             clear hdeps
             obtain ⟨w0, he0, hw0, kQa, kQb, hb0⟩ := boxes2 W (.cells (msR m l) 61) (.cells (msR m2 l2) 61)
             have Ka0 := Lib.hid kQa
             have Kb0 := Lib.hid kQb
             have HB0 := Lib.hid hb0
             have HE0 := Lib.hid he0
             clear he0 hb0 kQa kQb
             go_enter Tryz.func40, Tryz.ntmps40
             go_upto_region 1 with fail
             rw [← HE0.out]
             go_wp2_with (first | go_skip | ((with_reducible refine atC w1 ?_); go_at_call 63; refine (HD.out _ HB1.out).mono ?_; rintro e w2 ⟨rfl, h5⟩; have hw2 := Nat.le_trans hw1 h5.size; have HB2 : Hid (Below W.heap.size W w2) := Lib.hid (blThen HB1.out h5); have Ka2 := Lib.hid ((h5.block W.heap.size (by omega)).trans Ka1.out); have Kb2 := Lib.hid ((h5.block (W.heap.size + 1) (by omega)).trans Kb1.out); clear h5) | ((with_reducible refine atDst 63 ?_); refine wpList_load_one _ _ rfl (by rfl) _ 11 rfl Kb1.out Tryz.underlying25 rfl (show ((msR m2 l2))[11]? = some (l2.d) from rfl) ?_) | ((with_reducible refine atDst 61 ?_); refine wpList_load_one _ _ rfl (by rfl) _ 11 rfl Ka1.out Tryz.underlying25 rfl (show ((msR m l))[11]? = some (l.d) from rfl) ?_) | ((with_reducible refine atDst 57 ?_); refine wpList_load_one _ _ rfl (by rfl) _ 10 rfl Kb1.out Tryz.underlying4 rfl (show ((msR m2 l2))[10]? = some (.bool m2.fast) from rfl) ?_) | ((with_reducible refine atDst 55 ?_); refine wpList_load_one _ _ rfl (by rfl) _ 10 rfl Ka1.out Tryz.underlying4 rfl (show ((msR m l))[10]? = some (.bool m.fast) from rfl) ?_) | ((with_reducible refine atC w0 ?_); go_at_call 29; refine (HO.out _ HB0.out).mono ?_; rintro e w1 ⟨rfl, h5⟩; have hw1 := Nat.le_trans hw0 h5.size; have HB1 : Hid (Below W.heap.size W w1) := Lib.hid (blThen HB0.out h5); have Ka1 := Lib.hid ((h5.block W.heap.size (by omega)).trans Ka0.out); have Kb1 := Lib.hid ((h5.block (W.heap.size + 1) (by omega)).trans Kb0.out); clear h5) | ((with_reducible refine atDst 49 ?_); refine wpList_load_one _ _ rfl (by rfl) _ 9 rfl Kb0.out Tryz.underlying24 rfl (show ((msR m2 l2))[9]? = some (l2.o) from rfl) ?_) | ((with_reducible refine atDst 47 ?_); refine wpList_load_one _ _ rfl (by rfl) _ 9 rfl Ka0.out Tryz.underlying24 rfl (show ((msR m l))[9]? = some (l.o) from rfl) ?_) | ((with_reducible refine atDst 42 ?_); refine wpList_load_part _ _ rfl (by rfl) _ 7 rfl Kb0.out Tryz.underlying23 rfl #[.int .i64 m2.at_.1, .int .i64 m2.at_.2] (by kernel_rfl) (two_at rfl rfl) ?_) | ((with_reducible refine atDst 40 ?_); refine wpList_load_part _ _ rfl (by rfl) _ 7 rfl Ka0.out Tryz.underlying23 rfl #[.int .i64 m.at_.1, .int .i64 m.at_.2] (by kernel_rfl) (two_at rfl rfl) ?_) | ((with_reducible refine atDst 35 ?_); refine wpList_load_part _ _ rfl (by rfl) _ 5 rfl Kb0.out Tryz.underlying23 rfl #[.int .i64 m2.bal.1, .int .i64 m2.bal.2] (by kernel_rfl) (two_at rfl rfl) ?_) | ((with_reducible refine atDst 33 ?_); refine wpList_load_part _ _ rfl (by rfl) _ 5 rfl Ka0.out Tryz.underlying23 rfl #[.int .i64 m.bal.1, .int .i64 m.bal.2] (by kernel_rfl) (two_at rfl rfl) ?_) | ((with_reducible refine atDst 28 ?_); refine wpList_load_part _ _ rfl (by rfl) _ 3 rfl Kb0.out Tryz.underlying23 rfl #[.int .i64 m2.id.1, .int .i64 m2.id.2] (by kernel_rfl) (two_at rfl rfl) ?_) | ((with_reducible refine atDst 26 ?_); refine wpList_load_part _ _ rfl (by rfl) _ 3 rfl Ka0.out Tryz.underlying23 rfl #[.int .i64 m.id.1, .int .i64 m.id.2] (by kernel_rfl) (two_at rfl rfl) ?_) | ((with_reducible refine atDst 21 ?_); refine wpList_load_one _ _ rfl (by rfl) _ 2 rfl Kb0.out Tryz.underlying3 rfl (show ((msR m2 l2))[2]? = some (.int .i64 m2.dst) from rfl) ?_) | ((with_reducible refine atDst 19 ?_); refine wpList_load_one _ _ rfl (by rfl) _ 2 rfl Ka0.out Tryz.underlying3 rfl (show ((msR m l))[2]? = some (.int .i64 m.dst) from rfl) ?_) | ((with_reducible refine atDst 14 ?_); refine wpList_load_one _ _ rfl (by rfl) _ 1 rfl Kb0.out Tryz.underlying3 rfl (show ((msR m2 l2))[1]? = some (.int .i64 m2.frm) from rfl) ?_) | ((with_reducible refine atDst 12 ?_); refine wpList_load_one _ _ rfl (by rfl) _ 1 rfl Ka0.out Tryz.underlying3 rfl (show ((msR m l))[1]? = some (.int .i64 m.frm) from rfl) ?_) | ((with_reducible refine atDst 8 ?_); refine wpList_load_one _ _ rfl (by rfl) _ 0 rfl Kb0.out Tryz.underlying3 rfl (show ((msR m2 l2))[0]? = some (.int .i64 m2.kind) from rfl) ?_) | ((with_reducible refine atDst 6 ?_); refine wpList_load_one _ _ rfl (by rfl) _ 0 rfl Ka0.out Tryz.underlying3 rfl (show ((msR m l))[0]? = some (.int .i64 m.kind) from rfl) ?_))
             go_ret
             exact ⟨rfl, HB2.out⟩
           ·have hv : decide (m = m2) = false := decide_eq_false (fun e => hfast (congrArg Mg.fast e))
            rw [hv]
            clear hv
            have e1 : (m.fast == m2.fast) = false := by simpa using hfast
            have e2 : (m.fast != m2.fast) = true := by simpa using hfast
            clear hfast
            obtain ⟨w0, he0, hw0, kQa, kQb, hb0⟩ := boxes2 W (.cells (msR m l) 61) (.cells (msR m2 l2) 61)
            have Ka0 := Lib.hid kQa
            have Kb0 := Lib.hid kQb
            have HB0 := Lib.hid hb0
            have HE0 := Lib.hid he0
            clear he0 hb0 kQa kQb
            go_enter Tryz.func40, Tryz.ntmps40
            go_upto_region 1 with fail
            rw [← HE0.out]
            go_wp2_with (first | go_skip | ((with_reducible refine atDst 57 ?_); refine wpList_load_one _ _ rfl (by rfl) _ 10 rfl Kb1.out Tryz.underlying4 rfl (show ((msR m2 l2))[10]? = some (.bool m2.fast) from rfl) ?_) | ((with_reducible refine atDst 55 ?_); refine wpList_load_one _ _ rfl (by rfl) _ 10 rfl Ka1.out Tryz.underlying4 rfl (show ((msR m l))[10]? = some (.bool m.fast) from rfl) ?_) | ((with_reducible refine atC w0 ?_); go_at_call 29; refine (HO.out _ HB0.out).mono ?_; rintro e w1 ⟨rfl, h5⟩; have hw1 := Nat.le_trans hw0 h5.size; have HB1 : Hid (Below W.heap.size W w1) := Lib.hid (blThen HB0.out h5); have Ka1 := Lib.hid ((h5.block W.heap.size (by omega)).trans Ka0.out); have Kb1 := Lib.hid ((h5.block (W.heap.size + 1) (by omega)).trans Kb0.out); clear h5) | ((with_reducible refine atDst 49 ?_); refine wpList_load_one _ _ rfl (by rfl) _ 9 rfl Kb0.out Tryz.underlying24 rfl (show ((msR m2 l2))[9]? = some (l2.o) from rfl) ?_) | ((with_reducible refine atDst 47 ?_); refine wpList_load_one _ _ rfl (by rfl) _ 9 rfl Ka0.out Tryz.underlying24 rfl (show ((msR m l))[9]? = some (l.o) from rfl) ?_) | ((with_reducible refine atDst 42 ?_); refine wpList_load_part _ _ rfl (by rfl) _ 7 rfl Kb0.out Tryz.underlying23 rfl #[.int .i64 m2.at_.1, .int .i64 m2.at_.2] (by kernel_rfl) (two_at rfl rfl) ?_) | ((with_reducible refine atDst 40 ?_); refine wpList_load_part _ _ rfl (by rfl) _ 7 rfl Ka0.out Tryz.underlying23 rfl #[.int .i64 m.at_.1, .int .i64 m.at_.2] (by kernel_rfl) (two_at rfl rfl) ?_) | ((with_reducible refine atDst 35 ?_); refine wpList_load_part _ _ rfl (by rfl) _ 5 rfl Kb0.out Tryz.underlying23 rfl #[.int .i64 m2.bal.1, .int .i64 m2.bal.2] (by kernel_rfl) (two_at rfl rfl) ?_) | ((with_reducible refine atDst 33 ?_); refine wpList_load_part _ _ rfl (by rfl) _ 5 rfl Ka0.out Tryz.underlying23 rfl #[.int .i64 m.bal.1, .int .i64 m.bal.2] (by kernel_rfl) (two_at rfl rfl) ?_) | ((with_reducible refine atDst 28 ?_); refine wpList_load_part _ _ rfl (by rfl) _ 3 rfl Kb0.out Tryz.underlying23 rfl #[.int .i64 m2.id.1, .int .i64 m2.id.2] (by kernel_rfl) (two_at rfl rfl) ?_) | ((with_reducible refine atDst 26 ?_); refine wpList_load_part _ _ rfl (by rfl) _ 3 rfl Ka0.out Tryz.underlying23 rfl #[.int .i64 m.id.1, .int .i64 m.id.2] (by kernel_rfl) (two_at rfl rfl) ?_) | ((with_reducible refine atDst 21 ?_); refine wpList_load_one _ _ rfl (by rfl) _ 2 rfl Kb0.out Tryz.underlying3 rfl (show ((msR m2 l2))[2]? = some (.int .i64 m2.dst) from rfl) ?_) | ((with_reducible refine atDst 19 ?_); refine wpList_load_one _ _ rfl (by rfl) _ 2 rfl Ka0.out Tryz.underlying3 rfl (show ((msR m l))[2]? = some (.int .i64 m.dst) from rfl) ?_) | ((with_reducible refine atDst 14 ?_); refine wpList_load_one _ _ rfl (by rfl) _ 1 rfl Kb0.out Tryz.underlying3 rfl (show ((msR m2 l2))[1]? = some (.int .i64 m2.frm) from rfl) ?_) | ((with_reducible refine atDst 12 ?_); refine wpList_load_one _ _ rfl (by rfl) _ 1 rfl Ka0.out Tryz.underlying3 rfl (show ((msR m l))[1]? = some (.int .i64 m.frm) from rfl) ?_) | ((with_reducible refine atDst 8 ?_); refine wpList_load_one _ _ rfl (by rfl) _ 0 rfl Kb0.out Tryz.underlying3 rfl (show ((msR m2 l2))[0]? = some (.int .i64 m2.kind) from rfl) ?_) | ((with_reducible refine atDst 6 ?_); refine wpList_load_one _ _ rfl (by rfl) _ 0 rfl Ka0.out Tryz.underlying3 rfl (show ((msR m l))[0]? = some (.int .i64 m.kind) from rfl) ?_))
            go_ret
            exact ⟨rfl, HB1.out⟩
          ·have hv : decide (m = m2) = false := decide_eq_false (fun e => hops (congrArg Mg.ops e))
           rw [hv]
           clear hv
           rw [decide_eq_false hops] at HO
           clear hops
           obtain ⟨w0, he0, hw0, kQa, kQb, hb0⟩ := boxes2 W (.cells (msR m l) 61) (.cells (msR m2 l2) 61)
           have Ka0 := Lib.hid kQa
           have Kb0 := Lib.hid kQb
           have HB0 := Lib.hid hb0
           have HE0 := Lib.hid he0
           clear he0 hb0 kQa kQb
           go_enter Tryz.func40, Tryz.ntmps40
           go_upto_region 1 with fail
           rw [← HE0.out]
           go_wp2_with (first | go_skip | ((with_reducible refine atC w0 ?_); go_at_call 29; refine (HO.out _ HB0.out).mono ?_; rintro e w1 ⟨rfl, h5⟩; have hw1 := Nat.le_trans hw0 h5.size; have HB1 : Hid (Below W.heap.size W w1) := Lib.hid (blThen HB0.out h5); have Ka1 := Lib.hid ((h5.block W.heap.size (by omega)).trans Ka0.out); have Kb1 := Lib.hid ((h5.block (W.heap.size + 1) (by omega)).trans Kb0.out); clear h5) | ((with_reducible refine atDst 49 ?_); refine wpList_load_one _ _ rfl (by rfl) _ 9 rfl Kb0.out Tryz.underlying24 rfl (show ((msR m2 l2))[9]? = some (l2.o) from rfl) ?_) | ((with_reducible refine atDst 47 ?_); refine wpList_load_one _ _ rfl (by rfl) _ 9 rfl Ka0.out Tryz.underlying24 rfl (show ((msR m l))[9]? = some (l.o) from rfl) ?_) | ((with_reducible refine atDst 42 ?_); refine wpList_load_part _ _ rfl (by rfl) _ 7 rfl Kb0.out Tryz.underlying23 rfl #[.int .i64 m2.at_.1, .int .i64 m2.at_.2] (by kernel_rfl) (two_at rfl rfl) ?_) | ((with_reducible refine atDst 40 ?_); refine wpList_load_part _ _ rfl (by rfl) _ 7 rfl Ka0.out Tryz.underlying23 rfl #[.int .i64 m.at_.1, .int .i64 m.at_.2] (by kernel_rfl) (two_at rfl rfl) ?_) | ((with_reducible refine atDst 35 ?_); refine wpList_load_part _ _ rfl (by rfl) _ 5 rfl Kb0.out Tryz.underlying23 rfl #[.int .i64 m2.bal.1, .int .i64 m2.bal.2] (by kernel_rfl) (two_at rfl rfl) ?_) | ((with_reducible refine atDst 33 ?_); refine wpList_load_part _ _ rfl (by rfl) _ 5 rfl Ka0.out Tryz.underlying23 rfl #[.int .i64 m.bal.1, .int .i64 m.bal.2] (by kernel_rfl) (two_at rfl rfl) ?_) | ((with_reducible refine atDst 28 ?_); refine wpList_load_part _ _ rfl (by rfl) _ 3 rfl Kb0.out Tryz.underlying23 rfl #[.int .i64 m2.id.1, .int .i64 m2.id.2] (by kernel_rfl) (two_at rfl rfl) ?_) | ((with_reducible refine atDst 26 ?_); refine wpList_load_part _ _ rfl (by rfl) _ 3 rfl Ka0.out Tryz.underlying23 rfl #[.int .i64 m.id.1, .int .i64 m.id.2] (by kernel_rfl) (two_at rfl rfl) ?_) | ((with_reducible refine atDst 21 ?_); refine wpList_load_one _ _ rfl (by rfl) _ 2 rfl Kb0.out Tryz.underlying3 rfl (show ((msR m2 l2))[2]? = some (.int .i64 m2.dst) from rfl) ?_) | ((with_reducible refine atDst 19 ?_); refine wpList_load_one _ _ rfl (by rfl) _ 2 rfl Ka0.out Tryz.underlying3 rfl (show ((msR m l))[2]? = some (.int .i64 m.dst) from rfl) ?_) | ((with_reducible refine atDst 14 ?_); refine wpList_load_one _ _ rfl (by rfl) _ 1 rfl Kb0.out Tryz.underlying3 rfl (show ((msR m2 l2))[1]? = some (.int .i64 m2.frm) from rfl) ?_) | ((with_reducible refine atDst 12 ?_); refine wpList_load_one _ _ rfl (by rfl) _ 1 rfl Ka0.out Tryz.underlying3 rfl (show ((msR m l))[1]? = some (.int .i64 m.frm) from rfl) ?_) | ((with_reducible refine atDst 8 ?_); refine wpList_load_one _ _ rfl (by rfl) _ 0 rfl Kb0.out Tryz.underlying3 rfl (show ((msR m2 l2))[0]? = some (.int .i64 m2.kind) from rfl) ?_) | ((with_reducible refine atDst 6 ?_); refine wpList_load_one _ _ rfl (by rfl) _ 0 rfl Ka0.out Tryz.underlying3 rfl (show ((msR m l))[0]? = some (.int .i64 m.kind) from rfl) ?_))
           go_ret
           exact ⟨rfl, HB1.out⟩
         ·have hv : decide (m = m2) = false := decide_eq_false (fun e => hat_2 (congrArg (fun m : Mg => m.at_.2) e))
          rw [hv]
          clear hv
          have e1 : (m.at_.2 == m2.at_.2) = false := by simpa using hat_2
          have e2 : (m.at_.2 != m2.at_.2) = true := by simpa using hat_2
          clear hat_2
          obtain ⟨w0, he0, hw0, kQa, kQb, hb0⟩ := boxes2 W (.cells (msR m l) 61) (.cells (msR m2 l2) 61)
          have Ka0 := Lib.hid kQa
          have Kb0 := Lib.hid kQb
          have HB0 := Lib.hid hb0
          have HE0 := Lib.hid he0
          clear he0 hb0 kQa kQb
          go_enter Tryz.func40, Tryz.ntmps40
          go_upto_region 1 with fail
          rw [← HE0.out]
          go_wp2_with (first | go_skip | ((with_reducible refine atDst 42 ?_); refine wpList_load_part _ _ rfl (by rfl) _ 7 rfl Kb0.out Tryz.underlying23 rfl #[.int .i64 m2.at_.1, .int .i64 m2.at_.2] (by kernel_rfl) (two_at rfl rfl) ?_) | ((with_reducible refine atDst 40 ?_); refine wpList_load_part _ _ rfl (by rfl) _ 7 rfl Ka0.out Tryz.underlying23 rfl #[.int .i64 m.at_.1, .int .i64 m.at_.2] (by kernel_rfl) (two_at rfl rfl) ?_) | ((with_reducible refine atDst 35 ?_); refine wpList_load_part _ _ rfl (by rfl) _ 5 rfl Kb0.out Tryz.underlying23 rfl #[.int .i64 m2.bal.1, .int .i64 m2.bal.2] (by kernel_rfl) (two_at rfl rfl) ?_) | ((with_reducible refine atDst 33 ?_); refine wpList_load_part _ _ rfl (by rfl) _ 5 rfl Ka0.out Tryz.underlying23 rfl #[.int .i64 m.bal.1, .int .i64 m.bal.2] (by kernel_rfl) (two_at rfl rfl) ?_) | ((with_reducible refine atDst 28 ?_); refine wpList_load_part _ _ rfl (by rfl) _ 3 rfl Kb0.out Tryz.underlying23 rfl #[.int .i64 m2.id.1, .int .i64 m2.id.2] (by kernel_rfl) (two_at rfl rfl) ?_) | ((with_reducible refine atDst 26 ?_); refine wpList_load_part _ _ rfl (by rfl) _ 3 rfl Ka0.out Tryz.underlying23 rfl #[.int .i64 m.id.1, .int .i64 m.id.2] (by kernel_rfl) (two_at rfl rfl) ?_) | ((with_reducible refine atDst 21 ?_); refine wpList_load_one _ _ rfl (by rfl) _ 2 rfl Kb0.out Tryz.underlying3 rfl (show ((msR m2 l2))[2]? = some (.int .i64 m2.dst) from rfl) ?_) | ((with_reducible refine atDst 19 ?_); refine wpList_load_one _ _ rfl (by rfl) _ 2 rfl Ka0.out Tryz.underlying3 rfl (show ((msR m l))[2]? = some (.int .i64 m.dst) from rfl) ?_) | ((with_reducible refine atDst 14 ?_); refine wpList_load_one _ _ rfl (by rfl) _ 1 rfl Kb0.out Tryz.underlying3 rfl (show ((msR m2 l2))[1]? = some (.int .i64 m2.frm) from rfl) ?_) | ((with_reducible refine atDst 12 ?_); refine wpList_load_one _ _ rfl (by rfl) _ 1 rfl Ka0.out Tryz.underlying3 rfl (show ((msR m l))[1]? = some (.int .i64 m.frm) from rfl) ?_) | ((with_reducible refine atDst 8 ?_); refine wpList_load_one _ _ rfl (by rfl) _ 0 rfl Kb0.out Tryz.underlying3 rfl (show ((msR m2 l2))[0]? = some (.int .i64 m2.kind) from rfl) ?_) | ((with_reducible refine atDst 6 ?_); refine wpList_load_one _ _ rfl (by rfl) _ 0 rfl Ka0.out Tryz.underlying3 rfl (show ((msR m l))[0]? = some (.int .i64 m.kind) from rfl) ?_))
          go_ret
          exact ⟨rfl, HB0.out⟩
        ·have hv : decide (m = m2) = false := decide_eq_false (fun e => hat_1 (congrArg (fun m : Mg => m.at_.1) e))
         rw [hv]
         clear hv
         have e1 : (m.at_.1 == m2.at_.1) = false := by simpa using hat_1
         have e2 : (m.at_.1 != m2.at_.1) = true := by simpa using hat_1
         clear hat_1
         obtain ⟨w0, he0, hw0, kQa, kQb, hb0⟩ := boxes2 W (.cells (msR m l) 61) (.cells (msR m2 l2) 61)
         have Ka0 := Lib.hid kQa
         have Kb0 := Lib.hid kQb
         have HB0 := Lib.hid hb0
         have HE0 := Lib.hid he0
         clear he0 hb0 kQa kQb
         go_enter Tryz.func40, Tryz.ntmps40
         go_upto_region 1 with fail
         rw [← HE0.out]
         go_wp2_with (first | go_skip | ((with_reducible refine atDst 42 ?_); refine wpList_load_part _ _ rfl (by rfl) _ 7 rfl Kb0.out Tryz.underlying23 rfl #[.int .i64 m2.at_.1, .int .i64 m2.at_.2] (by kernel_rfl) (two_at rfl rfl) ?_) | ((with_reducible refine atDst 40 ?_); refine wpList_load_part _ _ rfl (by rfl) _ 7 rfl Ka0.out Tryz.underlying23 rfl #[.int .i64 m.at_.1, .int .i64 m.at_.2] (by kernel_rfl) (two_at rfl rfl) ?_) | ((with_reducible refine atDst 35 ?_); refine wpList_load_part _ _ rfl (by rfl) _ 5 rfl Kb0.out Tryz.underlying23 rfl #[.int .i64 m2.bal.1, .int .i64 m2.bal.2] (by kernel_rfl) (two_at rfl rfl) ?_) | ((with_reducible refine atDst 33 ?_); refine wpList_load_part _ _ rfl (by rfl) _ 5 rfl Ka0.out Tryz.underlying23 rfl #[.int .i64 m.bal.1, .int .i64 m.bal.2] (by kernel_rfl) (two_at rfl rfl) ?_) | ((with_reducible refine atDst 28 ?_); refine wpList_load_part _ _ rfl (by rfl) _ 3 rfl Kb0.out Tryz.underlying23 rfl #[.int .i64 m2.id.1, .int .i64 m2.id.2] (by kernel_rfl) (two_at rfl rfl) ?_) | ((with_reducible refine atDst 26 ?_); refine wpList_load_part _ _ rfl (by rfl) _ 3 rfl Ka0.out Tryz.underlying23 rfl #[.int .i64 m.id.1, .int .i64 m.id.2] (by kernel_rfl) (two_at rfl rfl) ?_) | ((with_reducible refine atDst 21 ?_); refine wpList_load_one _ _ rfl (by rfl) _ 2 rfl Kb0.out Tryz.underlying3 rfl (show ((msR m2 l2))[2]? = some (.int .i64 m2.dst) from rfl) ?_) | ((with_reducible refine atDst 19 ?_); refine wpList_load_one _ _ rfl (by rfl) _ 2 rfl Ka0.out Tryz.underlying3 rfl (show ((msR m l))[2]? = some (.int .i64 m.dst) from rfl) ?_) | ((with_reducible refine atDst 14 ?_); refine wpList_load_one _ _ rfl (by rfl) _ 1 rfl Kb0.out Tryz.underlying3 rfl (show ((msR m2 l2))[1]? = some (.int .i64 m2.frm) from rfl) ?_) | ((with_reducible refine atDst 12 ?_); refine wpList_load_one _ _ rfl (by rfl) _ 1 rfl Ka0.out Tryz.underlying3 rfl (show ((msR m l))[1]? = some (.int .i64 m.frm) from rfl) ?_) | ((with_reducible refine atDst 8 ?_); refine wpList_load_one _ _ rfl (by rfl) _ 0 rfl Kb0.out Tryz.underlying3 rfl (show ((msR m2 l2))[0]? = some (.int .i64 m2.kind) from rfl) ?_) | ((with_reducible refine atDst 6 ?_); refine wpList_load_one _ _ rfl (by rfl) _ 0 rfl Ka0.out Tryz.underlying3 rfl (show ((msR m l))[0]? = some (.int .i64 m.kind) from rfl) ?_))
         go_ret
         exact ⟨rfl, HB0.out⟩
       ·have hv : decide (m = m2) = false := decide_eq_false (fun e => hbal2 (congrArg (fun m : Mg => m.bal.2) e))
        rw [hv]
        clear hv
        have e1 : (m.bal.2 == m2.bal.2) = false := by simpa using hbal2
        have e2 : (m.bal.2 != m2.bal.2) = true := by simpa using hbal2
        clear hbal2
        obtain ⟨w0, he0, hw0, kQa, kQb, hb0⟩ := boxes2 W (.cells (msR m l) 61) (.cells (msR m2 l2) 61)
        have Ka0 := Lib.hid kQa
        have Kb0 := Lib.hid kQb
        have HB0 := Lib.hid hb0
        have HE0 := Lib.hid he0
        clear he0 hb0 kQa kQb
        go_enter Tryz.func40, Tryz.ntmps40
        go_upto_region 1 with fail
        rw [← HE0.out]
        go_wp2_with (first | go_skip | ((with_reducible refine atDst 35 ?_); refine wpList_load_part _ _ rfl (by rfl) _ 5 rfl Kb0.out Tryz.underlying23 rfl #[.int .i64 m2.bal.1, .int .i64 m2.bal.2] (by kernel_rfl) (two_at rfl rfl) ?_) | ((with_reducible refine atDst 33 ?_); refine wpList_load_part _ _ rfl (by rfl) _ 5 rfl Ka0.out Tryz.underlying23 rfl #[.int .i64 m.bal.1, .int .i64 m.bal.2] (by kernel_rfl) (two_at rfl rfl) ?_) | ((with_reducible refine atDst 28 ?_); refine wpList_load_part _ _ rfl (by rfl) _ 3 rfl Kb0.out Tryz.underlying23 rfl #[.int .i64 m2.id.1, .int .i64 m2.id.2] (by kernel_rfl) (two_at rfl rfl) ?_) | ((with_reducible refine atDst 26 ?_); refine wpList_load_part _ _ rfl (by rfl) _ 3 rfl Ka0.out Tryz.underlying23 rfl #[.int .i64 m.id.1, .int .i64 m.id.2] (by kernel_rfl) (two_at rfl rfl) ?_) | ((with_reducible refine atDst 21 ?_); refine wpList_load_one _ _ rfl (by rfl) _ 2 rfl Kb0.out Tryz.underlying3 rfl (show ((msR m2 l2))[2]? = some (.int .i64 m2.dst) from rfl) ?_) | ((with_reducible refine atDst 19 ?_); refine wpList_load_one _ _ rfl (by rfl) _ 2 rfl Ka0.out Tryz.underlying3 rfl (show ((msR m l))[2]? = some (.int .i64 m.dst) from rfl) ?_) | ((with_reducible refine atDst 14 ?_); refine wpList_load_one _ _ rfl (by rfl) _ 1 rfl Kb0.out Tryz.underlying3 rfl (show ((msR m2 l2))[1]? = some (.int .i64 m2.frm) from rfl) ?_) | ((with_reducible refine atDst 12 ?_); refine wpList_load_one _ _ rfl (by rfl) _ 1 rfl Ka0.out Tryz.underlying3 rfl (show ((msR m l))[1]? = some (.int .i64 m.frm) from rfl) ?_) | ((with_reducible refine atDst 8 ?_); refine wpList_load_one _ _ rfl (by rfl) _ 0 rfl Kb0.out Tryz.underlying3 rfl (show ((msR m2 l2))[0]? = some (.int .i64 m2.kind) from rfl) ?_) | ((with_reducible refine atDst 6 ?_); refine wpList_load_one _ _ rfl (by rfl) _ 0 rfl Ka0.out Tryz.underlying3 rfl (show ((msR m l))[0]? = some (.int .i64 m.kind) from rfl) ?_))
        go_ret
        exact ⟨rfl, HB0.out⟩
      ·have hv : decide (m = m2) = false := decide_eq_false (fun e => hbal1 (congrArg (fun m : Mg => m.bal.1) e))
       rw [hv]
       clear hv
       have e1 : (m.bal.1 == m2.bal.1) = false := by simpa using hbal1
       have e2 : (m.bal.1 != m2.bal.1) = true := by simpa using hbal1
       clear hbal1
       obtain ⟨w0, he0, hw0, kQa, kQb, hb0⟩ := boxes2 W (.cells (msR m l) 61) (.cells (msR m2 l2) 61)
       have Ka0 := Lib.hid kQa
       have Kb0 := Lib.hid kQb
       have HB0 := Lib.hid hb0
       have HE0 := Lib.hid he0
       clear he0 hb0 kQa kQb
       go_enter Tryz.func40, Tryz.ntmps40
       go_upto_region 1 with fail
       rw [← HE0.out]
       go_wp2_with (first | go_skip | ((with_reducible refine atDst 35 ?_); refine wpList_load_part _ _ rfl (by rfl) _ 5 rfl Kb0.out Tryz.underlying23 rfl #[.int .i64 m2.bal.1, .int .i64 m2.bal.2] (by kernel_rfl) (two_at rfl rfl) ?_) | ((with_reducible refine atDst 33 ?_); refine wpList_load_part _ _ rfl (by rfl) _ 5 rfl Ka0.out Tryz.underlying23 rfl #[.int .i64 m.bal.1, .int .i64 m.bal.2] (by kernel_rfl) (two_at rfl rfl) ?_) | ((with_reducible refine atDst 28 ?_); refine wpList_load_part _ _ rfl (by rfl) _ 3 rfl Kb0.out Tryz.underlying23 rfl #[.int .i64 m2.id.1, .int .i64 m2.id.2] (by kernel_rfl) (two_at rfl rfl) ?_) | ((with_reducible refine atDst 26 ?_); refine wpList_load_part _ _ rfl (by rfl) _ 3 rfl Ka0.out Tryz.underlying23 rfl #[.int .i64 m.id.1, .int .i64 m.id.2] (by kernel_rfl) (two_at rfl rfl) ?_) | ((with_reducible refine atDst 21 ?_); refine wpList_load_one _ _ rfl (by rfl) _ 2 rfl Kb0.out Tryz.underlying3 rfl (show ((msR m2 l2))[2]? = some (.int .i64 m2.dst) from rfl) ?_) | ((with_reducible refine atDst 19 ?_); refine wpList_load_one _ _ rfl (by rfl) _ 2 rfl Ka0.out Tryz.underlying3 rfl (show ((msR m l))[2]? = some (.int .i64 m.dst) from rfl) ?_) | ((with_reducible refine atDst 14 ?_); refine wpList_load_one _ _ rfl (by rfl) _ 1 rfl Kb0.out Tryz.underlying3 rfl (show ((msR m2 l2))[1]? = some (.int .i64 m2.frm) from rfl) ?_) | ((with_reducible refine atDst 12 ?_); refine wpList_load_one _ _ rfl (by rfl) _ 1 rfl Ka0.out Tryz.underlying3 rfl (show ((msR m l))[1]? = some (.int .i64 m.frm) from rfl) ?_) | ((with_reducible refine atDst 8 ?_); refine wpList_load_one _ _ rfl (by rfl) _ 0 rfl Kb0.out Tryz.underlying3 rfl (show ((msR m2 l2))[0]? = some (.int .i64 m2.kind) from rfl) ?_) | ((with_reducible refine atDst 6 ?_); refine wpList_load_one _ _ rfl (by rfl) _ 0 rfl Ka0.out Tryz.underlying3 rfl (show ((msR m l))[0]? = some (.int .i64 m.kind) from rfl) ?_))
       go_ret
       exact ⟨rfl, HB0.out⟩
     ·have hv : decide (m = m2) = false := decide_eq_false (fun e => hid2 (congrArg (fun m : Mg => m.id.2) e))
      rw [hv]
      clear hv
      have e1 : (m.id.2 == m2.id.2) = false := by simpa using hid2
      have e2 : (m.id.2 != m2.id.2) = true := by simpa using hid2
      clear hid2
      obtain ⟨w0, he0, hw0, kQa, kQb, hb0⟩ := boxes2 W (.cells (msR m l) 61) (.cells (msR m2 l2) 61)
      have Ka0 := Lib.hid kQa
      have Kb0 := Lib.hid kQb
      have HB0 := Lib.hid hb0
      have HE0 := Lib.hid he0
      clear he0 hb0 kQa kQb
      go_enter Tryz.func40, Tryz.ntmps40
      go_upto_region 1 with fail
      rw [← HE0.out]
      go_wp2_with (first | go_skip | ((with_reducible refine atDst 28 ?_); refine wpList_load_part _ _ rfl (by rfl) _ 3 rfl Kb0.out Tryz.underlying23 rfl #[.int .i64 m2.id.1, .int .i64 m2.id.2] (by kernel_rfl) (two_at rfl rfl) ?_) | ((with_reducible refine atDst 26 ?_); refine wpList_load_part _ _ rfl (by rfl) _ 3 rfl Ka0.out Tryz.underlying23 rfl #[.int .i64 m.id.1, .int .i64 m.id.2] (by kernel_rfl) (two_at rfl rfl) ?_) | ((with_reducible refine atDst 21 ?_); refine wpList_load_one _ _ rfl (by rfl) _ 2 rfl Kb0.out Tryz.underlying3 rfl (show ((msR m2 l2))[2]? = some (.int .i64 m2.dst) from rfl) ?_) | ((with_reducible refine atDst 19 ?_); refine wpList_load_one _ _ rfl (by rfl) _ 2 rfl Ka0.out Tryz.underlying3 rfl (show ((msR m l))[2]? = some (.int .i64 m.dst) from rfl) ?_) | ((with_reducible refine atDst 14 ?_); refine wpList_load_one _ _ rfl (by rfl) _ 1 rfl Kb0.out Tryz.underlying3 rfl (show ((msR m2 l2))[1]? = some (.int .i64 m2.frm) from rfl) ?_) | ((with_reducible refine atDst 12 ?_); refine wpList_load_one _ _ rfl (by rfl) _ 1 rfl Ka0.out Tryz.underlying3 rfl (show ((msR m l))[1]? = some (.int .i64 m.frm) from rfl) ?_) | ((with_reducible refine atDst 8 ?_); refine wpList_load_one _ _ rfl (by rfl) _ 0 rfl Kb0.out Tryz.underlying3 rfl (show ((msR m2 l2))[0]? = some (.int .i64 m2.kind) from rfl) ?_) | ((with_reducible refine atDst 6 ?_); refine wpList_load_one _ _ rfl (by rfl) _ 0 rfl Ka0.out Tryz.underlying3 rfl (show ((msR m l))[0]? = some (.int .i64 m.kind) from rfl) ?_))
      go_ret
      exact ⟨rfl, HB0.out⟩
    ·have hv : decide (m = m2) = false := decide_eq_false (fun e => hid1 (congrArg (fun m : Mg => m.id.1) e))
     rw [hv]
     clear hv
     have e1 : (m.id.1 == m2.id.1) = false := by simpa using hid1
     have e2 : (m.id.1 != m2.id.1) = true := by simpa using hid1
     clear hid1
     obtain ⟨w0, he0, hw0, kQa, kQb, hb0⟩ := boxes2 W (.cells (msR m l) 61) (.cells (msR m2 l2) 61)
     have Ka0 := Lib.hid kQa
     have Kb0 := Lib.hid kQb
     have HB0 := Lib.hid hb0
     have HE0 := Lib.hid he0
     clear he0 hb0 kQa kQb
     go_enter Tryz.func40, Tryz.ntmps40
     go_upto_region 1 with fail
     rw [← HE0.out]
     go_wp2_with (first | go_skip | ((with_reducible refine atDst 28 ?_); refine wpList_load_part _ _ rfl (by rfl) _ 3 rfl Kb0.out Tryz.underlying23 rfl #[.int .i64 m2.id.1, .int .i64 m2.id.2] (by kernel_rfl) (two_at rfl rfl) ?_) | ((with_reducible refine atDst 26 ?_); refine wpList_load_part _ _ rfl (by rfl) _ 3 rfl Ka0.out Tryz.underlying23 rfl #[.int .i64 m.id.1, .int .i64 m.id.2] (by kernel_rfl) (two_at rfl rfl) ?_) | ((with_reducible refine atDst 21 ?_); refine wpList_load_one _ _ rfl (by rfl) _ 2 rfl Kb0.out Tryz.underlying3 rfl (show ((msR m2 l2))[2]? = some (.int .i64 m2.dst) from rfl) ?_) | ((with_reducible refine atDst 19 ?_); refine wpList_load_one _ _ rfl (by rfl) _ 2 rfl Ka0.out Tryz.underlying3 rfl (show ((msR m l))[2]? = some (.int .i64 m.dst) from rfl) ?_) | ((with_reducible refine atDst 14 ?_); refine wpList_load_one _ _ rfl (by rfl) _ 1 rfl Kb0.out Tryz.underlying3 rfl (show ((msR m2 l2))[1]? = some (.int .i64 m2.frm) from rfl) ?_) | ((with_reducible refine atDst 12 ?_); refine wpList_load_one _ _ rfl (by rfl) _ 1 rfl Ka0.out Tryz.underlying3 rfl (show ((msR m l))[1]? = some (.int .i64 m.frm) from rfl) ?_) | ((with_reducible refine atDst 8 ?_); refine wpList_load_one _ _ rfl (by rfl) _ 0 rfl Kb0.out Tryz.underlying3 rfl (show ((msR m2 l2))[0]? = some (.int .i64 m2.kind) from rfl) ?_) | ((with_reducible refine atDst 6 ?_); refine wpList_load_one _ _ rfl (by rfl) _ 0 rfl Ka0.out Tryz.underlying3 rfl (show ((msR m l))[0]? = some (.int .i64 m.kind) from rfl) ?_))
     go_ret
     exact ⟨rfl, HB0.out⟩
   ·have hv : decide (m = m2) = false := decide_eq_false (fun e => hdst (congrArg Mg.dst e))
    rw [hv]
    clear hv
    have e1 : (m.dst == m2.dst) = false := by simpa using hdst
    have e2 : (m.dst != m2.dst) = true := by simpa using hdst
    clear hdst
    obtain ⟨w0, he0, hw0, kQa, kQb, hb0⟩ := boxes2 W (.cells (msR m l) 61) (.cells (msR m2 l2) 61)
    have Ka0 := Lib.hid kQa
    have Kb0 := Lib.hid kQb
    have HB0 := Lib.hid hb0
    have HE0 := Lib.hid he0
    clear he0 hb0 kQa kQb
    go_enter Tryz.func40, Tryz.ntmps40
    go_upto_region 1 with fail
    rw [← HE0.out]
    go_wp2_with (first | go_skip | ((with_reducible refine atDst 21 ?_); refine wpList_load_one _ _ rfl (by rfl) _ 2 rfl Kb0.out Tryz.underlying3 rfl (show ((msR m2 l2))[2]? = some (.int .i64 m2.dst) from rfl) ?_) | ((with_reducible refine atDst 19 ?_); refine wpList_load_one _ _ rfl (by rfl) _ 2 rfl Ka0.out Tryz.underlying3 rfl (show ((msR m l))[2]? = some (.int .i64 m.dst) from rfl) ?_) | ((with_reducible refine atDst 14 ?_); refine wpList_load_one _ _ rfl (by rfl) _ 1 rfl Kb0.out Tryz.underlying3 rfl (show ((msR m2 l2))[1]? = some (.int .i64 m2.frm) from rfl) ?_) | ((with_reducible refine atDst 12 ?_); refine wpList_load_one _ _ rfl (by rfl) _ 1 rfl Ka0.out Tryz.underlying3 rfl (show ((msR m l))[1]? = some (.int .i64 m.frm) from rfl) ?_) | ((with_reducible refine atDst 8 ?_); refine wpList_load_one _ _ rfl (by rfl) _ 0 rfl Kb0.out Tryz.underlying3 rfl (show ((msR m2 l2))[0]? = some (.int .i64 m2.kind) from rfl) ?_) | ((with_reducible refine atDst 6 ?_); refine wpList_load_one _ _ rfl (by rfl) _ 0 rfl Ka0.out Tryz.underlying3 rfl (show ((msR m l))[0]? = some (.int .i64 m.kind) from rfl) ?_))
    go_ret
    exact ⟨rfl, HB0.out⟩
  ·have hv : decide (m = m2) = false := decide_eq_false (fun e => hfrm (congrArg Mg.frm e))
   rw [hv]
   clear hv
   have e1 : (m.frm == m2.frm) = false := by simpa using hfrm
   have e2 : (m.frm != m2.frm) = true := by simpa using hfrm
   clear hfrm
   obtain ⟨w0, he0, hw0, kQa, kQb, hb0⟩ := boxes2 W (.cells (msR m l) 61) (.cells (msR m2 l2) 61)
   have Ka0 := Lib.hid kQa
   have Kb0 := Lib.hid kQb
   have HB0 := Lib.hid hb0
   have HE0 := Lib.hid he0
   clear he0 hb0 kQa kQb
   go_enter Tryz.func40, Tryz.ntmps40
   go_upto_region 1 with fail
   rw [← HE0.out]
   go_wp2_with (first | go_skip | ((with_reducible refine atDst 14 ?_); refine wpList_load_one _ _ rfl (by rfl) _ 1 rfl Kb0.out Tryz.underlying3 rfl (show ((msR m2 l2))[1]? = some (.int .i64 m2.frm) from rfl) ?_) | ((with_reducible refine atDst 12 ?_); refine wpList_load_one _ _ rfl (by rfl) _ 1 rfl Ka0.out Tryz.underlying3 rfl (show ((msR m l))[1]? = some (.int .i64 m.frm) from rfl) ?_) | ((with_reducible refine atDst 8 ?_); refine wpList_load_one _ _ rfl (by rfl) _ 0 rfl Kb0.out Tryz.underlying3 rfl (show ((msR m2 l2))[0]? = some (.int .i64 m2.kind) from rfl) ?_) | ((with_reducible refine atDst 6 ?_); refine wpList_load_one _ _ rfl (by rfl) _ 0 rfl Ka0.out Tryz.underlying3 rfl (show ((msR m l))[0]? = some (.int .i64 m.kind) from rfl) ?_))
   go_ret
   exact ⟨rfl, HB0.out⟩
 ·have hv : decide (m = m2) = false := decide_eq_false (fun e => hkind (congrArg Mg.kind e))
  rw [hv]
  clear hv
  have e1 : (m.kind == m2.kind) = false := by simpa using hkind
  have e2 : (m.kind != m2.kind) = true := by simpa using hkind
  clear hkind
  obtain ⟨w0, he0, hw0, kQa, kQb, hb0⟩ := boxes2 W (.cells (msR m l) 61) (.cells (msR m2 l2) 61)
  have Ka0 := Lib.hid kQa
  have Kb0 := Lib.hid kQb
  have HB0 := Lib.hid hb0
  have HE0 := Lib.hid he0
  clear he0 hb0 kQa kQb
  go_enter Tryz.func40, Tryz.ntmps40
  go_upto_region 1 with fail
  rw [← HE0.out]
  go_wp2_with (first | go_skip | ((with_reducible refine atDst 8 ?_); refine wpList_load_one _ _ rfl (by rfl) _ 0 rfl Kb0.out Tryz.underlying3 rfl (show ((msR m2 l2))[0]? = some (.int .i64 m2.kind) from rfl) ?_) | ((with_reducible refine atDst 6 ?_); refine wpList_load_one _ _ rfl (by rfl) _ 0 rfl Ka0.out Tryz.underlying3 rfl (show ((msR m l))[0]? = some (.int .i64 m.kind) from rfl) ?_))
  go_ret
  exact ⟨rfl, HB0.out⟩
end SI
end Go.Proofs.YtgipkikedacmdaaGreat
