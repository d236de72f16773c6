/- What CmdPlays and CmdGrows share: a command whose lists lie apart from its block. Conditions: none. -/
import Derived.WalkSpells
import Derived.Deep.RegionHeld3
import Derived.SizedLaws
import Derived.Deep.DeepCutAuto
import Derived.Test.YtgipkikedacmdaaGreatMg49
import Derived.Test.YtgipkikedacmdaaGreatMg50
import Derived.Test.YtgipkikedacmdaaGreatMg48
import Derived.Test.YtgipkikedacmdaaGreatMg22
import Derived.Test.YtgipkikedacmdaaGreatMg51
import Derived.Test.YtgipkikedacmdaaGreatMg47
import Derived.Test.YtgipkikedacmdaaGreatMg43
import Derived.Test.YtgipkikedacmdaaGreatMg17
set_option maxRecDepth 100000
set_option maxHeartbeats 16000000
set_option linter.unusedVariables false
set_option linter.unusedSimpArgs false
namespace Go.Proofs.YtgipkikedacmdaaGreat
open S3 SN SP
namespace SC
open Go.ChangeShapes Go.WideShapes Go.ChangeAt Go.RowKit Go.Joins Go.Deep
theorem load_no (c : Cm) (l : Pl) (vo : Value) (W : World) (h : CmAt W c l) (hq : ¬ (c.phase = 2 ∧ c.val.1 = false ∧ c.ready = false)) : Calls Tryz.prog 87 #[cmV c l, vo] W (RetL W c l) := by
 obtain ⟨⟨id1, id2⟩, ops, phase, ⟨p1, p2⟩, ⟨v1, v2⟩, fast, seen, ⟨b1, b2⟩, has, ⟨q1, q2⟩, ⟨gone, ⟨t1, t2⟩, deps⟩, ready, writes, pairs⟩ := c
 obtain ⟨lo, ls, ld, lw, lp⟩ := l
 try simp only at h
 obtain ⟨oa, oc, rfl⟩ := h.o.form
 obtain ⟨sa, sc, sF, rfl, _⟩ := h.s
 obtain ⟨da, dc, dF, rfl, _⟩ := h.d
 obtain ⟨wa, wc, rfl⟩ := h.w.form
 obtain ⟨pa, pc, rfl⟩ := h.p.form
 clear h
 simp only [cmV] at *
 try simp only at hq
 generalize ops.length = on at *
 generalize sF.length = sn at *
 generalize dF.length = dn at *
 generalize writes.length = wn at *
 generalize pairs.length = pn at *
 by_cases hp : phase = 2
 rotate_left
 ·have hb : ((phase == 2) = false) := by simpa using hp
  clear hq
  obtain ⟨w0, he0, hw0, kQc, kQr, hb0⟩ := boxes2 W (.cells (r22 id1 id2 (.slice oa on oc) phase p1 p2 v1 v2 fast (.slice sa sn sc) b1 b2 has q1 q2 gone t1 t2 (.slice da dn dc) ready (.slice wa wn wc) (.slice pa pn pc)) 31) (.cells z22 31)
  have Kc0 := hH kQc
  have Kr0 := hH kQr
  have HB0 := hH hb0
  have HE0 := hH he0
  clear he0 hb0 kQc kQr
  go_enter Tryz.func87, Tryz.ntmps87
  go_upto_region 1 with fail
  rw [← HE0.out]
  go_wp2_with (first | go_skip | ((with_reducible refine atW w0 ?_); refine store9 _ _ rfl (by rfl) _ rfl rfl Kr0.out rfl rfl (by simp [Value.oneCell']) ?_; intro w1 h1 h2; have Kr1 := hH h1; have hw1 := Nat.le_trans hw0 h2.size; have HB1 : Hid (Below W.heap.size W w1) := hH (below_grown9 HB0.out h2 (by omega)); clear h1 h2) | ((with_reducible refine atW w0 ?_); refine load9 _ rfl (by rfl) _ rfl Kc0.out rfl ?_) | ((with_reducible refine atW w0 ?_); refine wpList_load_one _ _ rfl (by rfl) _ 3 rfl Kc0.out Tryz.underlying3 rfl rfl ?_))
  refine bodyPost_ret (results_cell_row Tryz.results87 _ _ _ 31 _ (0, 0) _ rfl Kr1.out Tryz.underlying31 rfl szCmd) rfl ?_
  exact ⟨rfl, HB1.out⟩
 ·subst hp
  cases gone
  rotate_left
  ·clear hq
   obtain ⟨w0, he0, hw0, kQc, kQr, hb0⟩ := boxes2 W (.cells (r22 id1 id2 (.slice oa on oc) 2 p1 p2 v1 v2 fast (.slice sa sn sc) b1 b2 has q1 q2 true t1 t2 (.slice da dn dc) ready (.slice wa wn wc) (.slice pa pn pc)) 31) (.cells z22 31)
   have Kc0 := hH kQc
   have Kr0 := hH kQr
   have HB0 := hH hb0
   have HE0 := hH he0
   clear he0 hb0 kQc kQr
   go_enter Tryz.func87, Tryz.ntmps87
   go_upto_region 1 with fail
   rw [← HE0.out]
   go_wp2_with (first | go_skip | ((with_reducible refine atW w0 ?_); refine store9 _ _ rfl (by rfl) _ rfl rfl Kr0.out rfl rfl (by simp [Value.oneCell']) ?_; intro w1 h1 h2; have Kr1 := hH h1; have hw1 := Nat.le_trans hw0 h2.size; have HB1 : Hid (Below W.heap.size W w1) := hH (below_grown9 HB0.out h2 (by omega)); clear h1 h2) | ((with_reducible refine atW w0 ?_); refine load9 _ rfl (by rfl) _ rfl Kc0.out rfl ?_) | ((with_reducible refine atW w0 ?_); refine wpList_load_one _ _ rfl (by rfl) _ 15 rfl Kc0.out Tryz.underlying4 rfl rfl ?_) | ((with_reducible refine atW w0 ?_); refine wpList_load_one _ _ rfl (by rfl) _ 3 rfl Kc0.out Tryz.underlying3 rfl rfl ?_))
   refine bodyPost_ret (results_cell_row Tryz.results87 _ _ _ 31 _ (0, 0) _ rfl Kr1.out Tryz.underlying31 rfl szCmd) rfl ?_
   exact ⟨rfl, HB1.out⟩
  cases ready
  ·exact absurd ⟨rfl, rfl, rfl⟩ hq
  ·clear hq
   obtain ⟨w0, he0, hw0, kQc, kQr, hb0⟩ := boxes2 W (.cells (r22 id1 id2 (.slice oa on oc) 2 p1 p2 v1 v2 fast (.slice sa sn sc) b1 b2 has q1 q2 false t1 t2 (.slice da dn dc) true (.slice wa wn wc) (.slice pa pn pc)) 31) (.cells z22 31)
   have Kc0 := hH kQc
   have Kr0 := hH kQr
   have HB0 := hH hb0
   have HE0 := hH he0
   clear he0 hb0 kQc kQr
   go_enter Tryz.func87, Tryz.ntmps87
   go_upto_region 1 with fail
   rw [← HE0.out]
   go_wp2_with (first | go_skip | ((with_reducible refine atW w0 ?_); refine store9 _ _ rfl (by rfl) _ rfl rfl Kr0.out rfl rfl (by simp [Value.oneCell']) ?_; intro w1 h1 h2; have Kr1 := hH h1; have hw1 := Nat.le_trans hw0 h2.size; have HB1 : Hid (Below W.heap.size W w1) := hH (below_grown9 HB0.out h2 (by omega)); clear h1 h2) | ((with_reducible refine atW w0 ?_); refine load9 _ rfl (by rfl) _ rfl Kc0.out rfl ?_) | ((with_reducible refine atW w0 ?_); refine wpList_load_one _ _ rfl (by rfl) _ 19 rfl Kc0.out Tryz.underlying4 rfl rfl ?_) | ((with_reducible refine atW w0 ?_); refine wpList_load_one _ _ rfl (by rfl) _ 15 rfl Kc0.out Tryz.underlying4 rfl rfl ?_) | ((with_reducible refine atW w0 ?_); refine wpList_load_one _ _ rfl (by rfl) _ 3 rfl Kc0.out Tryz.underlying3 rfl rfl ?_))
   refine bodyPost_ret (results_cell_row Tryz.results87 _ _ _ 31 _ (0, 0) _ rfl Kr1.out Tryz.underlying31 rfl szCmd) rfl ?_
   exact ⟨rfl, HB1.out⟩
def RetLoad9 (W : World) (c : Cm) (l : Pl) (po : List Wrt) (e : Ending) (w' : World) : Prop := ∃ nw, e = .returned (cmV c ⟨l.o, l.s, l.d, nw, l.p⟩) ∧ OwnG eW 84 w' W.heap.size nw po ∧ Below W.heap.size W w'
theorem load_yes (c : Cm) (l : Pl) (po : List Wrt) (vo : Value) (W : World) (h : CmAt W c l) (hpn : po.length ≤ 1000000) (hpo : SlG eW W vo po) (hc : c.phase = 2 ∧ c.val.1 = false ∧ c.ready = false) : Calls Tryz.prog 87 #[cmV c l, vo] W (RetLoad9 W (loaC c po) l po) := by
 have HCL := hH (fun (Y : World) (hY : Below W.heap.size W Y) => cloneW_any vo po Y hpn (hpo.later hY))
 obtain ⟨poa, poc, rfl⟩ := hpo.form
 clear hpo hpn
 rw [show loaC c po = _ from if_pos hc]
 obtain ⟨⟨id1, id2⟩, ops, phase, ⟨p1, p2⟩, ⟨v1, v2⟩, fast, seen, ⟨b1, b2⟩, has, ⟨q1, q2⟩, ⟨gone, ⟨t1, t2⟩, deps⟩, ready, writes, pairs⟩ := c
 obtain ⟨lo, ls, ld, lw, lp⟩ := l
 try simp only at h
 obtain ⟨oa, oc, rfl⟩ := h.o.form
 obtain ⟨sa, sc, sF, rfl, _⟩ := h.s
 obtain ⟨da, dc, dF, rfl, _⟩ := h.d
 obtain ⟨wa, wc, rfl⟩ := h.w.form
 obtain ⟨pa, pc, rfl⟩ := h.p.form
 clear h
 simp only [cmV] at *
 try simp only at hc
 generalize ops.length = on at *
 generalize sF.length = sn at *
 generalize dF.length = dn at *
 generalize writes.length = wn at *
 generalize pairs.length = pn at *
 obtain ⟨rfl, rfl, rfl⟩ := hc
 obtain ⟨w0, he0, hw0, kQc, kQr, hb0⟩ := boxes2 W (.cells (r22 id1 id2 (.slice oa on oc) 2 p1 p2 v1 v2 fast (.slice sa sn sc) b1 b2 has q1 q2 false t1 t2 (.slice da dn dc) false (.slice wa wn wc) (.slice pa pn pc)) 31) (.cells z22 31)
 have Kc0 := hH kQc
 have Kr0 := hH kQr
 have HB0 := hH hb0
 have HE0 := hH he0
 clear he0 hb0 kQc kQr
 go_enter Tryz.func87, Tryz.ntmps87
 go_upto_region 1 with fail
 rw [← HE0.out]
 go_wp2_with (first | go_skip | ((with_reducible refine atW w3 ?_); refine store9 _ _ rfl (by rfl) _ rfl rfl Kr3.out rfl rfl (by simp [Value.oneCell']) ?_; intro w4 h1 h2; have Kr4 := hH h1; have hw4 := Nat.le_trans hw3 h2.size; have HB4 : Hid (Below W.heap.size W w4) := hH (below_grown9 HB3.out h2 (by omega)); have HR4 := hH (OwnG.kept HR3.out h2 (.inl (fun e => by have := (HR3.out.block _ e).1; omega))); clear h1 h2) | ((with_reducible refine atW w3 ?_); refine load9 _ rfl (by rfl) _ rfl Kc3.out rfl ?_) | ((with_reducible refine atW w2 ?_); refine wpList_store_part _ _ _ rfl (by rfl) _ 20 rfl rfl (cs := #[.slice na po.length nc]) rfl Kc2.out (by kernel_rfl) (by simp) (by simp [Value.oneCell']) (D := (r22 id1 id2 (.slice oa on oc) 2 p1 p2 v1 v2 fast (.slice sa sn sc) b1 b2 has q1 q2 false t1 t2 (.slice da dn dc) true (.slice na po.length nc) (.slice pa pn pc))) rfl ?_; intro w3 h1 h2; have Kc3 := hH h1; have hw3 := Nat.le_trans hw2 h2.size; have HB3 : Hid (Below W.heap.size W w3) := hH (below_grown9 HB2.out h2 (by omega)); have Kr3 := hH (grown_other9 Kr2.out h2 (by omega) (by omega)); have HR3 := hH (OwnG.kept HR2.out h2 (.inl (fun e => by have := (HR2.out.block _ e).1; omega))); clear h1 h2) | ((with_reducible refine atW w1 ?_); refine wpList_store_part _ _ _ rfl (by rfl) _ 19 rfl rfl (cs := #[.bool true]) rfl Kc1.out (by kernel_rfl) (by simp) (by simp [Value.oneCell']) (D := (r22 id1 id2 (.slice oa on oc) 2 p1 p2 v1 v2 fast (.slice sa sn sc) b1 b2 has q1 q2 false t1 t2 (.slice da dn dc) true (.slice wa wn wc) (.slice pa pn pc))) rfl ?_; intro w2 h1 h2; have Kc2 := hH h1; have hw2 := Nat.le_trans hw1 h2.size; have HB2 : Hid (Below W.heap.size W w2) := hH (below_grown9 HB1.out h2 (by omega)); have Kr2 := hH (grown_other9 Kr1.out h2 (by omega) (by omega)); have HR2 := hH (OwnG.kept HR1.out h2 (.inl (fun e => by have := (HR1.out.block _ e).1; omega))); clear h1 h2) | ((with_reducible refine atC w0 ?_); go_at_call 155; refine (HCL.out _ HB0.out).mono ?_; rintro e w1 ⟨vq, rfl, hq, h5⟩; have hw1 := Nat.le_trans hw0 h5.size; have HB1 : Hid (Below W.heap.size W w1) := hH (blThen HB0.out h5); have Kc1 := hH ((h5.block W.heap.size (by omega)).trans Kc0.out); have Kr1 := hH ((h5.block (W.heap.size + 1) (by omega)).trans Kr0.out); obtain ⟨na, nc, rfl⟩ := hq.sl.form; have HR1 := hH hq; clear h5 hq) | ((with_reducible refine atW w0 ?_); refine wpList_load_one _ _ rfl (by rfl) _ 19 rfl Kc0.out Tryz.underlying4 rfl rfl ?_) | ((with_reducible refine atW w0 ?_); refine wpList_load_one _ _ rfl (by rfl) _ 15 rfl Kc0.out Tryz.underlying4 rfl rfl ?_) | ((with_reducible refine atW w0 ?_); refine wpList_load_one _ _ rfl (by rfl) _ 3 rfl Kc0.out Tryz.underlying3 rfl rfl ?_))
 refine bodyPost_ret (results_cell_row Tryz.results87 _ _ _ 31 _ (0, 0) _ rfl Kr4.out Tryz.underlying31 rfl szCmd) rfl ?_
 exact ⟨.slice na po.length nc, rfl, OwnG.mono HR4.out (Nat.le_trans (Nat.le_add_right _ _) hw0), HB4.out⟩
theorem done_no (c : Cm) (l : Pl) (vo : Value) (W : World) (h : CmAt W c l) (hq : ¬ (c.phase = 2 ∧ c.ready = true)) : Calls Tryz.prog 88 #[cmV c l, vo] W (RetL W c l) := by
 obtain ⟨⟨id1, id2⟩, ops, phase, ⟨p1, p2⟩, ⟨v1, v2⟩, fast, seen, ⟨b1, b2⟩, has, ⟨q1, q2⟩, ⟨gone, ⟨t1, t2⟩, deps⟩, ready, writes, pairs⟩ := c
 obtain ⟨lo, ls, ld, lw, lp⟩ := l
 try simp only at h
 obtain ⟨oa, oc, rfl⟩ := h.o.form
 obtain ⟨sa, sc, sF, rfl, _⟩ := h.s
 obtain ⟨da, dc, dF, rfl, _⟩ := h.d
 obtain ⟨wa, wc, rfl⟩ := h.w.form
 obtain ⟨pa, pc, rfl⟩ := h.p.form
 clear h
 simp only [cmV] at *
 try simp only at hq
 generalize ops.length = on at *
 generalize sF.length = sn at *
 generalize dF.length = dn at *
 generalize writes.length = wn at *
 generalize pairs.length = pn at *
 by_cases hp : phase = 2
 rotate_left
 ·have hb : ((phase == 2) = false) := by simpa using hp
  clear hq
  obtain ⟨w0, he0, hw0, kQc, kQr, hb0⟩ := boxes2 W (.cells (r22 id1 id2 (.slice oa on oc) phase p1 p2 v1 v2 fast (.slice sa sn sc) b1 b2 has q1 q2 gone t1 t2 (.slice da dn dc) ready (.slice wa wn wc) (.slice pa pn pc)) 31) (.cells z22 31)
  have Kc0 := hH kQc
  have Kr0 := hH kQr
  have HB0 := hH hb0
  have HE0 := hH he0
  clear he0 hb0 kQc kQr
  go_enter Tryz.func88, Tryz.ntmps88
  go_upto_region 1 with fail
  rw [← HE0.out]
  go_wp2_with (first | go_skip | ((with_reducible refine atW w0 ?_); refine store9 _ _ rfl (by rfl) _ rfl rfl Kr0.out rfl rfl (by simp [Value.oneCell']) ?_; intro w1 h1 h2; have Kr1 := hH h1; have hw1 := Nat.le_trans hw0 h2.size; have HB1 : Hid (Below W.heap.size W w1) := hH (below_grown9 HB0.out h2 (by omega)); clear h1 h2) | ((with_reducible refine atW w0 ?_); refine load9 _ rfl (by rfl) _ rfl Kc0.out rfl ?_) | ((with_reducible refine atW w0 ?_); refine wpList_load_one _ _ rfl (by rfl) _ 3 rfl Kc0.out Tryz.underlying3 rfl rfl ?_))
  refine bodyPost_ret (results_cell_row Tryz.results88 _ _ _ 31 _ (0, 0) _ rfl Kr1.out Tryz.underlying31 rfl szCmd) rfl ?_
  exact ⟨rfl, HB1.out⟩
 ·subst hp
  cases ready
  ·clear hq
   obtain ⟨w0, he0, hw0, kQc, kQr, hb0⟩ := boxes2 W (.cells (r22 id1 id2 (.slice oa on oc) 2 p1 p2 v1 v2 fast (.slice sa sn sc) b1 b2 has q1 q2 gone t1 t2 (.slice da dn dc) false (.slice wa wn wc) (.slice pa pn pc)) 31) (.cells z22 31)
   have Kc0 := hH kQc
   have Kr0 := hH kQr
   have HB0 := hH hb0
   have HE0 := hH he0
   clear he0 hb0 kQc kQr
   go_enter Tryz.func88, Tryz.ntmps88
   go_upto_region 1 with fail
   rw [← HE0.out]
   go_wp2_with (first | go_skip | ((with_reducible refine atW w0 ?_); refine store9 _ _ rfl (by rfl) _ rfl rfl Kr0.out rfl rfl (by simp [Value.oneCell']) ?_; intro w1 h1 h2; have Kr1 := hH h1; have hw1 := Nat.le_trans hw0 h2.size; have HB1 : Hid (Below W.heap.size W w1) := hH (below_grown9 HB0.out h2 (by omega)); clear h1 h2) | ((with_reducible refine atW w0 ?_); refine load9 _ rfl (by rfl) _ rfl Kc0.out rfl ?_) | ((with_reducible refine atW w0 ?_); refine wpList_load_one _ _ rfl (by rfl) _ 19 rfl Kc0.out Tryz.underlying4 rfl rfl ?_) | ((with_reducible refine atW w0 ?_); refine wpList_load_one _ _ rfl (by rfl) _ 3 rfl Kc0.out Tryz.underlying3 rfl rfl ?_))
   refine bodyPost_ret (results_cell_row Tryz.results88 _ _ _ 31 _ (0, 0) _ rfl Kr1.out Tryz.underlying31 rfl szCmd) rfl ?_
   exact ⟨rfl, HB1.out⟩
  ·exact absurd ⟨rfl, rfl⟩ hq
def RetDone9 (W : World) (c : Cm) (l : Pl) (po : Al Nat) (e : Ending) (w' : World) : Prop := ∃ nw, e = .returned (cmV c ⟨l.o, l.s, l.d, l.w, nw⟩) ∧ OwnG eP 86 w' W.heap.size nw po ∧ Below W.heap.size W w'
theorem done_yes (c : Cm) (l : Pl) (po : Al Nat) (vo : Value) (W : World) (h : CmAt W c l) (hpn : po.length ≤ 1000000) (hpo : SlG eP W vo po) (hc : c.phase = 2 ∧ c.ready = true) : Calls Tryz.prog 88 #[cmV c l, vo] W (RetDone9 W (donC c po) l po) := by
 have HCL := hH (fun (Y : World) (hY : Below W.heap.size W Y) => cloneP_any vo po Y hpn (hpo.later hY))
 obtain ⟨poa, poc, rfl⟩ := hpo.form
 clear hpo hpn
 rw [show donC c po = _ from if_pos hc]
 obtain ⟨⟨id1, id2⟩, ops, phase, ⟨p1, p2⟩, ⟨v1, v2⟩, fast, seen, ⟨b1, b2⟩, has, ⟨q1, q2⟩, ⟨gone, ⟨t1, t2⟩, deps⟩, ready, writes, pairs⟩ := c
 obtain ⟨lo, ls, ld, lw, lp⟩ := l
 try simp only at h
 obtain ⟨oa, oc, rfl⟩ := h.o.form
 obtain ⟨sa, sc, sF, rfl, _⟩ := h.s
 obtain ⟨da, dc, dF, rfl, _⟩ := h.d
 obtain ⟨wa, wc, rfl⟩ := h.w.form
 obtain ⟨pa, pc, rfl⟩ := h.p.form
 clear h
 simp only [cmV] at *
 try simp only at hc
 generalize ops.length = on at *
 generalize sF.length = sn at *
 generalize dF.length = dn at *
 generalize writes.length = wn at *
 generalize pairs.length = pn at *
 obtain ⟨rfl, rfl⟩ := hc
 obtain ⟨w0, he0, hw0, kQc, kQr, hb0⟩ := boxes2 W (.cells (r22 id1 id2 (.slice oa on oc) 2 p1 p2 v1 v2 fast (.slice sa sn sc) b1 b2 has q1 q2 gone t1 t2 (.slice da dn dc) true (.slice wa wn wc) (.slice pa pn pc)) 31) (.cells z22 31)
 have Kc0 := hH kQc
 have Kr0 := hH kQr
 have HB0 := hH hb0
 have HE0 := hH he0
 clear he0 hb0 kQc kQr
 go_enter Tryz.func88, Tryz.ntmps88
 go_upto_region 1 with fail
 rw [← HE0.out]
 go_wp2_with (first | go_skip | ((with_reducible refine atW w3 ?_); refine store9 _ _ rfl (by rfl) _ rfl rfl Kr3.out rfl rfl (by simp [Value.oneCell']) ?_; intro w4 h1 h2; have Kr4 := hH h1; have hw4 := Nat.le_trans hw3 h2.size; have HB4 : Hid (Below W.heap.size W w4) := hH (below_grown9 HB3.out h2 (by omega)); have HR4 := hH (OwnG.kept HR3.out h2 (.inl (fun e => by have := (HR3.out.block _ e).1; omega))); clear h1 h2) | ((with_reducible refine atW w3 ?_); refine load9 _ rfl (by rfl) _ rfl Kc3.out rfl ?_) | ((with_reducible refine atW w2 ?_); refine wpList_store_part _ _ _ rfl (by rfl) _ 21 rfl rfl (cs := #[.slice na po.length nc]) rfl Kc2.out (by kernel_rfl) (by simp) (by simp [Value.oneCell']) (D := (r22 id1 id2 (.slice oa on oc) 3 p1 p2 v1 v2 fast (.slice sa sn sc) b1 b2 has q1 q2 gone t1 t2 (.slice da dn dc) true (.slice wa wn wc) (.slice na po.length nc))) rfl ?_; intro w3 h1 h2; have Kc3 := hH h1; have hw3 := Nat.le_trans hw2 h2.size; have HB3 : Hid (Below W.heap.size W w3) := hH (below_grown9 HB2.out h2 (by omega)); have Kr3 := hH (grown_other9 Kr2.out h2 (by omega) (by omega)); have HR3 := hH (OwnG.kept HR2.out h2 (.inl (fun e => by have := (HR2.out.block _ e).1; omega))); clear h1 h2) | ((with_reducible refine atW w1 ?_); refine wpList_store_part _ _ _ rfl (by rfl) _ 3 rfl rfl (cs := #[.int .i64 3]) rfl Kc1.out (by kernel_rfl) (by simp) (by simp [Value.oneCell']) (D := (r22 id1 id2 (.slice oa on oc) 3 p1 p2 v1 v2 fast (.slice sa sn sc) b1 b2 has q1 q2 gone t1 t2 (.slice da dn dc) true (.slice wa wn wc) (.slice pa pn pc))) rfl ?_; intro w2 h1 h2; have Kc2 := hH h1; have hw2 := Nat.le_trans hw1 h2.size; have HB2 : Hid (Below W.heap.size W w2) := hH (below_grown9 HB1.out h2 (by omega)); have Kr2 := hH (grown_other9 Kr1.out h2 (by omega) (by omega)); have HR2 := hH (OwnG.kept HR1.out h2 (.inl (fun e => by have := (HR1.out.block _ e).1; omega))); clear h1 h2) | ((with_reducible refine atC w0 ?_); go_at_call 156; refine (HCL.out _ HB0.out).mono ?_; rintro e w1 ⟨vq, rfl, hq, h5⟩; have hw1 := Nat.le_trans hw0 h5.size; have HB1 : Hid (Below W.heap.size W w1) := hH (blThen HB0.out h5); have Kc1 := hH ((h5.block W.heap.size (by omega)).trans Kc0.out); have Kr1 := hH ((h5.block (W.heap.size + 1) (by omega)).trans Kr0.out); obtain ⟨na, nc, rfl⟩ := hq.sl.form; have HR1 := hH hq; clear h5 hq) | ((with_reducible refine atW w0 ?_); refine wpList_load_one _ _ rfl (by rfl) _ 19 rfl Kc0.out Tryz.underlying4 rfl rfl ?_) | ((with_reducible refine atW w0 ?_); refine wpList_load_one _ _ rfl (by rfl) _ 3 rfl Kc0.out Tryz.underlying3 rfl rfl ?_))
 refine bodyPost_ret (results_cell_row Tryz.results88 _ _ _ 31 _ (0, 0) _ rfl Kr4.out Tryz.underlying31 rfl szCmd) rfl ?_
 exact ⟨.slice na po.length nc, rfl, OwnG.mono HR4.out (Nat.le_trans (Nat.le_add_right _ _) hw0), HB4.out⟩

theorem witness_seen (c : Cm) (l : Pl) (vo vs : Value) (vote_ : Stp) (fast_ : Bool) (W : World) (h : CmAt W c l) (ho : c.ops ≠ []) : Calls Tryz.prog 85 #[cmV c l, vo, .agg #[.int .i64 vote_.1, .int .i64 vote_.2], .bool fast_, vs] W (RetL W c l) := by
 have HD := hH (fun (Y : World) => isDecided_any c l Y)
 have HH := hH (fun (Y : World) (hY : Below W.heap.size W Y) => hasOps_any c l Y (h.later hY))
 obtain ⟨x, y⟩ := vote_
 obtain ⟨⟨id1, id2⟩, ops, phase, ⟨p1, p2⟩, ⟨v1, v2⟩, fast, seen, ⟨b1, b2⟩, has, ⟨q1, q2⟩, ⟨gone, ⟨t1, t2⟩, deps⟩, ready, writes, pairs⟩ := c
 obtain ⟨lo, ls, ld, lw, lp⟩ := l
 try simp only at h
 obtain ⟨oa, oc, rfl⟩ := h.o.form
 obtain ⟨sa, sc, sF, rfl, _⟩ := h.s
 obtain ⟨da, dc, dF, rfl, _⟩ := h.d
 obtain ⟨wa, wc, rfl⟩ := h.w.form
 obtain ⟨pa, pc, rfl⟩ := h.p.form
 clear h
 simp only [cmV] at *
 try simp only at hq ho
 have HON : Hid (ops.length = 0 ↔ ops = []) := List.length_eq_zero_iff
 generalize ops.length = on at *
 generalize sF.length = sn at *
 generalize dF.length = dn at *
 generalize writes.length = wn at *
 generalize pairs.length = pn at *
 simp only [decide_eq_false ho, Bool.not_false] at HH
 clear ho HON
 obtain ⟨w0, he0, hw0, kQc, kQt, kQr, hb0⟩ := boxes3 W (.cells (r22 id1 id2 (.slice oa on oc) phase p1 p2 v1 v2 fast (.slice sa sn sc) b1 b2 has q1 q2 gone t1 t2 (.slice da dn dc) ready (.slice wa wn wc) (.slice pa pn pc)) 31) (.cells #[.int .i64 x, .int .i64 y] 23) (.cells z22 31)
 have Kc0 := hH kQc
 have Kr0 := hH kQr
 have HB0 := hH hb0
 have HE0 := hH he0
 clear he0 hb0 kQc kQt kQr
 go_enter Tryz.func85, Tryz.ntmps85
 go_upto_region 1 with fail
 rw [← HE0.out]
 go_wp2_with (first | go_skip | ((with_reducible refine atW w1 ?_); refine store9 _ _ rfl (by rfl) _ rfl rfl Kr1.out rfl rfl (by simp [Value.oneCell']) ?_; intro w2 h1 h2; have Kr2 := hH h1; have hw2 := Nat.le_trans hw1 h2.size; have HB2 : Hid (Below W.heap.size W w2) := hH (below_grown9 HB1.out h2 (by omega)); clear h1 h2) | ((with_reducible refine atW w1 ?_); refine load9 _ rfl (by rfl) _ rfl Kc1.out rfl ?_) | ((with_reducible refine atC w0 ?_); go_at_call 121; refine (HH.out _ HB0.out).mono ?_; rintro e w1 ⟨rfl, h5⟩; have hw1 := Nat.le_trans hw0 h5.size; have HB1 : Hid (Below W.heap.size W w1) := hH (blThen HB0.out h5); have Kc1 := hH ((h5.block W.heap.size (by omega)).trans Kc0.out); have Kr1 := hH ((h5.block (W.heap.size + 2) (by omega)).trans Kr0.out); clear h5) | ((with_reducible refine atW w0 ?_); refine load9 _ rfl (by rfl) _ rfl Kc0.out rfl ?_))
 refine bodyPost_ret (results_cell_row Tryz.results85 _ _ _ 31 _ (0, 0) _ rfl Kr2.out Tryz.underlying31 rfl szCmd) rfl ?_
 exact ⟨rfl, HB2.out⟩
theorem witness_dec (c : Cm) (l : Pl) (vo vs : Value) (vote_ : Stp) (fast_ : Bool) (W : World) (h : CmAt W c l) (ho : c.ops = []) (hq : decB c = true) : Calls Tryz.prog 85 #[cmV c l, vo, .agg #[.int .i64 vote_.1, .int .i64 vote_.2], .bool fast_, vs] W (RetL W c l) := by
 have HD := hH (fun (Y : World) => isDecided_any c l Y)
 have HH := hH (fun (Y : World) (hY : Below W.heap.size W Y) => hasOps_any c l Y (h.later hY))
 obtain ⟨x, y⟩ := vote_
 obtain ⟨⟨id1, id2⟩, ops, phase, ⟨p1, p2⟩, ⟨v1, v2⟩, fast, seen, ⟨b1, b2⟩, has, ⟨q1, q2⟩, ⟨gone, ⟨t1, t2⟩, deps⟩, ready, writes, pairs⟩ := c
 obtain ⟨lo, ls, ld, lw, lp⟩ := l
 try simp only at h
 obtain ⟨oa, oc, rfl⟩ := h.o.form
 obtain ⟨sa, sc, sF, rfl, _⟩ := h.s
 obtain ⟨da, dc, dF, rfl, _⟩ := h.d
 obtain ⟨wa, wc, rfl⟩ := h.w.form
 obtain ⟨pa, pc, rfl⟩ := h.p.form
 clear h
 simp only [cmV] at *
 try simp only at hq ho
 have HON : Hid (ops.length = 0 ↔ ops = []) := List.length_eq_zero_iff
 generalize ops.length = on at *
 generalize sF.length = sn at *
 generalize dF.length = dn at *
 generalize writes.length = wn at *
 generalize pairs.length = pn at *
 subst ho
 obtain rfl : on = 0 := HON.out.2 rfl
 clear HON
 simp only [decide_true, Bool.not_true] at HH
 rw [hq] at HD
 clear hq
 obtain ⟨w0, he0, hw0, kQc, kQt, kQr, hb0⟩ := boxes3 W (.cells (r22 id1 id2 (.slice oa 0 oc) phase p1 p2 v1 v2 fast (.slice sa sn sc) b1 b2 has q1 q2 gone t1 t2 (.slice da dn dc) ready (.slice wa wn wc) (.slice pa pn pc)) 31) (.cells #[.int .i64 x, .int .i64 y] 23) (.cells z22 31)
 have Kc0 := hH kQc
 have Kr0 := hH kQr
 have HB0 := hH hb0
 have HE0 := hH he0
 clear he0 hb0 kQc kQt kQr
 go_enter Tryz.func85, Tryz.ntmps85
 go_upto_region 1 with fail
 rw [← HE0.out]
 go_wp2_with (first | go_skip | ((with_reducible refine atW w2 ?_); refine store9 _ _ rfl (by rfl) _ rfl rfl Kr2.out rfl rfl (by simp [Value.oneCell']) ?_; intro w3 h1 h2; have Kr3 := hH h1; have hw3 := Nat.le_trans hw2 h2.size; have HB3 : Hid (Below W.heap.size W w3) := hH (below_grown9 HB2.out h2 (by omega)); clear h1 h2) | ((with_reducible refine atW w2 ?_); refine load9 _ rfl (by rfl) _ rfl Kc2.out rfl ?_) | ((with_reducible refine atC w1 ?_); go_at_call 119; refine (HD.out _).mono ?_; rintro e w2 ⟨rfl, h5⟩; have hw2 := Nat.le_trans hw1 h5.size; have HB2 : Hid (Below W.heap.size W w2) := hH (blThen HB1.out h5); have Kc2 := hH ((h5.block W.heap.size (by omega)).trans Kc1.out); have Kr2 := hH ((h5.block (W.heap.size + 2) (by omega)).trans Kr1.out); clear h5) | ((with_reducible refine atW w1 ?_); refine load9 _ rfl (by rfl) _ rfl Kc1.out rfl ?_) | ((with_reducible refine atC w0 ?_); go_at_call 121; refine (HH.out _ HB0.out).mono ?_; rintro e w1 ⟨rfl, h5⟩; have hw1 := Nat.le_trans hw0 h5.size; have HB1 : Hid (Below W.heap.size W w1) := hH (blThen HB0.out h5); have Kc1 := hH ((h5.block W.heap.size (by omega)).trans Kc0.out); have Kr1 := hH ((h5.block (W.heap.size + 2) (by omega)).trans Kr0.out); clear h5) | ((with_reducible refine atW w0 ?_); refine load9 _ rfl (by rfl) _ rfl Kc0.out rfl ?_))
 refine bodyPost_ret (results_cell_row Tryz.results85 _ _ _ 31 _ (0, 0) _ rfl Kr3.out Tryz.underlying31 rfl szCmd) rfl ?_
 exact ⟨rfl, HB3.out⟩
def RetWi (W : World) (c : Cm) (l : Pl) (vo : Value) (sd : SD.Dd) (e : Ending) (w' : World) : Prop := ∃ ns, e = .returned (cmV c ⟨vo, ns, l.d, l.w, l.p⟩) ∧ DlO W.heap.size w' ns sd ∧ Below W.heap.size W w'
theorem witness_new (c : Cm) (l : Pl) (po : List Opr) (vo : Value) (vote_ : Stp) (fast_ : Bool) (sd : SD.Dd) (vs : Value) (W : World) (h : CmAt W c l) (ho : c.ops = []) (hdec : decB c = false) (hpo : SlG eO W vo po) (hsd : DlV W vs sd) (hfw : FewV sd) (hwf : ∀ x ∈ sd, ∀ i ∈ x.2, SD.WfT i) : Calls Tryz.prog 85 #[cmV c l, vo, .agg #[.int .i64 vote_.1, .int .i64 vote_.2], .bool fast_, vs] W (RetWi W (witC c po vote_ fast_ sd) l vo sd) := by
 have HD := hH (fun (Y : World) => isDecided_any c l Y)
 rw [hdec] at HD
 have HH := hH (fun (Y : World) (hY : Below W.heap.size W Y) => hasOps_any c l Y (h.later hY))
 rw [ho, decide_eq_true (rfl : ([] : List Opr) = [])] at HH
 simp only [Bool.not_true] at HH
 have HCV : Hid (witC c po vote_ fast_ sd = ⟨c.id, po, 1, c.prom, vote_, fast_, sd, c.bound, c.has, c.ballot, c.val, c.ready, c.writes, c.pairs⟩) := hH (by unfold witC; rw [if_neg (by rw [ho, hdec]; decide)])
 rw [HCV.out]
 clear HCV hdec
 obtain ⟨x, y⟩ := vote_
 obtain ⟨poa, poc, rfl⟩ := hpo.form
 clear hpo
 obtain ⟨qa, qc, qF, rfl, hq1, hq2, hq3⟩ := hsd
 have HWO := hH (fun (Y : World) (hY : Below W.heap.size W Y) => SD.pwithoutO_any qa qc qF none 0 [] Y (few_v hq2 hfw).1 (hq1.later hY) (fun s hs i hi => hwf (s.sh, s.ids) (by rw [← hq2]; exact List.mem_map.2 ⟨s, hs, rfl⟩) i hi) (by decide) (fun e => absurd rfl e) (by simp))
 rw [SD.without_nil, hq2] at HWO
 simp only [List.length_nil] at HWO
 clear hq1 hq2 hq3
 generalize qF.length = qn at *
 obtain ⟨⟨id1, id2⟩, ops, phase, ⟨p1, p2⟩, ⟨v1, v2⟩, fast, seen, ⟨b1, b2⟩, has, ⟨q1, q2⟩, ⟨gone, ⟨t1, t2⟩, deps⟩, ready, writes, pairs⟩ := c
 obtain ⟨lo, ls, ld, lw, lp⟩ := l
 try simp only at h
 obtain ⟨oa, oc, rfl⟩ := h.o.form
 obtain ⟨sa, sc, sF, rfl, _⟩ := h.s
 obtain ⟨da, dc, dF, rfl, _⟩ := h.d
 obtain ⟨wa, wc, rfl⟩ := h.w.form
 obtain ⟨pa, pc, rfl⟩ := h.p.form
 clear h
 simp only [cmV] at *
 try simp only at ho
 have HON : Hid (ops.length = 0 ↔ ops = []) := List.length_eq_zero_iff
 generalize ops.length = on at *
 generalize sF.length = sn at *
 generalize dF.length = dn at *
 generalize writes.length = wn at *
 generalize pairs.length = pn at *
 subst ho
 obtain rfl : on = 0 := HON.out.2 rfl
 clear HON
 obtain ⟨w0, he0, hw0, kQc, kQt, kQr, hb0⟩ := boxes3 W (.cells (r22 id1 id2 (.slice oa 0 oc) phase p1 p2 v1 v2 fast (.slice sa sn sc) b1 b2 has q1 q2 gone t1 t2 (.slice da dn dc) ready (.slice wa wn wc) (.slice pa pn pc)) 31) (.cells #[.int .i64 x, .int .i64 y] 23) (.cells z22 31)
 have Kc0 := hH kQc
 have Kt0 := hH kQt
 have Kr0 := hH kQr
 have HB0 := hH hb0
 have HE0 := hH he0
 clear he0 hb0 kQc kQt kQr
 go_enter Tryz.func85, Tryz.ntmps85
 go_upto_region 1 with fail
 rw [← HE0.out]
 go_upto_region 4 with (first | go_skip | ((with_reducible refine atW w2 ?_); refine wpList_store_part _ _ _ rfl (by rfl) _ 3 rfl rfl (cs := #[.int .i64 1]) rfl Kc2.out (by kernel_rfl) (by simp) (by simp [Value.oneCell']) (D := (r22 id1 id2 (.slice oa 0 oc) 1 p1 p2 v1 v2 fast (.slice sa sn sc) b1 b2 has q1 q2 gone t1 t2 (.slice da dn dc) ready (.slice wa wn wc) (.slice pa pn pc))) rfl ?_; intro w3 h1 h2; have Kc3 := hH h1; have hw3 := Nat.le_trans hw2 h2.size; have HB3 : Hid (Below W.heap.size W w3) := hH (below_grown9 HB2.out h2 (by omega)); have Kt3 := hH (grown_other9 Kt2.out h2 (by omega) (by omega)); have Kr3 := hH (grown_other9 Kr2.out h2 (by omega) (by omega)); clear h1 h2) | ((with_reducible refine atC w1 ?_); go_at_call 119; refine (HD.out _).mono ?_; rintro e w2 ⟨rfl, h5⟩; have hw2 := Nat.le_trans hw1 h5.size; have HB2 : Hid (Below W.heap.size W w2) := hH (blThen HB1.out h5); have Kc2 := hH ((h5.block W.heap.size (by omega)).trans Kc1.out); have Kt2 := hH ((h5.block (W.heap.size + 1) (by omega)).trans Kt1.out); have Kr2 := hH ((h5.block (W.heap.size + 2) (by omega)).trans Kr1.out); clear h5) | ((with_reducible refine atW w1 ?_); refine load9 _ rfl (by rfl) _ rfl Kc1.out rfl ?_) | ((with_reducible refine atC w0 ?_); go_at_call 121; refine (HH.out _ HB0.out).mono ?_; rintro e w1 ⟨rfl, h5⟩; have hw1 := Nat.le_trans hw0 h5.size; have HB1 : Hid (Below W.heap.size W w1) := hH (blThen HB0.out h5); have Kc1 := hH ((h5.block W.heap.size (by omega)).trans Kc0.out); have Kt1 := hH ((h5.block (W.heap.size + 1) (by omega)).trans Kt0.out); have Kr1 := hH ((h5.block (W.heap.size + 2) (by omega)).trans Kr0.out); clear h5) | ((with_reducible refine atW w0 ?_); refine load9 _ rfl (by rfl) _ rfl Kc0.out rfl ?_))
 refine wp_region_held_drew (S := fun Y => Y.cell? ⟨(W.heap.size + 1), 0, none⟩ = some (.int .i64 x) ∧ Y.cell? ⟨(W.heap.size + 1), 1, none⟩ = some (.int .i64 y)) (by kernel_rfl) (⟨cell_row Kt3.out 0 _ rfl, cell_row Kt3.out 1 _ rfl⟩) (fun hHeld => ?_)
 have Kc4 : Hid (w3.drew.heap[W.heap.size]? = some (.cells (r22 id1 id2 (.slice oa 0 oc) 1 p1 p2 v1 v2 fast (.slice sa sn sc) b1 b2 has q1 q2 gone t1 t2 (.slice da dn dc) ready (.slice wa wn wc) (.slice pa pn pc)) 31 (0, 0))) := Kc3.out
 have Kt4 : Hid (w3.drew.heap[(W.heap.size + 1)]? = some (.cells #[.int .i64 x, .int .i64 y] 23 (0, 0))) := Kt3.out
 have Kr4 : Hid (w3.drew.heap[(W.heap.size + 2)]? = some (.cells z22 31 (0, 0))) := Kr3.out
 have HB4 : Hid (Below W.heap.size W w3.drew) := hH HB3.out.drew
 have hw4 : W.heap.size + 3 ≤ w3.drew.heap.size := hw3
 generalize w3.drew = w4 at *
 refine wpAnyH_take (i := 0) (oi := ⟨_, _, _, _, _, _⟩) (v := ?_) rfl (by kernel_rfl) (by kernel_rfl) (by kernel_rfl) (fun _ _ _ h => h) (Or.inl ⟨by rfl, ?_⟩) (by assumption) ?_
 rotate_left
 ·intro w hSw
  try dsimp only at hSw
  go_simp
  try with_reducible rfl
 try simp only [Act.put, sA9, sZ9, sS9]
 refine wpAnyH_take (i := 1) (oi := ⟨_, _, _, _, _, _⟩) (v := ?_) rfl (by kernel_rfl) (by kernel_rfl) (by kernel_rfl) (fun _ _ _ h => h) (Or.inl ⟨by rfl, ?_⟩) (by assumption) ?_
 rotate_left
 ·intro w hSw
  try dsimp only at hSw
  go_simp
  try with_reducible rfl
 try simp only [Act.put, sA9, sZ9, sS9]
 refine wpAnyH_take (i := 2) (oi := ⟨_, _, _, _, _, _⟩) (v := ?_) rfl (by kernel_rfl) (by kernel_rfl) (by kernel_rfl) (fun _ _ _ h => h) (Or.inl ⟨by rfl, ?_⟩) (by assumption) ?_
 rotate_left
 ·intro w hSw
  try dsimp only at hSw
  go_simp
  try with_reducible rfl
 try simp only [Act.put, sA9, sZ9, sS9]
 refine wpAnyH_take (i := 3) (oi := ⟨_, _, _, _, _, _⟩) (v := ?_) rfl (by kernel_rfl) (by kernel_rfl) (by kernel_rfl) (fun _ _ _ h => h) (Or.inl ⟨by rfl, ?_⟩) (by assumption) ?_
 rotate_left
 ·intro w hSw
  try dsimp only at hSw
  go_simp
  try with_reducible rfl
 try simp only [Act.put, sA9, sZ9, sS9]
 refine wpAnyH_ready (rs := [4]) (by kernel_rfl) (by simp) ?_
 refine AllReadyH.cons (o := ⟨_, _, _, _, _, _⟩) rfl (fun K hK => ?_) ?_
 rotate_left
 ·exact AllReadyH.nil
 refine wp_store_part _ _ _ rfl _ 2 rfl rfl (cs := #[.slice poa po.length poc]) rfl Kc4.out (by kernel_rfl) (by simp) (by simp [Value.oneCell']) (D := (r22 id1 id2 (.slice poa po.length poc) 1 p1 p2 v1 v2 fast (.slice sa sn sc) b1 b2 has q1 q2 gone t1 t2 (.slice da dn dc) ready (.slice wa wn wc) (.slice pa pn pc))) rfl ?_
 intro w5 h1 h2
 have Kc5 := hH h1; have hw5 := Nat.le_trans hw4 h2.size; have HB5 : Hid (Below W.heap.size W w5) := hH (below_grown9 HB4.out h2 (by omega)); have Kt5 := hH (grown_other9 Kt4.out h2 (by omega) (by omega)); have Kr5 := hH (grown_other9 Kr4.out h2 (by omega) (by omega)); clear h1 h2
 refine hK.out _ _ (⟨cell_row Kt5.out 0 _ rfl, cell_row Kt5.out 1 _ rfl⟩) (fun hHeld => ?_)
 clear hK K
 try simp only [Act.put, sA9, sZ9, sS9]
 refine wpAnyH_take (i := 5) (oi := ⟨_, _, _, _, _, _⟩) (v := ?_) rfl (by kernel_rfl) (by kernel_rfl) (by kernel_rfl) (fun _ _ _ h => h) (Or.inl ⟨by rfl, ?_⟩) (by assumption) ?_
 rotate_left
 ·intro w hSw
  try dsimp only at hSw
  go_simp
  try with_reducible rfl
 try simp only [Act.put, sA9, sZ9, sS9]
 refine wpAnyH_ready (rs := [6]) (by kernel_rfl) (by simp) ?_
 refine AllReadyH.cons (o := ⟨_, _, _, _, _, _⟩) rfl (fun K hK => ?_) ?_
 rotate_left
 ·exact AllReadyH.nil
 refine wp_store_part _ _ _ rfl _ 6 rfl rfl (cs := #[.int .i64 x, .int .i64 y]) rfl Kc5.out (by kernel_rfl) (by simp) (by simp [Value.oneCell']) (D := (r22 id1 id2 (.slice poa po.length poc) 1 p1 p2 x y fast (.slice sa sn sc) b1 b2 has q1 q2 gone t1 t2 (.slice da dn dc) ready (.slice wa wn wc) (.slice pa pn pc))) rfl ?_
 intro w6 h1 h2
 have Kc6 := hH h1; have hw6 := Nat.le_trans hw5 h2.size; have HB6 : Hid (Below W.heap.size W w6) := hH (below_grown9 HB5.out h2 (by omega)); have Kt6 := hH (grown_other9 Kt5.out h2 (by omega) (by omega)); have Kr6 := hH (grown_other9 Kr5.out h2 (by omega) (by omega)); clear h1 h2
 refine hK.out _ _ (⟨cell_row Kt6.out 0 _ rfl, cell_row Kt6.out 1 _ rfl⟩) (fun hHeld => ?_)
 clear hK K
 try simp only [Act.put, sA9, sZ9, sS9]
 refine wpAnyH_take (i := 7) (oi := ⟨_, _, _, _, _, _⟩) (v := ?_) rfl (by kernel_rfl) (by kernel_rfl) (by kernel_rfl) (fun _ _ _ h => h) (Or.inl ⟨by rfl, ?_⟩) (by assumption) ?_
 rotate_left
 ·intro w hSw
  try dsimp only at hSw
  go_simp
  try with_reducible rfl
 try simp only [Act.put, sA9, sZ9, sS9]
 refine wpAnyH_ready (rs := [8]) (by kernel_rfl) (by simp) ?_
 refine AllReadyH.cons (o := ⟨_, _, _, _, _, _⟩) rfl (fun K hK => ?_) ?_
 rotate_left
 ·exact AllReadyH.nil
 refine wp_store_part _ _ _ rfl _ 8 rfl rfl (cs := #[.bool fast_]) rfl Kc6.out (by kernel_rfl) (by simp) (by simp [Value.oneCell']) (D := (r22 id1 id2 (.slice poa po.length poc) 1 p1 p2 x y fast_ (.slice sa sn sc) b1 b2 has q1 q2 gone t1 t2 (.slice da dn dc) ready (.slice wa wn wc) (.slice pa pn pc))) rfl ?_
 intro w7 h1 h2
 have Kc7 := hH h1; have hw7 := Nat.le_trans hw6 h2.size; have HB7 : Hid (Below W.heap.size W w7) := hH (below_grown9 HB6.out h2 (by omega)); have Kt7 := hH (grown_other9 Kt6.out h2 (by omega) (by omega)); have Kr7 := hH (grown_other9 Kr6.out h2 (by omega) (by omega)); clear h1 h2
 refine hK.out _ _ (⟨cell_row Kt7.out 0 _ rfl, cell_row Kt7.out 1 _ rfl⟩) (fun hHeld => ?_)
 clear hK K
 try simp only [Act.put, sA9, sZ9, sS9]
 refine wpAnyH_done (by kernel_rfl) ?_ _
 go_wp2_with (first | go_skip | ((with_reducible refine atW w9 ?_); refine store9 _ _ rfl (by rfl) _ rfl rfl Kr9.out rfl rfl (by simp [Value.oneCell']) ?_; intro w10 h1 h2; have Kr10 := hH h1; have hw10 := Nat.le_trans hw9 h2.size; have HB10 : Hid (Below W.heap.size W w10) := hH (below_grown9 HB9.out h2 (by omega)); have HD10 := hH (SD.dl_kept HD9.out HN4.out.1 HN4.out.2 h2 (by omega)); clear h1 h2) | ((with_reducible refine atW w9 ?_); refine load9 _ rfl (by rfl) _ rfl Kc9.out rfl ?_) | ((with_reducible refine atW w8 ?_); refine wpList_store_part _ _ _ rfl (by rfl) _ 9 rfl rfl (cs := #[.slice na nF.length nc]) rfl Kc8.out (by kernel_rfl) (by simp) (by simp [Value.oneCell']) (D := (r22 id1 id2 (.slice poa po.length poc) 1 p1 p2 x y fast_ (.slice na nF.length nc) b1 b2 has q1 q2 gone t1 t2 (.slice da dn dc) ready (.slice wa wn wc) (.slice pa pn pc))) rfl ?_; intro w9 h1 h2; have Kc9 := hH h1; have hw9 := Nat.le_trans hw8 h2.size; have HB9 : Hid (Below W.heap.size W w9) := hH (below_grown9 HB8.out h2 (by omega)); have Kr9 := hH (grown_other9 Kr8.out h2 (by omega) (by omega)); have HD9 := hH (SD.dl_kept HD8.out HN4.out.1 HN4.out.2 h2 (by omega)); clear h1 h2) | ((with_reducible refine atC w7 ?_); go_at_call 154; refine (HWO.out _ HB7.out).mono ?_; intro e w8 h; unfold SD.RetDO at h; obtain ⟨na, nc, nF, rfl, h1, h2, h3, h4, h6, h5⟩ := h; have hw8 := Nat.le_trans hw7 h5.size; have HB8 : Hid (Below W.heap.size W w8) := hH (blThen HB7.out h5); have Kc8 := hH ((h5.block W.heap.size (by omega)).trans Kc7.out); have Kr8 := hH ((h5.block (W.heap.size + 2) (by omega)).trans Kr7.out); have HN1 := hH h1; have HN4 := hH (And.intro h4 h6); have HN3 := hH h3; have HD8 := hH h2; clear h1 h2 h3 h4 h5 h6))
 refine bodyPost_ret (results_cell_row Tryz.results85 _ _ _ 31 _ (0, 0) _ rfl Kr10.out Tryz.underlying31 rfl szCmd) rfl ?_
 exact ⟨.slice na nF.length nc, rfl, ⟨na, nc, nF, rfl, HD10.out, HN1.out, HN3.out, fun b o e => Nat.le_trans (by omega) (HN4.out.1 b o e), fun s hs b o e => Nat.le_trans (by omega) (HN4.out.2 s hs b o e)⟩, HB10.out⟩

def acV (x : Act9) (l : Pl) : Value := .agg #[.int .i64 x.kind, l.o, .int .i64 x.a.1, .int .i64 x.a.2, .int .i64 x.b.1, .int .i64 x.b.2, .bool x.fast, l.s, .bool x.val.1, .int .i64 x.val.2.1.1, .int .i64 x.val.2.1.2, l.d, l.w, l.p]
structure AcAt (W : World) (x : Act9) (l : Pl) : Prop where
 o : SlG eO W l.o x.ops
 s : DlV W l.s x.deps
 d : DlV W l.d x.val.2.2
 w : SlG eW W l.w x.writes
 p : SlG eP W l.p x.pairs
theorem AcAt.later {W X : World} {c : Act9} {l : Pl} (h : AcAt W c l) (hb : Below W.heap.size W X) : AcAt X c l := ⟨h.o.later hb, h.s.later hb, h.d.later hb, h.w.later hb, h.p.later hb⟩
def CmS (S : Nat → Prop) (w : World) (c : Cm) (l : Pl) : Prop := ∀ w2, S2.Keeps S w w2 → CmAt w2 c l
def AcS (S : Nat → Prop) (w : World) (x : Act9) (l : Pl) : Prop := ∀ w2, S2.Keeps S w w2 → AcAt w2 x l
theorem CmS.at {S : Nat → Prop} {w : World} {c : Cm} {l : Pl} (h : CmS S w c l) : CmAt w c l := h w (S2.Keeps.refl _ _)
theorem CmS.next {S : Nat → Prop} {w x : World} {c : Cm} {l : Pl} (h : CmS S w c l) (hb : Below w.heap.size w x) : CmS S x c l := fun w2 k => h w2 ((S2.Keeps.ofBelow hb).then k)
theorem AcS.next {S : Nat → Prop} {w x : World} {c : Act9} {l : Pl} (h : AcS S w c l) (hb : Below w.heap.size w x) : AcS S x c l := fun w2 k => h w2 ((S2.Keeps.ofBelow hb).then k)
def RetCS (S : Nat → Prop) (W : World) (c : Cm) (b : Bool) (e : Ending) (w' : World) : Prop := ∃ l, e = .returned (.tuple #[cmV c l, .bool b]) ∧ CmS S w' c l ∧ Below W.heap.size W w'
theorem ownG_kpS {α : Type} {E : Enc α} {T : TypeId} {S : Nat → Prop} {w w2 : World} {base : Nat} {v : Value} {d : List α} (h : OwnG E T w base v d) (k : S2.Keeps S w w2) (hS : ∀ b, S b → b < base) : OwnG E T w2 base v d := by
 obtain ⟨h1, h2 | ⟨g, cap, cur, rfl, hgb, hh, rest⟩⟩ := h
 ·exact ⟨h1, .inl h2⟩
 ·exact ⟨h1, .inr ⟨g, cap, cur, rfl, hgb, (k.block g (lt_of_block hh) (fun hs => absurd (hS g hs) (Nat.not_lt_of_le hgb))).trans hh, rest⟩⟩
theorem cm_forms {W : World} {c : Cm} {l : Pl} (h : CmAt W c l) : ∃ (a : Option Addr) (n k : Nat) (a2 : Option Addr) (n2 k2 : Nat) (a3 : Option Addr) (n3 k3 : Nat) (a4 : Option Addr) (n4 k4 : Nat) (a5 : Option Addr) (n5 k5 : Nat), l = ⟨.slice a n k, .slice a2 n2 k2, .slice a3 n3 k3, .slice a4 n4 k4, .slice a5 n5 k5⟩ := by
 obtain ⟨lo, ls, ld, lw, lp⟩ := l
 obtain ⟨a, k, rfl⟩ := h.o.form
 obtain ⟨a2, k2, F2, rfl, _⟩ := h.s
 obtain ⟨a3, k3, F3, rfl, _⟩ := h.d
 obtain ⟨a4, k4, rfl⟩ := h.w.form
 obtain ⟨a5, k5, rfl⟩ := h.p.form
 exact ⟨_, _, _, _, _, _, _, _, _, _, _, _, _, _, _, rfl⟩
theorem ac_forms {W : World} {c : Act9} {l : Pl} (h : AcAt W c l) : ∃ (a : Option Addr) (n k : Nat) (a2 : Option Addr) (n2 k2 : Nat) (a3 : Option Addr) (n3 k3 : Nat) (a4 : Option Addr) (n4 k4 : Nat) (a5 : Option Addr) (n5 k5 : Nat), l = ⟨.slice a n k, .slice a2 n2 k2, .slice a3 n3 k3, .slice a4 n4 k4, .slice a5 n5 k5⟩ := by
 obtain ⟨lo, ls, ld, lw, lp⟩ := l
 obtain ⟨a, k, rfl⟩ := h.o.form
 obtain ⟨a2, k2, F2, rfl, _⟩ := h.s
 obtain ⟨a3, k3, F3, rfl, _⟩ := h.d
 obtain ⟨a4, k4, rfl⟩ := h.w.form
 obtain ⟨a5, k5, rfl⟩ := h.p.form
 exact ⟨_, _, _, _, _, _, _, _, _, _, _, _, _, _, _, rfl⟩
theorem act_0 (c : Cm) {x : Act9} (h : x.kind = 0) : actC c x = witC c x.ops x.b x.fast x.deps ∧ actB c x = true := by unfold actC actB; simp [h]
theorem act_1 (c : Cm) {x : Act9} (h : x.kind = 1) : actC c x = proC c x.a ∧ actB c x = proB c x.a := by unfold actC actB; simp [h]
theorem act_2 (c : Cm) {x : Act9} (h : x.kind = 2) : actC c x = binC c x.a x.b ∧ actB c x = proB c x.a := by unfold actC actB; simp [h]
theorem act_3 (c : Cm) {x : Act9} (h : x.kind = 3) : actC c x = accC c x.a x.val ∧ actB c x = proB c x.a := by unfold actC actB; simp [h]
theorem act_4 (c : Cm) {x : Act9} (h : x.kind = 4) : actC c x = deciC c x.ops x.val ∧ actB c x = true := by unfold actC actB; simp [h]
theorem act_5 (c : Cm) {x : Act9} (h : x.kind = 5) : actC c x = loaC c x.writes ∧ actB c x = true := by unfold actC actB; simp [h]
theorem act_6 (c : Cm) {x : Act9} (h : x.kind = 6) : actC c x = donC c x.pairs ∧ actB c x = true := by unfold actC actB; simp [h]
theorem act_7 (c : Cm) {x : Act9} (h0 : x.kind ≠ 0) (h1 : x.kind ≠ 1) (h2 : x.kind ≠ 2) (h3 : x.kind ≠ 3) (h4 : x.kind ≠ 4) (h5 : x.kind ≠ 5) (h6 : x.kind ≠ 6) : actC c x = c ∧ actB c x = true := by unfold actC actB; simp [h0, h1, h2, h3, h4, h5, h6]
theorem acc_at {W : World} {c : Cm} {l : Pl} {b : Stp} {v : Vlu} {vd : Value} (h : CmAt W c l) (hd : DlV W vd v.2.2) : CmAt W (accC c b v) (if proB c b = true then { l with d := vd } else l) := by
 unfold accC
 split
 ·exact ⟨h.o, h.s, hd, h.w, h.p⟩
 ·exact h
theorem pro_at {W : World} {c : Cm} {l : Pl} (b : Stp) (h : CmAt W c l) : CmAt W (proC c b) l := by
 unfold proC
 split
 ·exact ⟨h.o, h.s, h.d, h.w, h.p⟩
 ·exact h
theorem bin_at {W : World} {c : Cm} {l : Pl} (b at_ : Stp) (h : CmAt W c l) : CmAt W (binC c b at_) l := by
 unfold binC
 split
 ·exact ⟨h.o, h.s, h.d, h.w, h.p⟩
 ·exact h
theorem wit_at {W : World} {c : Cm} {l : Pl} {po : List Opr} {vo vs : Value} {vote : Stp} {fast : Bool} {sd : SD.Dd} (ho : c.ops = []) (hd : decB c = false) (h : CmAt W c l) (hp : SlG eO W vo po) (hs : DlV W vs sd) : CmAt W (witC c po vote fast sd) ⟨vo, vs, l.d, l.w, l.p⟩ := by
 unfold witC
 rw [if_neg (by rw [ho, hd]; decide)]
 exact ⟨hp, hs, h.d, h.w, h.p⟩
theorem loa_at {W : World} {c : Cm} {l : Pl} {po : List Wrt} {nw : Value} (hq : c.phase = 2 ∧ c.val.1 = false ∧ c.ready = false) (h : CmAt W c l) (hp : SlG eW W nw po) : CmAt W (loaC c po) ⟨l.o, l.s, l.d, nw, l.p⟩ := by
 unfold loaC
 rw [if_pos hq]
 exact ⟨h.o, h.s, h.d, hp, h.p⟩
theorem don_at {W : World} {c : Cm} {l : Pl} {po : Al Nat} {nw : Value} (hq : c.phase = 2 ∧ c.ready = true) (h : CmAt W c l) (hp : SlG eP W nw po) : CmAt W (donC c po) ⟨l.o, l.s, l.d, l.w, nw⟩ := by
 unfold donC
 rw [if_pos hq]
 exact ⟨h.o, h.s, h.d, h.w, hp⟩
theorem wit_no {c : Cm} (h : c.ops ≠ [] ∨ decB c = true) (po : List Opr) (vote : Stp) (fast : Bool) (sd : SD.Dd) : witC c po vote fast sd = c := by
 unfold witC
 rw [if_pos]
 rcases h with h | h
 ·rw [decide_eq_false h]; rfl
 ·rw [h, Bool.or_true]
theorem does9_any (c : Cm) (l : Pl) (x : Act9) (m : Pl) (W : World) (S : Nat → Prop) (hS : ∀ b, S b → b < W.heap.size) (h : CmS S W c l) (hx : AcS S W x m) (hfw : FewV x.deps) (hwf : ∀ y ∈ x.deps, ∀ i ∈ y.2, SD.WfT i) (hnw : x.writes.length ≤ 1000000) (hnp : x.pairs.length ≤ 1000000) : Calls Tryz.prog 26 #[cmV c l, acV x m] W (RetCS S W (actC c x) (actB c x)) := by
 have h0 := h.at
 have hx0 := hx W (S2.Keeps.refl _ _)
 have HCAT := hH h0
 have HXAT := hH hx0
 have HCS := hH h
 have HSS := hH hS
 by_cases hk : x.kind = 0
 ·by_cases ho : c.ops = []
  rotate_left
  ·have hw : c.ops ≠ [] ∨ decB c = true := .inl ho
   rw [(act_0 c hk).1, (act_0 c hk).2]
   obtain ⟨cq, hcq⟩ : ∃ q_, q_ = witC c x.ops x.b x.fast x.deps := ⟨_, rfl⟩
   obtain ⟨pq, hpq⟩ : ∃ q_, q_ = l := ⟨_, rfl⟩
   have HATS : Hid (CmS S W cq pq) := hH (fun w2 k => by rw [hcq, hpq]; exact by rw [wit_no hw]; exact (h w2 k))
   have HAT := hH HATS.out.at
   have HC : Hid (∀ Y : World, Below W.heap.size W Y → Calls Tryz.prog 85 #[cmV c l, m.o, .agg #[.int .i64 x.b.1, .int .i64 x.b.2], .bool x.fast, m.s] Y (RetL Y cq pq)) := hH (fun Y hY => by rw [hcq, hpq]; exact by rw [wit_no hw]; exact witness_seen c l m.o m.s x.b x.fast Y (h0.later hY) ho)
   rw [← hcq]
   clear hcq hpq h hx h0 hx0
   obtain ⟨oa, on, oc, sa, sn, sc, da, dn, dc, wa, wn, wc, pa, pn, pc, rfl⟩ := cm_forms HCAT.out
   obtain ⟨xoa, xon, xoc, xsa, xsn, xsc, xda, xdn, xdc, xwa, xwn, xwc, xpa, xpn, xpc, rfl⟩ := ac_forms HXAT.out
   obtain ⟨⟨id1, id2⟩, ops, phase, ⟨p1, p2⟩, ⟨v1, v2⟩, fast, seen, ⟨b1, b2⟩, has, ⟨q1, q2⟩, ⟨gone, ⟨t1, t2⟩, deps⟩, ready, writes, pairs⟩ := c
   obtain ⟨kind, aops, ⟨a1, a2⟩, ⟨y1, y2⟩, xf, adeps, ⟨xg, ⟨u1, u2⟩, avd⟩, awr, apr⟩ := x
   obtain ⟨qoa, qon, qoc, qsa, qsn, qsc, qda, qdn, qdc, qwa, qwn, qwc, qpa, qpn, qpc, rfl⟩ := cm_forms HAT.out
   try simp only at HC
   simp only [cmV, acV, vlV] at *
   try simp only at hk
   subst hk
   obtain ⟨w0, he0, hw0, kQc, kQa, kQr, hb0⟩ := boxes3 W (.cells (r22 id1 id2 (.slice oa on oc) phase p1 p2 v1 v2 fast (.slice sa sn sc) b1 b2 has q1 q2 gone t1 t2 (.slice da dn dc) ready (.slice wa wn wc) (.slice pa pn pc)) 31) (.cells #[.int .i64 0, .slice xoa xon xoc, .int .i64 a1, .int .i64 a2, .int .i64 y1, .int .i64 y2, .bool xf, .slice xsa xsn xsc, .bool xg, .int .i64 u1, .int .i64 u2, .slice xda xdn xdc, .slice xwa xwn xwc, .slice xpa xpn xpc] 53) (.cells z22 31)
   have Kc0 := hH kQc
   have Ka0 := hH kQa
   have Kr0 := hH kQr
   have HB0 := hH hb0
   have HE0 := hH he0
   clear he0 hb0 kQc kQa kQr
   go_enter Tryz.func26, Tryz.ntmps26
   go_upto_region 1 with fail
   rw [← HE0.out]
   go_wp2_with (first | go_skip | ((with_reducible refine atW w1 ?_); refine store9 _ _ rfl (by rfl) _ rfl rfl Kr1.out rfl rfl (by simp [Value.oneCell']) ?_; intro w2 h1 h2; have Kr2 := hH h1; have hw2 := Nat.le_trans hw1 h2.size; have HB2 : Hid (Below W.heap.size W w2) := hH (below_grown9 HB1.out h2 (by omega)); clear h1 h2) | ((with_reducible refine atC w0 ?_); go_at_call 85; refine (HC.out _ HB0.out).mono ?_; intro e w1 h; unfold RetL at h; obtain ⟨rfl, h5⟩ := h; simp only [cmV]; have hw1 := Nat.le_trans hw0 h5.size; have HB1 : Hid (Below W.heap.size W w1) := hH (blThen HB0.out h5); have Kr1 := hH ((h5.block (W.heap.size + 2) (by omega)).trans Kr0.out); clear h5) | ((with_reducible refine atW w0 ?_); refine wpList_load_one _ _ rfl (by rfl) _ 7 rfl Ka0.out Tryz.underlying25 rfl rfl ?_) | ((with_reducible refine atW w0 ?_); refine wpList_load_one _ _ rfl (by rfl) _ 6 rfl Ka0.out Tryz.underlying4 rfl rfl ?_) | ((with_reducible refine atW w0 ?_); refine wpList_load_part _ _ rfl (by rfl) _ 4 rfl Ka0.out Tryz.underlying23 rfl #[.int .i64 y1, .int .i64 y2] (by kernel_rfl) (two_at rfl rfl) ?_) | ((with_reducible refine atW w0 ?_); refine wpList_load_one _ _ rfl (by rfl) _ 1 rfl Ka0.out Tryz.underlying24 rfl rfl ?_) | ((with_reducible refine atW w0 ?_); refine load9 _ rfl (by rfl) _ rfl Kc0.out rfl ?_) | ((with_reducible refine atW w0 ?_); refine wpList_load_one _ _ rfl (by rfl) _ 0 rfl Ka0.out Tryz.underlying3 rfl rfl ?_))
   refine bodyPost_ret (results_cell_tmp9 Tryz.results26 _ _ _ 31 _ (0, 0) _ rfl Kr2.out Tryz.underlying31 rfl szCmd) rfl ?_
   exact ⟨⟨.slice qoa qon qoc, .slice qsa qsn qsc, .slice qda qdn qdc, .slice qwa qwn qwc, .slice qpa qpn qpc⟩, rfl, HATS.out.next HB2.out, HB2.out⟩
  cases hd : decB c
  rotate_left
  ·have hw : c.ops ≠ [] ∨ decB c = true := .inr hd
   rw [(act_0 c hk).1, (act_0 c hk).2]
   obtain ⟨cq, hcq⟩ : ∃ q_, q_ = witC c x.ops x.b x.fast x.deps := ⟨_, rfl⟩
   obtain ⟨pq, hpq⟩ : ∃ q_, q_ = l := ⟨_, rfl⟩
   have HATS : Hid (CmS S W cq pq) := hH (fun w2 k => by rw [hcq, hpq]; exact by rw [wit_no hw]; exact (h w2 k))
   have HAT := hH HATS.out.at
   have HC : Hid (∀ Y : World, Below W.heap.size W Y → Calls Tryz.prog 85 #[cmV c l, m.o, .agg #[.int .i64 x.b.1, .int .i64 x.b.2], .bool x.fast, m.s] Y (RetL Y cq pq)) := hH (fun Y hY => by rw [hcq, hpq]; exact by rw [wit_no hw]; exact witness_dec c l m.o m.s x.b x.fast Y (h0.later hY) ho hd)
   rw [← hcq]
   clear hcq hpq h hx h0 hx0
   obtain ⟨oa, on, oc, sa, sn, sc, da, dn, dc, wa, wn, wc, pa, pn, pc, rfl⟩ := cm_forms HCAT.out
   obtain ⟨xoa, xon, xoc, xsa, xsn, xsc, xda, xdn, xdc, xwa, xwn, xwc, xpa, xpn, xpc, rfl⟩ := ac_forms HXAT.out
   obtain ⟨⟨id1, id2⟩, ops, phase, ⟨p1, p2⟩, ⟨v1, v2⟩, fast, seen, ⟨b1, b2⟩, has, ⟨q1, q2⟩, ⟨gone, ⟨t1, t2⟩, deps⟩, ready, writes, pairs⟩ := c
   obtain ⟨kind, aops, ⟨a1, a2⟩, ⟨y1, y2⟩, xf, adeps, ⟨xg, ⟨u1, u2⟩, avd⟩, awr, apr⟩ := x
   obtain ⟨qoa, qon, qoc, qsa, qsn, qsc, qda, qdn, qdc, qwa, qwn, qwc, qpa, qpn, qpc, rfl⟩ := cm_forms HAT.out
   try simp only at HC
   simp only [cmV, acV, vlV] at *
   try simp only at hk
   subst hk
   obtain ⟨w0, he0, hw0, kQc, kQa, kQr, hb0⟩ := boxes3 W (.cells (r22 id1 id2 (.slice oa on oc) phase p1 p2 v1 v2 fast (.slice sa sn sc) b1 b2 has q1 q2 gone t1 t2 (.slice da dn dc) ready (.slice wa wn wc) (.slice pa pn pc)) 31) (.cells #[.int .i64 0, .slice xoa xon xoc, .int .i64 a1, .int .i64 a2, .int .i64 y1, .int .i64 y2, .bool xf, .slice xsa xsn xsc, .bool xg, .int .i64 u1, .int .i64 u2, .slice xda xdn xdc, .slice xwa xwn xwc, .slice xpa xpn xpc] 53) (.cells z22 31)
   have Kc0 := hH kQc
   have Ka0 := hH kQa
   have Kr0 := hH kQr
   have HB0 := hH hb0
   have HE0 := hH he0
   clear he0 hb0 kQc kQa kQr
   go_enter Tryz.func26, Tryz.ntmps26
   go_upto_region 1 with fail
   rw [← HE0.out]
   go_wp2_with (first | go_skip | ((with_reducible refine atW w1 ?_); refine store9 _ _ rfl (by rfl) _ rfl rfl Kr1.out rfl rfl (by simp [Value.oneCell']) ?_; intro w2 h1 h2; have Kr2 := hH h1; have hw2 := Nat.le_trans hw1 h2.size; have HB2 : Hid (Below W.heap.size W w2) := hH (below_grown9 HB1.out h2 (by omega)); clear h1 h2) | ((with_reducible refine atC w0 ?_); go_at_call 85; refine (HC.out _ HB0.out).mono ?_; intro e w1 h; unfold RetL at h; obtain ⟨rfl, h5⟩ := h; simp only [cmV]; have hw1 := Nat.le_trans hw0 h5.size; have HB1 : Hid (Below W.heap.size W w1) := hH (blThen HB0.out h5); have Kr1 := hH ((h5.block (W.heap.size + 2) (by omega)).trans Kr0.out); clear h5) | ((with_reducible refine atW w0 ?_); refine wpList_load_one _ _ rfl (by rfl) _ 7 rfl Ka0.out Tryz.underlying25 rfl rfl ?_) | ((with_reducible refine atW w0 ?_); refine wpList_load_one _ _ rfl (by rfl) _ 6 rfl Ka0.out Tryz.underlying4 rfl rfl ?_) | ((with_reducible refine atW w0 ?_); refine wpList_load_part _ _ rfl (by rfl) _ 4 rfl Ka0.out Tryz.underlying23 rfl #[.int .i64 y1, .int .i64 y2] (by kernel_rfl) (two_at rfl rfl) ?_) | ((with_reducible refine atW w0 ?_); refine wpList_load_one _ _ rfl (by rfl) _ 1 rfl Ka0.out Tryz.underlying24 rfl rfl ?_) | ((with_reducible refine atW w0 ?_); refine load9 _ rfl (by rfl) _ rfl Kc0.out rfl ?_) | ((with_reducible refine atW w0 ?_); refine wpList_load_one _ _ rfl (by rfl) _ 0 rfl Ka0.out Tryz.underlying3 rfl rfl ?_))
   refine bodyPost_ret (results_cell_tmp9 Tryz.results26 _ _ _ 31 _ (0, 0) _ rfl Kr2.out Tryz.underlying31 rfl szCmd) rfl ?_
   exact ⟨⟨.slice qoa qon qoc, .slice qsa qsn qsc, .slice qda qdn qdc, .slice qwa qwn qwc, .slice qpa qpn qpc⟩, rfl, HATS.out.next HB2.out, HB2.out⟩
  rw [(act_0 c hk).1, (act_0 c hk).2]
  obtain ⟨cq, hcq⟩ : ∃ q_, q_ = witC c x.ops x.b x.fast x.deps := ⟨_, rfl⟩
  have HATF : Hid (∀ (Y : World) (ns : Value), S2.Keeps S W Y → DlV Y ns x.deps → CmAt Y cq ⟨m.o, ns, l.d, l.w, l.p⟩) := hH (fun Y ns hY hs => by rw [hcq]; exact wit_at ho hd (h Y hY) (hx Y hY).o hs)
  have HC : Hid (∀ Y : World, Below W.heap.size W Y → Calls Tryz.prog 85 #[cmV c l, m.o, .agg #[.int .i64 x.b.1, .int .i64 x.b.2], .bool x.fast, m.s] Y (RetWi Y cq l m.o x.deps)) := hH (fun Y hY => by rw [hcq]; exact witness_new c l x.ops m.o x.b x.fast x.deps m.s Y (h0.later hY) ho hd (hx0.o.later hY) (hx0.s.later hY) hfw hwf)
  rw [← hcq]
  clear hcq h hx h0 hx0 ho hd hfw hwf
  obtain ⟨oa, on, oc, sa, sn, sc, da, dn, dc, wa, wn, wc, pa, pn, pc, rfl⟩ := cm_forms HCAT.out
  obtain ⟨xoa, xon, xoc, xsa, xsn, xsc, xda, xdn, xdc, xwa, xwn, xwc, xpa, xpn, xpc, rfl⟩ := ac_forms HXAT.out
  obtain ⟨⟨id1, id2⟩, ops, phase, ⟨p1, p2⟩, ⟨v1, v2⟩, fast, seen, ⟨b1, b2⟩, has, ⟨q1, q2⟩, ⟨gone, ⟨t1, t2⟩, deps⟩, ready, writes, pairs⟩ := c
  obtain ⟨kind, aops, ⟨a1, a2⟩, ⟨y1, y2⟩, xf, adeps, ⟨xg, ⟨u1, u2⟩, avd⟩, awr, apr⟩ := x
  try simp only at HC HATF
  simp only [cmV, acV, vlV] at *
  try simp only at hk
  subst hk
  obtain ⟨w0, he0, hw0, kQc, kQa, kQr, hb0⟩ := boxes3 W (.cells (r22 id1 id2 (.slice oa on oc) phase p1 p2 v1 v2 fast (.slice sa sn sc) b1 b2 has q1 q2 gone t1 t2 (.slice da dn dc) ready (.slice wa wn wc) (.slice pa pn pc)) 31) (.cells #[.int .i64 0, .slice xoa xon xoc, .int .i64 a1, .int .i64 a2, .int .i64 y1, .int .i64 y2, .bool xf, .slice xsa xsn xsc, .bool xg, .int .i64 u1, .int .i64 u2, .slice xda xdn xdc, .slice xwa xwn xwc, .slice xpa xpn xpc] 53) (.cells z22 31)
  have Kc0 := hH kQc
  have Ka0 := hH kQa
  have Kr0 := hH kQr
  have HB0 := hH hb0
  have HE0 := hH he0
  clear he0 hb0 kQc kQa kQr
  go_enter Tryz.func26, Tryz.ntmps26
  go_upto_region 1 with fail
  rw [← HE0.out]
  go_wp2_with (first | go_skip | ((with_reducible refine atW w1 ?_); refine store9 _ _ rfl (by rfl) _ rfl rfl Kr1.out rfl rfl (by simp [Value.oneCell']) ?_; intro w2 h1 h2; have Kr2 := hH h1; have hw2 := Nat.le_trans hw1 h2.size; have HB2 : Hid (Below W.heap.size W w2) := hH (below_grown9 HB1.out h2 (by omega)); have HO2 := hH (HO1.out.kp (grown_lt h2 (by omega))); clear h1 h2) | ((with_reducible refine atC w0 ?_); go_at_call 85; refine (HC.out _ HB0.out).mono ?_; intro e w1 h; unfold RetWi at h; obtain ⟨ns, rfl, hdo, h5⟩ := h; obtain ⟨nsa, nsn, nsc, rfl⟩ := hdo.form; simp only [cmV]; have HO1 := hH hdo; have hw1 := Nat.le_trans hw0 h5.size; have HB1 : Hid (Below W.heap.size W w1) := hH (blThen HB0.out h5); have Kr1 := hH ((h5.block (W.heap.size + 2) (by omega)).trans Kr0.out); clear h5) | ((with_reducible refine atW w0 ?_); refine wpList_load_one _ _ rfl (by rfl) _ 7 rfl Ka0.out Tryz.underlying25 rfl rfl ?_) | ((with_reducible refine atW w0 ?_); refine wpList_load_one _ _ rfl (by rfl) _ 6 rfl Ka0.out Tryz.underlying4 rfl rfl ?_) | ((with_reducible refine atW w0 ?_); refine wpList_load_part _ _ rfl (by rfl) _ 4 rfl Ka0.out Tryz.underlying23 rfl #[.int .i64 y1, .int .i64 y2] (by kernel_rfl) (two_at rfl rfl) ?_) | ((with_reducible refine atW w0 ?_); refine wpList_load_one _ _ rfl (by rfl) _ 1 rfl Ka0.out Tryz.underlying24 rfl rfl ?_) | ((with_reducible refine atW w0 ?_); refine load9 _ rfl (by rfl) _ rfl Kc0.out rfl ?_) | ((with_reducible refine atW w0 ?_); refine wpList_load_one _ _ rfl (by rfl) _ 0 rfl Ka0.out Tryz.underlying3 rfl rfl ?_))
  refine bodyPost_ret (results_cell_tmp9 Tryz.results26 _ _ _ 31 _ (0, 0) _ rfl Kr2.out Tryz.underlying31 rfl szCmd) rfl ?_
  exact ⟨⟨.slice xoa xon xoc, .slice nsa nsn nsc, .slice da dn dc, .slice wa wn wc, .slice pa pn pc⟩, rfl, fun w2 k => HATF.out w2 _ ((S2.Keeps.ofBelow HB2.out).then k) (HO2.out.kp (k.mono (fun b _ hb => Nat.lt_of_lt_of_le (HSS.out b hb) HB0.out.size))).dl, HB2.out⟩
 have n0 := hk
 clear hk
 by_cases hk : x.kind = 1
 ·rw [(act_1 c hk).1, (act_1 c hk).2]
  obtain ⟨cq, hcq⟩ : ∃ q_, q_ = proC c x.a := ⟨_, rfl⟩
  obtain ⟨pq, hpq⟩ : ∃ q_, q_ = l := ⟨_, rfl⟩
  obtain ⟨bq, hbq⟩ : ∃ q_, q_ = proB c x.a := ⟨_, rfl⟩
  have HATS : Hid (CmS S W cq pq) := hH (fun w2 k => by rw [hcq, hpq]; exact pro_at x.a (h w2 k))
  have HAT := hH HATS.out.at
  have HC : Hid (∀ Y : World, Below W.heap.size W Y → Calls Tryz.prog 41 #[cmV c l, .agg #[.int .i64 x.a.1, .int .i64 x.a.2]] Y (RetB Y cq pq bq)) := hH (fun Y hY => by rw [hcq, hpq, hbq]; exact promise_any c l x.a Y (h0.later hY))
  rw [← hcq, ← hbq]
  clear hcq hpq hbq h hx h0 hx0
  obtain ⟨oa, on, oc, sa, sn, sc, da, dn, dc, wa, wn, wc, pa, pn, pc, rfl⟩ := cm_forms HCAT.out
  obtain ⟨xoa, xon, xoc, xsa, xsn, xsc, xda, xdn, xdc, xwa, xwn, xwc, xpa, xpn, xpc, rfl⟩ := ac_forms HXAT.out
  obtain ⟨⟨id1, id2⟩, ops, phase, ⟨p1, p2⟩, ⟨v1, v2⟩, fast, seen, ⟨b1, b2⟩, has, ⟨q1, q2⟩, ⟨gone, ⟨t1, t2⟩, deps⟩, ready, writes, pairs⟩ := c
  obtain ⟨kind, aops, ⟨a1, a2⟩, ⟨y1, y2⟩, xf, adeps, ⟨xg, ⟨u1, u2⟩, avd⟩, awr, apr⟩ := x
  obtain ⟨qoa, qon, qoc, qsa, qsn, qsc, qda, qdn, qdc, qwa, qwn, qwc, qpa, qpn, qpc, rfl⟩ := cm_forms HAT.out
  try simp only at HC
  simp only [cmV, acV, vlV] at *
  try simp only at hk
  subst hk
  obtain ⟨w0, he0, hw0, kQc, kQa, kQr, hb0⟩ := boxes3 W (.cells (r22 id1 id2 (.slice oa on oc) phase p1 p2 v1 v2 fast (.slice sa sn sc) b1 b2 has q1 q2 gone t1 t2 (.slice da dn dc) ready (.slice wa wn wc) (.slice pa pn pc)) 31) (.cells #[.int .i64 1, .slice xoa xon xoc, .int .i64 a1, .int .i64 a2, .int .i64 y1, .int .i64 y2, .bool xf, .slice xsa xsn xsc, .bool xg, .int .i64 u1, .int .i64 u2, .slice xda xdn xdc, .slice xwa xwn xwc, .slice xpa xpn xpc] 53) (.cells z22 31)
  have Kc0 := hH kQc
  have Ka0 := hH kQa
  have Kr0 := hH kQr
  have HB0 := hH hb0
  have HE0 := hH he0
  clear he0 hb0 kQc kQa kQr
  go_enter Tryz.func26, Tryz.ntmps26
  go_upto_region 1 with fail
  rw [← HE0.out]
  go_wp2_with (first | go_skip | ((with_reducible refine atW w1 ?_); refine store9 _ _ rfl (by rfl) _ rfl rfl Kr1.out rfl rfl (by simp [Value.oneCell']) ?_; intro w2 h1 h2; have Kr2 := hH h1; have hw2 := Nat.le_trans hw1 h2.size; have HB2 : Hid (Below W.heap.size W w2) := hH (below_grown9 HB1.out h2 (by omega)); clear h1 h2) | ((with_reducible refine atC w0 ?_); go_at_call 41; refine (HC.out _ HB0.out).mono ?_; intro e w1 h; unfold RetB at h; obtain ⟨rfl, h5⟩ := h; simp only [cmV]; have hw1 := Nat.le_trans hw0 h5.size; have HB1 : Hid (Below W.heap.size W w1) := hH (blThen HB0.out h5); have Kr1 := hH ((h5.block (W.heap.size + 2) (by omega)).trans Kr0.out); clear h5) | ((with_reducible refine atW w0 ?_); refine wpList_load_part _ _ rfl (by rfl) _ 2 rfl Ka0.out Tryz.underlying23 rfl #[.int .i64 a1, .int .i64 a2] (by kernel_rfl) (two_at rfl rfl) ?_) | ((with_reducible refine atW w0 ?_); refine load9 _ rfl (by rfl) _ rfl Kc0.out rfl ?_) | ((with_reducible refine atW w0 ?_); refine wpList_load_one _ _ rfl (by rfl) _ 0 rfl Ka0.out Tryz.underlying3 rfl rfl ?_))
  refine bodyPost_ret (results_cell_tmp9 Tryz.results26 _ _ _ 31 _ (0, 0) _ rfl Kr2.out Tryz.underlying31 rfl szCmd) rfl ?_
  exact ⟨⟨.slice qoa qon qoc, .slice qsa qsn qsc, .slice qda qdn qdc, .slice qwa qwn qwc, .slice qpa qpn qpc⟩, rfl, HATS.out.next HB2.out, HB2.out⟩
 have n1 := hk
 clear hk
 by_cases hk : x.kind = 2
 ·rw [(act_2 c hk).1, (act_2 c hk).2]
  obtain ⟨cq, hcq⟩ : ∃ q_, q_ = binC c x.a x.b := ⟨_, rfl⟩
  obtain ⟨pq, hpq⟩ : ∃ q_, q_ = l := ⟨_, rfl⟩
  obtain ⟨bq, hbq⟩ : ∃ q_, q_ = proB c x.a := ⟨_, rfl⟩
  have HATS : Hid (CmS S W cq pq) := hH (fun w2 k => by rw [hcq, hpq]; exact bin_at x.a x.b (h w2 k))
  have HAT := hH HATS.out.at
  have HC : Hid (∀ Y : World, Below W.heap.size W Y → Calls Tryz.prog 86 #[cmV c l, .agg #[.int .i64 x.a.1, .int .i64 x.a.2], .agg #[.int .i64 x.b.1, .int .i64 x.b.2]] Y (RetB Y cq pq bq)) := hH (fun Y hY => by rw [hcq, hpq, hbq]; exact bind_any c l x.a x.b Y (h0.later hY))
  rw [← hcq, ← hbq]
  clear hcq hpq hbq h hx h0 hx0
  obtain ⟨oa, on, oc, sa, sn, sc, da, dn, dc, wa, wn, wc, pa, pn, pc, rfl⟩ := cm_forms HCAT.out
  obtain ⟨xoa, xon, xoc, xsa, xsn, xsc, xda, xdn, xdc, xwa, xwn, xwc, xpa, xpn, xpc, rfl⟩ := ac_forms HXAT.out
  obtain ⟨⟨id1, id2⟩, ops, phase, ⟨p1, p2⟩, ⟨v1, v2⟩, fast, seen, ⟨b1, b2⟩, has, ⟨q1, q2⟩, ⟨gone, ⟨t1, t2⟩, deps⟩, ready, writes, pairs⟩ := c
  obtain ⟨kind, aops, ⟨a1, a2⟩, ⟨y1, y2⟩, xf, adeps, ⟨xg, ⟨u1, u2⟩, avd⟩, awr, apr⟩ := x
  obtain ⟨qoa, qon, qoc, qsa, qsn, qsc, qda, qdn, qdc, qwa, qwn, qwc, qpa, qpn, qpc, rfl⟩ := cm_forms HAT.out
  try simp only at HC
  simp only [cmV, acV, vlV] at *
  try simp only at hk
  subst hk
  obtain ⟨w0, he0, hw0, kQc, kQa, kQr, hb0⟩ := boxes3 W (.cells (r22 id1 id2 (.slice oa on oc) phase p1 p2 v1 v2 fast (.slice sa sn sc) b1 b2 has q1 q2 gone t1 t2 (.slice da dn dc) ready (.slice wa wn wc) (.slice pa pn pc)) 31) (.cells #[.int .i64 2, .slice xoa xon xoc, .int .i64 a1, .int .i64 a2, .int .i64 y1, .int .i64 y2, .bool xf, .slice xsa xsn xsc, .bool xg, .int .i64 u1, .int .i64 u2, .slice xda xdn xdc, .slice xwa xwn xwc, .slice xpa xpn xpc] 53) (.cells z22 31)
  have Kc0 := hH kQc
  have Ka0 := hH kQa
  have Kr0 := hH kQr
  have HB0 := hH hb0
  have HE0 := hH he0
  clear he0 hb0 kQc kQa kQr
  go_enter Tryz.func26, Tryz.ntmps26
  go_upto_region 1 with fail
  rw [← HE0.out]
  go_wp2_with (first | go_skip | ((with_reducible refine atW w1 ?_); refine store9 _ _ rfl (by rfl) _ rfl rfl Kr1.out rfl rfl (by simp [Value.oneCell']) ?_; intro w2 h1 h2; have Kr2 := hH h1; have hw2 := Nat.le_trans hw1 h2.size; have HB2 : Hid (Below W.heap.size W w2) := hH (below_grown9 HB1.out h2 (by omega)); clear h1 h2) | ((with_reducible refine atC w0 ?_); go_at_call 86; refine (HC.out _ HB0.out).mono ?_; intro e w1 h; unfold RetB at h; obtain ⟨rfl, h5⟩ := h; simp only [cmV]; have hw1 := Nat.le_trans hw0 h5.size; have HB1 : Hid (Below W.heap.size W w1) := hH (blThen HB0.out h5); have Kr1 := hH ((h5.block (W.heap.size + 2) (by omega)).trans Kr0.out); clear h5) | ((with_reducible refine atW w0 ?_); refine wpList_load_part _ _ rfl (by rfl) _ 4 rfl Ka0.out Tryz.underlying23 rfl #[.int .i64 y1, .int .i64 y2] (by kernel_rfl) (two_at rfl rfl) ?_) | ((with_reducible refine atW w0 ?_); refine wpList_load_part _ _ rfl (by rfl) _ 2 rfl Ka0.out Tryz.underlying23 rfl #[.int .i64 a1, .int .i64 a2] (by kernel_rfl) (two_at rfl rfl) ?_) | ((with_reducible refine atW w0 ?_); refine load9 _ rfl (by rfl) _ rfl Kc0.out rfl ?_) | ((with_reducible refine atW w0 ?_); refine wpList_load_one _ _ rfl (by rfl) _ 0 rfl Ka0.out Tryz.underlying3 rfl rfl ?_))
  refine bodyPost_ret (results_cell_tmp9 Tryz.results26 _ _ _ 31 _ (0, 0) _ rfl Kr2.out Tryz.underlying31 rfl szCmd) rfl ?_
  exact ⟨⟨.slice qoa qon qoc, .slice qsa qsn qsc, .slice qda qdn qdc, .slice qwa qwn qwc, .slice qpa qpn qpc⟩, rfl, HATS.out.next HB2.out, HB2.out⟩
 have n2 := hk
 clear hk
 by_cases hk : x.kind = 3
 ·rw [(act_3 c hk).1, (act_3 c hk).2]
  obtain ⟨cq, hcq⟩ : ∃ q_, q_ = accC c x.a x.val := ⟨_, rfl⟩
  obtain ⟨pq, hpq⟩ : ∃ q_, q_ = (if proB c x.a = true then { l with d := m.d } else l) := ⟨_, rfl⟩
  obtain ⟨bq, hbq⟩ : ∃ q_, q_ = proB c x.a := ⟨_, rfl⟩
  have HATS : Hid (CmS S W cq pq) := hH (fun w2 k => by rw [hcq, hpq]; exact acc_at (h w2 k) (hx w2 k).d)
  have HAT := hH HATS.out.at
  have HC : Hid (∀ Y : World, Below W.heap.size W Y → Calls Tryz.prog 42 #[cmV c l, .agg #[.int .i64 x.a.1, .int .i64 x.a.2], vlV x.val m.d] Y (RetB Y cq pq bq)) := hH (fun Y hY => by rw [hcq, hpq, hbq]; exact accept_any c l x.a x.val m.d Y (h0.later hY) (hx0.d.later hY))
  rw [← hcq, ← hbq]
  clear hcq hpq hbq h hx h0 hx0
  obtain ⟨oa, on, oc, sa, sn, sc, da, dn, dc, wa, wn, wc, pa, pn, pc, rfl⟩ := cm_forms HCAT.out
  obtain ⟨xoa, xon, xoc, xsa, xsn, xsc, xda, xdn, xdc, xwa, xwn, xwc, xpa, xpn, xpc, rfl⟩ := ac_forms HXAT.out
  obtain ⟨⟨id1, id2⟩, ops, phase, ⟨p1, p2⟩, ⟨v1, v2⟩, fast, seen, ⟨b1, b2⟩, has, ⟨q1, q2⟩, ⟨gone, ⟨t1, t2⟩, deps⟩, ready, writes, pairs⟩ := c
  obtain ⟨kind, aops, ⟨a1, a2⟩, ⟨y1, y2⟩, xf, adeps, ⟨xg, ⟨u1, u2⟩, avd⟩, awr, apr⟩ := x
  obtain ⟨qoa, qon, qoc, qsa, qsn, qsc, qda, qdn, qdc, qwa, qwn, qwc, qpa, qpn, qpc, rfl⟩ := cm_forms HAT.out
  try simp only at HC
  simp only [cmV, acV, vlV] at *
  try simp only at hk
  subst hk
  obtain ⟨w0, he0, hw0, kQc, kQa, kQr, hb0⟩ := boxes3 W (.cells (r22 id1 id2 (.slice oa on oc) phase p1 p2 v1 v2 fast (.slice sa sn sc) b1 b2 has q1 q2 gone t1 t2 (.slice da dn dc) ready (.slice wa wn wc) (.slice pa pn pc)) 31) (.cells #[.int .i64 3, .slice xoa xon xoc, .int .i64 a1, .int .i64 a2, .int .i64 y1, .int .i64 y2, .bool xf, .slice xsa xsn xsc, .bool xg, .int .i64 u1, .int .i64 u2, .slice xda xdn xdc, .slice xwa xwn xwc, .slice xpa xpn xpc] 53) (.cells z22 31)
  have Kc0 := hH kQc
  have Ka0 := hH kQa
  have Kr0 := hH kQr
  have HB0 := hH hb0
  have HE0 := hH he0
  clear he0 hb0 kQc kQa kQr
  go_enter Tryz.func26, Tryz.ntmps26
  go_upto_region 1 with fail
  rw [← HE0.out]
  go_wp2_with (first | go_skip | ((with_reducible refine atW w1 ?_); refine store9 _ _ rfl (by rfl) _ rfl rfl Kr1.out rfl rfl (by simp [Value.oneCell']) ?_; intro w2 h1 h2; have Kr2 := hH h1; have hw2 := Nat.le_trans hw1 h2.size; have HB2 : Hid (Below W.heap.size W w2) := hH (below_grown9 HB1.out h2 (by omega)); clear h1 h2) | ((with_reducible refine atC w0 ?_); go_at_call 42; refine (HC.out _ HB0.out).mono ?_; intro e w1 h; unfold RetB at h; obtain ⟨rfl, h5⟩ := h; simp only [cmV]; have hw1 := Nat.le_trans hw0 h5.size; have HB1 : Hid (Below W.heap.size W w1) := hH (blThen HB0.out h5); have Kr1 := hH ((h5.block (W.heap.size + 2) (by omega)).trans Kr0.out); clear h5) | ((with_reducible refine atW w0 ?_); refine wpList_load_part _ _ rfl (by rfl) _ 8 rfl Ka0.out Tryz.underlying27 rfl #[.bool xg, .int .i64 u1, .int .i64 u2, .slice xda xdn xdc] (by kernel_rfl) (four_at rfl rfl rfl rfl) ?_) | ((with_reducible refine atW w0 ?_); refine wpList_load_part _ _ rfl (by rfl) _ 2 rfl Ka0.out Tryz.underlying23 rfl #[.int .i64 a1, .int .i64 a2] (by kernel_rfl) (two_at rfl rfl) ?_) | ((with_reducible refine atW w0 ?_); refine load9 _ rfl (by rfl) _ rfl Kc0.out rfl ?_) | ((with_reducible refine atW w0 ?_); refine wpList_load_one _ _ rfl (by rfl) _ 0 rfl Ka0.out Tryz.underlying3 rfl rfl ?_))
  refine bodyPost_ret (results_cell_tmp9 Tryz.results26 _ _ _ 31 _ (0, 0) _ rfl Kr2.out Tryz.underlying31 rfl szCmd) rfl ?_
  exact ⟨⟨.slice qoa qon qoc, .slice qsa qsn qsc, .slice qda qdn qdc, .slice qwa qwn qwc, .slice qpa qpn qpc⟩, rfl, HATS.out.next HB2.out, HB2.out⟩
 have n3 := hk
 clear hk
 by_cases hk : x.kind = 4
 ·rw [(act_4 c hk).1, (act_4 c hk).2]
  obtain ⟨cq, hcq⟩ : ∃ q_, q_ = deciC c x.ops x.val := ⟨_, rfl⟩
  obtain ⟨pq, hpq⟩ : ∃ q_, q_ = dlL c l x.val m.o m.d := ⟨_, rfl⟩
  have HATS : Hid (CmS S W cq pq) := hH (fun w2 k => by rw [hcq, hpq]; exact dlL_at (h w2 k) (hx w2 k).o (hx w2 k).d)
  have HAT := hH HATS.out.at
  have HC : Hid (∀ Y : World, Below W.heap.size W Y → Calls Tryz.prog 43 #[cmV c l, m.o, vlV x.val m.d] Y (RetL Y cq pq)) := hH (fun Y hY => by rw [hcq, hpq]; exact decide_any c l x.ops m.o x.val m.d Y (h0.later hY) (hx0.o.later hY) (hx0.d.later hY))
  rw [← hcq]
  clear hcq hpq h hx h0 hx0
  obtain ⟨oa, on, oc, sa, sn, sc, da, dn, dc, wa, wn, wc, pa, pn, pc, rfl⟩ := cm_forms HCAT.out
  obtain ⟨xoa, xon, xoc, xsa, xsn, xsc, xda, xdn, xdc, xwa, xwn, xwc, xpa, xpn, xpc, rfl⟩ := ac_forms HXAT.out
  obtain ⟨⟨id1, id2⟩, ops, phase, ⟨p1, p2⟩, ⟨v1, v2⟩, fast, seen, ⟨b1, b2⟩, has, ⟨q1, q2⟩, ⟨gone, ⟨t1, t2⟩, deps⟩, ready, writes, pairs⟩ := c
  obtain ⟨kind, aops, ⟨a1, a2⟩, ⟨y1, y2⟩, xf, adeps, ⟨xg, ⟨u1, u2⟩, avd⟩, awr, apr⟩ := x
  obtain ⟨qoa, qon, qoc, qsa, qsn, qsc, qda, qdn, qdc, qwa, qwn, qwc, qpa, qpn, qpc, rfl⟩ := cm_forms HAT.out
  try simp only at HC
  simp only [cmV, acV, vlV] at *
  try simp only at hk
  subst hk
  obtain ⟨w0, he0, hw0, kQc, kQa, kQr, hb0⟩ := boxes3 W (.cells (r22 id1 id2 (.slice oa on oc) phase p1 p2 v1 v2 fast (.slice sa sn sc) b1 b2 has q1 q2 gone t1 t2 (.slice da dn dc) ready (.slice wa wn wc) (.slice pa pn pc)) 31) (.cells #[.int .i64 4, .slice xoa xon xoc, .int .i64 a1, .int .i64 a2, .int .i64 y1, .int .i64 y2, .bool xf, .slice xsa xsn xsc, .bool xg, .int .i64 u1, .int .i64 u2, .slice xda xdn xdc, .slice xwa xwn xwc, .slice xpa xpn xpc] 53) (.cells z22 31)
  have Kc0 := hH kQc
  have Ka0 := hH kQa
  have Kr0 := hH kQr
  have HB0 := hH hb0
  have HE0 := hH he0
  clear he0 hb0 kQc kQa kQr
  go_enter Tryz.func26, Tryz.ntmps26
  go_upto_region 1 with fail
  rw [← HE0.out]
  go_wp2_with (first | go_skip | ((with_reducible refine atW w1 ?_); refine store9 _ _ rfl (by rfl) _ rfl rfl Kr1.out rfl rfl (by simp [Value.oneCell']) ?_; intro w2 h1 h2; have Kr2 := hH h1; have hw2 := Nat.le_trans hw1 h2.size; have HB2 : Hid (Below W.heap.size W w2) := hH (below_grown9 HB1.out h2 (by omega)); clear h1 h2) | ((with_reducible refine atC w0 ?_); go_at_call 43; refine (HC.out _ HB0.out).mono ?_; intro e w1 h; unfold RetL at h; obtain ⟨rfl, h5⟩ := h; simp only [cmV]; have hw1 := Nat.le_trans hw0 h5.size; have HB1 : Hid (Below W.heap.size W w1) := hH (blThen HB0.out h5); have Kr1 := hH ((h5.block (W.heap.size + 2) (by omega)).trans Kr0.out); clear h5) | ((with_reducible refine atW w0 ?_); refine wpList_load_part _ _ rfl (by rfl) _ 8 rfl Ka0.out Tryz.underlying27 rfl #[.bool xg, .int .i64 u1, .int .i64 u2, .slice xda xdn xdc] (by kernel_rfl) (four_at rfl rfl rfl rfl) ?_) | ((with_reducible refine atW w0 ?_); refine wpList_load_one _ _ rfl (by rfl) _ 1 rfl Ka0.out Tryz.underlying24 rfl rfl ?_) | ((with_reducible refine atW w0 ?_); refine load9 _ rfl (by rfl) _ rfl Kc0.out rfl ?_) | ((with_reducible refine atW w0 ?_); refine wpList_load_one _ _ rfl (by rfl) _ 0 rfl Ka0.out Tryz.underlying3 rfl rfl ?_))
  refine bodyPost_ret (results_cell_tmp9 Tryz.results26 _ _ _ 31 _ (0, 0) _ rfl Kr2.out Tryz.underlying31 rfl szCmd) rfl ?_
  exact ⟨⟨.slice qoa qon qoc, .slice qsa qsn qsc, .slice qda qdn qdc, .slice qwa qwn qwc, .slice qpa qpn qpc⟩, rfl, HATS.out.next HB2.out, HB2.out⟩
 have n4 := hk
 clear hk
 by_cases hk : x.kind = 5
 ·by_cases hq : c.phase = 2 ∧ c.val.1 = false ∧ c.ready = false
  rotate_left
  ·rw [(act_5 c hk).1, (act_5 c hk).2]
   obtain ⟨cq, hcq⟩ : ∃ q_, q_ = loaC c x.writes := ⟨_, rfl⟩
   obtain ⟨pq, hpq⟩ : ∃ q_, q_ = l := ⟨_, rfl⟩
   have HATS : Hid (CmS S W cq pq) := hH (fun w2 k => by rw [hcq, hpq]; exact by rw [show loaC c x.writes = c from if_neg hq]; exact (h w2 k))
   have HAT := hH HATS.out.at
   have HC : Hid (∀ Y : World, Below W.heap.size W Y → Calls Tryz.prog 87 #[cmV c l, m.w] Y (RetL Y cq pq)) := hH (fun Y hY => by rw [hcq, hpq]; exact by rw [show loaC c x.writes = c from if_neg hq]; exact load_no c l m.w Y (h0.later hY) hq)
   rw [← hcq]
   clear hcq hpq h hx h0 hx0
   obtain ⟨oa, on, oc, sa, sn, sc, da, dn, dc, wa, wn, wc, pa, pn, pc, rfl⟩ := cm_forms HCAT.out
   obtain ⟨xoa, xon, xoc, xsa, xsn, xsc, xda, xdn, xdc, xwa, xwn, xwc, xpa, xpn, xpc, rfl⟩ := ac_forms HXAT.out
   obtain ⟨⟨id1, id2⟩, ops, phase, ⟨p1, p2⟩, ⟨v1, v2⟩, fast, seen, ⟨b1, b2⟩, has, ⟨q1, q2⟩, ⟨gone, ⟨t1, t2⟩, deps⟩, ready, writes, pairs⟩ := c
   obtain ⟨kind, aops, ⟨a1, a2⟩, ⟨y1, y2⟩, xf, adeps, ⟨xg, ⟨u1, u2⟩, avd⟩, awr, apr⟩ := x
   obtain ⟨qoa, qon, qoc, qsa, qsn, qsc, qda, qdn, qdc, qwa, qwn, qwc, qpa, qpn, qpc, rfl⟩ := cm_forms HAT.out
   try simp only at HC
   simp only [cmV, acV, vlV] at *
   try simp only at hk
   subst hk
   obtain ⟨w0, he0, hw0, kQc, kQa, kQr, hb0⟩ := boxes3 W (.cells (r22 id1 id2 (.slice oa on oc) phase p1 p2 v1 v2 fast (.slice sa sn sc) b1 b2 has q1 q2 gone t1 t2 (.slice da dn dc) ready (.slice wa wn wc) (.slice pa pn pc)) 31) (.cells #[.int .i64 5, .slice xoa xon xoc, .int .i64 a1, .int .i64 a2, .int .i64 y1, .int .i64 y2, .bool xf, .slice xsa xsn xsc, .bool xg, .int .i64 u1, .int .i64 u2, .slice xda xdn xdc, .slice xwa xwn xwc, .slice xpa xpn xpc] 53) (.cells z22 31)
   have Kc0 := hH kQc
   have Ka0 := hH kQa
   have Kr0 := hH kQr
   have HB0 := hH hb0
   have HE0 := hH he0
   clear he0 hb0 kQc kQa kQr
   go_enter Tryz.func26, Tryz.ntmps26
   go_upto_region 1 with fail
   rw [← HE0.out]
   go_wp2_with (first | go_skip | ((with_reducible refine atW w1 ?_); refine store9 _ _ rfl (by rfl) _ rfl rfl Kr1.out rfl rfl (by simp [Value.oneCell']) ?_; intro w2 h1 h2; have Kr2 := hH h1; have hw2 := Nat.le_trans hw1 h2.size; have HB2 : Hid (Below W.heap.size W w2) := hH (below_grown9 HB1.out h2 (by omega)); clear h1 h2) | ((with_reducible refine atC w0 ?_); go_at_call 87; refine (HC.out _ HB0.out).mono ?_; intro e w1 h; unfold RetL at h; obtain ⟨rfl, h5⟩ := h; simp only [cmV]; have hw1 := Nat.le_trans hw0 h5.size; have HB1 : Hid (Below W.heap.size W w1) := hH (blThen HB0.out h5); have Kr1 := hH ((h5.block (W.heap.size + 2) (by omega)).trans Kr0.out); clear h5) | ((with_reducible refine atW w0 ?_); refine wpList_load_one _ _ rfl (by rfl) _ 12 rfl Ka0.out Tryz.underlying28 rfl rfl ?_) | ((with_reducible refine atW w0 ?_); refine load9 _ rfl (by rfl) _ rfl Kc0.out rfl ?_) | ((with_reducible refine atW w0 ?_); refine wpList_load_one _ _ rfl (by rfl) _ 0 rfl Ka0.out Tryz.underlying3 rfl rfl ?_))
   refine bodyPost_ret (results_cell_tmp9 Tryz.results26 _ _ _ 31 _ (0, 0) _ rfl Kr2.out Tryz.underlying31 rfl szCmd) rfl ?_
   exact ⟨⟨.slice qoa qon qoc, .slice qsa qsn qsc, .slice qda qdn qdc, .slice qwa qwn qwc, .slice qpa qpn qpc⟩, rfl, HATS.out.next HB2.out, HB2.out⟩
  rw [(act_5 c hk).1, (act_5 c hk).2]
  obtain ⟨cq, hcq⟩ : ∃ q_, q_ = loaC c x.writes := ⟨_, rfl⟩
  have HATF : Hid (∀ (Y : World) (nw : Value), S2.Keeps S W Y → SlG eW Y nw x.writes → CmAt Y cq ⟨l.o, l.s, l.d, nw, l.p⟩) := hH (fun Y nw hY hs => by rw [hcq]; exact loa_at hq (h Y hY) hs)
  have HC : Hid (∀ Y : World, Below W.heap.size W Y → Calls Tryz.prog 87 #[cmV c l, m.w] Y (RetLoad9 Y cq l x.writes)) := hH (fun Y hY => by rw [hcq]; exact load_yes c l x.writes m.w Y (h0.later hY) hnw (hx0.w.later hY) hq)
  rw [← hcq]
  clear hcq h hx h0 hx0 hq
  obtain ⟨oa, on, oc, sa, sn, sc, da, dn, dc, wa, wn, wc, pa, pn, pc, rfl⟩ := cm_forms HCAT.out
  obtain ⟨xoa, xon, xoc, xsa, xsn, xsc, xda, xdn, xdc, xwa, xwn, xwc, xpa, xpn, xpc, rfl⟩ := ac_forms HXAT.out
  obtain ⟨⟨id1, id2⟩, ops, phase, ⟨p1, p2⟩, ⟨v1, v2⟩, fast, seen, ⟨b1, b2⟩, has, ⟨q1, q2⟩, ⟨gone, ⟨t1, t2⟩, deps⟩, ready, writes, pairs⟩ := c
  obtain ⟨kind, aops, ⟨a1, a2⟩, ⟨y1, y2⟩, xf, adeps, ⟨xg, ⟨u1, u2⟩, avd⟩, awr, apr⟩ := x
  try simp only at HC HATF
  simp only [cmV, acV, vlV] at *
  try simp only at hk
  subst hk
  obtain ⟨w0, he0, hw0, kQc, kQa, kQr, hb0⟩ := boxes3 W (.cells (r22 id1 id2 (.slice oa on oc) phase p1 p2 v1 v2 fast (.slice sa sn sc) b1 b2 has q1 q2 gone t1 t2 (.slice da dn dc) ready (.slice wa wn wc) (.slice pa pn pc)) 31) (.cells #[.int .i64 5, .slice xoa xon xoc, .int .i64 a1, .int .i64 a2, .int .i64 y1, .int .i64 y2, .bool xf, .slice xsa xsn xsc, .bool xg, .int .i64 u1, .int .i64 u2, .slice xda xdn xdc, .slice xwa xwn xwc, .slice xpa xpn xpc] 53) (.cells z22 31)
  have Kc0 := hH kQc
  have Ka0 := hH kQa
  have Kr0 := hH kQr
  have HB0 := hH hb0
  have HE0 := hH he0
  clear he0 hb0 kQc kQa kQr
  go_enter Tryz.func26, Tryz.ntmps26
  go_upto_region 1 with fail
  rw [← HE0.out]
  go_wp2_with (first | go_skip | ((with_reducible refine atW w1 ?_); refine store9 _ _ rfl (by rfl) _ rfl rfl Kr1.out rfl rfl (by simp [Value.oneCell']) ?_; intro w2 h1 h2; have Kr2 := hH h1; have hw2 := Nat.le_trans hw1 h2.size; have HB2 : Hid (Below W.heap.size W w2) := hH (below_grown9 HB1.out h2 (by omega)); have HO2 := hH (OwnG.kept HO1.out h2 (.inl (fun e => by have := (HO1.out.block _ e).1; omega))); clear h1 h2) | ((with_reducible refine atC w0 ?_); go_at_call 87; refine (HC.out _ HB0.out).mono ?_; intro e w1 h; unfold RetLoad9 at h; obtain ⟨nw, rfl, hdo, h5⟩ := h; obtain ⟨na, nc, rfl⟩ := hdo.form; simp only [cmV]; have HO1 := hH hdo; have hw1 := Nat.le_trans hw0 h5.size; have HB1 : Hid (Below W.heap.size W w1) := hH (blThen HB0.out h5); have Kr1 := hH ((h5.block (W.heap.size + 2) (by omega)).trans Kr0.out); clear h5) | ((with_reducible refine atW w0 ?_); refine wpList_load_one _ _ rfl (by rfl) _ 12 rfl Ka0.out Tryz.underlying28 rfl rfl ?_) | ((with_reducible refine atW w0 ?_); refine load9 _ rfl (by rfl) _ rfl Kc0.out rfl ?_) | ((with_reducible refine atW w0 ?_); refine wpList_load_one _ _ rfl (by rfl) _ 0 rfl Ka0.out Tryz.underlying3 rfl rfl ?_))
  refine bodyPost_ret (results_cell_tmp9 Tryz.results26 _ _ _ 31 _ (0, 0) _ rfl Kr2.out Tryz.underlying31 rfl szCmd) rfl ?_
  exact ⟨⟨.slice oa on oc, .slice sa sn sc, .slice da dn dc, .slice na awr.length nc, .slice pa pn pc⟩, rfl, fun w2 k => HATF.out w2 _ ((S2.Keeps.ofBelow HB2.out).then k) (ownG_kpS HO2.out k (fun b hb => Nat.lt_of_lt_of_le (HSS.out b hb) HB0.out.size)).sl, HB2.out⟩
 have n5 := hk
 clear hk
 by_cases hk : x.kind = 6
 ·by_cases hq : c.phase = 2 ∧ c.ready = true
  rotate_left
  ·rw [(act_6 c hk).1, (act_6 c hk).2]
   obtain ⟨cq, hcq⟩ : ∃ q_, q_ = donC c x.pairs := ⟨_, rfl⟩
   obtain ⟨pq, hpq⟩ : ∃ q_, q_ = l := ⟨_, rfl⟩
   have HATS : Hid (CmS S W cq pq) := hH (fun w2 k => by rw [hcq, hpq]; exact by rw [show donC c x.pairs = c from if_neg hq]; exact (h w2 k))
   have HAT := hH HATS.out.at
   have HC : Hid (∀ Y : World, Below W.heap.size W Y → Calls Tryz.prog 88 #[cmV c l, m.p] Y (RetL Y cq pq)) := hH (fun Y hY => by rw [hcq, hpq]; exact by rw [show donC c x.pairs = c from if_neg hq]; exact done_no c l m.p Y (h0.later hY) hq)
   rw [← hcq]
   clear hcq hpq h hx h0 hx0
   obtain ⟨oa, on, oc, sa, sn, sc, da, dn, dc, wa, wn, wc, pa, pn, pc, rfl⟩ := cm_forms HCAT.out
   obtain ⟨xoa, xon, xoc, xsa, xsn, xsc, xda, xdn, xdc, xwa, xwn, xwc, xpa, xpn, xpc, rfl⟩ := ac_forms HXAT.out
   obtain ⟨⟨id1, id2⟩, ops, phase, ⟨p1, p2⟩, ⟨v1, v2⟩, fast, seen, ⟨b1, b2⟩, has, ⟨q1, q2⟩, ⟨gone, ⟨t1, t2⟩, deps⟩, ready, writes, pairs⟩ := c
   obtain ⟨kind, aops, ⟨a1, a2⟩, ⟨y1, y2⟩, xf, adeps, ⟨xg, ⟨u1, u2⟩, avd⟩, awr, apr⟩ := x
   obtain ⟨qoa, qon, qoc, qsa, qsn, qsc, qda, qdn, qdc, qwa, qwn, qwc, qpa, qpn, qpc, rfl⟩ := cm_forms HAT.out
   try simp only at HC
   simp only [cmV, acV, vlV] at *
   try simp only at hk
   subst hk
   obtain ⟨w0, he0, hw0, kQc, kQa, kQr, hb0⟩ := boxes3 W (.cells (r22 id1 id2 (.slice oa on oc) phase p1 p2 v1 v2 fast (.slice sa sn sc) b1 b2 has q1 q2 gone t1 t2 (.slice da dn dc) ready (.slice wa wn wc) (.slice pa pn pc)) 31) (.cells #[.int .i64 6, .slice xoa xon xoc, .int .i64 a1, .int .i64 a2, .int .i64 y1, .int .i64 y2, .bool xf, .slice xsa xsn xsc, .bool xg, .int .i64 u1, .int .i64 u2, .slice xda xdn xdc, .slice xwa xwn xwc, .slice xpa xpn xpc] 53) (.cells z22 31)
   have Kc0 := hH kQc
   have Ka0 := hH kQa
   have Kr0 := hH kQr
   have HB0 := hH hb0
   have HE0 := hH he0
   clear he0 hb0 kQc kQa kQr
   go_enter Tryz.func26, Tryz.ntmps26
   go_upto_region 1 with fail
   rw [← HE0.out]
   go_wp2_with (first | go_skip | ((with_reducible refine atW w1 ?_); refine store9 _ _ rfl (by rfl) _ rfl rfl Kr1.out rfl rfl (by simp [Value.oneCell']) ?_; intro w2 h1 h2; have Kr2 := hH h1; have hw2 := Nat.le_trans hw1 h2.size; have HB2 : Hid (Below W.heap.size W w2) := hH (below_grown9 HB1.out h2 (by omega)); clear h1 h2) | ((with_reducible refine atC w0 ?_); go_at_call 88; refine (HC.out _ HB0.out).mono ?_; intro e w1 h; unfold RetL at h; obtain ⟨rfl, h5⟩ := h; simp only [cmV]; have hw1 := Nat.le_trans hw0 h5.size; have HB1 : Hid (Below W.heap.size W w1) := hH (blThen HB0.out h5); have Kr1 := hH ((h5.block (W.heap.size + 2) (by omega)).trans Kr0.out); clear h5) | ((with_reducible refine atW w0 ?_); refine wpList_load_one _ _ rfl (by rfl) _ 13 rfl Ka0.out Tryz.underlying29 rfl rfl ?_) | ((with_reducible refine atW w0 ?_); refine load9 _ rfl (by rfl) _ rfl Kc0.out rfl ?_) | ((with_reducible refine atW w0 ?_); refine wpList_load_one _ _ rfl (by rfl) _ 0 rfl Ka0.out Tryz.underlying3 rfl rfl ?_))
   refine bodyPost_ret (results_cell_tmp9 Tryz.results26 _ _ _ 31 _ (0, 0) _ rfl Kr2.out Tryz.underlying31 rfl szCmd) rfl ?_
   exact ⟨⟨.slice qoa qon qoc, .slice qsa qsn qsc, .slice qda qdn qdc, .slice qwa qwn qwc, .slice qpa qpn qpc⟩, rfl, HATS.out.next HB2.out, HB2.out⟩
  rw [(act_6 c hk).1, (act_6 c hk).2]
  obtain ⟨cq, hcq⟩ : ∃ q_, q_ = donC c x.pairs := ⟨_, rfl⟩
  have HATF : Hid (∀ (Y : World) (nw : Value), S2.Keeps S W Y → SlG eP Y nw x.pairs → CmAt Y cq ⟨l.o, l.s, l.d, l.w, nw⟩) := hH (fun Y nw hY hs => by rw [hcq]; exact don_at hq (h Y hY) hs)
  have HC : Hid (∀ Y : World, Below W.heap.size W Y → Calls Tryz.prog 88 #[cmV c l, m.p] Y (RetDone9 Y cq l x.pairs)) := hH (fun Y hY => by rw [hcq]; exact done_yes c l x.pairs m.p Y (h0.later hY) hnp (hx0.p.later hY) hq)
  rw [← hcq]
  clear hcq h hx h0 hx0 hq
  obtain ⟨oa, on, oc, sa, sn, sc, da, dn, dc, wa, wn, wc, pa, pn, pc, rfl⟩ := cm_forms HCAT.out
  obtain ⟨xoa, xon, xoc, xsa, xsn, xsc, xda, xdn, xdc, xwa, xwn, xwc, xpa, xpn, xpc, rfl⟩ := ac_forms HXAT.out
  obtain ⟨⟨id1, id2⟩, ops, phase, ⟨p1, p2⟩, ⟨v1, v2⟩, fast, seen, ⟨b1, b2⟩, has, ⟨q1, q2⟩, ⟨gone, ⟨t1, t2⟩, deps⟩, ready, writes, pairs⟩ := c
  obtain ⟨kind, aops, ⟨a1, a2⟩, ⟨y1, y2⟩, xf, adeps, ⟨xg, ⟨u1, u2⟩, avd⟩, awr, apr⟩ := x
  try simp only at HC HATF
  simp only [cmV, acV, vlV] at *
  try simp only at hk
  subst hk
  obtain ⟨w0, he0, hw0, kQc, kQa, kQr, hb0⟩ := boxes3 W (.cells (r22 id1 id2 (.slice oa on oc) phase p1 p2 v1 v2 fast (.slice sa sn sc) b1 b2 has q1 q2 gone t1 t2 (.slice da dn dc) ready (.slice wa wn wc) (.slice pa pn pc)) 31) (.cells #[.int .i64 6, .slice xoa xon xoc, .int .i64 a1, .int .i64 a2, .int .i64 y1, .int .i64 y2, .bool xf, .slice xsa xsn xsc, .bool xg, .int .i64 u1, .int .i64 u2, .slice xda xdn xdc, .slice xwa xwn xwc, .slice xpa xpn xpc] 53) (.cells z22 31)
  have Kc0 := hH kQc
  have Ka0 := hH kQa
  have Kr0 := hH kQr
  have HB0 := hH hb0
  have HE0 := hH he0
  clear he0 hb0 kQc kQa kQr
  go_enter Tryz.func26, Tryz.ntmps26
  go_upto_region 1 with fail
  rw [← HE0.out]
  go_wp2_with (first | go_skip | ((with_reducible refine atW w1 ?_); refine store9 _ _ rfl (by rfl) _ rfl rfl Kr1.out rfl rfl (by simp [Value.oneCell']) ?_; intro w2 h1 h2; have Kr2 := hH h1; have hw2 := Nat.le_trans hw1 h2.size; have HB2 : Hid (Below W.heap.size W w2) := hH (below_grown9 HB1.out h2 (by omega)); have HO2 := hH (OwnG.kept HO1.out h2 (.inl (fun e => by have := (HO1.out.block _ e).1; omega))); clear h1 h2) | ((with_reducible refine atC w0 ?_); go_at_call 88; refine (HC.out _ HB0.out).mono ?_; intro e w1 h; unfold RetDone9 at h; obtain ⟨nw, rfl, hdo, h5⟩ := h; obtain ⟨na, nc, rfl⟩ := hdo.form; simp only [cmV]; have HO1 := hH hdo; have hw1 := Nat.le_trans hw0 h5.size; have HB1 : Hid (Below W.heap.size W w1) := hH (blThen HB0.out h5); have Kr1 := hH ((h5.block (W.heap.size + 2) (by omega)).trans Kr0.out); clear h5) | ((with_reducible refine atW w0 ?_); refine wpList_load_one _ _ rfl (by rfl) _ 13 rfl Ka0.out Tryz.underlying29 rfl rfl ?_) | ((with_reducible refine atW w0 ?_); refine load9 _ rfl (by rfl) _ rfl Kc0.out rfl ?_) | ((with_reducible refine atW w0 ?_); refine wpList_load_one _ _ rfl (by rfl) _ 0 rfl Ka0.out Tryz.underlying3 rfl rfl ?_))
  refine bodyPost_ret (results_cell_tmp9 Tryz.results26 _ _ _ 31 _ (0, 0) _ rfl Kr2.out Tryz.underlying31 rfl szCmd) rfl ?_
  exact ⟨⟨.slice oa on oc, .slice sa sn sc, .slice da dn dc, .slice wa wn wc, .slice na apr.length nc⟩, rfl, fun w2 k => HATF.out w2 _ ((S2.Keeps.ofBelow HB2.out).then k) (ownG_kpS HO2.out k (fun b hb => Nat.lt_of_lt_of_le (HSS.out b hb) HB0.out.size)).sl, HB2.out⟩
 have n6 := hk
 clear hk
 rw [(act_7 c n0 n1 n2 n3 n4 n5 n6).1, (act_7 c n0 n1 n2 n3 n4 n5 n6).2]
 clear h hx h0 hx0
 obtain ⟨oa, on, oc, sa, sn, sc, da, dn, dc, wa, wn, wc, pa, pn, pc, rfl⟩ := cm_forms HCAT.out
 obtain ⟨xoa, xon, xoc, xsa, xsn, xsc, xda, xdn, xdc, xwa, xwn, xwc, xpa, xpn, xpc, rfl⟩ := ac_forms HXAT.out
 obtain ⟨⟨id1, id2⟩, ops, phase, ⟨p1, p2⟩, ⟨v1, v2⟩, fast, seen, ⟨b1, b2⟩, has, ⟨q1, q2⟩, ⟨gone, ⟨t1, t2⟩, deps⟩, ready, writes, pairs⟩ := c
 obtain ⟨kind, aops, ⟨a1, a2⟩, ⟨y1, y2⟩, xf, adeps, ⟨xg, ⟨u1, u2⟩, avd⟩, awr, apr⟩ := x
 simp only [cmV, acV, vlV] at *
 try simp only at n0 n1 n2 n3 n4 n5 n6
 have e0 : (kind == 0) = false := by simpa using n0
 have e1 : (kind == 1) = false := by simpa using n1
 have e2 : (kind == 2) = false := by simpa using n2
 have e3 : (kind == 3) = false := by simpa using n3
 have e4 : (kind == 4) = false := by simpa using n4
 have e5 : (kind == 5) = false := by simpa using n5
 have e6 : (kind == 6) = false := by simpa using n6
 obtain ⟨w0, he0, hw0, kQc, kQa, kQr, hb0⟩ := boxes3 W (.cells (r22 id1 id2 (.slice oa on oc) phase p1 p2 v1 v2 fast (.slice sa sn sc) b1 b2 has q1 q2 gone t1 t2 (.slice da dn dc) ready (.slice wa wn wc) (.slice pa pn pc)) 31) (.cells #[.int .i64 kind, .slice xoa xon xoc, .int .i64 a1, .int .i64 a2, .int .i64 y1, .int .i64 y2, .bool xf, .slice xsa xsn xsc, .bool xg, .int .i64 u1, .int .i64 u2, .slice xda xdn xdc, .slice xwa xwn xwc, .slice xpa xpn xpc] 53) (.cells z22 31)
 have Kc0 := hH kQc
 have Ka0 := hH kQa
 have Kr0 := hH kQr
 have HB0 := hH hb0
 have HE0 := hH he0
 clear he0 hb0 kQc kQa kQr
 go_enter Tryz.func26, Tryz.ntmps26
 go_upto_region 1 with fail
 rw [← HE0.out]
 go_wp2_with (first | go_skip | ((with_reducible refine atW w0 ?_); refine store9 _ _ rfl (by rfl) _ rfl rfl Kr0.out rfl rfl (by simp [Value.oneCell']) ?_; intro w1 h1 h2; have Kr1 := hH h1; have hw1 := Nat.le_trans hw0 h2.size; have HB1 : Hid (Below W.heap.size W w1) := hH (below_grown9 HB0.out h2 (by omega)); clear h1 h2) | ((with_reducible refine atW w0 ?_); refine load9 _ rfl (by rfl) _ rfl Kc0.out rfl ?_) | ((with_reducible refine atW w0 ?_); refine wpList_load_one _ _ rfl (by rfl) _ 0 rfl Ka0.out Tryz.underlying3 rfl rfl ?_))
 refine bodyPost_ret (results_cell_tmp9 Tryz.results26 _ _ _ 31 _ (0, 0) _ rfl Kr1.out Tryz.underlying31 rfl szCmd) rfl ?_
 exact ⟨⟨.slice oa on oc, .slice sa sn sc, .slice da dn dc, .slice wa wn wc, .slice pa pn pc⟩, rfl, HCS.out.next HB1.out, HB1.out⟩

def cmX (x : Act9) : Cm := ⟨z2, x.ops, 0, z2, z2, false, x.deps, z2, false, z2, x.val, false, x.writes, x.pairs⟩
def rightB (x : Act9) (id : Stp) : Bool := smallC (cmX x) && mayB x id
theorem cmX_at {W : World} {x : Act9} {l : Pl} (h : AcAt W x l) : CmAt W (cmX x) l := ⟨h.o, h.s, h.d, h.w, h.p⟩
structure InX (x : Act9) : Prop where
 reach : ReachC (cmX x)
 no : ∀ o ∈ x.ops, o.2.2.2 < 18446744073709551616
 nw : ∀ o ∈ x.writes, o.2.1 < 18446744073709551616
 np : ∀ o ∈ x.pairs, o.2 < 18446744073709551616
 wf : ∀ y ∈ x.deps, ∀ i ∈ y.2, SD.WfT i
theorem right_few {x : Act9} {id : Stp} (h : rightB x id = true) : FewC (cmX x) := by unfold rightB at h; rw [Bool.and_eq_true] at h; exact few_small h.1
theorem right9_any (x : Act9) (l : Pl) (id : Stp) (W : World) (h : AcAt W x l) (hin : InX x) : Calls Tryz.prog 25 #[acV x l, .agg #[.int .i64 id.1, .int .i64 id.2]] W fun e w' => e = .returned (.bool (rightB x id)) ∧ Below W.heap.size W w' := by
 obtain ⟨i1, i2⟩ := id
 have HIN := hH hin
 have h2 := h
 obtain ⟨kind, po, ⟨a1, a2⟩, ⟨y1, y2⟩, xf, deps, ⟨g, ⟨t1, t2⟩, vd⟩, ws, ps⟩ := x
 obtain ⟨lo, ls, ld, lw, lp⟩ := l
 obtain ⟨xoa, xoc, rfl⟩ := h.o.form
 obtain ⟨xwa, xwc, rfl⟩ := h.w.form
 obtain ⟨xpa, xpc, rfl⟩ := h.p.form
 obtain ⟨xsa, xsc, sF, hls, hsl, hst, _⟩ := h.s
 obtain ⟨xda, xdc, dF, hld, hdl, hdt, _⟩ := h.d
 simp only at hls hld hst hdt
 subst hls hld hst hdt
 clear h
 have HLO : Hid (po.length ≤ 9223372036854775807) := hH (Nat.le_trans hin.reach.ol (by decide))
 have HLW : Hid (ws.length ≤ 9223372036854775807) := hH (Nat.le_trans hin.reach.wl (by decide))
 have HLP : Hid (ps.length ≤ 9223372036854775807) := hH (Nat.le_trans hin.reach.pl (by decide))
 have HLS : Hid (sF.length ≤ 9223372036854775807) := hH (by have h := hin.reach.sl; simp only [cmX, SD.toD, List.length_map] at h; omega)
 have HLD : Hid (dF.length ≤ 9223372036854775807) := hH (by have h := hin.reach.dl; simp only [cmX, SD.toD, List.length_map] at h; omega)
 have HIS : Hid (∀ s ∈ sF, s.ids.length ≤ 140737488355328) := hH (fun s hs => hin.reach.s (s.sh, s.ids) (List.mem_map.2 ⟨s, hs, rfl⟩))
 have HID : Hid (∀ s ∈ dF, s.ids.length ≤ 140737488355328) := hH (fun s hs => hin.reach.d (s.sh, s.ids) (List.mem_map.2 ⟨s, hs, rfl⟩))
 clear hin
 have HX_0 := hH (h2.later (show Below W.heap.size W ((W.alloc (.cells #[.int .i64 kind, .slice xoa po.length xoc, .int .i64 a1, .int .i64 a2, .int .i64 y1, .int .i64 y2, .bool xf, .slice xsa sF.length xsc, .bool g, .int .i64 t1, .int .i64 t2, .slice xda dF.length xdc, .slice xwa ws.length xwc, .slice xpa ps.length xpc] 53)).alloc (.cells #[.int .i64 i1, .int .i64 i2] 23)) from (blAlloc (blAlloc (Below.refl _ _) _) _)))
 have HSl_0 := hH (hsl.later (show Below W.heap.size W ((W.alloc (.cells #[.int .i64 kind, .slice xoa po.length xoc, .int .i64 a1, .int .i64 a2, .int .i64 y1, .int .i64 y2, .bool xf, .slice xsa sF.length xsc, .bool g, .int .i64 t1, .int .i64 t2, .slice xda dF.length xdc, .slice xwa ws.length xwc, .slice xpa ps.length xpc] 53)).alloc (.cells #[.int .i64 i1, .int .i64 i2] 23)) from (blAlloc (blAlloc (Below.refl _ _) _) _)))
 have HDl_0 := hH (hdl.later (show Below W.heap.size W ((W.alloc (.cells #[.int .i64 kind, .slice xoa po.length xoc, .int .i64 a1, .int .i64 a2, .int .i64 y1, .int .i64 y2, .bool xf, .slice xsa sF.length xsc, .bool g, .int .i64 t1, .int .i64 t2, .slice xda dF.length xdc, .slice xwa ws.length xwc, .slice xpa ps.length xpc] 53)).alloc (.cells #[.int .i64 i1, .int .i64 i2] 23)) from (blAlloc (blAlloc (Below.refl _ _) _) _)))
 clear h2 hsl hdl
 unfold acV
 simp only
 have HN := hH (fun i o (h : ([(.cells #[.int .i64 kind, .slice xoa po.length xoc, .int .i64 a1, .int .i64 a2, .int .i64 y1, .int .i64 y2, .bool xf, .slice xsa sF.length xsc, .bool g, .int .i64 t1, .int .i64 t2, .slice xda dF.length xdc, .slice xwa ws.length xwc, .slice xpa ps.length xpc] 53), (.cells #[.int .i64 i1, .int .i64 i2] 23)] : List Obj)[i]? = some o) => nth_box W [(.cells #[.int .i64 kind, .slice xoa po.length xoc, .int .i64 a1, .int .i64 a2, .int .i64 y1, .int .i64 y2, .bool xf, .slice xsa sF.length xsc, .bool g, .int .i64 t1, .int .i64 t2, .slice xda dF.length xdc, .slice xwa ws.length xwc, .slice xpa ps.length xpc] 53), (.cells #[.int .i64 i1, .int .i64 i2] 23)] i o h)
 have HSZ : Hid (W.heap.size + 2 = ((W.alloc (.cells #[.int .i64 kind, .slice xoa po.length xoc, .int .i64 a1, .int .i64 a2, .int .i64 y1, .int .i64 y2, .bool xf, .slice xsa sF.length xsc, .bool g, .int .i64 t1, .int .i64 t2, .slice xda dF.length xdc, .slice xwa ws.length xwc, .slice xpa ps.length xpc] 53)).alloc (.cells #[.int .i64 i1, .int .i64 i2] 23)).heap.size) := hH (HN.out 0 _ rfl).2
 have Ka_0 : Hid (((W.alloc (.cells #[.int .i64 kind, .slice xoa po.length xoc, .int .i64 a1, .int .i64 a2, .int .i64 y1, .int .i64 y2, .bool xf, .slice xsa sF.length xsc, .bool g, .int .i64 t1, .int .i64 t2, .slice xda dF.length xdc, .slice xwa ws.length xwc, .slice xpa ps.length xpc] 53)).alloc (.cells #[.int .i64 i1, .int .i64 i2] 23)).heap[W.heap.size]? = some (.cells #[.int .i64 kind, .slice xoa po.length xoc, .int .i64 a1, .int .i64 a2, .int .i64 y1, .int .i64 y2, .bool xf, .slice xsa sF.length xsc, .bool g, .int .i64 t1, .int .i64 t2, .slice xda dF.length xdc, .slice xwa ws.length xwc, .slice xpa ps.length xpc] 53 (0, 0))) := hH (HN.out 0 _ rfl).1
 have La_0 : Hid (W.heap.size < ((W.alloc (.cells #[.int .i64 kind, .slice xoa po.length xoc, .int .i64 a1, .int .i64 a2, .int .i64 y1, .int .i64 y2, .bool xf, .slice xsa sF.length xsc, .bool g, .int .i64 t1, .int .i64 t2, .slice xda dF.length xdc, .slice xwa ws.length xwc, .slice xpa ps.length xpc] 53)).alloc (.cells #[.int .i64 i1, .int .i64 i2] 23)).heap.size) := hH (by have := HSZ.out; omega)
 have Ki_0 : Hid (((W.alloc (.cells #[.int .i64 kind, .slice xoa po.length xoc, .int .i64 a1, .int .i64 a2, .int .i64 y1, .int .i64 y2, .bool xf, .slice xsa sF.length xsc, .bool g, .int .i64 t1, .int .i64 t2, .slice xda dF.length xdc, .slice xwa ws.length xwc, .slice xpa ps.length xpc] 53)).alloc (.cells #[.int .i64 i1, .int .i64 i2] 23)).heap[(W.heap.size + 1)]? = some (.cells #[.int .i64 i1, .int .i64 i2] 23 (0, 0))) := hH (HN.out 1 _ rfl).1
 have Li_0 : Hid ((W.heap.size + 1) < ((W.alloc (.cells #[.int .i64 kind, .slice xoa po.length xoc, .int .i64 a1, .int .i64 a2, .int .i64 y1, .int .i64 y2, .bool xf, .slice xsa sF.length xsc, .bool g, .int .i64 t1, .int .i64 t2, .slice xda dF.length xdc, .slice xwa ws.length xwc, .slice xpa ps.length xpc] 53)).alloc (.cells #[.int .i64 i1, .int .i64 i2] 23)).heap.size) := hH (by have := HSZ.out; omega)
 have HB_0 : Hid (Below W.heap.size W ((W.alloc (.cells #[.int .i64 kind, .slice xoa po.length xoc, .int .i64 a1, .int .i64 a2, .int .i64 y1, .int .i64 y2, .bool xf, .slice xsa sF.length xsc, .bool g, .int .i64 t1, .int .i64 t2, .slice xda dF.length xdc, .slice xwa ws.length xwc, .slice xpa ps.length xpc] 53)).alloc (.cells #[.int .i64 i1, .int .i64 i2] 23))) := hH (blAlloc (blAlloc (Below.refl _ _) _) _)
 clear HN
 go_enter Tryz.func25, Tryz.ntmps25
 go_upto_region 1 with fail
 generalize ((W.alloc (.cells #[.int .i64 kind, .slice xoa po.length xoc, .int .i64 a1, .int .i64 a2, .int .i64 y1, .int .i64 y2, .bool xf, .slice xsa sF.length xsc, .bool g, .int .i64 t1, .int .i64 t2, .slice xda dF.length xdc, .slice xwa ws.length xwc, .slice xpa ps.length xpc] 53)).alloc (.cells #[.int .i64 i1, .int .i64 i2] 23)) = w0 at *
 have hsz0 : W.heap.size + 2 ≤ w0.heap.size := Nat.le_of_eq HSZ.out
 clear HSZ
 go_wp2_with (first | go_skip | ((with_reducible refine atW w1 ?_); refine load9 _ rfl (by rfl) _ rfl Kc_1.out rfl ?_) | ((with_reducible refine atW (w0.alloc (.cells z22 31)) ?_); refine store9 _ _ rfl (by rfl) _ rfl rfl (new_blockC w0 z22 31) rfl rfl (by simp [Value.oneCell']) ?_; intro w1 h1 h2; have h5 := below_grown9 (blAlloc (Below.refl _ _) _) h2 (Nat.le_refl _); have HB_1 : Hid (Below W.heap.size W w1) := hH (blThen HB_0.out h5); have Ka_1 := row_up Ka_0 La_0 h5; have La_1 := lt_up La_0 h5; have Ki_1 := row_up Ki_0 Li_0 h5; have Li_1 := lt_up Li_0 h5; have HX_1 := hH (HX_0.out.later h5); have HSl_1 := hH (HSl_0.out.later h5); have HDl_1 := hH (HDl_0.out.later h5); have Kc_1 := hH h1; clear h1 h2 h5) | ((with_reducible refine atW w0 ?_); refine wpList_load_part _ _ rfl (by rfl) _ 8 rfl Ka_0.out Tryz.underlying27 rfl #[.bool g, .int .i64 t1, .int .i64 t2, .slice xda dF.length xdc] (by kernel_rfl) (four_at rfl rfl rfl rfl) ?_) | ((with_reducible refine atW w0 ?_); refine wpList_load_one _ _ rfl (by rfl) _ 13 rfl Ka_0.out Tryz.underlying29 rfl rfl ?_) | ((with_reducible refine atW w0 ?_); refine wpList_load_one _ _ rfl (by rfl) _ 12 rfl Ka_0.out Tryz.underlying28 rfl rfl ?_) | ((with_reducible refine atW w0 ?_); refine wpList_load_one _ _ rfl (by rfl) _ 7 rfl Ka_0.out Tryz.underlying25 rfl rfl ?_) | ((with_reducible refine atW w0 ?_); refine wpList_load_one _ _ rfl (by rfl) _ 1 rfl Ka_0.out Tryz.underlying24 rfl rfl ?_))
 cases hc : smallC (cmX ⟨kind, po, (a1, a2), (y1, y2), xf, SD.toD sF, (g, (t1, t2), SD.toD dF), ws, ps⟩)
 ·have HV : Hid (rightB ⟨kind, po, (a1, a2), (y1, y2), xf, SD.toD sF, (g, (t1, t2), SD.toD dF), ws, ps⟩ (i1, i2) = false) := hH (by unfold rightB mayB; simp only; simp [hc])
  go_wp2_with (first | go_skip | ((with_reducible refine atC w1 ?_); go_at_call 9; go_must (refine (small9_any (cmX ⟨kind, po, (a1, a2), (y1, y2), xf, SD.toD sF, (g, (t1, t2), SD.toD dF), ws, ps⟩) ⟨.slice xoa po.length xoc, .slice xsa sF.length xsc, .slice xda dF.length xdc, .slice xwa ws.length xwc, .slice xpa ps.length xpc⟩ w1 (cmX_at HX_1.out) HIN.out.reach).mono ?_; rw [hc]; rintro e w2 ⟨rfl, h5⟩; have HB_2 : Hid (Below W.heap.size W w2) := hH (blThen HB_1.out h5); have Ka_2 := row_up Ka_1 La_1 h5; have La_2 := lt_up La_1 h5; have Ki_2 := row_up Ki_1 Li_1 h5; have Li_2 := lt_up Li_1 h5; have HX_2 := hH (HX_1.out.later h5); have HSl_2 := hH (HSl_1.out.later h5); have HDl_2 := hH (HDl_1.out.later h5); clear h5)))
  go_ret
  exact ⟨ret_bool HV.out.symm, HB_2.out⟩
 ·have H1 := hH hc
  clear hc
  go_wp2_with (first | go_skip | ((with_reducible refine atW w2 ?_); refine wpList_load_one _ _ rfl (by rfl) _ 1 rfl Ka_2.out Tryz.underlying24 rfl rfl ?_) | ((with_reducible refine atC w1 ?_); go_at_call 9; go_must (refine (small9_any (cmX ⟨kind, po, (a1, a2), (y1, y2), xf, SD.toD sF, (g, (t1, t2), SD.toD dF), ws, ps⟩) ⟨.slice xoa po.length xoc, .slice xsa sF.length xsc, .slice xda dF.length xdc, .slice xwa ws.length xwc, .slice xpa ps.length xpc⟩ w1 (cmX_at HX_1.out) HIN.out.reach).mono ?_; rw [H1.out]; rintro e w2 ⟨rfl, h5⟩; have HB_2 : Hid (Below W.heap.size W w2) := hH (blThen HB_1.out h5); have Ka_2 := row_up Ka_1 La_1 h5; have La_2 := lt_up La_1 h5; have Ki_2 := row_up Ki_1 Li_1 h5; have Li_2 := lt_up Li_1 h5; have HX_2 := hH (HX_1.out.later h5); have HSl_2 := hH (HSl_1.out.later h5); have HDl_2 := hH (HDl_1.out.later h5); clear h5)))
  by_cases hc : checkP po = 0
  rotate_left
  ·have hb : ((checkP po == 0) = false) := by simpa using hc
   have hd : ((checkP po != 0) = true) := by simpa using hc
   have HV : Hid (rightB ⟨kind, po, (a1, a2), (y1, y2), xf, SD.toD sF, (g, (t1, t2), SD.toD dF), ws, ps⟩ (i1, i2) = false) := hH (by unfold rightB mayB; simp only; simp [hc])
   go_wp2_with (first | go_skip | ((with_reducible refine atC w2 ?_); go_at_call 56; go_must (refine (refcheck8w_any _ po w2 HLO.out HX_2.out.o HIN.out.no).mono ?_; rintro e w3 ⟨rfl, h5⟩; have HB_3 : Hid (Below W.heap.size W w3) := hH (blThen HB_2.out h5); have Ka_3 := row_up Ka_2 La_2 h5; have La_3 := lt_up La_2 h5; have Ki_3 := row_up Ki_2 Li_2 h5; have Li_3 := lt_up Li_2 h5; have HX_3 := hH (HX_2.out.later h5); have HSl_3 := hH (HSl_2.out.later h5); have HDl_3 := hH (HDl_2.out.later h5); clear h5)))
   go_ret
   exact ⟨ret_bool HV.out.symm, HB_3.out⟩
  ·have H2 := hH hc
   clear hc
   go_wp2_with (first | go_skip | ((with_reducible refine atW w3 ?_); refine wpList_load_part _ _ rfl (by rfl) _ 2 rfl Ka_3.out Tryz.underlying23 rfl #[.int .i64 a1, .int .i64 a2] (by kernel_rfl) (two_at rfl rfl) ?_) | ((with_reducible refine atC w2 ?_); go_at_call 56; go_must (refine (refcheck8w_any _ po w2 HLO.out HX_2.out.o HIN.out.no).mono ?_; rw [H2.out]; rintro e w3 ⟨rfl, h5⟩; have HB_3 : Hid (Below W.heap.size W w3) := hH (blThen HB_2.out h5); have Ka_3 := row_up Ka_2 La_2 h5; have La_3 := lt_up La_2 h5; have Ki_3 := row_up Ki_2 Li_2 h5; have Li_3 := lt_up Li_2 h5; have HX_3 := hH (HX_2.out.later h5); have HSl_3 := hH (HSl_2.out.later h5); have HDl_3 := hH (HDl_2.out.later h5); clear h5)))
   cases hc : ballotB (a1, a2)
   ·have HV : Hid (rightB ⟨kind, po, (a1, a2), (y1, y2), xf, SD.toD sF, (g, (t1, t2), SD.toD dF), ws, ps⟩ (i1, i2) = false) := hH (by unfold rightB mayB; simp only; simp [hc])
    go_wp2_with (first | go_skip | ((with_reducible refine atC w3 ?_); go_at_call 59; go_must (refine (rballot_any (a1, a2) w3).mono ?_; rw [hc]; rintro e w4 ⟨rfl, h5⟩; have HB_4 : Hid (Below W.heap.size W w4) := hH (blThen HB_3.out h5); have Ka_4 := row_up Ka_3 La_3 h5; have La_4 := lt_up La_3 h5; have Ki_4 := row_up Ki_3 Li_3 h5; have Li_4 := lt_up Li_3 h5; have HX_4 := hH (HX_3.out.later h5); have HSl_4 := hH (HSl_3.out.later h5); have HDl_4 := hH (HDl_3.out.later h5); clear h5)))
    go_ret
    exact ⟨ret_bool HV.out.symm, HB_4.out⟩
   ·have H3 := hH hc
    clear hc
    go_wp2_with (first | go_skip | ((with_reducible refine atW w4 ?_); refine wpList_load_part _ _ rfl (by rfl) _ 4 rfl Ka_4.out Tryz.underlying23 rfl #[.int .i64 y1, .int .i64 y2] (by kernel_rfl) (two_at rfl rfl) ?_) | ((with_reducible refine atC w3 ?_); go_at_call 59; go_must (refine (rballot_any (a1, a2) w3).mono ?_; rw [H3.out]; rintro e w4 ⟨rfl, h5⟩; have HB_4 : Hid (Below W.heap.size W w4) := hH (blThen HB_3.out h5); have Ka_4 := row_up Ka_3 La_3 h5; have La_4 := lt_up La_3 h5; have Ki_4 := row_up Ki_3 Li_3 h5; have Li_4 := lt_up Li_3 h5; have HX_4 := hH (HX_3.out.later h5); have HSl_4 := hH (HSl_3.out.later h5); have HDl_4 := hH (HDl_3.out.later h5); clear h5)))
    cases hc : S1.isS (y1, y2)
    ·have HV : Hid (rightB ⟨kind, po, (a1, a2), (y1, y2), xf, SD.toD sF, (g, (t1, t2), SD.toD dF), ws, ps⟩ (i1, i2) = false) := hH (by unfold rightB mayB; simp only; simp [hc])
     go_wp2_with (first | go_skip | ((with_reducible refine atC w4 ?_); go_at_call 24; go_must (refine (S1.is_any y1 y2 w4).mono ?_; rw [hc]; rintro e w5 ⟨rfl, h5⟩; have h5 := below_grow (Below.refl _ _) h5; have HB_5 : Hid (Below W.heap.size W w5) := hH (blThen HB_4.out h5); have Ka_5 := row_up Ka_4 La_4 h5; have La_5 := lt_up La_4 h5; have Ki_5 := row_up Ki_4 Li_4 h5; have HX_5 := hH (HX_4.out.later h5); have HSl_5 := hH (HSl_4.out.later h5); have HDl_5 := hH (HDl_4.out.later h5); clear h5)))
     go_ret
     exact ⟨ret_bool HV.out.symm, HB_5.out⟩
    ·have H4 := hH hc
     clear hc
     go_wp2_with (first | go_skip | ((with_reducible refine atW w5 ?_); refine wpList_load_part _ _ rfl (by rfl) _ 0 rfl Ki_5.out Tryz.underlying23 rfl #[.int .i64 i1, .int .i64 i2] (by kernel_rfl) (two_at rfl rfl) ?_) | ((with_reducible refine atW w5 ?_); refine wpList_load_part _ _ rfl (by rfl) _ 4 rfl Ka_5.out Tryz.underlying23 rfl #[.int .i64 y1, .int .i64 y2] (by kernel_rfl) (two_at rfl rfl) ?_) | ((with_reducible refine atC w4 ?_); go_at_call 24; go_must (refine (S1.is_any y1 y2 w4).mono ?_; rw [H4.out]; rintro e w5 ⟨rfl, h5⟩; have h5 := below_grow (Below.refl _ _) h5; have HB_5 : Hid (Below W.heap.size W w5) := hH (blThen HB_4.out h5); have Ka_5 := row_up Ka_4 La_4 h5; have La_5 := lt_up La_4 h5; have Ki_5 := row_up Ki_4 Li_4 h5; have HX_5 := hH (HX_4.out.later h5); have HSl_5 := hH (HSl_4.out.later h5); have HDl_5 := hH (HDl_4.out.later h5); clear h5)))
     cases hc : S1.ltS (y1, y2) (i1, i2)
     ·have H5 := hH hc
      clear hc
      go_wp2_with (first | go_skip | ((with_reducible refine atW w6 ?_); refine wpList_load_one _ _ rfl (by rfl) _ 7 rfl Ka_6.out Tryz.underlying25 rfl rfl ?_) | ((with_reducible refine atC w5 ?_); go_at_call 28; go_must (refine (S1.less_any y1 y2 i1 i2 w5).mono ?_; rw [H5.out]; rintro e w6 ⟨rfl, h5⟩; have h5 := below_grow (Below.refl _ _) h5; have HB_6 : Hid (Below W.heap.size W w6) := hH (blThen HB_5.out h5); have Ka_6 := row_up Ka_5 La_5 h5; have La_6 := lt_up La_5 h5; have HX_6 := hH (HX_5.out.later h5); have HSl_6 := hH (HSl_5.out.later h5); have HDl_6 := hH (HDl_5.out.later h5); clear h5)))
      by_cases hc : SD.checkD (SD.toD sF) = 0
      rotate_left
      ·have hb : ((SD.checkD (SD.toD sF) == 0) = false) := by simpa using hc
       have hd : ((SD.checkD (SD.toD sF) != 0) = true) := by simpa using hc
       have HV : Hid (rightB ⟨kind, po, (a1, a2), (y1, y2), xf, SD.toD sF, (g, (t1, t2), SD.toD dF), ws, ps⟩ (i1, i2) = false) := hH (by unfold rightB mayB; simp only; simp [hc])
       go_wp2_with (first | go_skip | ((with_reducible refine atC w6 ?_); go_at_call 58; go_must (refine (refcheckw_any xsa xsc sF w6 HLS.out HIS.out HSl_6.out).mono ?_; rintro e w7 ⟨rfl, h5⟩; have HB_7 : Hid (Below W.heap.size W w7) := hH (blThen HB_6.out h5); have Ka_7 := row_up Ka_6 La_6 h5; have La_7 := lt_up La_6 h5; have HX_7 := hH (HX_6.out.later h5); have HDl_7 := hH (HDl_6.out.later h5); clear h5)))
       go_ret
       exact ⟨ret_bool HV.out.symm, HB_7.out⟩
      ·have H6 := hH hc
       clear hc
       go_wp2_with (first | go_skip | ((with_reducible refine atW w7 ?_); refine wpList_load_part _ _ rfl (by rfl) _ 8 rfl Ka_7.out Tryz.underlying27 rfl #[.bool g, .int .i64 t1, .int .i64 t2, .slice xda dF.length xdc] (by kernel_rfl) (four_at rfl rfl rfl rfl) ?_) | ((with_reducible refine atC w6 ?_); go_at_call 58; go_must (refine (refcheckw_any xsa xsc sF w6 HLS.out HIS.out HSl_6.out).mono ?_; rw [H6.out]; rintro e w7 ⟨rfl, h5⟩; have HB_7 : Hid (Below W.heap.size W w7) := hH (blThen HB_6.out h5); have Ka_7 := row_up Ka_6 La_6 h5; have La_7 := lt_up La_6 h5; have HX_7 := hH (HX_6.out.later h5); have HDl_7 := hH (HDl_6.out.later h5); clear h5)))
       cases hc : valueB (g, (t1, t2), SD.toD dF)
       ·have HV : Hid (rightB ⟨kind, po, (a1, a2), (y1, y2), xf, SD.toD sF, (g, (t1, t2), SD.toD dF), ws, ps⟩ (i1, i2) = false) := hH (by unfold rightB mayB; simp only; simp [hc])
        go_wp2_with (first | go_skip | ((with_reducible refine atC w7 ?_); go_at_call 60; go_must (refine (rvalue9w_any (g, (t1, t2), SD.toD dF) xda xdc dF w7 HLD.out HID.out HDl_7.out rfl).mono ?_; rw [hc]; rintro e w8 ⟨rfl, h5⟩; have HB_8 : Hid (Below W.heap.size W w8) := hH (blThen HB_7.out h5); have Ka_8 := row_up Ka_7 La_7 h5; have La_8 := lt_up La_7 h5; have HX_8 := hH (HX_7.out.later h5); clear h5)))
        go_ret
        exact ⟨ret_bool HV.out.symm, HB_8.out⟩
       ·have H7 := hH hc
        clear hc
        cases hc : writesB none ws
        ·have HV : Hid (rightB ⟨kind, po, (a1, a2), (y1, y2), xf, SD.toD sF, (g, (t1, t2), SD.toD dF), ws, ps⟩ (i1, i2) = false) := hH (by unfold rightB mayB; simp only; simp [hc])
         go_wp2_with (first | go_skip | ((with_reducible refine atC w8 ?_); go_at_call 61; go_must (refine (rwritesw_any _ ws w8 HLW.out HIN.out.nw HX_8.out.w).mono ?_; rw [hc]; rintro e w9 ⟨rfl, h5⟩; have HB_9 : Hid (Below W.heap.size W w9) := hH (blThen HB_8.out h5); have Ka_9 := row_up Ka_8 La_8 h5; have HX_9 := hH (HX_8.out.later h5); clear h5)) | ((with_reducible refine atW w8 ?_); refine wpList_load_one _ _ rfl (by rfl) _ 12 rfl Ka_8.out Tryz.underlying28 rfl rfl ?_) | ((with_reducible refine atC w7 ?_); go_at_call 60; go_must (refine (rvalue9w_any (g, (t1, t2), SD.toD dF) xda xdc dF w7 HLD.out HID.out HDl_7.out rfl).mono ?_; rw [H7.out]; rintro e w8 ⟨rfl, h5⟩; have HB_8 : Hid (Below W.heap.size W w8) := hH (blThen HB_7.out h5); have Ka_8 := row_up Ka_7 La_7 h5; have La_8 := lt_up La_7 h5; have HX_8 := hH (HX_7.out.later h5); clear h5)))
         go_ret
         exact ⟨ret_bool HV.out.symm, HB_9.out⟩
        ·have HV : Hid (rightB ⟨kind, po, (a1, a2), (y1, y2), xf, SD.toD sF, (g, (t1, t2), SD.toD dF), ws, ps⟩ (i1, i2) = dataB none ps) := hH (by unfold rightB mayB; simp only; simp only [H1.out, H2.out, H3.out, H4.out, H5.out, H6.out, H7.out, hc]; simp)
         go_wp2_with (first | go_skip | ((with_reducible refine atC w9 ?_); go_at_call 62; go_must (refine (rdataw_any _ ps w9 HLP.out HIN.out.np HX_9.out.p).mono ?_; rintro e w10 ⟨rfl, h5⟩; have HB_10 : Hid (Below W.heap.size W w10) := hH (blThen HB_9.out h5); clear h5)) | ((with_reducible refine atW w9 ?_); refine wpList_load_one _ _ rfl (by rfl) _ 13 rfl Ka_9.out Tryz.underlying29 rfl rfl ?_) | ((with_reducible refine atC w8 ?_); go_at_call 61; go_must (refine (rwritesw_any _ ws w8 HLW.out HIN.out.nw HX_8.out.w).mono ?_; rw [hc]; rintro e w9 ⟨rfl, h5⟩; have HB_9 : Hid (Below W.heap.size W w9) := hH (blThen HB_8.out h5); have Ka_9 := row_up Ka_8 La_8 h5; have HX_9 := hH (HX_8.out.later h5); clear h5)) | ((with_reducible refine atW w8 ?_); refine wpList_load_one _ _ rfl (by rfl) _ 12 rfl Ka_8.out Tryz.underlying28 rfl rfl ?_) | ((with_reducible refine atC w7 ?_); go_at_call 60; go_must (refine (rvalue9w_any (g, (t1, t2), SD.toD dF) xda xdc dF w7 HLD.out HID.out HDl_7.out rfl).mono ?_; rw [H7.out]; rintro e w8 ⟨rfl, h5⟩; have HB_8 : Hid (Below W.heap.size W w8) := hH (blThen HB_7.out h5); have Ka_8 := row_up Ka_7 La_7 h5; have La_8 := lt_up La_7 h5; have HX_8 := hH (HX_7.out.later h5); clear h5)))
         go_ret
         exact ⟨ret_bool HV.out.symm, HB_10.out⟩
     ·have HV : Hid (rightB ⟨kind, po, (a1, a2), (y1, y2), xf, SD.toD sF, (g, (t1, t2), SD.toD dF), ws, ps⟩ (i1, i2) = false) := hH (by unfold rightB mayB; simp only; simp [hc])
      go_wp2_with (first | go_skip | ((with_reducible refine atC w5 ?_); go_at_call 28; go_must (refine (S1.less_any y1 y2 i1 i2 w5).mono ?_; rw [hc]; rintro e w6 ⟨rfl, h5⟩; have h5 := below_grow (Below.refl _ _) h5; have HB_6 : Hid (Below W.heap.size W w6) := hH (blThen HB_5.out h5); have Ka_6 := row_up Ka_5 La_5 h5; have La_6 := lt_up La_5 h5; have HX_6 := hH (HX_5.out.later h5); have HSl_6 := hH (HSl_5.out.later h5); have HDl_6 := hH (HDl_5.out.later h5); clear h5)))
      go_ret
      exact ⟨ret_bool HV.out.symm, HB_6.out⟩

theorem cellsAct9 : Tryz.prog.cellsOf 53 = 14 := by kernel_rfl
theorem cellsOps9 : Tryz.prog.cellsOf 24 = 1 := by kernel_rfl
theorem cellsWrs9 : Tryz.prog.cellsOf 28 = 1 := by kernel_rfl
theorem cellsPrs9 : Tryz.prog.cellsOf 29 = 1 := by kernel_rfl
structure AcR where
 kind : Int
 ops : List Opr
 oa : Option Addr
 oc : Nat
 a : Stp
 b : Stp
 fast : Bool
 sF : List SD.Dp
 sa : Option Addr
 sc : Nat
 g : Bool
 t : Stp
 dF : List SD.Dp
 da : Option Addr
 dc : Nat
 ws : List Wrt
 wa : Option Addr
 wc : Nat
 ps : Al Nat
 pa : Option Addr
 pc : Nat
def AcR.x (r : AcR) : Act9 := ⟨r.kind, r.ops, r.a, r.b, r.fast, SD.toD r.sF, (r.g, r.t, SD.toD r.dF), r.ws, r.ps⟩
def AcR.l (r : AcR) : Pl := ⟨.slice r.oa r.ops.length r.oc, .slice r.sa r.sF.length r.sc, .slice r.da r.dF.length r.dc, .slice r.wa r.ws.length r.wc, .slice r.pa r.ps.length r.pc⟩
def eX : Enc AcR := ⟨fun r => [.int .i64 r.kind, .slice r.oa r.ops.length r.oc, .int .i64 r.a.1, .int .i64 r.a.2, .int .i64 r.b.1, .int .i64 r.b.2, .bool r.fast, .slice r.sa r.sF.length r.sc, .bool r.g, .int .i64 r.t.1, .int .i64 r.t.2, .slice r.da r.dF.length r.dc, .slice r.wa r.ws.length r.wc, .slice r.pa r.ps.length r.pc], 14, fun _ => rfl, fun x u hu => by
 simp only [List.mem_cons, List.not_mem_nil, or_false] at hu
 rcases hu with rfl | rfl | rfl | rfl | rfl | rfl | rfl | rfl | rfl | rfl | rfl | rfl | rfl | rfl <;> rfl, by decide⟩
section
variable {H : Type} {enc : TypeId × Value → H}
def WB (t : TypeId) (d : DataW H) (n : Nat) : Prop := n = 0 ∨ ∃ m ∈ d.weights Tryz.prog t, n ≤ m
theorem WB.up {t s : TypeId} {d e : DataW H} {n : Nat} (h : WB t d n) (hm : ∀ m ∈ d.weights Tryz.prog t, m ∈ e.weights Tryz.prog s) : WB s e n := by
 rcases h with h | ⟨m, h1, h2⟩
 ·exact .inl h
 ·exact .inr ⟨m, hm m h1, h2⟩
theorem WB.reach {t : TypeId} {d : DataW H} {n : Nat} (h : WB t d n) {ts : List TypeId} {ds : List (DataW H)} (hsz : (DataW.weightsEach Tryz.prog ts ds).all (· ≤ reachBytes) = true) {j : Nat} (ht : ts[j]? = some t) (hd : ds[j]? = some d) : n ≤ 140737488355328 := by
 rcases h with h | ⟨m, h1, h2⟩
 ·omega
 ·exact Nat.le_trans h2 (reach_of hsz ht hd h1)
theorem WB.inw {t : TypeId} {d : DataW H} {k : ByteArray} (h : InW t d k) : WB t d k.size := .inr h
theorem field_w {t ti : TypeId} {fs : Array Field} (hu : Tryz.prog.underlying t = some (.struct fs)) {ds : List (DataW H)} {d : DataW H} (i : Nat) (ht : (fs.toList.map (·.type))[i]? = some ti) (hd : ds[i]? = some d) : ∀ m ∈ d.weights Tryz.prog ti, m ∈ (DataW.agg ds : DataW H).weights Tryz.prog t := by
 intro m hm
 simp only [DataW.weights, hu]
 exact DataW.weights_mem_each ht hd m hm
theorem len_weight9 {t e : TypeId} {w : World} {fuel : Nat} {a : Option Addr} {n c : Nat} {x : DataW H × List MemPlace} (hu : Tryz.prog.underlying t = some (.slice e)) (hb : 0 < Tryz.prog.bytesOf e) (hf : DataW.trod enc Tryz.prog w 0 (fun _ => true) true fuel t [.slice a n c] = some x) : WB t x.1 n := by
 rcases open_slice hu hf with ⟨hcs, _⟩ | ⟨a', len, cap, m, k, D, Pl, hcs, _, hl, hm, hmm, hx, hi⟩
 ·simp only [List.cons.injEq, Value.slice.injEq, and_true] at hcs
  exact .inl hcs.2.1
 ·simp only [List.cons.injEq, Value.slice.injEq, and_true] at hcs
  obtain ⟨rfl, rfl, rfl⟩ := hcs
  have hx1 := congrArg Prod.fst hx
  simp only at hx1
  refine .inr ⟨(n + (m - n)) * Tryz.prog.bytesOf e, ?_, ?_⟩
  ·rw [hx1]
   simp only [DataW.weights, hu, List.length_map, List.length_range]
   exact List.mem_cons_self
  ·have h3 : n * 1 ≤ (n + (m - n)) * Tryz.prog.bytesOf e := Nat.mul_le_mul (by omega) hb
   omega
theorem bytesWr9e : 0 < Tryz.prog.bytesOf 84 := of_decide_eq_true (by kernel_rfl)
theorem bytesPr9e : 0 < Tryz.prog.bytesOf 86 := of_decide_eq_true (by kernel_rfl)
theorem bytesOp9e : 0 < Tryz.prog.bytesOf 79 := of_decide_eq_true (by kernel_rfl)
theorem bytesDp9e : 0 < Tryz.prog.bytesOf 82 := of_decide_eq_true (by kernel_rfl)
structure WX (t : TypeId) (y : DataW H) (r : AcR) : Prop where
 ol : WB t y r.ops.length
 sl : WB t y r.sF.length
 dl : WB t y r.dF.length
 wl : WB t y r.ws.length
 pl : WB t y r.ps.length
 o : ∀ q ∈ r.ops, WB t y q.2.1.size ∧ WB t y q.2.2.1.size
 s : ∀ q ∈ r.sF, WB t y q.ids.length
 d : ∀ q ∈ r.dF, WB t y q.ids.length
 w : ∀ q ∈ r.ws, WB t y q.1.size
 p : ∀ q ∈ r.ps, WB t y q.1.size
theorem WX.up {t s : TypeId} {d e : DataW H} {r : AcR} (h : WX t d r) (hm : ∀ m ∈ d.weights Tryz.prog t, m ∈ e.weights Tryz.prog s) : WX s e r :=
 ⟨h.ol.up hm, h.sl.up hm, h.dl.up hm, h.wl.up hm, h.pl.up hm, fun q hq => ⟨(h.o q hq).1.up hm, (h.o q hq).2.up hm⟩, fun q hq => (h.s q hq).up hm, fun q hq => (h.d q hq).up hm, fun q hq => (h.w q hq).up hm, fun q hq => (h.p q hq).up hm⟩
structure NX (w : World) (r : AcR) : Prop where
 at_ : AcAt w r.x r.l
 no : ∀ o ∈ r.ops, o.2.2.2 < 18446744073709551616
 nw : ∀ o ∈ r.ws, o.2.1 < 18446744073709551616
 np : ∀ o ∈ r.ps, o.2 < 18446744073709551616
 wf : SD.WfD r.sF
theorem NX.inx {w : World} {r : AcR} {t : TypeId} {d : DataW H} (h : NX w r) (k : WX t d r) {ts : List TypeId} {ds : List (DataW H)} (hsz : (DataW.weightsEach Tryz.prog ts ds).all (· ≤ reachBytes) = true) {j : Nat} (ht : ts[j]? = some t) (hd : ds[j]? = some d) : InX r.x := by
 have R : ∀ {n : Nat}, WB t d n → n ≤ 140737488355328 := fun h => h.reach hsz ht hd
 refine ⟨⟨R k.ol, ?_, ?_, R k.wl, R k.pl, fun q hq => ?_, fun q hq => ?_, fun q hq => ?_, fun q hq => R (k.w q hq), fun q hq => R (k.p q hq)⟩, h.no, h.nw, h.np, ?_⟩
 ·show (SD.toD r.sF).length ≤ _
  rw [SD.toD_length]
  exact R k.sl
 ·show (SD.toD r.dF).length ≤ _
  rw [SD.toD_length]
  exact R k.dl
 ·have h1 := R (k.o q hq).1
  have h2 := R (k.o q hq).2
  show q.2.1.size + q.2.2.1.size ≤ _
  omega
 ·obtain ⟨s, hs, rfl⟩ := List.mem_map.1 hq
  exact R (k.s s hs)
 ·obtain ⟨s, hs, rfl⟩ := List.mem_map.1 hq
  exact R (k.d s hs)
 ·intro y hy i hi
  obtain ⟨s, hs, rfl⟩ := List.mem_map.1 hy
  exact (h.wf s hs).2 i hi
theorem ops_cells9 {w : World} {cs : List Value} {fuel : Nat} {x : DataW H × List MemPlace} (hf' : DataW.trod enc Tryz.prog w 0 (fun _ => true) true fuel 24 cs = some x) :
  ∃ (v : Value) (l : List Opr), cs = [v] ∧ SlG eO w v l ∧ l.length ≤ 9223372036854775807 ∧ ∀ q ∈ l, (Lit.int .i64 q.1).wf = true ∧ q.2.2.2 < 18446744073709551616 ∧ InW 24 x.1 q.2.1 ∧ InW 24 x.1 q.2.2.1 := by
 rcases open_slice Tryz.underlying24 hf' with ⟨hcs, _⟩ | ⟨a, len, cap, m, n, D, Pl, hcs, _, hl, hm, hmm, hx, hi⟩
 ·exact ⟨_, [], hcs, SlG.nil _, Nat.zero_le _, fun q hq => by cases hq⟩
 ·subst hcs
  simp only [if_true] at hmm
  subst hmm
  have hx1 := congrArg Prod.fst hx
  simp only at hx1
  obtain ⟨l, hl1, hl2, hl3⟩ := slG_of (E := eO) (w := w) (a := a) (len := len) (cap := m) (P := fun i q => (Lit.int .i64 q.1).wf = true ∧ q.2.2.2 < 18446744073709551616 ∧ InW 79 (D i) q.2.1 ∧ InW 79 (D i) q.2.2.1) (fun i hlt => by
   obtain ⟨cs', hc, ht⟩ := hi i (by omega)
   rw [cellsOp] at hc
   obtain ⟨_, hlen, hat⟩ := World.cells?_some hc
   match cs', hlen with
   | [c0, c1, c2, c3], _ =>
    obtain ⟨y0, y1, y2, y3, k, hfs, _, h0, h1, h2, h3⟩ := Go.Joins.trod_struct4 Tryz.underlying79 ht
    have e0 : DataW.trod enc Tryz.prog w 0 (fun _ => true) true k 3 [c0] = some y0 := by simpa [cellsIt] using h0
    have e1 : DataW.trod enc Tryz.prog w 0 (fun _ => true) true k 9 [c1] = some y1 := by simpa [cells_str] using h1
    have e2 : DataW.trod enc Tryz.prog w 0 (fun _ => true) true k 9 [c2] = some y2 := by simpa [cells_str] using h2
    have e3 : DataW.trod enc Tryz.prog w 0 (fun _ => true) true k 77 [c3] = some y3 := by simpa [cellsNm] using h3
    obtain ⟨kd, hk0, _, wk⟩ := DataW.trod_int Tryz.underlying3 e0
    obtain ⟨xs, hx0, hxd, _⟩ := DataW.trod_string Tryz.underlying9 e1
    obtain ⟨z, hz0, hzd, _⟩ := DataW.trod_string Tryz.underlying9 e2
    obtain ⟨y, hy0, _, wy⟩ := DataW.trod_int Tryz.underlying77 e3
    simp only [List.cons.injEq, and_true] at hk0 hx0 hz0 hy0
    subst hk0 hx0 hz0 hy0
    obtain ⟨yn, hyn, rfl⟩ := nat8 wy
    have hD : D i = .agg [y0.1, y1.1, y2.1, y3.1] := congrArg Prod.fst hfs
    refine ⟨(kd, xs, z, yn), ⟨wk, hyn, ⟨xs.data.toList.length, ?_, by rw [ba_len]; exact Nat.le_refl _⟩, ⟨z.data.toList.length, ?_, by rw [ba_len]; exact Nat.le_refl _⟩⟩, fun j u hu => ?_⟩
    ·rw [hD]
     simp only [DataW.weights, Tryz.underlying79]
     refine List.mem_append_right _ (List.mem_append_left _ ?_)
     rw [hxd]
     simp [DataW.weights]
    ·rw [hD]
     simp only [DataW.weights, Tryz.underlying79]
     refine List.mem_append_right _ (List.mem_append_right _ (List.mem_append_left _ ?_))
     rw [hzd]
     simp [DataW.weights]
    ·match j, hu with
     | 0, hu => simp only [eO, List.getElem?_cons_zero, Option.some.injEq] at hu; subst hu; exact hat 0 (by omega)
     | 1, hu => simp only [eO, List.getElem?_cons_succ, List.getElem?_cons_zero, Option.some.injEq] at hu; subst hu; exact hat 1 (by omega)
     | 2, hu => simp only [eO, List.getElem?_cons_succ, List.getElem?_cons_zero, Option.some.injEq] at hu; subst hu; exact hat 2 (by omega)
     | 3, hu => simp only [eO, List.getElem?_cons_succ, List.getElem?_cons_zero, Option.some.injEq] at hu; subst hu; exact hat 3 (by omega)
     | j + 4, hu => simp [eO] at hu)
  unfold maxLen at hm
  refine ⟨_, l, rfl, hl2, by omega, fun q hq => ?_⟩
  obtain ⟨i, hil, h0, h1, ⟨n1, h2, h3⟩, n2, h4, h5⟩ := hl3 q hq
  have hmem : D i ∈ (List.range len).map D := List.mem_map.2 ⟨i, List.mem_range.2 hil, rfl⟩
  refine ⟨h0, h1, ⟨n1, ?_, h3⟩, n2, ?_, h5⟩
  ·rw [hx1]; exact weights_elem Tryz.underlying24 hmem h2
  ·rw [hx1]; exact weights_elem Tryz.underlying24 hmem h4
theorem pairs_cells9 {w : World} {cs : List Value} {fuel : Nat} {x : DataW H × List MemPlace} (hf' : DataW.trod enc Tryz.prog w 0 (fun _ => true) true fuel 29 cs = some x) :
  ∃ (v : Value) (l : Al Nat), cs = [v] ∧ SlG eP w v l ∧ l.length ≤ 9223372036854775807 ∧ ∀ q ∈ l, q.2 < 18446744073709551616 ∧ InW 29 x.1 q.1 := by
 rcases open_slice Tryz.underlying29 hf' with ⟨hcs, _⟩ | ⟨a, len, cap, m, n, D, Pl, hcs, _, hl, hm, hmm, hx, hi⟩
 ·exact ⟨_, [], hcs, SlG.nil _, Nat.zero_le _, fun q hq => by cases hq⟩
 ·subst hcs
  simp only [if_true] at hmm
  subst hmm
  have hx1 := congrArg Prod.fst hx
  simp only at hx1
  obtain ⟨l, hl1, hl2, hl3⟩ := slG_of (E := eP) (w := w) (a := a) (len := len) (cap := m) (P := fun i q => q.2 < 18446744073709551616 ∧ InW 86 (D i) q.1) (fun i hlt => by
   obtain ⟨cs', hc, ht⟩ := hi i (by omega)
   rw [cellsPr] at hc
   obtain ⟨_, hlen, hat⟩ := World.cells?_some hc
   match cs', hlen with
   | [c0, c1], _ =>
    obtain ⟨y0, y1, k, hfs, _, h0, h1⟩ := trod_struct2 Tryz.underlying86 ht
    have e0 : DataW.trod enc Tryz.prog w 0 (fun _ => true) true k 9 [c0] = some y0 := by simpa [cells_str] using h0
    have e1 : DataW.trod enc Tryz.prog w 0 (fun _ => true) true k 77 [c1] = some y1 := by simpa [cellsNm] using h1
    obtain ⟨xs, hx0, hxd, _⟩ := DataW.trod_string Tryz.underlying9 e0
    obtain ⟨y, hy0, _, wy⟩ := DataW.trod_int Tryz.underlying77 e1
    simp only [List.cons.injEq, and_true] at hx0 hy0
    subst hx0 hy0
    obtain ⟨yn, hyn, rfl⟩ := nat8 wy
    have hD : D i = .agg [y0.1, y1.1] := congrArg Prod.fst hfs
    refine ⟨(xs, yn), ⟨hyn, xs.data.toList.length, ?_, by rw [ba_len]; exact Nat.le_refl _⟩, fun j u hu => ?_⟩
    ·rw [hD]
     simp only [DataW.weights, Tryz.underlying86]
     refine List.mem_append_left _ ?_
     rw [hxd]
     simp [DataW.weights]
    ·match j, hu with
     | 0, hu => simp only [eP, List.getElem?_cons_zero, Option.some.injEq] at hu; subst hu; exact hat 0 (by omega)
     | 1, hu => simp only [eP, List.getElem?_cons_succ, List.getElem?_cons_zero, Option.some.injEq] at hu; subst hu; exact hat 1 (by omega)
     | j + 2, hu => simp [eP] at hu)
  unfold maxLen at hm
  refine ⟨_, l, rfl, hl2, by omega, fun q hq => ?_⟩
  obtain ⟨i, hil, h1, n, h2, h3⟩ := hl3 q hq
  refine ⟨h1, n, ?_, h3⟩
  rw [hx1]
  exact weights_elem Tryz.underlying29 (List.mem_map.2 ⟨i, List.mem_range.2 hil, rfl⟩) h2
theorem act_cells9 {w : World} {c0 c1 c2 c3 c4 c5 c6 c7 c8 c9 c10 c11 c12 c13 : Value} {fuel : Nat} {x : DataW H × List MemPlace} (hf : DataW.trod enc Tryz.prog w 0 (fun _ => true) true fuel 53 [c0, c1, c2, c3, c4, c5, c6, c7, c8, c9, c10, c11, c12, c13] = some x) :
  ∃ r : AcR, [c0, c1, c2, c3, c4, c5, c6, c7, c8, c9, c10, c11, c12, c13] = eX.enc r ∧ NX w r ∧ WX 53 x.1 r := by
 obtain ⟨xs, n, _, rfl, _, hlen, hfs⟩ := DataW.trod_struct Tryz.underlying53 hf
 match xs, hlen with
 | [y0, y1, y2, y3, y4, y5, y6, y7, y8], _ =>
  have e0 : DataW.trod enc Tryz.prog w 0 (fun _ => true) true n 3 [c0] = some y0 := by simpa [cellsI9] using hfs 0 _ rfl
  have e1 : DataW.trod enc Tryz.prog w 0 (fun _ => true) true n 24 [c1] = some y1 := by simpa [cellsOps9] using hfs 1 _ rfl
  have e2 : DataW.trod enc Tryz.prog w 0 (fun _ => true) true n 23 [c2, c3] = some y2 := by simpa [cellsSt9] using hfs 2 _ rfl
  have e3 : DataW.trod enc Tryz.prog w 0 (fun _ => true) true n 23 [c4, c5] = some y3 := by simpa [cellsSt9] using hfs 3 _ rfl
  have e4 : DataW.trod enc Tryz.prog w 0 (fun _ => true) true n 4 [c6] = some y4 := by simpa [cellsB9] using hfs 4 _ rfl
  have e5 : DataW.trod enc Tryz.prog w 0 (fun _ => true) true n 25 [c7] = some y5 := by simpa [cellsD9] using hfs 5 _ rfl
  have e6 : DataW.trod enc Tryz.prog w 0 (fun _ => true) true n 27 [c8, c9, c10, c11] = some y6 := by simpa [cellsVl9] using hfs 6 _ rfl
  have e7 : DataW.trod enc Tryz.prog w 0 (fun _ => true) true n 28 [c12] = some y7 := by simpa [cellsWrs9] using hfs 7 _ rfl
  have e8 : DataW.trod enc Tryz.prog w 0 (fun _ => true) true n 29 [c13] = some y8 := by simpa [cellsPrs9] using hfs 8 _ rfl
  obtain ⟨kd, hk0, _, _⟩ := DataW.trod_int Tryz.underlying3 e0
  simp only [List.cons.injEq, and_true] at hk0
  obtain ⟨v1, po, hc1, ho, _, hro⟩ := ops_cells9 e1
  simp only [List.cons.injEq, and_true] at hc1
  obtain ⟨a1, a2, rfl, rfl, _, _⟩ := stamp_cells9 e2
  obtain ⟨b1, b2, rfl, rfl, _, _⟩ := stamp_cells9 e3
  obtain ⟨fs, hg0, _⟩ := DataW.trod_bool Tryz.underlying4 e4
  simp only [List.cons.injEq, and_true] at hg0
  obtain ⟨sa, sF, sc, hc5, hsd, _, hsn, _, hsw, _, hsr⟩ := SD.deps_cells e5
  simp only [List.cons.injEq, and_true] at hc5
  obtain ⟨g, t1, t2, da, dF, dc, rfl, rfl, rfl, rfl, hdd, _, hdn, _, _, _, hdr⟩ := value_cells9 e6
  obtain ⟨v7, ws, hc7, hw, _, hrw⟩ := writes_cells e7
  simp only [List.cons.injEq, and_true] at hc7
  obtain ⟨v8, ps, hc8, hp, _, hrp⟩ := pairs_cells9 e8
  simp only [List.cons.injEq, and_true] at hc8
  subst hk0 hc1 hg0 hc5 hc7 hc8
  obtain ⟨oa, oc, rfl⟩ := ho.form
  obtain ⟨wa, wc, rfl⟩ := hw.form
  obtain ⟨pa, pc, rfl⟩ := hp.form
  have U := Tryz.underlying53
  have m1 := field_w U (ds := [y0.1, y1.1, y2.1, y3.1, y4.1, y5.1, y6.1, y7.1, y8.1]) 1 rfl rfl
  have m5 := field_w U (ds := [y0.1, y1.1, y2.1, y3.1, y4.1, y5.1, y6.1, y7.1, y8.1]) 5 rfl rfl
  have m6 := field_w U (ds := [y0.1, y1.1, y2.1, y3.1, y4.1, y5.1, y6.1, y7.1, y8.1]) 6 rfl rfl
  have m7 := field_w U (ds := [y0.1, y1.1, y2.1, y3.1, y4.1, y5.1, y6.1, y7.1, y8.1]) 7 rfl rfl
  have m8 := field_w U (ds := [y0.1, y1.1, y2.1, y3.1, y4.1, y5.1, y6.1, y7.1, y8.1]) 8 rfl rfl
  have q6 : WB 27 y6.1 dF.length := by
   obtain ⟨z0, z1, z2, k, hz, _, _, _, h2⟩ := trod_struct3 Tryz.underlying27 e6
   have d2 : DataW.trod enc Tryz.prog w 0 (fun _ => true) true k 25 [.slice da dF.length dc] = some z2 := by simpa [cellsD9] using h2
   have hz1 : y6.1 = .agg [z0.1, z1.1, z2.1] := congrArg Prod.fst hz
   rw [hz1]
   exact (len_weight9 Tryz.underlying25 bytesDp9e d2).up (field_w Tryz.underlying27 2 rfl rfl)
  refine ⟨⟨kd, po, oa, oc, (a1, a2), (b1, b2), fs, sF, sa, sc, g, (t1, t2), dF, da, dc, ws, wa, wc, ps, pa, pc⟩, rfl, ⟨⟨ho, ⟨sa, sc, sF, rfl, hsd, rfl, hsn⟩, ⟨da, dc, dF, rfl, hdd, rfl, hdn⟩, hw, hp⟩, fun q hq => (hro q hq).2.1, fun q hq => (hrw q hq).1, fun q hq => (hrp q hq).1, hsw⟩, ?_⟩
  exact ⟨(len_weight9 Tryz.underlying24 bytesOp9e e1).up m1, (len_weight9 Tryz.underlying25 bytesDp9e e5).up m5, q6.up m6, (len_weight9 Tryz.underlying28 bytesWr9e e7).up m7, (len_weight9 Tryz.underlying29 bytesPr9e e8).up m8,
   fun q hq => ⟨(WB.inw (hro q hq).2.2.1).up m1, (WB.inw (hro q hq).2.2.2).up m1⟩, fun q hq => WB.up (hsr q hq) m5, fun q hq => WB.up (hdr q hq) m6, fun q hq => (WB.inw (hrw q hq).2).up m7, fun q hq => (WB.inw (hrp q hq).2).up m8⟩
theorem open_acts9 {r : Reach} {b0 : Nat} {w : World} {v : Value} {d : DataW H} {p : List MemPlace} (hv : Value.okWide Tryz.prog w r b0 49 v) (h : DataW.Trod enc Tryz.prog w 0 (fun _ => true) true 49 v d p) :
  ∃ l : List AcR, SlG eX w v l ∧ l.length ≤ 9223372036854775807 ∧ ∀ q ∈ l, NX w q ∧ WX 49 d q := by
 obtain ⟨a0, len0, cap0, rfl⟩ := okWide_slice Tryz.underlying49 hv
 obtain ⟨fuel, hf⟩ := h
 have hf' : DataW.trod enc Tryz.prog w 0 (fun _ => true) true fuel 49 [.slice a0 len0 cap0] = some (d, p) := by simpa [Value.cells] using hf
 rcases open_slice Tryz.underlying49 hf' with ⟨hcs, _⟩ | ⟨a, len, cap, m, n, D, Pl, hcs, _, hl, hm, hmm, hx, hi⟩
 ·simp only [List.cons.injEq, Value.slice.injEq, and_true] at hcs
  obtain ⟨rfl, rfl, rfl⟩ := hcs
  exact ⟨[], SlG.nil _, Nat.zero_le _, fun q hq => by cases hq⟩
 ·simp only [List.cons.injEq, Value.slice.injEq, and_true] at hcs
  obtain ⟨rfl, rfl, rfl⟩ := hcs
  simp only [if_true] at hmm
  subst hmm
  have hx1 := congrArg Prod.fst hx
  simp only at hx1
  obtain ⟨l, hl1, hl2, hl3⟩ := slG_of (E := eX) (w := w) (a := a) (len := len0) (cap := m) (P := fun i q => NX w q ∧ WX 53 (D i) q) (fun i hlt => by
   obtain ⟨cs', hc, ht⟩ := hi i (by omega)
   rw [cellsAct9] at hc
   obtain ⟨_, hlen, hat⟩ := World.cells?_some hc
   match cs', hlen with
   | [c0, c1, c2, c3, c4, c5, c6, c7, c8, c9, c10, c11, c12, c13], _ =>
    obtain ⟨r, he, h1, h2⟩ := act_cells9 ht
    refine ⟨r, ⟨h1, h2⟩, fun j u hu => ?_⟩
    have hj := enc_lt hu
    rw [← he] at hu
    have h3 := hat j hj
    have h4 : [c0, c1, c2, c3, c4, c5, c6, c7, c8, c9, c10, c11, c12, c13][j]? = some u := hu
    exact h3.trans h4)
  unfold maxLen at hm
  refine ⟨l, hl2, by omega, fun q hq => ?_⟩
  obtain ⟨i, hil, h1, h2⟩ := hl3 q hq
  refine ⟨h1, h2.up ?_⟩
  rw [hx1]
  intro m hm
  exact weights_elem Tryz.underlying49 (List.mem_map.2 ⟨i, List.mem_range.2 hil, rfl⟩) hm
end

theorem alloc_row9 {w : World} {k : Nat} {o : Obj} (h : w.heap[k]? = some o) (hlt : k < w.heap.size) (ob : Obj) : (w.alloc ob).heap[k]? = some o := ((blAlloc (Below.refl w.heap.size w) ob).block k hlt).trans h
theorem live9_any (W : World) : Calls Tryz.prog 10 #[] W fun e w' => e = .returned (.bool true) ∧ Below W.heap.size W w' := by
 have HNEW : Hid (∀ Y : World, Calls Tryz.prog 17 #[.agg #[.int .i64 3, .int .i64 1]] Y fun e w' => e = .returned (.agg (r22 3 1 (.slice none 0 0) 0 0 0 0 0 false (.slice none 0 0) 0 0 false 0 0 false 0 0 (.slice none 0 0) false (.slice none 0 0) (.slice none 0 0))) ∧ Below Y.heap.size Y w') := hH (fun Y => by exact new9_any (3, 1) Y)
 have HPRO : Hid (∀ Y : World, Calls Tryz.prog 41 #[.agg (r22 3 1 (.slice none 0 0) 0 0 0 0 0 false (.slice none 0 0) 0 0 false 0 0 false 0 0 (.slice none 0 0) false (.slice none 0 0) (.slice none 0 0)), .agg #[.int .i64 5, .int .i64 1]] Y fun e w' => e = .returned (.tuple #[.agg (r22 3 1 (.slice none 0 0) 0 5 1 0 0 false (.slice none 0 0) 0 0 false 0 0 false 0 0 (.slice none 0 0) false (.slice none 0 0) (.slice none 0 0)), .bool true]) ∧ Below Y.heap.size Y w') := hH (fun Y => by have h := promise_any (newC (3, 1)) nilL (5, 1) Y (at_nil9 Y _ rfl rfl rfl rfl rfl); rw [live9_pro, live9_proB] at h; exact h)
 have HNO : Hid (∀ Y : World, Calls Tryz.prog 42 #[.agg (r22 3 1 (.slice none 0 0) 0 5 1 0 0 false (.slice none 0 0) 0 0 false 0 0 false 0 0 (.slice none 0 0) false (.slice none 0 0) (.slice none 0 0)), .agg #[.int .i64 3, .int .i64 1], .agg #[.bool false, .int .i64 3, .int .i64 1, .slice none 0 0]] Y fun e w' => e = .returned (.tuple #[.agg (r22 3 1 (.slice none 0 0) 0 5 1 0 0 false (.slice none 0 0) 0 0 false 0 0 false 0 0 (.slice none 0 0) false (.slice none 0 0) (.slice none 0 0)), .bool false]) ∧ Below Y.heap.size Y w') := hH (fun Y => by have h := accept_any c1L nilL (3, 1) vL (.slice none 0 0) Y (at_nil9 Y _ rfl rfl rfl rfl rfl) (dl_nil9 Y); rw [live9_no, live9_noB] at h; exact h)
 have HACC : Hid (∀ Y : World, Calls Tryz.prog 42 #[.agg (r22 3 1 (.slice none 0 0) 0 5 1 0 0 false (.slice none 0 0) 0 0 false 0 0 false 0 0 (.slice none 0 0) false (.slice none 0 0) (.slice none 0 0)), .agg #[.int .i64 5, .int .i64 1], .agg #[.bool false, .int .i64 3, .int .i64 1, .slice none 0 0]] Y fun e w' => e = .returned (.tuple #[.agg (r22 3 1 (.slice none 0 0) 0 5 1 0 0 false (.slice none 0 0) 3 1 true 5 1 false 3 1 (.slice none 0 0) false (.slice none 0 0) (.slice none 0 0)), .bool true]) ∧ Below Y.heap.size Y w') := hH (fun Y => by have h := accept_any c1L nilL (5, 1) vL (.slice none 0 0) Y (at_nil9 Y _ rfl rfl rfl rfl rfl) (dl_nil9 Y); rw [live9_acc, live9_accB] at h; exact h)
 have HDEC : Hid (∀ (Y : World) (k : Nat), SlG eO Y (.slice (some ⟨k, 0, none⟩) 1 1) [opL] → Calls Tryz.prog 43 #[.agg (r22 3 1 (.slice none 0 0) 0 5 1 0 0 false (.slice none 0 0) 3 1 true 5 1 false 3 1 (.slice none 0 0) false (.slice none 0 0) (.slice none 0 0)), .slice (some ⟨k, 0, none⟩) 1 1, .agg #[.bool false, .int .i64 3, .int .i64 1, .slice none 0 0]] Y fun e w' => e = .returned (.agg (r22 3 1 (.slice (some ⟨k, 0, none⟩) 1 1) 2 5 1 0 0 false (.slice none 0 0) 3 1 true 5 1 false 3 1 (.slice none 0 0) false (.slice none 0 0) (.slice none 0 0))) ∧ Below Y.heap.size Y w') := hH (fun Y k hs => by have h := decide_en d1L nilL [opL] _ vL (.slice none 0 0) Y (at_nil9 Y _ rfl rfl rfl rfl rfl) hs (dl_nil9 Y) live9_decB rfl rfl; rw [live9_dec] at h; unfold dlL at h; rw [live9_decB, if_neg (by decide), if_pos ⟨rfl, rfl⟩] at h; exact h)
 have HEA : Hid (∀ (Y : World) (k : Nat), SlG eO Y (.slice (some ⟨k, 0, none⟩) 1 1) [opL] → CmAt Y e1L ⟨.slice (some ⟨k, 0, none⟩) 1 1, .slice none 0 0, .slice none 0 0, .slice none 0 0, .slice none 0 0⟩) := hH (fun Y k hs => ⟨hs, dl_nil9 Y, dl_nil9 Y, SlG.nil _, SlG.nil _⟩)
 have HAG : Hid (∀ (Y : World) (k : Nat), SlG eO Y (.slice (some ⟨k, 0, none⟩) 1 1) [opL] → Calls Tryz.prog 43 #[.agg (r22 3 1 (.slice (some ⟨k, 0, none⟩) 1 1) 2 5 1 0 0 false (.slice none 0 0) 3 1 true 5 1 false 3 1 (.slice none 0 0) false (.slice none 0 0) (.slice none 0 0)), .slice none 0 0, .agg #[.bool true, .int .i64 0, .int .i64 0, .slice none 0 0]] Y fun e w' => e = .returned (.agg (r22 3 1 (.slice (some ⟨k, 0, none⟩) 1 1) 2 5 1 0 0 false (.slice none 0 0) 3 1 true 5 1 false 3 1 (.slice none 0 0) false (.slice none 0 0) (.slice none 0 0))) ∧ Below Y.heap.size Y w') := hH (fun Y k hs => by have h := decide_dec e1L ⟨.slice (some ⟨k, 0, none⟩) 1 1, .slice none 0 0, .slice none 0 0, .slice none 0 0, .slice none 0 0⟩ [] (.slice none 0 0) (true, z2, []) (.slice none 0 0) Y (HEA.out Y k hs) (SlG.nil _) (dl_nil9 Y) live9_againB; rw [live9_again] at h; unfold dlL at h; rw [live9_againB, if_pos rfl] at h; exact h)
 have HN := hH (fun i o (h : ([(.cells #[.int .i64 3, .int .i64 1] 23), (.cells #[.int .i64 5, .int .i64 1] 23), (.cells #[.bool false, .int .i64 3, .int .i64 1, .slice none 0 0] 27)] : List Obj)[i]? = some o) => nth_box W [(.cells #[.int .i64 3, .int .i64 1] 23), (.cells #[.int .i64 5, .int .i64 1] 23), (.cells #[.bool false, .int .i64 3, .int .i64 1, .slice none 0 0] 27)] i o h)
 have HSZ : Hid (W.heap.size + 3 = (((W.alloc (.cells #[.int .i64 3, .int .i64 1] 23)).alloc (.cells #[.int .i64 5, .int .i64 1] 23)).alloc (.cells #[.bool false, .int .i64 3, .int .i64 1, .slice none 0 0] 27)).heap.size) := hH (HN.out 0 _ rfl).2
 have Ki_0 : Hid ((((W.alloc (.cells #[.int .i64 3, .int .i64 1] 23)).alloc (.cells #[.int .i64 5, .int .i64 1] 23)).alloc (.cells #[.bool false, .int .i64 3, .int .i64 1, .slice none 0 0] 27)).heap[W.heap.size]? = some (.cells #[.int .i64 3, .int .i64 1] 23 (0, 0))) := hH (HN.out 0 _ rfl).1
 have Kb_0 : Hid ((((W.alloc (.cells #[.int .i64 3, .int .i64 1] 23)).alloc (.cells #[.int .i64 5, .int .i64 1] 23)).alloc (.cells #[.bool false, .int .i64 3, .int .i64 1, .slice none 0 0] 27)).heap[W.heap.size + 1]? = some (.cells #[.int .i64 5, .int .i64 1] 23 (0, 0))) := hH (HN.out 1 _ rfl).1
 have Kv_0 : Hid ((((W.alloc (.cells #[.int .i64 3, .int .i64 1] 23)).alloc (.cells #[.int .i64 5, .int .i64 1] 23)).alloc (.cells #[.bool false, .int .i64 3, .int .i64 1, .slice none 0 0] 27)).heap[W.heap.size + 2]? = some (.cells #[.bool false, .int .i64 3, .int .i64 1, .slice none 0 0] 27 (0, 0))) := hH (HN.out 2 _ rfl).1
 have HB_0 : Hid (Below W.heap.size W (((W.alloc (.cells #[.int .i64 3, .int .i64 1] 23)).alloc (.cells #[.int .i64 5, .int .i64 1] 23)).alloc (.cells #[.bool false, .int .i64 3, .int .i64 1, .slice none 0 0] 27))) := hH (blAlloc (blAlloc (blAlloc (Below.refl _ _) _) _) _)
 clear HN
 go_enter Tryz.func10, Tryz.ntmps10
 go_upto_region 4 with fail
 generalize (((W.alloc (.cells #[.int .i64 3, .int .i64 1] 23)).alloc (.cells #[.int .i64 5, .int .i64 1] 23)).alloc (.cells #[.bool false, .int .i64 3, .int .i64 1, .slice none 0 0] 27)) = w0 at *
 have HS3 : W.heap.size + 3 ≤ w0.heap.size := Nat.le_of_eq HSZ.out
 clear HSZ
 have KS : Hid (∀ Y : World, Below w0.heap.size w0 Y → Y.cell? ⟨W.heap.size, 0, none⟩ = some (.int .i64 3) ∧ Y.cell? ⟨W.heap.size, 1, none⟩ = some (.int .i64 1) ∧ Y.cell? ⟨W.heap.size + 1, 0, none⟩ = some (.int .i64 5) ∧ Y.cell? ⟨W.heap.size + 1, 1, none⟩ = some (.int .i64 1)) := hH (fun Y hY => by
  have a := (hY.block W.heap.size (by omega)).trans Ki_0.out
  have b := (hY.block (W.heap.size + 1) (by omega)).trans Kb_0.out
  exact ⟨cell_row a 0 _ rfl, cell_row a 1 _ rfl, cell_row b 0 _ rfl, cell_row b 1 _ rfl⟩)
 go_cut [4, 5] from 18 to 24 (fun s4 s5 wx => ∃ k, s4 = .pointer (some ⟨k, 0, none⟩) ∧ s5 = .bool true ∧ w0.heap.size ≤ k ∧ k < wx.heap.size ∧ wx.heap[k]? = some (.cells (r22 3 1 (.slice none 0 0) 0 5 1 0 0 false (.slice none 0 0) 0 0 false 0 0 false 0 0 (.slice none 0 0) false (.slice none 0 0) (.slice none 0 0)) 31 (0, 0)) ∧ Below w0.heap.size w0 wx)
 case first =>
  refine wp_region_held_drew (S := fun Y => Y.cell? ⟨W.heap.size, 0, none⟩ = some (.int .i64 3) ∧ Y.cell? ⟨W.heap.size, 1, none⟩ = some (.int .i64 1) ∧ Y.cell? ⟨W.heap.size + 1, 0, none⟩ = some (.int .i64 5) ∧ Y.cell? ⟨W.heap.size + 1, 1, none⟩ = some (.int .i64 1)) (by kernel_rfl) (KS.out _ (Below.refl w0.heap.size w0).drew) (fun hHeld => ?_)
  refine wpAnyH_take (i := 0) (oi := ⟨_, _, _, _, _, _⟩) (v := ?_) rfl (by kernel_rfl) (by kernel_rfl) (by kernel_rfl) (fun _ _ _ h => h) (Or.inl ⟨by rfl, ?_⟩) (by assumption) ?_
  rotate_left
  ·intro w hSw
   try dsimp only at hSw
   go_simp
   try with_reducible rfl
  try simp only [Act.put, sA9, sZ9, sS9]
  refine wpAnyH_take (i := 2) (oi := ⟨_, _, _, _, _, _⟩) (v := ?_) rfl (by kernel_rfl) (by kernel_rfl) (by kernel_rfl) (fun _ _ _ h => h) (Or.inl ⟨by rfl, ?_⟩) (by assumption) ?_
  rotate_left
  ·intro w hSw
   try dsimp only at hSw
   go_simp
   try with_reducible rfl
  try simp only [Act.put, sA9, sZ9, sS9]
  have HX : Hid (Below w0.heap.size w0 w0.drew) := hH (Below.refl _ _).drew
  have HB_z0 := HX
  clear HX
  generalize w0.drew = z0 at *
  refine wpAnyH_ready (rs := [1, 7]) (by kernel_rfl) (by simp) ?_
  refine (AllReadyH.cons (o := ⟨_, _, _, _, _, _⟩) rfl (fun K hK => ?_) (AllReadyH.cons (o := ⟨_, _, _, _, _, _⟩) rfl (fun K hK => ?_) AllReadyH.nil))
  ·go_simp
   go_at_call 17
   refine (HNEW.out z0).mono ?_
   rintro e zw1 ⟨rfl, h5⟩
   have HX : Hid (Below z0.heap.size z0 zw1) := hH h5
   have HB_zw1 : Hid (Below w0.heap.size w0 zw1) := hH (blThen HB_z0.out HX.out)
   refine hK.out _ _ (KS.out _ HB_zw1.out) (fun hHeld => ?_)
   clear hK K HX h5
   try simp only [Act.put, sA9, sZ9, sS9]
   refine wpAnyH_ready (rs := [3, 7]) (by kernel_rfl) (by simp) ?_
   refine (AllReadyH.cons (o := ⟨_, _, _, _, _, _⟩) rfl (fun K hK => ?_) (AllReadyH.cons (o := ⟨_, _, _, _, _, _⟩) rfl (fun K hK => ?_) AllReadyH.nil))
   ·go_simp
    go_at_call 41
    refine (HPRO.out zw1).mono ?_
    rintro e zw2 ⟨rfl, h5⟩
    have HX : Hid (Below zw1.heap.size zw1 zw2) := hH h5
    have HB_zw2 : Hid (Below w0.heap.size w0 zw2) := hH (blThen HB_zw1.out HX.out)
    refine hK.out _ _ (KS.out _ HB_zw2.out) (fun hHeld => ?_)
    clear hK K HX h5
    try simp only [Act.put, sA9, sZ9, sS9]
    refine wpAnyH_take (i := 4) (oi := ⟨_, _, _, _, _, _⟩) (v := ?_) rfl (by kernel_rfl) (by kernel_rfl) (by kernel_rfl) (fun _ _ _ h => h) (Or.inl ⟨by rfl, ?_⟩) (by assumption) ?_
    rotate_left
    ·intro w hSw
     try dsimp only at hSw
     go_simp
     try with_reducible rfl
    try simp only [Act.put, sA9, sZ9, sS9]
    refine wpAnyH_take (i := 5) (oi := ⟨_, _, _, _, _, _⟩) (v := ?_) rfl (by kernel_rfl) (by kernel_rfl) (by kernel_rfl) (fun _ _ _ h => h) (Or.inl ⟨by rfl, ?_⟩) (by assumption) ?_
    rotate_left
    ·intro w hSw
     try dsimp only at hSw
     go_simp
     try with_reducible rfl
    try simp only [Act.put, sA9, sZ9, sS9]
    refine wpAnyH_take (i := 6) (oi := ⟨_, _, _, _, _, _⟩) (v := ?_) rfl (by kernel_rfl) (by kernel_rfl) (by kernel_rfl) (fun _ _ _ h => h) (Or.inl ⟨by rfl, ?_⟩) (by assumption) ?_
    rotate_left
    ·intro w hSw
     try dsimp only at hSw
     go_simp
     try with_reducible rfl
    try simp only [Act.put, sA9, sZ9, sS9]
    refine wpAnyH_ready (rs := [7]) (by kernel_rfl) (by simp) ?_
    refine (AllReadyH.cons (o := ⟨_, _, _, _, _, _⟩) rfl (fun K hK => ?_) AllReadyH.nil)
    ·go_simp
     have HX : Hid (Below zw2.heap.size zw2 (zw2.alloc (.cells z22 31))) := hH (blAlloc (Below.refl _ _) _)
     have HB_zw3 : Hid (Below w0.heap.size w0 (zw2.alloc (.cells z22 31))) := hH (blThen HB_zw2.out HX.out)
     have KN : Hid ((zw2.alloc (.cells z22 31)).heap[zw2.heap.size]? = some (.cells z22 31 (0, 0))) := hH (new_blockC zw2 z22 31)
     have LN : Hid (zw2.heap.size < (zw2.alloc (.cells z22 31)).heap.size) := hH (by simp)
     have GN : Hid (w0.heap.size ≤ zw2.heap.size) := hH HB_zw2.out.size
     refine hK.out _ _ (KS.out _ HB_zw3.out) (fun hHeld => ?_)
     clear hK K HX
     try simp only [Act.put, sA9, sZ9, sS9]
     generalize (zw2.alloc (.cells z22 31)) = zw3 at *
     refine wpAnyH_ready (rs := [8]) (by kernel_rfl) (by simp) ?_
     refine AllReadyH.cons (o := ⟨_, _, _, _, _, _⟩) rfl (fun K hK => ?_) ?_
     rotate_left
     ·exact AllReadyH.nil
     refine wp_store_part _ _ _ rfl _ 0 rfl rfl (cs := (r22 3 1 (.slice none 0 0) 0 5 1 0 0 false (.slice none 0 0) 0 0 false 0 0 false 0 0 (.slice none 0 0) false (.slice none 0 0) (.slice none 0 0))) rfl KN.out szCmd (by simp) (by simp [Value.oneCell']) (D := (r22 3 1 (.slice none 0 0) 0 5 1 0 0 false (.slice none 0 0) 0 0 false 0 0 false 0 0 (.slice none 0 0) false (.slice none 0 0) (.slice none 0 0))) rfl ?_
     intro zf h1 h2
     have HBF : Hid (Below w0.heap.size w0 zf) := hH (below_grown9 HB_zw3.out h2 GN.out)
     have KF := hH h1
     have LF := Nat.lt_of_lt_of_le LN.out h2.size
     clear h1 h2
     refine hK.out _ _ (KS.out _ HBF.out) (fun hHeld => ?_)
     clear hK K
     try simp only [Act.put, sA9, sZ9, sS9]
     refine wpAnyH_take (i := 9) (oi := ⟨_, _, _, _, _, _⟩) (v := ?_) rfl (by kernel_rfl) (by kernel_rfl) (by kernel_rfl) (fun _ _ _ h => h) (Or.inl ⟨by rfl, ?_⟩) (by assumption) ?_
     rotate_left
     ·intro w hSw
      try dsimp only at hSw
      go_simp
      try with_reducible rfl
     try simp only [Act.put, sA9, sZ9, sS9]
     refine wpAnyH_done (by kernel_rfl) ?_ _
     go_wp2_with fail
     go_meet
     exact ⟨zw2.heap.size, rfl, rfl, GN.out, LF, KF.out, HBF.out⟩
   ·go_simp
    have HX : Hid (Below zw1.heap.size zw1 (zw1.alloc (.cells z22 31))) := hH (blAlloc (Below.refl _ _) _)
    have HB_zw4 : Hid (Below w0.heap.size w0 (zw1.alloc (.cells z22 31))) := hH (blThen HB_zw1.out HX.out)
    have KN : Hid ((zw1.alloc (.cells z22 31)).heap[zw1.heap.size]? = some (.cells z22 31 (0, 0))) := hH (new_blockC zw1 z22 31)
    have LN : Hid (zw1.heap.size < (zw1.alloc (.cells z22 31)).heap.size) := hH (by simp)
    have GN : Hid (w0.heap.size ≤ zw1.heap.size) := hH HB_zw1.out.size
    refine hK.out _ _ (KS.out _ HB_zw4.out) (fun hHeld => ?_)
    clear hK K HX
    try simp only [Act.put, sA9, sZ9, sS9]
    generalize (zw1.alloc (.cells z22 31)) = zw4 at *
    refine wpAnyH_ready (rs := [3]) (by kernel_rfl) (by simp) ?_
    refine (AllReadyH.cons (o := ⟨_, _, _, _, _, _⟩) rfl (fun K hK => ?_) AllReadyH.nil)
    ·go_simp
     go_at_call 41
     refine (HPRO.out zw4).mono ?_
     rintro e zw5 ⟨rfl, h5⟩
     have HX : Hid (Below zw4.heap.size zw4 zw5) := hH h5
     have HB_zw5 : Hid (Below w0.heap.size w0 zw5) := hH (blThen HB_zw4.out HX.out)
     have KN := hH ((HX.out.block zw1.heap.size LN.out).trans KN.out)
     have LN : Hid (zw1.heap.size < zw5.heap.size) := hH (Nat.lt_of_lt_of_le LN.out HX.out.size)
     refine hK.out _ _ (KS.out _ HB_zw5.out) (fun hHeld => ?_)
     clear hK K HX h5
     try simp only [Act.put, sA9, sZ9, sS9]
     refine wpAnyH_take (i := 4) (oi := ⟨_, _, _, _, _, _⟩) (v := ?_) rfl (by kernel_rfl) (by kernel_rfl) (by kernel_rfl) (fun _ _ _ h => h) (Or.inl ⟨by rfl, ?_⟩) (by assumption) ?_
     rotate_left
     ·intro w hSw
      try dsimp only at hSw
      go_simp
      try with_reducible rfl
     try simp only [Act.put, sA9, sZ9, sS9]
     refine wpAnyH_take (i := 5) (oi := ⟨_, _, _, _, _, _⟩) (v := ?_) rfl (by kernel_rfl) (by kernel_rfl) (by kernel_rfl) (fun _ _ _ h => h) (Or.inl ⟨by rfl, ?_⟩) (by assumption) ?_
     rotate_left
     ·intro w hSw
      try dsimp only at hSw
      go_simp
      try with_reducible rfl
     try simp only [Act.put, sA9, sZ9, sS9]
     refine wpAnyH_take (i := 6) (oi := ⟨_, _, _, _, _, _⟩) (v := ?_) rfl (by kernel_rfl) (by kernel_rfl) (by kernel_rfl) (fun _ _ _ h => h) (Or.inl ⟨by rfl, ?_⟩) (by assumption) ?_
     rotate_left
     ·intro w hSw
      try dsimp only at hSw
      go_simp
      try with_reducible rfl
     try simp only [Act.put, sA9, sZ9, sS9]
     refine wpAnyH_ready (rs := [8]) (by kernel_rfl) (by simp) ?_
     refine AllReadyH.cons (o := ⟨_, _, _, _, _, _⟩) rfl (fun K hK => ?_) ?_
     rotate_left
     ·exact AllReadyH.nil
     refine wp_store_part _ _ _ rfl _ 0 rfl rfl (cs := (r22 3 1 (.slice none 0 0) 0 5 1 0 0 false (.slice none 0 0) 0 0 false 0 0 false 0 0 (.slice none 0 0) false (.slice none 0 0) (.slice none 0 0))) rfl KN.out szCmd (by simp) (by simp [Value.oneCell']) (D := (r22 3 1 (.slice none 0 0) 0 5 1 0 0 false (.slice none 0 0) 0 0 false 0 0 false 0 0 (.slice none 0 0) false (.slice none 0 0) (.slice none 0 0))) rfl ?_
     intro zf h1 h2
     have HBF : Hid (Below w0.heap.size w0 zf) := hH (below_grown9 HB_zw5.out h2 GN.out)
     have KF := hH h1
     have LF := Nat.lt_of_lt_of_le LN.out h2.size
     clear h1 h2
     refine hK.out _ _ (KS.out _ HBF.out) (fun hHeld => ?_)
     clear hK K
     try simp only [Act.put, sA9, sZ9, sS9]
     refine wpAnyH_take (i := 9) (oi := ⟨_, _, _, _, _, _⟩) (v := ?_) rfl (by kernel_rfl) (by kernel_rfl) (by kernel_rfl) (fun _ _ _ h => h) (Or.inl ⟨by rfl, ?_⟩) (by assumption) ?_
     rotate_left
     ·intro w hSw
      try dsimp only at hSw
      go_simp
      try with_reducible rfl
     try simp only [Act.put, sA9, sZ9, sS9]
     refine wpAnyH_done (by kernel_rfl) ?_ _
     go_wp2_with fail
     go_meet
     exact ⟨zw1.heap.size, rfl, rfl, GN.out, LF, KF.out, HBF.out⟩
  ·go_simp
   have HX : Hid (Below z0.heap.size z0 (z0.alloc (.cells z22 31))) := hH (blAlloc (Below.refl _ _) _)
   have HB_zw6 : Hid (Below w0.heap.size w0 (z0.alloc (.cells z22 31))) := hH (blThen HB_z0.out HX.out)
   have KN : Hid ((z0.alloc (.cells z22 31)).heap[z0.heap.size]? = some (.cells z22 31 (0, 0))) := hH (new_blockC z0 z22 31)
   have LN : Hid (z0.heap.size < (z0.alloc (.cells z22 31)).heap.size) := hH (by simp)
   have GN : Hid (w0.heap.size ≤ z0.heap.size) := hH HB_z0.out.size
   refine hK.out _ _ (KS.out _ HB_zw6.out) (fun hHeld => ?_)
   clear hK K HX
   try simp only [Act.put, sA9, sZ9, sS9]
   generalize (z0.alloc (.cells z22 31)) = zw6 at *
   refine wpAnyH_ready (rs := [1]) (by kernel_rfl) (by simp) ?_
   refine (AllReadyH.cons (o := ⟨_, _, _, _, _, _⟩) rfl (fun K hK => ?_) AllReadyH.nil)
   ·go_simp
    go_at_call 17
    refine (HNEW.out zw6).mono ?_
    rintro e zw7 ⟨rfl, h5⟩
    have HX : Hid (Below zw6.heap.size zw6 zw7) := hH h5
    have HB_zw7 : Hid (Below w0.heap.size w0 zw7) := hH (blThen HB_zw6.out HX.out)
    have KN := hH ((HX.out.block z0.heap.size LN.out).trans KN.out)
    have LN : Hid (z0.heap.size < zw7.heap.size) := hH (Nat.lt_of_lt_of_le LN.out HX.out.size)
    refine hK.out _ _ (KS.out _ HB_zw7.out) (fun hHeld => ?_)
    clear hK K HX h5
    try simp only [Act.put, sA9, sZ9, sS9]
    refine wpAnyH_ready (rs := [3]) (by kernel_rfl) (by simp) ?_
    refine (AllReadyH.cons (o := ⟨_, _, _, _, _, _⟩) rfl (fun K hK => ?_) AllReadyH.nil)
    ·go_simp
     go_at_call 41
     refine (HPRO.out zw7).mono ?_
     rintro e zw8 ⟨rfl, h5⟩
     have HX : Hid (Below zw7.heap.size zw7 zw8) := hH h5
     have HB_zw8 : Hid (Below w0.heap.size w0 zw8) := hH (blThen HB_zw7.out HX.out)
     have KN := hH ((HX.out.block z0.heap.size LN.out).trans KN.out)
     have LN : Hid (z0.heap.size < zw8.heap.size) := hH (Nat.lt_of_lt_of_le LN.out HX.out.size)
     refine hK.out _ _ (KS.out _ HB_zw8.out) (fun hHeld => ?_)
     clear hK K HX h5
     try simp only [Act.put, sA9, sZ9, sS9]
     refine wpAnyH_take (i := 4) (oi := ⟨_, _, _, _, _, _⟩) (v := ?_) rfl (by kernel_rfl) (by kernel_rfl) (by kernel_rfl) (fun _ _ _ h => h) (Or.inl ⟨by rfl, ?_⟩) (by assumption) ?_
     rotate_left
     ·intro w hSw
      try dsimp only at hSw
      go_simp
      try with_reducible rfl
     try simp only [Act.put, sA9, sZ9, sS9]
     refine wpAnyH_take (i := 5) (oi := ⟨_, _, _, _, _, _⟩) (v := ?_) rfl (by kernel_rfl) (by kernel_rfl) (by kernel_rfl) (fun _ _ _ h => h) (Or.inl ⟨by rfl, ?_⟩) (by assumption) ?_
     rotate_left
     ·intro w hSw
      try dsimp only at hSw
      go_simp
      try with_reducible rfl
     try simp only [Act.put, sA9, sZ9, sS9]
     refine wpAnyH_take (i := 6) (oi := ⟨_, _, _, _, _, _⟩) (v := ?_) rfl (by kernel_rfl) (by kernel_rfl) (by kernel_rfl) (fun _ _ _ h => h) (Or.inl ⟨by rfl, ?_⟩) (by assumption) ?_
     rotate_left
     ·intro w hSw
      try dsimp only at hSw
      go_simp
      try with_reducible rfl
     try simp only [Act.put, sA9, sZ9, sS9]
     refine wpAnyH_ready (rs := [8]) (by kernel_rfl) (by simp) ?_
     refine AllReadyH.cons (o := ⟨_, _, _, _, _, _⟩) rfl (fun K hK => ?_) ?_
     rotate_left
     ·exact AllReadyH.nil
     refine wp_store_part _ _ _ rfl _ 0 rfl rfl (cs := (r22 3 1 (.slice none 0 0) 0 5 1 0 0 false (.slice none 0 0) 0 0 false 0 0 false 0 0 (.slice none 0 0) false (.slice none 0 0) (.slice none 0 0))) rfl KN.out szCmd (by simp) (by simp [Value.oneCell']) (D := (r22 3 1 (.slice none 0 0) 0 5 1 0 0 false (.slice none 0 0) 0 0 false 0 0 false 0 0 (.slice none 0 0) false (.slice none 0 0) (.slice none 0 0))) rfl ?_
     intro zf h1 h2
     have HBF : Hid (Below w0.heap.size w0 zf) := hH (below_grown9 HB_zw8.out h2 GN.out)
     have KF := hH h1
     have LF := Nat.lt_of_lt_of_le LN.out h2.size
     clear h1 h2
     refine hK.out _ _ (KS.out _ HBF.out) (fun hHeld => ?_)
     clear hK K
     try simp only [Act.put, sA9, sZ9, sS9]
     refine wpAnyH_take (i := 9) (oi := ⟨_, _, _, _, _, _⟩) (v := ?_) rfl (by kernel_rfl) (by kernel_rfl) (by kernel_rfl) (fun _ _ _ h => h) (Or.inl ⟨by rfl, ?_⟩) (by assumption) ?_
     rotate_left
     ·intro w hSw
      try dsimp only at hSw
      go_simp
      try with_reducible rfl
     try simp only [Act.put, sA9, sZ9, sS9]
     refine wpAnyH_done (by kernel_rfl) ?_ _
     go_wp2_with fail
     go_meet
     exact ⟨z0.heap.size, rfl, rfl, GN.out, LF, KF.out, HBF.out⟩
 case rest =>
  obtain ⟨k4, e4, e5, hk, hlt, hr, hb⟩ := hcut
  rename World => w1
  rw [e4, e5]
  clear e4 e5
  have HB_1 : Hid (Below W.heap.size W w1) := hH (blThen HB_0.out hb)
  have hsz1 := hb.size
  have Ki_1 := hH ((hb.block W.heap.size (by omega)).trans Ki_0.out)
  have Kb_1 := hH ((hb.block (W.heap.size + 1) (by omega)).trans Kb_0.out)
  have Lb_1 : Hid ((W.heap.size + 1) < w1.heap.size) := hH (by omega)
  have Kv_1 := hH ((hb.block (W.heap.size + 2) (by omega)).trans Kv_0.out)
  have Lv_1 : Hid ((W.heap.size + 2) < w1.heap.size) := hH (by omega)
  have Kc_1 := hH hr
  have Lc_1 : Hid (k4 < w1.heap.size) := hH hlt
  clear hk hlt hr hb Ki_0 Kb_0 Kv_0 KS HB_0 HNEW HPRO
  go_wp2_with (first | go_skip | ((with_reducible refine atC w16 ?_); go_at_call 13; go_must (refine (num9_any _ _).mono ?_; rintro e wq ⟨rfl, rfl⟩)) | ((with_reducible refine atC w15 ?_); go_at_call 14; go_must (refine (check9_any cm0 nilL w15 (nilL_at _ _) few_cm0).mono ?_; rw [live9_zero]; rintro e w16 ⟨rfl, h5⟩; have HB_16 : Hid (Below W.heap.size W w16) := hH (blThen HB_15.out h5); clear h5)) | ((with_reducible refine atC w14 ?_); go_at_call 16; go_must (refine (rsame9_any e1L ⟨.slice poa [opL].length poc, .slice psa psn psc, .slice pda pdn pdc, .slice pwa ([] : List Wrt).length pwc, .slice ppa ([] : Al Nat).length ppc⟩ ⟨.slice (some ⟨w5.heap.size, 0, none⟩) 1 1, .slice none 0 0, .slice none 0 0, .slice none 0 0, .slice none 0 0⟩ w14 HAT_14.out (HEA.out _ _ HO_14.out) live9_few).mono ?_; rintro e w15 ⟨rfl, h5⟩; have HB_15 : Hid (Below W.heap.size W w15) := hH (blThen HB_14.out h5); clear h5)) | ((with_reducible refine atW w14 ?_); refine load9 _ rfl (by rfl) _ rfl Kt11_14.out rfl ?_) | ((with_reducible refine atW w14 ?_); refine load9 _ rfl (by rfl) _ rfl Kt12_14.out rfl ?_) | ((with_reducible refine atW w14 ?_); refine wpList_load_one _ _ rfl (by rfl) _ 3 rfl Kt11_14.out Tryz.underlying3 rfl rfl ?_) | ((with_reducible refine atC w14 ?_); go_at_call 13; go_must (refine (num9_any _ _).mono ?_; rintro e wq ⟨rfl, rfl⟩)) | ((with_reducible refine atC w13 ?_); go_at_call 14; go_must (refine (check9_any e1L ⟨.slice (some ⟨w5.heap.size, 0, none⟩) 1 1, .slice none 0 0, .slice none 0 0, .slice none 0 0, .slice none 0 0⟩ w13 (HEA.out _ _ HO_13.out) live9_few).mono ?_; rw [live9_check]; rintro e w14 ⟨rfl, h5⟩; have HB_14 : Hid (Below W.heap.size W w14) := hH (blThen HB_13.out h5); have Kt11_14 := row_up Kt11_13 Lt11_13 h5; have Kt12_14 := row_up Kt12_13 Lt12_13 h5; have HO_14 := hH (HO_13.out.later h5); have HAT_14 := hH (HAT_13.out.later h5); clear h5)) | ((with_reducible refine atW w13 ?_); refine load9 _ rfl (by rfl) _ rfl Kt11_13.out rfl ?_) | ((with_reducible refine atC w12 ?_); go_at_call 16; go_must (refine (rsame9_any e1L ⟨.slice (some ⟨w5.heap.size, 0, none⟩) 1 1, .slice none 0 0, .slice none 0 0, .slice none 0 0, .slice none 0 0⟩ ⟨.slice (some ⟨w5.heap.size, 0, none⟩) 1 1, .slice none 0 0, .slice none 0 0, .slice none 0 0, .slice none 0 0⟩ w12 (HEA.out _ _ HO_12.out) (HEA.out _ _ HO_12.out) live9_few).mono ?_; rintro e w13 ⟨rfl, h5⟩; have HB_13 : Hid (Below W.heap.size W w13) := hH (blThen HB_12.out h5); have Kt11_13 := row_up Kt11_12 Lt11_12 h5; have Lt11_13 := lt_up Lt11_12 h5; have Kt12_13 := row_up Kt12_12 Lt12_12 h5; have Lt12_13 := lt_up Lt12_12 h5; have HO_13 := hH (HO_12.out.later h5); have HAT_13 := hH (HAT_12.out.later h5); clear h5)) | ((with_reducible refine atW w12 ?_); refine load9 _ rfl (by rfl) _ rfl Kt11_12.out rfl ?_) | ((with_reducible refine atW w12 ?_); refine load9 _ rfl (by rfl) _ rfl Kt10_12.out rfl ?_) | ((with_reducible refine atW (w11.alloc (.cells z22 31)) ?_); refine store9 _ _ rfl (by rfl) _ rfl rfl (new_blockC w11 z22 31) rfl rfl (by simp [Value.oneCell']) ?_; intro w12 h1 h2; have h5 := below_grown9 (blAlloc (Below.refl _ _) _) h2 (Nat.le_refl _); have HB_12 : Hid (Below W.heap.size W w12) := hH (blThen HB_11.out h5); have Kt10_12 := row_up Kt10_11 Lt10_11 h5; have Kt11_12 := row_up Kt11_11 Lt11_11 h5; have Lt11_12 := lt_up Lt11_11 h5; have HO_12 := hH (HO_11.out.later h5); have HAT_12 := hH (HAT_11.out.later h5); have Kt12_12 := hH h1; have Lt12_12 : Hid (w11.heap.size < w12.heap.size) := hH (by have := h2.size; simp only [World.size_alloc] at this; omega); clear h1 h2 h5) | ((with_reducible refine atC w10 ?_); go_at_call 11; go_must (refine (parse9_any _ vB (layC e1L) w10 HBW.out (fun hne => HBW.out.lt hne) live9_len).mono ?_; intro e w11 h; unfold RetPc at h; rw [live9_bytes] at h; obtain ⟨⟨po, ps, pd, pw, pp⟩, rfl, hat, h5⟩ := h; have HB_11 : Hid (Below W.heap.size W w11) := hH (blThen HB_10.out h5); have Kt10_11 := row_up Kt10_10 Lt10_10 h5; have Lt10_11 := lt_up Lt10_10 h5; have Kt11_11 := row_up Kt11_10 Lt11_10 h5; have Lt11_11 := lt_up Lt11_10 h5; have HO_11 := hH (HO_10.out.later h5); have HAT_11 := hH hat; obtain ⟨poa, poc, rfl⟩ := hat.o.form; obtain ⟨psa, psc, psF, rfl, _⟩ := hat.s; obtain ⟨pda, pdc, pdF, rfl, _⟩ := hat.d; obtain ⟨pwa, pwc, rfl⟩ := hat.w.form; obtain ⟨ppa, ppc, rfl⟩ := hat.p.form; generalize psF.length = psn at *; generalize pdF.length = pdn at *; simp only [Option.getD, cmV, e1L]; clear hat h5)) | ((with_reducible refine atC w9 ?_); go_at_call 18; go_must (refine (put9_any e1L ⟨.slice (some ⟨w5.heap.size, 0, none⟩) 1 1, .slice none 0 0, .slice none 0 0, .slice none 0 0, .slice none 0 0⟩ w9 (HEA.out _ _ HO_9.out) live9_few live9_put).mono ?_; intro e w10 h; unfold S2.Made at h; obtain ⟨vB, gB, rfl, hb1, hb2, h5⟩ := h; have HB_10 : Hid (Below W.heap.size W w10) := hH (blThen HB_9.out h5); have Kt10_10 := row_up Kt10_9 Lt10_9 h5; have Lt10_10 := lt_up Lt10_9 h5; have Kt11_10 := row_up Kt11_9 Lt11_9 h5; have Lt11_10 := lt_up Lt11_9 h5; have HO_10 := hH (HO_9.out.later h5); have HBW := hH hb1.bs.bw; clear hb1 hb2 h5)) | ((with_reducible refine atW w9 ?_); refine load9 _ rfl (by rfl) _ rfl Kt11_9.out rfl ?_) | ((with_reducible refine atW (w8.alloc (.cells z22 31)) ?_); refine store9 _ _ rfl (by rfl) _ rfl rfl (new_blockC w8 z22 31) rfl rfl (by simp [Value.oneCell']) ?_; intro w9 h1 h2; have h5 := below_grown9 (blAlloc (Below.refl _ _) _) h2 (Nat.le_refl _); have HB_9 : Hid (Below W.heap.size W w9) := hH (blThen HB_8.out h5); have Kt10_9 := row_up Kt10_8 Lt10_8 h5; have Lt10_9 := lt_up Lt10_8 h5; have HO_9 := hH (HO_8.out.later h5); have Kt11_9 := hH h1; have Lt11_9 : Hid (w8.heap.size < w9.heap.size) := hH (by have := h2.size; simp only [World.size_alloc] at this; omega); clear h1 h2 h5) | ((with_reducible refine atC w7 ?_); go_at_call 43; go_must (refine (HAG.out w7 w5.heap.size HO_7.out).mono ?_; rintro e w8 ⟨rfl, h5⟩; have HB_8 : Hid (Below W.heap.size W w8) := hH (blThen HB_7.out h5); have Kt10_8 := row_up Kt10_7 Lt10_7 h5; have Lt10_8 := lt_up Lt10_7 h5; have HO_8 := hH (HO_7.out.later h5); clear h5)) | ((with_reducible refine atW w7 ?_); refine load9 _ rfl (by rfl) _ rfl Kt10_7.out rfl ?_) | ((with_reducible refine atW (w6.alloc (.cells z22 31)) ?_); refine store9 _ _ rfl (by rfl) _ rfl rfl (new_blockC w6 z22 31) rfl rfl (by simp [Value.oneCell']) ?_; intro w7 h1 h2; have h5 := below_grown9 (blAlloc (Below.refl _ _) _) h2 (Nat.le_refl _); have HB_7 : Hid (Below W.heap.size W w7) := hH (blThen HB_6.out h5); have HO_7 := hH (HO_6.out.later h5); have Kt10_7 := hH h1; have Lt10_7 : Hid (w6.heap.size < w7.heap.size) := hH (by have := h2.size; simp only [World.size_alloc] at this; omega); clear h1 h2 h5) | (go_at_call 43; go_must (refine (HDEC.out (w5.alloc (.cells #[.int .i64 1, .string ⟨#[97]⟩, .string ⟨#[]⟩, .int .u64 0] 79)) w5.heap.size (list_G9 eO w5 _ [opL] _ 1 _ rfl rfl rfl)).mono ?_; rintro e w6 ⟨rfl, h5⟩; have h6 := h5; have h5 := blThen (blAlloc (Below.refl w5.heap.size w5) (.cells #[.int .i64 1, .string ⟨#[97]⟩, .string ⟨#[]⟩, .int .u64 0] 79)) h5; have HB_6 : Hid (Below W.heap.size W w6) := hH (blThen HB_5.out h5); have HO_6 := hH ((list_G9 eO w5 79 [opL] w5.heap.size 1 #[.int .i64 1, .string ⟨#[97]⟩, .string ⟨#[]⟩, .int .u64 0] rfl rfl rfl).later h6); clear h5 h6)) | ((with_reducible refine atW (w5.alloc (.cells #[.int .i64 1, .string ⟨#[97]⟩, .string ⟨#[]⟩, .int .u64 0] 79)) ?_); refine wpList_load_part _ _ rfl (by rfl) _ 0 rfl (alloc_row9 Kv_5.out Lv_5.out _) Tryz.underlying27 rfl #[.bool false, .int .i64 3, .int .i64 1, .slice none 0 0] (by kernel_rfl) (four_at rfl rfl rfl rfl) ?_) | ((with_reducible refine atW w5 ?_); refine wpList_load_part _ _ rfl (by rfl) _ 0 rfl Kv_5.out Tryz.underlying27 rfl #[.bool false, .int .i64 3, .int .i64 1, .slice none 0 0] (by kernel_rfl) (four_at rfl rfl rfl rfl) ?_) | ((with_reducible refine atW w5 ?_); refine load9 _ rfl (by rfl) _ rfl Kd8_5.out rfl ?_) | ((with_reducible refine atW (w4.alloc (.cells z22 31)) ?_); refine store9 _ _ rfl (by rfl) _ rfl rfl (new_blockC w4 z22 31) rfl rfl (by simp [Value.oneCell']) ?_; intro w5 h1 h2; have h5 := below_grown9 (blAlloc (Below.refl _ _) _) h2 (Nat.le_refl _); have HB_5 : Hid (Below W.heap.size W w5) := hH (blThen HB_4.out h5); have Kv_5 := row_up Kv_4 Lv_4 h5; have Lv_5 := lt_up Lv_4 h5; have Kd8_5 := hH h1; clear h1 h2 h5) | ((with_reducible refine atC w3 ?_); go_at_call 42; go_must (refine (HACC.out w3).mono ?_; rintro e w4 ⟨rfl, h5⟩; have HB_4 : Hid (Below W.heap.size W w4) := hH (blThen HB_3.out h5); have Kv_4 := row_up Kv_3 Lv_3 h5; have Lv_4 := lt_up Lv_3 h5; clear h5)) | ((with_reducible refine atW w3 ?_); refine wpList_load_part _ _ rfl (by rfl) _ 0 rfl Kv_3.out Tryz.underlying27 rfl #[.bool false, .int .i64 3, .int .i64 1, .slice none 0 0] (by kernel_rfl) (four_at rfl rfl rfl rfl) ?_) | ((with_reducible refine atW w3 ?_); refine wpList_load_part _ _ rfl (by rfl) _ 0 rfl Kb_3.out Tryz.underlying23 rfl #[.int .i64 5, .int .i64 1] (by kernel_rfl) (two_at rfl rfl) ?_) | ((with_reducible refine atW w3 ?_); refine load9 _ rfl (by rfl) _ rfl Kc_3.out rfl ?_) | ((with_reducible refine atW (w2.alloc (.cells z22 31)) ?_); refine store9 _ _ rfl (by rfl) _ rfl rfl (new_blockC w2 z22 31) rfl rfl (by simp [Value.oneCell']) ?_; intro w3 h1 h2; have h5 := below_grown9 (blAlloc (Below.refl _ _) _) h2 (Nat.le_refl _); have HB_3 : Hid (Below W.heap.size W w3) := hH (blThen HB_2.out h5); have Kb_3 := row_up Kb_2 Lb_2 h5; have Kv_3 := row_up Kv_2 Lv_2 h5; have Lv_3 := lt_up Lv_2 h5; have Kc_3 := row_up Kc_2 Lc_2 h5; clear h1 h2 h5) | ((with_reducible refine atC w1 ?_); go_at_call 42; go_must (refine (HNO.out w1).mono ?_; rintro e w2 ⟨rfl, h5⟩; have HB_2 : Hid (Below W.heap.size W w2) := hH (blThen HB_1.out h5); have Kb_2 := row_up Kb_1 Lb_1 h5; have Lb_2 := lt_up Lb_1 h5; have Kv_2 := row_up Kv_1 Lv_1 h5; have Lv_2 := lt_up Lv_1 h5; have Kc_2 := row_up Kc_1 Lc_1 h5; have Lc_2 := lt_up Lc_1 h5; clear h5)) | ((with_reducible refine atW w1 ?_); refine wpList_load_part _ _ rfl (by rfl) _ 0 rfl Kv_1.out Tryz.underlying27 rfl #[.bool false, .int .i64 3, .int .i64 1, .slice none 0 0] (by kernel_rfl) (four_at rfl rfl rfl rfl) ?_) | ((with_reducible refine atW w1 ?_); refine wpList_load_part _ _ rfl (by rfl) _ 0 rfl Ki_1.out Tryz.underlying23 rfl #[.int .i64 3, .int .i64 1] (by kernel_rfl) (two_at rfl rfl) ?_) | ((with_reducible refine atW w1 ?_); refine load9 _ rfl (by rfl) _ rfl Kc_1.out rfl ?_))
  go_ret
  exact ⟨rfl, HB_16.out⟩

theorem wp_store9 {op : Oper} {a : Act} {w : World} {K : Act → World → Prop} {Q : Exit → Act → World → Prop} (x y : Operand) (ho : op.op = .store 31 x y) (g : Nat) (hx : a.eval x = .pointer (some ⟨g, 0, none⟩)) {cells : Array Value} (hy : a.eval y = .agg cells) {old : Array Value}
  (hg : w.heap[g]? = some (.cells old 31 (0, 0))) (hold : old.size = 22) (hcs : cells.size = 22) (h1 : cells.all (·.oneCell') = true)
  (h : ∀ w', w'.heap[g]? = some (.cells cells 31 (0, 0)) → w.grownBy w' (some g) → K (a.put op.dst undef) w') : op.wp Tryz.prog a w K Q :=
 wp_store_row 31 x y ho g cells hx hy 31 old hg (by rw [hcs]; exact szCmd) (by rw [hold, hcs]) h1 (h _ (setRow_heap w g old cells _ _ hg) ⟨rfl, rfl, rfl, by simp, fun j hj hne => setRow_other w g j cells (fun e => hne (by rw [e]))⟩)
theorem ite_yes9 {c : Prop} [Decidable c] {A B : Prop} (h : c) (x : A) : if c then A else B := by rw [if_pos h]; exact x

theorem raccept_any (c : Cm) (l : Pl) (b : Stp) (v : Vlu) (vd : Value) (W : World) (h : CmAt W c l) (hvd : DlV W vd v.2.2) : Calls Tryz.prog 92 #[cmV c l, .agg #[.int .i64 b.1, .int .i64 b.2], vlV v vd] W (RetB W (accC c b v) (if proB c b = true then { l with d := vd } else l) (proB c b)) := by
 have HP := hH (fun (Y : World) (hY : Below W.heap.size W Y) => rbind_any c l b v.2.1 Y (h.later hY))
 obtain ⟨x, y⟩ := b
 obtain ⟨vg, ⟨u, v⟩, vds⟩ := v
 obtain ⟨va, vcp, vF, rfl, _⟩ := hvd
 generalize vF.length = vn at *
 unfold vlV
 generalize hv : accC c (x, y) (vg, (u, v), vds) = cv
 obtain ⟨⟨id1, id2⟩, ops, phase, ⟨p1, p2⟩, ⟨v1, v2⟩, fast, seen, ⟨b1, b2⟩, has, ⟨q1, q2⟩, ⟨gone, ⟨t1, t2⟩, deps⟩, ready, writes, pairs⟩ := c
 obtain ⟨lo, ls, ld, lw, lp⟩ := l
 try simp only at h
 obtain ⟨oa, oc, rfl⟩ := h.o.form
 obtain ⟨sa, sc, sF, rfl, _⟩ := h.s
 obtain ⟨da, dc, dF, rfl, _⟩ := h.d
 obtain ⟨wa, wc, rfl⟩ := h.w.form
 obtain ⟨pa, pc, rfl⟩ := h.p.form
 clear h
 simp only [cmV] at *
 generalize ops.length = on at *
 generalize sF.length = sn at *
 generalize dF.length = dn at *
 generalize writes.length = wn at *
 generalize pairs.length = pn at *
 unfold accC at hv
 cases hb : proB ⟨(id1, id2), ops, phase, (p1, p2), (v1, v2), fast, seen, (b1, b2), has, (q1, q2), (gone, (t1, t2), deps), ready, writes, pairs⟩ (x, y)
 ·have hpc : binC ⟨(id1, id2), ops, phase, (p1, p2), (v1, v2), fast, seen, (b1, b2), has, (q1, q2), (gone, (t1, t2), deps), ready, writes, pairs⟩ (x, y) (u, v) = ⟨(id1, id2), ops, phase, (p1, p2), (v1, v2), fast, seen, (b1, b2), has, (q1, q2), (gone, (t1, t2), deps), ready, writes, pairs⟩ := by unfold binC; rw [hb]; rfl
  rw [hb] at HP hv
  rw [hpc] at HP
  simp only [Bool.false_eq_true, if_false] at hv ⊢
  subst hv
  clear hb hpc
  obtain ⟨w0, he0, hw0, kQc, kQb, kQv, kQr, hb0⟩ := boxes4 W (.cells (r22 id1 id2 (.slice oa on oc) phase p1 p2 v1 v2 fast (.slice sa sn sc) b1 b2 has q1 q2 gone t1 t2 (.slice da dn dc) ready (.slice wa wn wc) (.slice pa pn pc)) 31) (.cells #[.int .i64 x, .int .i64 y] 23) (.cells #[.bool vg, .int .i64 u, .int .i64 v, .slice va vn vcp] 27) (.cells z22 31)
  have Kc0 := hH kQc
  have Kb0 := hH kQb
  have Kv0 := hH kQv
  have Kr0 := hH kQr
  have HB0 := hH hb0
  have HE0 := hH he0
  clear he0 hb0 kQc kQb kQv kQr
  go_enter Tryz.func92, Tryz.ntmps92
  go_upto_region 1 with fail
  rw [← HE0.out]
  go_wp2_with (first | go_skip | ((with_reducible refine atW w2 ?_); refine store9 _ _ rfl (by rfl) _ rfl rfl Kr2.out rfl rfl (by simp [Value.oneCell']) ?_; intro w3 h1 h2; have Kr3 := hH h1; have hw3 := Nat.le_trans hw2 h2.size; have HB3 : Hid (Below W.heap.size W w3) := hH (below_grown9 HB2.out h2 (by omega)); have Kc3 := hH (grown_other9 Kc2.out h2 (by omega) (by omega)); have Kb3 := hH (grown_other9 Kb2.out h2 (by omega) (by omega)); have Kv3 := hH (grown_other9 Kv2.out h2 (by omega) (by omega)); clear h1 h2) | ((with_reducible refine atW w2 ?_); refine load9 _ rfl (by rfl) _ rfl Kc2.out rfl ?_) | ((with_reducible refine atW w1 ?_); refine store9 _ _ rfl (by rfl) _ rfl rfl Kc1.out rfl rfl (by simp [Value.oneCell']) ?_; intro w2 h1 h2; have Kc2 := hH h1; have hw2 := Nat.le_trans hw1 h2.size; have HB2 : Hid (Below W.heap.size W w2) := hH (below_grown9 HB1.out h2 (by omega)); have Kb2 := hH (grown_other9 Kb1.out h2 (by omega) (by omega)); have Kv2 := hH (grown_other9 Kv1.out h2 (by omega) (by omega)); have Kr2 := hH (grown_other9 Kr1.out h2 (by omega) (by omega)); clear h1 h2) | ((with_reducible refine atC w0 ?_); go_at_call 91; refine (HP.out _ HB0.out).mono ?_; intro e w1 h; unfold RetB at h; obtain ⟨rfl, h5⟩ := h; simp only [cmV]; have hw1 := Nat.le_trans hw0 h5.size; have HB1 : Hid (Below W.heap.size W w1) := hH (blThen HB0.out h5); have Kc1 := hH ((h5.block W.heap.size (by omega)).trans Kc0.out); have Kb1 := hH ((h5.block (W.heap.size + 1) (by omega)).trans Kb0.out); have Kv1 := hH ((h5.block (W.heap.size + 2) (by omega)).trans Kv0.out); have Kr1 := hH ((h5.block (W.heap.size + 3) (by omega)).trans Kr0.out); clear h5) | ((with_reducible refine atW w0 ?_); refine wpList_load_part _ _ rfl (by rfl) _ 1 rfl Kv0.out Tryz.underlying23 rfl #[.int .i64 u, .int .i64 v] (by kernel_rfl) (two_at rfl rfl) ?_) | ((with_reducible refine atW w0 ?_); refine wpList_load_part _ _ rfl (by rfl) _ 0 rfl Kb0.out Tryz.underlying23 rfl #[.int .i64 x, .int .i64 y] (by kernel_rfl) (two_at rfl rfl) ?_) | ((with_reducible refine atW w0 ?_); refine load9 _ rfl (by rfl) _ rfl Kc0.out rfl ?_))
  refine bodyPost_ret (results_cell_tmp9 Tryz.results92 _ _ _ 31 _ (0, 0) _ rfl Kr3.out Tryz.underlying31 rfl szCmd) rfl ?_
  exact ⟨rfl, HB3.out⟩
 ·have hpc : binC ⟨(id1, id2), ops, phase, (p1, p2), (v1, v2), fast, seen, (b1, b2), has, (q1, q2), (gone, (t1, t2), deps), ready, writes, pairs⟩ (x, y) (u, v) = ⟨(id1, id2), ops, phase, (x, y), (v1, v2), fast, seen, S1.maxL [(b1, b2), (u, v)], has, (q1, q2), (gone, (t1, t2), deps), ready, writes, pairs⟩ := by unfold binC; rw [hb]; rfl
  rw [hb] at HP hv
  rw [hpc] at HP
  simp only [if_true] at hv ⊢
  subst hv
  clear hb hpc
  generalize S1.maxL [(b1, b2), (u, v)] = M at *
  obtain ⟨w0, he0, hw0, kQc, kQb, kQv, kQr, hb0⟩ := boxes4 W (.cells (r22 id1 id2 (.slice oa on oc) phase p1 p2 v1 v2 fast (.slice sa sn sc) b1 b2 has q1 q2 gone t1 t2 (.slice da dn dc) ready (.slice wa wn wc) (.slice pa pn pc)) 31) (.cells #[.int .i64 x, .int .i64 y] 23) (.cells #[.bool vg, .int .i64 u, .int .i64 v, .slice va vn vcp] 27) (.cells z22 31)
  have Kc0 := hH kQc
  have Kb0 := hH kQb
  have Kv0 := hH kQv
  have Kr0 := hH kQr
  have HB0 := hH hb0
  have HE0 := hH he0
  clear he0 hb0 kQc kQb kQv kQr
  go_enter Tryz.func92, Tryz.ntmps92
  go_upto_region 1 with fail
  rw [← HE0.out]
  go_wp2_with (first | go_skip | ((with_reducible refine atW w5 ?_); refine store9 _ _ rfl (by rfl) _ rfl rfl Kr5.out rfl rfl (by simp [Value.oneCell']) ?_; intro w6 h1 h2; have Kr6 := hH h1; have hw6 := Nat.le_trans hw5 h2.size; have HB6 : Hid (Below W.heap.size W w6) := hH (below_grown9 HB5.out h2 (by omega)); clear h1 h2) | ((with_reducible refine atW w5 ?_); refine load9 _ rfl (by rfl) _ rfl Kc5.out rfl ?_) | ((with_reducible refine atW w4 ?_); refine wpList_store_part _ _ _ rfl (by rfl) _ 15 rfl rfl (cs := #[.bool vg, .int .i64 u, .int .i64 v, .slice va vn vcp]) rfl Kc4.out (by kernel_rfl) (by simp) (by simp [Value.oneCell']) (D := (r22 id1 id2 (.slice oa on oc) phase x y v1 v2 fast (.slice sa sn sc) M.1 M.2 true x y vg u v (.slice va vn vcp) ready (.slice wa wn wc) (.slice pa pn pc))) rfl ?_; intro w5 h1 h2; have Kc5 := hH h1; have hw5 := Nat.le_trans hw4 h2.size; have HB5 : Hid (Below W.heap.size W w5) := hH (below_grown9 HB4.out h2 (by omega)); have Kr5 := hH (grown_other9 Kr4.out h2 (by omega) (by omega)); clear h1 h2) | ((with_reducible refine atW w4 ?_); refine wpList_load_part _ _ rfl (by rfl) _ 0 rfl Kv4.out Tryz.underlying27 rfl #[.bool vg, .int .i64 u, .int .i64 v, .slice va vn vcp] (by kernel_rfl) (four_at rfl rfl rfl rfl) ?_) | ((with_reducible refine atW w3 ?_); refine wpList_store_part _ _ _ rfl (by rfl) _ 13 rfl rfl (cs := #[.int .i64 x, .int .i64 y]) rfl Kc3.out (by kernel_rfl) (by simp) (by simp [Value.oneCell']) (D := (r22 id1 id2 (.slice oa on oc) phase x y v1 v2 fast (.slice sa sn sc) M.1 M.2 true x y gone t1 t2 (.slice da dn dc) ready (.slice wa wn wc) (.slice pa pn pc))) rfl ?_; intro w4 h1 h2; have Kc4 := hH h1; have hw4 := Nat.le_trans hw3 h2.size; have HB4 : Hid (Below W.heap.size W w4) := hH (below_grown9 HB3.out h2 (by omega)); have Kv4 := hH (grown_other9 Kv3.out h2 (by omega) (by omega)); have Kr4 := hH (grown_other9 Kr3.out h2 (by omega) (by omega)); clear h1 h2) | ((with_reducible refine atW w3 ?_); refine wpList_load_part _ _ rfl (by rfl) _ 0 rfl Kb3.out Tryz.underlying23 rfl #[.int .i64 x, .int .i64 y] (by kernel_rfl) (two_at rfl rfl) ?_) | ((with_reducible refine atW w2 ?_); refine wpList_store_part _ _ _ rfl (by rfl) _ 12 rfl rfl (cs := #[.bool true]) rfl Kc2.out (by kernel_rfl) (by simp) (by simp [Value.oneCell']) (D := (r22 id1 id2 (.slice oa on oc) phase x y v1 v2 fast (.slice sa sn sc) M.1 M.2 true q1 q2 gone t1 t2 (.slice da dn dc) ready (.slice wa wn wc) (.slice pa pn pc))) rfl ?_; intro w3 h1 h2; have Kc3 := hH h1; have hw3 := Nat.le_trans hw2 h2.size; have HB3 : Hid (Below W.heap.size W w3) := hH (below_grown9 HB2.out h2 (by omega)); have Kb3 := hH (grown_other9 Kb2.out h2 (by omega) (by omega)); have Kv3 := hH (grown_other9 Kv2.out h2 (by omega) (by omega)); have Kr3 := hH (grown_other9 Kr2.out h2 (by omega) (by omega)); clear h1 h2) | ((with_reducible refine atW w1 ?_); refine store9 _ _ rfl (by rfl) _ rfl rfl Kc1.out rfl rfl (by simp [Value.oneCell']) ?_; intro w2 h1 h2; have Kc2 := hH h1; have hw2 := Nat.le_trans hw1 h2.size; have HB2 : Hid (Below W.heap.size W w2) := hH (below_grown9 HB1.out h2 (by omega)); have Kb2 := hH (grown_other9 Kb1.out h2 (by omega) (by omega)); have Kv2 := hH (grown_other9 Kv1.out h2 (by omega) (by omega)); have Kr2 := hH (grown_other9 Kr1.out h2 (by omega) (by omega)); clear h1 h2) | ((with_reducible refine atC w0 ?_); go_at_call 91; refine (HP.out _ HB0.out).mono ?_; intro e w1 h; unfold RetB at h; obtain ⟨rfl, h5⟩ := h; simp only [cmV]; have hw1 := Nat.le_trans hw0 h5.size; have HB1 : Hid (Below W.heap.size W w1) := hH (blThen HB0.out h5); have Kc1 := hH ((h5.block W.heap.size (by omega)).trans Kc0.out); have Kb1 := hH ((h5.block (W.heap.size + 1) (by omega)).trans Kb0.out); have Kv1 := hH ((h5.block (W.heap.size + 2) (by omega)).trans Kv0.out); have Kr1 := hH ((h5.block (W.heap.size + 3) (by omega)).trans Kr0.out); clear h5) | ((with_reducible refine atW w0 ?_); refine wpList_load_part _ _ rfl (by rfl) _ 1 rfl Kv0.out Tryz.underlying23 rfl #[.int .i64 u, .int .i64 v] (by kernel_rfl) (two_at rfl rfl) ?_) | ((with_reducible refine atW w0 ?_); refine wpList_load_part _ _ rfl (by rfl) _ 0 rfl Kb0.out Tryz.underlying23 rfl #[.int .i64 x, .int .i64 y] (by kernel_rfl) (two_at rfl rfl) ?_) | ((with_reducible refine atW w0 ?_); refine load9 _ rfl (by rfl) _ rfl Kc0.out rfl ?_))
  refine bodyPost_ret (results_cell_tmp9 Tryz.results92 _ _ _ 31 _ (0, 0) _ rfl Kr6.out Tryz.underlying31 rfl szCmd) rfl ?_
  exact ⟨rfl, HB6.out⟩

theorem model9_any (c : Cm) (l : Pl) (x : Act9) (m : Pl) (W : World) (S : Nat → Prop) (hS : ∀ b, S b → b < W.heap.size) (h : CmS S W c l) (hx : AcS S W x m) : Calls Tryz.prog 27 #[cmV c l, acV x m] W (RetCS S W (actC c x) (actB c x)) := by
 have h0 := h.at
 have hx0 := hx W (S2.Keeps.refl _ _)
 have HCAT := hH h0
 have HXAT := hH hx0
 have HCS := hH h
 have HSS := hH hS
 by_cases hk : x.kind = 0
 ·rw [(act_0 c hk).1, (act_0 c hk).2]
  obtain ⟨cq, hcq⟩ : ∃ q_, q_ = witC c x.ops x.b x.fast x.deps := ⟨_, rfl⟩
  obtain ⟨pq, hpq⟩ : ∃ q_, q_ = wiL c l m.o m.s := ⟨_, rfl⟩
  have HATS : Hid (CmS S W cq pq) := hH (fun w2 k => by rw [hcq, hpq]; exact wiL_at (h w2 k) (hx w2 k).o (hx w2 k).s)
  have HAT := hH HATS.out.at
  have HC : Hid (∀ Y : World, Below W.heap.size W Y → Calls Tryz.prog 89 #[cmV c l, m.o, .agg #[.int .i64 x.b.1, .int .i64 x.b.2], .bool x.fast, m.s] Y (RetL Y cq pq)) := hH (fun Y hY => by rw [hcq, hpq]; exact rwitness_any c l x.ops m.o x.b x.fast x.deps m.s Y (h0.later hY) (hx0.o.later hY) (hx0.s.later hY))
  rw [← hcq]
  clear hcq hpq h hx h0 hx0
  obtain ⟨oa, on, oc, sa, sn, sc, da, dn, dc, wa, wn, wc, pa, pn, pc, rfl⟩ := cm_forms HCAT.out
  obtain ⟨xoa, xon, xoc, xsa, xsn, xsc, xda, xdn, xdc, xwa, xwn, xwc, xpa, xpn, xpc, rfl⟩ := ac_forms HXAT.out
  obtain ⟨⟨id1, id2⟩, ops, phase, ⟨p1, p2⟩, ⟨v1, v2⟩, fast, seen, ⟨b1, b2⟩, has, ⟨q1, q2⟩, ⟨gone, ⟨t1, t2⟩, deps⟩, ready, writes, pairs⟩ := c
  obtain ⟨kind, aops, ⟨a1, a2⟩, ⟨y1, y2⟩, xf, adeps, ⟨xg, ⟨u1, u2⟩, avd⟩, awr, apr⟩ := x
  obtain ⟨qoa, qon, qoc, qsa, qsn, qsc, qda, qdn, qdc, qwa, qwn, qwc, qpa, qpn, qpc, rfl⟩ := cm_forms HAT.out
  try simp only at HC
  simp only [cmV, acV, vlV] at *
  try simp only at hk
  subst hk
  obtain ⟨w0, he0, hw0, kQc, kQa, kQr, hb0⟩ := boxes3 W (.cells (r22 id1 id2 (.slice oa on oc) phase p1 p2 v1 v2 fast (.slice sa sn sc) b1 b2 has q1 q2 gone t1 t2 (.slice da dn dc) ready (.slice wa wn wc) (.slice pa pn pc)) 31) (.cells #[.int .i64 0, .slice xoa xon xoc, .int .i64 a1, .int .i64 a2, .int .i64 y1, .int .i64 y2, .bool xf, .slice xsa xsn xsc, .bool xg, .int .i64 u1, .int .i64 u2, .slice xda xdn xdc, .slice xwa xwn xwc, .slice xpa xpn xpc] 53) (.cells z22 31)
  have Kc0 := hH kQc
  have Ka0 := hH kQa
  have Kr0 := hH kQr
  have HB0 := hH hb0
  have HE0 := hH he0
  clear he0 hb0 kQc kQa kQr
  go_enter Tryz.func27, Tryz.ntmps27
  go_upto_region 1 with fail
  rw [← HE0.out]
  go_wp2_with (first | go_skip | ((with_reducible refine atW w1 ?_); refine store9 _ _ rfl (by rfl) _ rfl rfl Kr1.out rfl rfl (by simp [Value.oneCell']) ?_; intro w2 h1 h2; have Kr2 := hH h1; have hw2 := Nat.le_trans hw1 h2.size; have HB2 : Hid (Below W.heap.size W w2) := hH (below_grown9 HB1.out h2 (by omega)); clear h1 h2) | ((with_reducible refine atC w0 ?_); go_at_call 89; refine (HC.out _ HB0.out).mono ?_; intro e w1 h; unfold RetL at h; obtain ⟨rfl, h5⟩ := h; simp only [cmV]; have hw1 := Nat.le_trans hw0 h5.size; have HB1 : Hid (Below W.heap.size W w1) := hH (blThen HB0.out h5); have Kr1 := hH ((h5.block (W.heap.size + 2) (by omega)).trans Kr0.out); clear h5) | ((with_reducible refine atW w0 ?_); refine wpList_load_one _ _ rfl (by rfl) _ 7 rfl Ka0.out Tryz.underlying25 rfl rfl ?_) | ((with_reducible refine atW w0 ?_); refine wpList_load_one _ _ rfl (by rfl) _ 6 rfl Ka0.out Tryz.underlying4 rfl rfl ?_) | ((with_reducible refine atW w0 ?_); refine wpList_load_part _ _ rfl (by rfl) _ 4 rfl Ka0.out Tryz.underlying23 rfl #[.int .i64 y1, .int .i64 y2] (by kernel_rfl) (two_at rfl rfl) ?_) | ((with_reducible refine atW w0 ?_); refine wpList_load_one _ _ rfl (by rfl) _ 1 rfl Ka0.out Tryz.underlying24 rfl rfl ?_) | ((with_reducible refine atW w0 ?_); refine load9 _ rfl (by rfl) _ rfl Kc0.out rfl ?_) | ((with_reducible refine atW w0 ?_); refine wpList_load_one _ _ rfl (by rfl) _ 0 rfl Ka0.out Tryz.underlying3 rfl rfl ?_))
  refine bodyPost_ret (results_cell_tmp9 Tryz.results27 _ _ _ 31 _ (0, 0) _ rfl Kr2.out Tryz.underlying31 rfl szCmd) rfl ?_
  exact ⟨⟨.slice qoa qon qoc, .slice qsa qsn qsc, .slice qda qdn qdc, .slice qwa qwn qwc, .slice qpa qpn qpc⟩, rfl, HATS.out.next HB2.out, HB2.out⟩
 have n0 := hk
 clear hk
 by_cases hk : x.kind = 1
 ·rw [(act_1 c hk).1, (act_1 c hk).2]
  obtain ⟨cq, hcq⟩ : ∃ q_, q_ = proC c x.a := ⟨_, rfl⟩
  obtain ⟨pq, hpq⟩ : ∃ q_, q_ = l := ⟨_, rfl⟩
  obtain ⟨bq, hbq⟩ : ∃ q_, q_ = proB c x.a := ⟨_, rfl⟩
  have HATS : Hid (CmS S W cq pq) := hH (fun w2 k => by rw [hcq, hpq]; exact pro_at x.a (h w2 k))
  have HAT := hH HATS.out.at
  have HC : Hid (∀ Y : World, Below W.heap.size W Y → Calls Tryz.prog 90 #[cmV c l, .agg #[.int .i64 x.a.1, .int .i64 x.a.2]] Y (RetB Y cq pq bq)) := hH (fun Y hY => by rw [hcq, hpq, hbq]; exact rpromise_any c l x.a Y (h0.later hY))
  rw [← hcq, ← hbq]
  clear hcq hpq hbq h hx h0 hx0
  obtain ⟨oa, on, oc, sa, sn, sc, da, dn, dc, wa, wn, wc, pa, pn, pc, rfl⟩ := cm_forms HCAT.out
  obtain ⟨xoa, xon, xoc, xsa, xsn, xsc, xda, xdn, xdc, xwa, xwn, xwc, xpa, xpn, xpc, rfl⟩ := ac_forms HXAT.out
  obtain ⟨⟨id1, id2⟩, ops, phase, ⟨p1, p2⟩, ⟨v1, v2⟩, fast, seen, ⟨b1, b2⟩, has, ⟨q1, q2⟩, ⟨gone, ⟨t1, t2⟩, deps⟩, ready, writes, pairs⟩ := c
  obtain ⟨kind, aops, ⟨a1, a2⟩, ⟨y1, y2⟩, xf, adeps, ⟨xg, ⟨u1, u2⟩, avd⟩, awr, apr⟩ := x
  obtain ⟨qoa, qon, qoc, qsa, qsn, qsc, qda, qdn, qdc, qwa, qwn, qwc, qpa, qpn, qpc, rfl⟩ := cm_forms HAT.out
  try simp only at HC
  simp only [cmV, acV, vlV] at *
  try simp only at hk
  subst hk
  obtain ⟨w0, he0, hw0, kQc, kQa, kQr, hb0⟩ := boxes3 W (.cells (r22 id1 id2 (.slice oa on oc) phase p1 p2 v1 v2 fast (.slice sa sn sc) b1 b2 has q1 q2 gone t1 t2 (.slice da dn dc) ready (.slice wa wn wc) (.slice pa pn pc)) 31) (.cells #[.int .i64 1, .slice xoa xon xoc, .int .i64 a1, .int .i64 a2, .int .i64 y1, .int .i64 y2, .bool xf, .slice xsa xsn xsc, .bool xg, .int .i64 u1, .int .i64 u2, .slice xda xdn xdc, .slice xwa xwn xwc, .slice xpa xpn xpc] 53) (.cells z22 31)
  have Kc0 := hH kQc
  have Ka0 := hH kQa
  have Kr0 := hH kQr
  have HB0 := hH hb0
  have HE0 := hH he0
  clear he0 hb0 kQc kQa kQr
  go_enter Tryz.func27, Tryz.ntmps27
  go_upto_region 1 with fail
  rw [← HE0.out]
  go_wp2_with (first | go_skip | ((with_reducible refine atW w1 ?_); refine store9 _ _ rfl (by rfl) _ rfl rfl Kr1.out rfl rfl (by simp [Value.oneCell']) ?_; intro w2 h1 h2; have Kr2 := hH h1; have hw2 := Nat.le_trans hw1 h2.size; have HB2 : Hid (Below W.heap.size W w2) := hH (below_grown9 HB1.out h2 (by omega)); clear h1 h2) | ((with_reducible refine atC w0 ?_); go_at_call 90; refine (HC.out _ HB0.out).mono ?_; intro e w1 h; unfold RetB at h; obtain ⟨rfl, h5⟩ := h; simp only [cmV]; have hw1 := Nat.le_trans hw0 h5.size; have HB1 : Hid (Below W.heap.size W w1) := hH (blThen HB0.out h5); have Kr1 := hH ((h5.block (W.heap.size + 2) (by omega)).trans Kr0.out); clear h5) | ((with_reducible refine atW w0 ?_); refine wpList_load_part _ _ rfl (by rfl) _ 2 rfl Ka0.out Tryz.underlying23 rfl #[.int .i64 a1, .int .i64 a2] (by kernel_rfl) (two_at rfl rfl) ?_) | ((with_reducible refine atW w0 ?_); refine load9 _ rfl (by rfl) _ rfl Kc0.out rfl ?_) | ((with_reducible refine atW w0 ?_); refine wpList_load_one _ _ rfl (by rfl) _ 0 rfl Ka0.out Tryz.underlying3 rfl rfl ?_))
  refine bodyPost_ret (results_cell_tmp9 Tryz.results27 _ _ _ 31 _ (0, 0) _ rfl Kr2.out Tryz.underlying31 rfl szCmd) rfl ?_
  exact ⟨⟨.slice qoa qon qoc, .slice qsa qsn qsc, .slice qda qdn qdc, .slice qwa qwn qwc, .slice qpa qpn qpc⟩, rfl, HATS.out.next HB2.out, HB2.out⟩
 have n1 := hk
 clear hk
 by_cases hk : x.kind = 2
 ·rw [(act_2 c hk).1, (act_2 c hk).2]
  obtain ⟨cq, hcq⟩ : ∃ q_, q_ = binC c x.a x.b := ⟨_, rfl⟩
  obtain ⟨pq, hpq⟩ : ∃ q_, q_ = l := ⟨_, rfl⟩
  obtain ⟨bq, hbq⟩ : ∃ q_, q_ = proB c x.a := ⟨_, rfl⟩
  have HATS : Hid (CmS S W cq pq) := hH (fun w2 k => by rw [hcq, hpq]; exact bin_at x.a x.b (h w2 k))
  have HAT := hH HATS.out.at
  have HC : Hid (∀ Y : World, Below W.heap.size W Y → Calls Tryz.prog 91 #[cmV c l, .agg #[.int .i64 x.a.1, .int .i64 x.a.2], .agg #[.int .i64 x.b.1, .int .i64 x.b.2]] Y (RetB Y cq pq bq)) := hH (fun Y hY => by rw [hcq, hpq, hbq]; exact rbind_any c l x.a x.b Y (h0.later hY))
  rw [← hcq, ← hbq]
  clear hcq hpq hbq h hx h0 hx0
  obtain ⟨oa, on, oc, sa, sn, sc, da, dn, dc, wa, wn, wc, pa, pn, pc, rfl⟩ := cm_forms HCAT.out
  obtain ⟨xoa, xon, xoc, xsa, xsn, xsc, xda, xdn, xdc, xwa, xwn, xwc, xpa, xpn, xpc, rfl⟩ := ac_forms HXAT.out
  obtain ⟨⟨id1, id2⟩, ops, phase, ⟨p1, p2⟩, ⟨v1, v2⟩, fast, seen, ⟨b1, b2⟩, has, ⟨q1, q2⟩, ⟨gone, ⟨t1, t2⟩, deps⟩, ready, writes, pairs⟩ := c
  obtain ⟨kind, aops, ⟨a1, a2⟩, ⟨y1, y2⟩, xf, adeps, ⟨xg, ⟨u1, u2⟩, avd⟩, awr, apr⟩ := x
  obtain ⟨qoa, qon, qoc, qsa, qsn, qsc, qda, qdn, qdc, qwa, qwn, qwc, qpa, qpn, qpc, rfl⟩ := cm_forms HAT.out
  try simp only at HC
  simp only [cmV, acV, vlV] at *
  try simp only at hk
  subst hk
  obtain ⟨w0, he0, hw0, kQc, kQa, kQr, hb0⟩ := boxes3 W (.cells (r22 id1 id2 (.slice oa on oc) phase p1 p2 v1 v2 fast (.slice sa sn sc) b1 b2 has q1 q2 gone t1 t2 (.slice da dn dc) ready (.slice wa wn wc) (.slice pa pn pc)) 31) (.cells #[.int .i64 2, .slice xoa xon xoc, .int .i64 a1, .int .i64 a2, .int .i64 y1, .int .i64 y2, .bool xf, .slice xsa xsn xsc, .bool xg, .int .i64 u1, .int .i64 u2, .slice xda xdn xdc, .slice xwa xwn xwc, .slice xpa xpn xpc] 53) (.cells z22 31)
  have Kc0 := hH kQc
  have Ka0 := hH kQa
  have Kr0 := hH kQr
  have HB0 := hH hb0
  have HE0 := hH he0
  clear he0 hb0 kQc kQa kQr
  go_enter Tryz.func27, Tryz.ntmps27
  go_upto_region 1 with fail
  rw [← HE0.out]
  go_wp2_with (first | go_skip | ((with_reducible refine atW w1 ?_); refine store9 _ _ rfl (by rfl) _ rfl rfl Kr1.out rfl rfl (by simp [Value.oneCell']) ?_; intro w2 h1 h2; have Kr2 := hH h1; have hw2 := Nat.le_trans hw1 h2.size; have HB2 : Hid (Below W.heap.size W w2) := hH (below_grown9 HB1.out h2 (by omega)); clear h1 h2) | ((with_reducible refine atC w0 ?_); go_at_call 91; refine (HC.out _ HB0.out).mono ?_; intro e w1 h; unfold RetB at h; obtain ⟨rfl, h5⟩ := h; simp only [cmV]; have hw1 := Nat.le_trans hw0 h5.size; have HB1 : Hid (Below W.heap.size W w1) := hH (blThen HB0.out h5); have Kr1 := hH ((h5.block (W.heap.size + 2) (by omega)).trans Kr0.out); clear h5) | ((with_reducible refine atW w0 ?_); refine wpList_load_part _ _ rfl (by rfl) _ 4 rfl Ka0.out Tryz.underlying23 rfl #[.int .i64 y1, .int .i64 y2] (by kernel_rfl) (two_at rfl rfl) ?_) | ((with_reducible refine atW w0 ?_); refine wpList_load_part _ _ rfl (by rfl) _ 2 rfl Ka0.out Tryz.underlying23 rfl #[.int .i64 a1, .int .i64 a2] (by kernel_rfl) (two_at rfl rfl) ?_) | ((with_reducible refine atW w0 ?_); refine load9 _ rfl (by rfl) _ rfl Kc0.out rfl ?_) | ((with_reducible refine atW w0 ?_); refine wpList_load_one _ _ rfl (by rfl) _ 0 rfl Ka0.out Tryz.underlying3 rfl rfl ?_))
  refine bodyPost_ret (results_cell_tmp9 Tryz.results27 _ _ _ 31 _ (0, 0) _ rfl Kr2.out Tryz.underlying31 rfl szCmd) rfl ?_
  exact ⟨⟨.slice qoa qon qoc, .slice qsa qsn qsc, .slice qda qdn qdc, .slice qwa qwn qwc, .slice qpa qpn qpc⟩, rfl, HATS.out.next HB2.out, HB2.out⟩
 have n2 := hk
 clear hk
 by_cases hk : x.kind = 3
 ·rw [(act_3 c hk).1, (act_3 c hk).2]
  obtain ⟨cq, hcq⟩ : ∃ q_, q_ = accC c x.a x.val := ⟨_, rfl⟩
  obtain ⟨pq, hpq⟩ : ∃ q_, q_ = (if proB c x.a = true then { l with d := m.d } else l) := ⟨_, rfl⟩
  obtain ⟨bq, hbq⟩ : ∃ q_, q_ = proB c x.a := ⟨_, rfl⟩
  have HATS : Hid (CmS S W cq pq) := hH (fun w2 k => by rw [hcq, hpq]; exact acc_at (h w2 k) (hx w2 k).d)
  have HAT := hH HATS.out.at
  have HC : Hid (∀ Y : World, Below W.heap.size W Y → Calls Tryz.prog 92 #[cmV c l, .agg #[.int .i64 x.a.1, .int .i64 x.a.2], vlV x.val m.d] Y (RetB Y cq pq bq)) := hH (fun Y hY => by rw [hcq, hpq, hbq]; exact raccept_any c l x.a x.val m.d Y (h0.later hY) (hx0.d.later hY))
  rw [← hcq, ← hbq]
  clear hcq hpq hbq h hx h0 hx0
  obtain ⟨oa, on, oc, sa, sn, sc, da, dn, dc, wa, wn, wc, pa, pn, pc, rfl⟩ := cm_forms HCAT.out
  obtain ⟨xoa, xon, xoc, xsa, xsn, xsc, xda, xdn, xdc, xwa, xwn, xwc, xpa, xpn, xpc, rfl⟩ := ac_forms HXAT.out
  obtain ⟨⟨id1, id2⟩, ops, phase, ⟨p1, p2⟩, ⟨v1, v2⟩, fast, seen, ⟨b1, b2⟩, has, ⟨q1, q2⟩, ⟨gone, ⟨t1, t2⟩, deps⟩, ready, writes, pairs⟩ := c
  obtain ⟨kind, aops, ⟨a1, a2⟩, ⟨y1, y2⟩, xf, adeps, ⟨xg, ⟨u1, u2⟩, avd⟩, awr, apr⟩ := x
  obtain ⟨qoa, qon, qoc, qsa, qsn, qsc, qda, qdn, qdc, qwa, qwn, qwc, qpa, qpn, qpc, rfl⟩ := cm_forms HAT.out
  try simp only at HC
  simp only [cmV, acV, vlV] at *
  try simp only at hk
  subst hk
  obtain ⟨w0, he0, hw0, kQc, kQa, kQr, hb0⟩ := boxes3 W (.cells (r22 id1 id2 (.slice oa on oc) phase p1 p2 v1 v2 fast (.slice sa sn sc) b1 b2 has q1 q2 gone t1 t2 (.slice da dn dc) ready (.slice wa wn wc) (.slice pa pn pc)) 31) (.cells #[.int .i64 3, .slice xoa xon xoc, .int .i64 a1, .int .i64 a2, .int .i64 y1, .int .i64 y2, .bool xf, .slice xsa xsn xsc, .bool xg, .int .i64 u1, .int .i64 u2, .slice xda xdn xdc, .slice xwa xwn xwc, .slice xpa xpn xpc] 53) (.cells z22 31)
  have Kc0 := hH kQc
  have Ka0 := hH kQa
  have Kr0 := hH kQr
  have HB0 := hH hb0
  have HE0 := hH he0
  clear he0 hb0 kQc kQa kQr
  go_enter Tryz.func27, Tryz.ntmps27
  go_upto_region 1 with fail
  rw [← HE0.out]
  go_wp2_with (first | go_skip | ((with_reducible refine atW w1 ?_); refine store9 _ _ rfl (by rfl) _ rfl rfl Kr1.out rfl rfl (by simp [Value.oneCell']) ?_; intro w2 h1 h2; have Kr2 := hH h1; have hw2 := Nat.le_trans hw1 h2.size; have HB2 : Hid (Below W.heap.size W w2) := hH (below_grown9 HB1.out h2 (by omega)); clear h1 h2) | ((with_reducible refine atC w0 ?_); go_at_call 92; refine (HC.out _ HB0.out).mono ?_; intro e w1 h; unfold RetB at h; obtain ⟨rfl, h5⟩ := h; simp only [cmV]; have hw1 := Nat.le_trans hw0 h5.size; have HB1 : Hid (Below W.heap.size W w1) := hH (blThen HB0.out h5); have Kr1 := hH ((h5.block (W.heap.size + 2) (by omega)).trans Kr0.out); clear h5) | ((with_reducible refine atW w0 ?_); refine wpList_load_part _ _ rfl (by rfl) _ 8 rfl Ka0.out Tryz.underlying27 rfl #[.bool xg, .int .i64 u1, .int .i64 u2, .slice xda xdn xdc] (by kernel_rfl) (four_at rfl rfl rfl rfl) ?_) | ((with_reducible refine atW w0 ?_); refine wpList_load_part _ _ rfl (by rfl) _ 2 rfl Ka0.out Tryz.underlying23 rfl #[.int .i64 a1, .int .i64 a2] (by kernel_rfl) (two_at rfl rfl) ?_) | ((with_reducible refine atW w0 ?_); refine load9 _ rfl (by rfl) _ rfl Kc0.out rfl ?_) | ((with_reducible refine atW w0 ?_); refine wpList_load_one _ _ rfl (by rfl) _ 0 rfl Ka0.out Tryz.underlying3 rfl rfl ?_))
  refine bodyPost_ret (results_cell_tmp9 Tryz.results27 _ _ _ 31 _ (0, 0) _ rfl Kr2.out Tryz.underlying31 rfl szCmd) rfl ?_
  exact ⟨⟨.slice qoa qon qoc, .slice qsa qsn qsc, .slice qda qdn qdc, .slice qwa qwn qwc, .slice qpa qpn qpc⟩, rfl, HATS.out.next HB2.out, HB2.out⟩
 have n3 := hk
 clear hk
 by_cases hk : x.kind = 4
 ·rw [(act_4 c hk).1, (act_4 c hk).2]
  obtain ⟨cq, hcq⟩ : ∃ q_, q_ = deciC c x.ops x.val := ⟨_, rfl⟩
  obtain ⟨pq, hpq⟩ : ∃ q_, q_ = dlL c l x.val m.o m.d := ⟨_, rfl⟩
  have HATS : Hid (CmS S W cq pq) := hH (fun w2 k => by rw [hcq, hpq]; exact dlL_at (h w2 k) (hx w2 k).o (hx w2 k).d)
  have HAT := hH HATS.out.at
  have HC : Hid (∀ Y : World, Below W.heap.size W Y → Calls Tryz.prog 93 #[cmV c l, m.o, vlV x.val m.d] Y (RetL Y cq pq)) := hH (fun Y hY => by rw [hcq, hpq]; exact rdecide_any c l x.ops m.o x.val m.d Y (h0.later hY) (hx0.o.later hY) (hx0.d.later hY))
  rw [← hcq]
  clear hcq hpq h hx h0 hx0
  obtain ⟨oa, on, oc, sa, sn, sc, da, dn, dc, wa, wn, wc, pa, pn, pc, rfl⟩ := cm_forms HCAT.out
  obtain ⟨xoa, xon, xoc, xsa, xsn, xsc, xda, xdn, xdc, xwa, xwn, xwc, xpa, xpn, xpc, rfl⟩ := ac_forms HXAT.out
  obtain ⟨⟨id1, id2⟩, ops, phase, ⟨p1, p2⟩, ⟨v1, v2⟩, fast, seen, ⟨b1, b2⟩, has, ⟨q1, q2⟩, ⟨gone, ⟨t1, t2⟩, deps⟩, ready, writes, pairs⟩ := c
  obtain ⟨kind, aops, ⟨a1, a2⟩, ⟨y1, y2⟩, xf, adeps, ⟨xg, ⟨u1, u2⟩, avd⟩, awr, apr⟩ := x
  obtain ⟨qoa, qon, qoc, qsa, qsn, qsc, qda, qdn, qdc, qwa, qwn, qwc, qpa, qpn, qpc, rfl⟩ := cm_forms HAT.out
  try simp only at HC
  simp only [cmV, acV, vlV] at *
  try simp only at hk
  subst hk
  obtain ⟨w0, he0, hw0, kQc, kQa, kQr, hb0⟩ := boxes3 W (.cells (r22 id1 id2 (.slice oa on oc) phase p1 p2 v1 v2 fast (.slice sa sn sc) b1 b2 has q1 q2 gone t1 t2 (.slice da dn dc) ready (.slice wa wn wc) (.slice pa pn pc)) 31) (.cells #[.int .i64 4, .slice xoa xon xoc, .int .i64 a1, .int .i64 a2, .int .i64 y1, .int .i64 y2, .bool xf, .slice xsa xsn xsc, .bool xg, .int .i64 u1, .int .i64 u2, .slice xda xdn xdc, .slice xwa xwn xwc, .slice xpa xpn xpc] 53) (.cells z22 31)
  have Kc0 := hH kQc
  have Ka0 := hH kQa
  have Kr0 := hH kQr
  have HB0 := hH hb0
  have HE0 := hH he0
  clear he0 hb0 kQc kQa kQr
  go_enter Tryz.func27, Tryz.ntmps27
  go_upto_region 1 with fail
  rw [← HE0.out]
  go_wp2_with (first | go_skip | ((with_reducible refine atW w1 ?_); refine store9 _ _ rfl (by rfl) _ rfl rfl Kr1.out rfl rfl (by simp [Value.oneCell']) ?_; intro w2 h1 h2; have Kr2 := hH h1; have hw2 := Nat.le_trans hw1 h2.size; have HB2 : Hid (Below W.heap.size W w2) := hH (below_grown9 HB1.out h2 (by omega)); clear h1 h2) | ((with_reducible refine atC w0 ?_); go_at_call 93; refine (HC.out _ HB0.out).mono ?_; intro e w1 h; unfold RetL at h; obtain ⟨rfl, h5⟩ := h; simp only [cmV]; have hw1 := Nat.le_trans hw0 h5.size; have HB1 : Hid (Below W.heap.size W w1) := hH (blThen HB0.out h5); have Kr1 := hH ((h5.block (W.heap.size + 2) (by omega)).trans Kr0.out); clear h5) | ((with_reducible refine atW w0 ?_); refine wpList_load_part _ _ rfl (by rfl) _ 8 rfl Ka0.out Tryz.underlying27 rfl #[.bool xg, .int .i64 u1, .int .i64 u2, .slice xda xdn xdc] (by kernel_rfl) (four_at rfl rfl rfl rfl) ?_) | ((with_reducible refine atW w0 ?_); refine wpList_load_one _ _ rfl (by rfl) _ 1 rfl Ka0.out Tryz.underlying24 rfl rfl ?_) | ((with_reducible refine atW w0 ?_); refine load9 _ rfl (by rfl) _ rfl Kc0.out rfl ?_) | ((with_reducible refine atW w0 ?_); refine wpList_load_one _ _ rfl (by rfl) _ 0 rfl Ka0.out Tryz.underlying3 rfl rfl ?_))
  refine bodyPost_ret (results_cell_tmp9 Tryz.results27 _ _ _ 31 _ (0, 0) _ rfl Kr2.out Tryz.underlying31 rfl szCmd) rfl ?_
  exact ⟨⟨.slice qoa qon qoc, .slice qsa qsn qsc, .slice qda qdn qdc, .slice qwa qwn qwc, .slice qpa qpn qpc⟩, rfl, HATS.out.next HB2.out, HB2.out⟩
 have n4 := hk
 clear hk
 by_cases hk : x.kind = 5
 ·rw [(act_5 c hk).1, (act_5 c hk).2]
  obtain ⟨cq, hcq⟩ : ∃ q_, q_ = loaC c x.writes := ⟨_, rfl⟩
  obtain ⟨pq, hpq⟩ : ∃ q_, q_ = loL c l m.w := ⟨_, rfl⟩
  have HATS : Hid (CmS S W cq pq) := hH (fun w2 k => by rw [hcq, hpq]; exact loL_at (h w2 k) (hx w2 k).w)
  have HAT := hH HATS.out.at
  have HC : Hid (∀ Y : World, Below W.heap.size W Y → Calls Tryz.prog 94 #[cmV c l, m.w] Y (RetL Y cq pq)) := hH (fun Y hY => by rw [hcq, hpq]; exact rload_any c l x.writes m.w Y (h0.later hY) (hx0.w.later hY))
  rw [← hcq]
  clear hcq hpq h hx h0 hx0
  obtain ⟨oa, on, oc, sa, sn, sc, da, dn, dc, wa, wn, wc, pa, pn, pc, rfl⟩ := cm_forms HCAT.out
  obtain ⟨xoa, xon, xoc, xsa, xsn, xsc, xda, xdn, xdc, xwa, xwn, xwc, xpa, xpn, xpc, rfl⟩ := ac_forms HXAT.out
  obtain ⟨⟨id1, id2⟩, ops, phase, ⟨p1, p2⟩, ⟨v1, v2⟩, fast, seen, ⟨b1, b2⟩, has, ⟨q1, q2⟩, ⟨gone, ⟨t1, t2⟩, deps⟩, ready, writes, pairs⟩ := c
  obtain ⟨kind, aops, ⟨a1, a2⟩, ⟨y1, y2⟩, xf, adeps, ⟨xg, ⟨u1, u2⟩, avd⟩, awr, apr⟩ := x
  obtain ⟨qoa, qon, qoc, qsa, qsn, qsc, qda, qdn, qdc, qwa, qwn, qwc, qpa, qpn, qpc, rfl⟩ := cm_forms HAT.out
  try simp only at HC
  simp only [cmV, acV, vlV] at *
  try simp only at hk
  subst hk
  obtain ⟨w0, he0, hw0, kQc, kQa, kQr, hb0⟩ := boxes3 W (.cells (r22 id1 id2 (.slice oa on oc) phase p1 p2 v1 v2 fast (.slice sa sn sc) b1 b2 has q1 q2 gone t1 t2 (.slice da dn dc) ready (.slice wa wn wc) (.slice pa pn pc)) 31) (.cells #[.int .i64 5, .slice xoa xon xoc, .int .i64 a1, .int .i64 a2, .int .i64 y1, .int .i64 y2, .bool xf, .slice xsa xsn xsc, .bool xg, .int .i64 u1, .int .i64 u2, .slice xda xdn xdc, .slice xwa xwn xwc, .slice xpa xpn xpc] 53) (.cells z22 31)
  have Kc0 := hH kQc
  have Ka0 := hH kQa
  have Kr0 := hH kQr
  have HB0 := hH hb0
  have HE0 := hH he0
  clear he0 hb0 kQc kQa kQr
  go_enter Tryz.func27, Tryz.ntmps27
  go_upto_region 1 with fail
  rw [← HE0.out]
  go_wp2_with (first | go_skip | ((with_reducible refine atW w1 ?_); refine store9 _ _ rfl (by rfl) _ rfl rfl Kr1.out rfl rfl (by simp [Value.oneCell']) ?_; intro w2 h1 h2; have Kr2 := hH h1; have hw2 := Nat.le_trans hw1 h2.size; have HB2 : Hid (Below W.heap.size W w2) := hH (below_grown9 HB1.out h2 (by omega)); clear h1 h2) | ((with_reducible refine atC w0 ?_); go_at_call 94; refine (HC.out _ HB0.out).mono ?_; intro e w1 h; unfold RetL at h; obtain ⟨rfl, h5⟩ := h; simp only [cmV]; have hw1 := Nat.le_trans hw0 h5.size; have HB1 : Hid (Below W.heap.size W w1) := hH (blThen HB0.out h5); have Kr1 := hH ((h5.block (W.heap.size + 2) (by omega)).trans Kr0.out); clear h5) | ((with_reducible refine atW w0 ?_); refine wpList_load_one _ _ rfl (by rfl) _ 12 rfl Ka0.out Tryz.underlying28 rfl rfl ?_) | ((with_reducible refine atW w0 ?_); refine load9 _ rfl (by rfl) _ rfl Kc0.out rfl ?_) | ((with_reducible refine atW w0 ?_); refine wpList_load_one _ _ rfl (by rfl) _ 0 rfl Ka0.out Tryz.underlying3 rfl rfl ?_))
  refine bodyPost_ret (results_cell_tmp9 Tryz.results27 _ _ _ 31 _ (0, 0) _ rfl Kr2.out Tryz.underlying31 rfl szCmd) rfl ?_
  exact ⟨⟨.slice qoa qon qoc, .slice qsa qsn qsc, .slice qda qdn qdc, .slice qwa qwn qwc, .slice qpa qpn qpc⟩, rfl, HATS.out.next HB2.out, HB2.out⟩
 have n5 := hk
 clear hk
 by_cases hk : x.kind = 6
 ·rw [(act_6 c hk).1, (act_6 c hk).2]
  obtain ⟨cq, hcq⟩ : ∃ q_, q_ = donC c x.pairs := ⟨_, rfl⟩
  obtain ⟨pq, hpq⟩ : ∃ q_, q_ = doL c l m.p := ⟨_, rfl⟩
  have HATS : Hid (CmS S W cq pq) := hH (fun w2 k => by rw [hcq, hpq]; exact doL_at (h w2 k) (hx w2 k).p)
  have HAT := hH HATS.out.at
  have HC : Hid (∀ Y : World, Below W.heap.size W Y → Calls Tryz.prog 95 #[cmV c l, m.p] Y (RetL Y cq pq)) := hH (fun Y hY => by rw [hcq, hpq]; exact rdone_any c l x.pairs m.p Y (h0.later hY) (hx0.p.later hY))
  rw [← hcq]
  clear hcq hpq h hx h0 hx0
  obtain ⟨oa, on, oc, sa, sn, sc, da, dn, dc, wa, wn, wc, pa, pn, pc, rfl⟩ := cm_forms HCAT.out
  obtain ⟨xoa, xon, xoc, xsa, xsn, xsc, xda, xdn, xdc, xwa, xwn, xwc, xpa, xpn, xpc, rfl⟩ := ac_forms HXAT.out
  obtain ⟨⟨id1, id2⟩, ops, phase, ⟨p1, p2⟩, ⟨v1, v2⟩, fast, seen, ⟨b1, b2⟩, has, ⟨q1, q2⟩, ⟨gone, ⟨t1, t2⟩, deps⟩, ready, writes, pairs⟩ := c
  obtain ⟨kind, aops, ⟨a1, a2⟩, ⟨y1, y2⟩, xf, adeps, ⟨xg, ⟨u1, u2⟩, avd⟩, awr, apr⟩ := x
  obtain ⟨qoa, qon, qoc, qsa, qsn, qsc, qda, qdn, qdc, qwa, qwn, qwc, qpa, qpn, qpc, rfl⟩ := cm_forms HAT.out
  try simp only at HC
  simp only [cmV, acV, vlV] at *
  try simp only at hk
  subst hk
  obtain ⟨w0, he0, hw0, kQc, kQa, kQr, hb0⟩ := boxes3 W (.cells (r22 id1 id2 (.slice oa on oc) phase p1 p2 v1 v2 fast (.slice sa sn sc) b1 b2 has q1 q2 gone t1 t2 (.slice da dn dc) ready (.slice wa wn wc) (.slice pa pn pc)) 31) (.cells #[.int .i64 6, .slice xoa xon xoc, .int .i64 a1, .int .i64 a2, .int .i64 y1, .int .i64 y2, .bool xf, .slice xsa xsn xsc, .bool xg, .int .i64 u1, .int .i64 u2, .slice xda xdn xdc, .slice xwa xwn xwc, .slice xpa xpn xpc] 53) (.cells z22 31)
  have Kc0 := hH kQc
  have Ka0 := hH kQa
  have Kr0 := hH kQr
  have HB0 := hH hb0
  have HE0 := hH he0
  clear he0 hb0 kQc kQa kQr
  go_enter Tryz.func27, Tryz.ntmps27
  go_upto_region 1 with fail
  rw [← HE0.out]
  go_wp2_with (first | go_skip | ((with_reducible refine atW w1 ?_); refine store9 _ _ rfl (by rfl) _ rfl rfl Kr1.out rfl rfl (by simp [Value.oneCell']) ?_; intro w2 h1 h2; have Kr2 := hH h1; have hw2 := Nat.le_trans hw1 h2.size; have HB2 : Hid (Below W.heap.size W w2) := hH (below_grown9 HB1.out h2 (by omega)); clear h1 h2) | ((with_reducible refine atC w0 ?_); go_at_call 95; refine (HC.out _ HB0.out).mono ?_; intro e w1 h; unfold RetL at h; obtain ⟨rfl, h5⟩ := h; simp only [cmV]; have hw1 := Nat.le_trans hw0 h5.size; have HB1 : Hid (Below W.heap.size W w1) := hH (blThen HB0.out h5); have Kr1 := hH ((h5.block (W.heap.size + 2) (by omega)).trans Kr0.out); clear h5) | ((with_reducible refine atW w0 ?_); refine wpList_load_one _ _ rfl (by rfl) _ 13 rfl Ka0.out Tryz.underlying29 rfl rfl ?_) | ((with_reducible refine atW w0 ?_); refine load9 _ rfl (by rfl) _ rfl Kc0.out rfl ?_) | ((with_reducible refine atW w0 ?_); refine wpList_load_one _ _ rfl (by rfl) _ 0 rfl Ka0.out Tryz.underlying3 rfl rfl ?_))
  refine bodyPost_ret (results_cell_tmp9 Tryz.results27 _ _ _ 31 _ (0, 0) _ rfl Kr2.out Tryz.underlying31 rfl szCmd) rfl ?_
  exact ⟨⟨.slice qoa qon qoc, .slice qsa qsn qsc, .slice qda qdn qdc, .slice qwa qwn qwc, .slice qpa qpn qpc⟩, rfl, HATS.out.next HB2.out, HB2.out⟩
 have n6 := hk
 clear hk
 rw [(act_7 c n0 n1 n2 n3 n4 n5 n6).1, (act_7 c n0 n1 n2 n3 n4 n5 n6).2]
 clear h hx h0 hx0
 obtain ⟨oa, on, oc, sa, sn, sc, da, dn, dc, wa, wn, wc, pa, pn, pc, rfl⟩ := cm_forms HCAT.out
 obtain ⟨xoa, xon, xoc, xsa, xsn, xsc, xda, xdn, xdc, xwa, xwn, xwc, xpa, xpn, xpc, rfl⟩ := ac_forms HXAT.out
 obtain ⟨⟨id1, id2⟩, ops, phase, ⟨p1, p2⟩, ⟨v1, v2⟩, fast, seen, ⟨b1, b2⟩, has, ⟨q1, q2⟩, ⟨gone, ⟨t1, t2⟩, deps⟩, ready, writes, pairs⟩ := c
 obtain ⟨kind, aops, ⟨a1, a2⟩, ⟨y1, y2⟩, xf, adeps, ⟨xg, ⟨u1, u2⟩, avd⟩, awr, apr⟩ := x
 simp only [cmV, acV, vlV] at *
 try simp only at n0 n1 n2 n3 n4 n5 n6
 have e0 : (kind == 0) = false := by simpa using n0
 have e1 : (kind == 1) = false := by simpa using n1
 have e2 : (kind == 2) = false := by simpa using n2
 have e3 : (kind == 3) = false := by simpa using n3
 have e4 : (kind == 4) = false := by simpa using n4
 have e5 : (kind == 5) = false := by simpa using n5
 have e6 : (kind == 6) = false := by simpa using n6
 obtain ⟨w0, he0, hw0, kQc, kQa, kQr, hb0⟩ := boxes3 W (.cells (r22 id1 id2 (.slice oa on oc) phase p1 p2 v1 v2 fast (.slice sa sn sc) b1 b2 has q1 q2 gone t1 t2 (.slice da dn dc) ready (.slice wa wn wc) (.slice pa pn pc)) 31) (.cells #[.int .i64 kind, .slice xoa xon xoc, .int .i64 a1, .int .i64 a2, .int .i64 y1, .int .i64 y2, .bool xf, .slice xsa xsn xsc, .bool xg, .int .i64 u1, .int .i64 u2, .slice xda xdn xdc, .slice xwa xwn xwc, .slice xpa xpn xpc] 53) (.cells z22 31)
 have Kc0 := hH kQc
 have Ka0 := hH kQa
 have Kr0 := hH kQr
 have HB0 := hH hb0
 have HE0 := hH he0
 clear he0 hb0 kQc kQa kQr
 go_enter Tryz.func27, Tryz.ntmps27
 go_upto_region 1 with fail
 rw [← HE0.out]
 go_wp2_with (first | go_skip | ((with_reducible refine atW w0 ?_); refine store9 _ _ rfl (by rfl) _ rfl rfl Kr0.out rfl rfl (by simp [Value.oneCell']) ?_; intro w1 h1 h2; have Kr1 := hH h1; have hw1 := Nat.le_trans hw0 h2.size; have HB1 : Hid (Below W.heap.size W w1) := hH (below_grown9 HB0.out h2 (by omega)); clear h1 h2) | ((with_reducible refine atW w0 ?_); refine load9 _ rfl (by rfl) _ rfl Kc0.out rfl ?_) | ((with_reducible refine atW w0 ?_); refine wpList_load_one _ _ rfl (by rfl) _ 0 rfl Ka0.out Tryz.underlying3 rfl rfl ?_))
 refine bodyPost_ret (results_cell_tmp9 Tryz.results27 _ _ _ 31 _ (0, 0) _ rfl Kr1.out Tryz.underlying31 rfl szCmd) rfl ?_
 exact ⟨⟨.slice oa on oc, .slice sa sn sc, .slice da dn dc, .slice wa wn wc, .slice pa pn pc⟩, rfl, HCS.out.next HB1.out, HB1.out⟩

def cmR (c : Cm) (l : Pl) : Array Value := (r22 c.id.1 c.id.2 l.o c.phase c.prom.1 c.prom.2 c.vote.1 c.vote.2 c.fast l.s c.bound.1 c.bound.2 c.has c.ballot.1 c.ballot.2 c.val.1 c.val.2.1.1 c.val.2.1.2 l.d c.ready l.w l.p)
theorem cmR_one {w : World} {c : Cm} {l : Pl} (h : CmAt w c l) : (cmR c l).all (·.oneCell') = true := cm_one h
def S3 (a b c : Nat) : Nat → Prop := fun x => x = a ∨ x = b ∨ x = c
theorem cms_more {a b c : Nat} {D X : World} {k : Cm} {l : Pl} (h : CmS (S3 a b b) D k l) (hb : Below D.heap.size D X) (hc : D.heap.size ≤ c) : CmS (S3 a b c) X k l := fun w2 q =>
 h w2 ((S2.Keeps.ofBelow hb).trans q (fun x hx t => by
  rcases t with t | t | t
  ·exact .inl t
  ·exact .inr (.inl t)
  ·omega))
theorem cms_store {a b c : Nat} {X Y : World} {k : Cm} {l : Pl} (h : CmS (S3 a b c) X k l) (hg : X.grownBy Y (some c)) : CmS (S3 a b b) Y k l := fun w2 q =>
 h w2 ((S2.Keeps.grown hg (fun x _ e => by cases e; exact .inr (.inr rfl))).trans q (fun x _ t => by
  rcases t with t | t | t
  ·exact .inl t
  ·exact .inr (.inl t)
  ·exact .inr (.inl t)))
theorem cms_keep {S : Nat → Prop} {X Y : World} {k : Cm} {l : Pl} {c : Nat} (h : CmS S X k l) (hg : X.grownBy Y (some c)) (hc : S c) : CmS S Y k l := fun w2 q => h w2 ((S2.Keeps.grown hg (fun x _ e => by cases e; exact hc)).then q)
theorem acs_in {S : Nat → Prop} {W X : World} {x : Act9} {l : Pl} (h : AcAt W x l) (hb : Below W.heap.size W X) (hS : ∀ b, S b → W.heap.size ≤ b) : AcS S X x l := fun w2 q =>
 h.later (hb.trans (q.below hb.size (fun b hb hs => absurd (hS b hs) (Nat.not_le_of_lt hb))))
theorem cms_new (S : Nat → Prop) (w : World) (id : Stp) : CmS S w (newC id) nilL := fun w2 _ => nilL_at w2 id
structure RgX (w : World) (g o : Nat) (cs : List Value) : Prop where
 lt : g < w.heap.size
 r : w.rangeAt g o cs
theorem RgX.later {w x : World} {g o : Nat} {cs : List Value} (h : RgX w g o cs) (hb : Below w.heap.size w x) : RgX x g o cs := ⟨Nat.lt_of_lt_of_le h.lt hb.size, fun j v hv => cell_in hb h.lt (h.r j v hv)⟩
theorem acts_at {w : World} {a : Option Addr} {n c : Nat} {L : List AcR} (h : SlG eX w (.slice a n c) L) {k : Nat} {q : AcR} (hq : L[k]? = some q) : ∃ g o, a = some ⟨g, o, none⟩ ∧ RgX w g (o + k * 14) (eX.enc q) := by
 obtain ⟨a', cap, hv, _, hr⟩ := h
 obtain ⟨g, o, ha, hg, hrow⟩ := hr (by intro e; rw [e] at hq; cases hq)
 simp only [Value.slice.injEq] at hv
 refine ⟨g, o, hv.1.trans ha, hg, fun j v hj => ?_⟩
 exact hrow k q hq j v hj
theorem few_act {c : Cm} {x : Act9} (h : FewC c) (k : FewC (cmX x)) : FewC (actC c x) := by
 unfold actC
 split
 ·unfold witC
  split
  ·exact h
  ·exact ⟨k.ops, k.seen, h.deps, h.writes, h.pairs⟩
 split
 ·unfold proC
  split
  ·exact ⟨h.ops, h.seen, h.deps, h.writes, h.pairs⟩
  ·exact h
 split
 ·unfold binC
  split
  ·exact ⟨h.ops, h.seen, h.deps, h.writes, h.pairs⟩
  ·exact h
 split
 ·unfold accC
  split
  ·exact ⟨h.ops, h.seen, k.deps, h.writes, h.pairs⟩
  ·exact h
 split
 ·unfold deciC
  split
  ·exact h
  ·refine ⟨?_, h.seen, k.deps, h.writes, h.pairs⟩
   show (if _ then _ else _ : List Opr).length ≤ _
   split
   ·exact k.ops
   ·exact h.ops
 split
 ·unfold loaC
  split
  ·exact ⟨h.ops, h.seen, h.deps, k.writes, h.pairs⟩
  ·exact h
 split
 ·unfold donC
  split
  ·exact ⟨h.ops, h.seen, h.deps, h.writes, k.pairs⟩
  ·exact h
 ·exact h
theorem RgX.lat {W x : World} {g o : Nat} {cs : List Value} (h : RgX W g o cs) (hb : Below W.heap.size W x) : RgX x g o cs := h.later hb
theorem szAct : (Tryz.prog.info? 53).map (·.size) = some 14 := by kernel_rfl
theorem few_new9f (id : Stp) : FewC (newC id) := ⟨show ([] : List Opr).length ≤ 20000 by decide, ⟨show ([] : SD.Dd).length ≤ 20000 by decide, show SD.idsN [] ≤ 100000 by decide⟩, ⟨show ([] : SD.Dd).length ≤ 20000 by decide, show SD.idsN [] ≤ 100000 by decide⟩, show ([] : List Wrt).length ≤ 20000 by decide, show ([] : Al Nat).length ≤ 20000 by decide⟩
end SC
end Go.Proofs.YtgipkikedacmdaaGreat
