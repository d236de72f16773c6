/- What is done to a command: Load and Done of the reference. Conditions: none. -/
import Derived.WalkSpells
import Derived.Deep.RegionHeld3
import Derived.Deep.QuietTactic
import Derived.BigQuiet
import Derived.Test.YtgipkikedacmdaaGreatMg49
import Derived.Test.YtgipkikedacmdaaGreatMg50
import Derived.Test.YtgipkikedacmdaaGreatMg48
import Derived.Test.YtgipkikedacmdaaGreatMg33
import Derived.Test.YtgipkikedacmdaaGreatMg15
import Derived.Test.YtgipkikedacmdaaGreatMg39
import Derived.Test.YtgipkikedacmdaaGreatMg43
set_option maxRecDepth 100000
set_option maxHeartbeats 16000000
set_option linter.unusedVariables false
set_option linter.unusedSimpArgs false
namespace Go.Proofs.YtgipkikedacmdaaGreat
open S3 SN SP
namespace SC
open Go.ChangeShapes Go.WideShapes Go.ChangeAt Go.RowKit Go.Joins Go.Deep
def wiL (c : Cm) (l : Pl) (vo vs : Value) : Pl := if (!decide (c.ops = []) || decB c) = true then l else ⟨vo, vs, l.d, l.w, l.p⟩
theorem wiL_at {W : World} {c : Cm} {l : Pl} {po : List Opr} {vo vs : Value} {vote : Stp} {fast : Bool} {sd : SD.Dd} (h : CmAt W c l) (ho : SlG eO W vo po) (hs : DlV W vs sd) : CmAt W (witC c po vote fast sd) (wiL c l vo vs) := by
 unfold witC wiL
 split
 ·exact h
 ·exact ⟨ho, hs, h.d, h.w, h.p⟩
theorem rwitness_any (c : Cm) (l : Pl) (po : List Opr) (vo : Value) (vote_ : Stp) (fast_ : Bool) (sd : SD.Dd) (vs : Value) (W : World) (h : CmAt W c l) (hpo : SlG eO W vo po) (hsd : DlV W vs sd) : Calls Tryz.prog 89 #[cmV c l, vo, .agg #[.int .i64 vote_.1, .int .i64 vote_.2], .bool fast_, vs] W (RetL W (witC c po vote_ fast_ sd) (wiL c l vo vs)) := by
 have HD := hH (fun (Y : World) => rdecided_any c l Y)
 obtain ⟨x, y⟩ := vote_
 obtain ⟨poa, poc, rfl⟩ := hpo.form
 clear hpo
 obtain ⟨qa, qc, qF, rfl, hq1, hq2, hq3⟩ := hsd
 clear hq1 hq2 hq3
 generalize qF.length = qn at *
 generalize hv : witC c po (x, y) fast_ sd = cv
 unfold wiL
 try simp only
 obtain ⟨⟨id1, id2⟩, ops, phase, ⟨p1, p2⟩, ⟨v1, v2⟩, fast, seen, ⟨b1, b2⟩, has, ⟨q1, q2⟩, ⟨gone, ⟨t1, t2⟩, deps⟩, ready, writes, pairs⟩ := c
 obtain ⟨lo, ls, ld, lw, lp⟩ := l
 try simp only at h
 obtain ⟨oa, oc, rfl⟩ := h.o.form
 obtain ⟨sa, sc, sF, rfl, _⟩ := h.s
 obtain ⟨da, dc, dF, rfl, _⟩ := h.d
 obtain ⟨wa, wc, rfl⟩ := h.w.form
 obtain ⟨pa, pc, rfl⟩ := h.p.form
 clear h
 simp only [cmV] at *
 have HON : Hid (ops.length = 0 ↔ ops = []) := List.length_eq_zero_iff
 generalize ops.length = on at *
 generalize sF.length = sn at *
 generalize dF.length = dn at *
 generalize writes.length = wn at *
 generalize pairs.length = pn at *
 unfold witC at hv
 simp only at hv
 by_cases ho : ops = []
 ·subst ho
  obtain rfl : on = 0 := HON.out.2 rfl
  clear HON
  simp only [decide_true, Bool.not_true, Bool.false_or] at hv ⊢
  cases hd : decB ⟨(id1, id2), [], phase, (p1, p2), (v1, v2), fast, seen, (b1, b2), has, (q1, q2), (gone, (t1, t2), deps), ready, writes, pairs⟩
  ·rw [hd] at HD hv
   rw [if_neg (by decide)] at hv ⊢
   subst hv
   clear hd
   obtain ⟨w0, he0, hw0, kQc, kQt, kQr, hb0⟩ := boxes3 W (.cells (r22 id1 id2 (.slice oa 0 oc) phase p1 p2 v1 v2 fast (.slice sa sn sc) b1 b2 has q1 q2 gone t1 t2 (.slice da dn dc) ready (.slice wa wn wc) (.slice pa pn pc)) 31) (.cells #[.int .i64 x, .int .i64 y] 23) (.cells z22 31)
   have Kc0 := hH kQc
   have Kt0 := hH kQt
   have Kr0 := hH kQr
   have HB0 := hH hb0
   have HE0 := hH he0
   clear he0 hb0 kQc kQt kQr
   go_enter Tryz.func89, Tryz.ntmps89
   go_upto_region 1 with fail
   rw [← HE0.out]
   go_wp2_with (first | go_skip | ((with_reducible refine atW w6 ?_); refine store9 _ _ rfl (by rfl) _ rfl rfl Kr6.out rfl rfl (by simp [Value.oneCell']) ?_; intro w7 h1 h2; have Kr7 := hH h1; have hw7 := Nat.le_trans hw6 h2.size; have HB7 : Hid (Below W.heap.size W w7) := hH (below_grown9 HB6.out h2 (by omega)); clear h1 h2) | ((with_reducible refine atW w6 ?_); refine load9 _ rfl (by rfl) _ rfl Kc6.out rfl ?_) | ((with_reducible refine atW w5 ?_); refine wpList_store_part _ _ _ rfl (by rfl) _ 3 rfl rfl (cs := #[.int .i64 1]) rfl Kc5.out (by kernel_rfl) (by simp) (by simp [Value.oneCell']) (D := (r22 id1 id2 (.slice poa po.length poc) 1 p1 p2 x y fast_ (.slice qa qn qc) b1 b2 has q1 q2 gone t1 t2 (.slice da dn dc) ready (.slice wa wn wc) (.slice pa pn pc))) rfl ?_; intro w6 h1 h2; have Kc6 := hH h1; have hw6 := Nat.le_trans hw5 h2.size; have HB6 : Hid (Below W.heap.size W w6) := hH (below_grown9 HB5.out h2 (by omega)); have Kr6 := hH (grown_other9 Kr5.out h2 (by omega) (by omega)); clear h1 h2) | ((with_reducible refine atW w4 ?_); refine wpList_store_part _ _ _ rfl (by rfl) _ 9 rfl rfl (cs := #[.slice qa qn qc]) rfl Kc4.out (by kernel_rfl) (by simp) (by simp [Value.oneCell']) (D := (r22 id1 id2 (.slice poa po.length poc) phase p1 p2 x y fast_ (.slice qa qn qc) b1 b2 has q1 q2 gone t1 t2 (.slice da dn dc) ready (.slice wa wn wc) (.slice pa pn pc))) rfl ?_; intro w5 h1 h2; have Kc5 := hH h1; have hw5 := Nat.le_trans hw4 h2.size; have HB5 : Hid (Below W.heap.size W w5) := hH (below_grown9 HB4.out h2 (by omega)); have Kr5 := hH (grown_other9 Kr4.out h2 (by omega) (by omega)); clear h1 h2) | ((with_reducible refine atW w3 ?_); refine wpList_store_part _ _ _ rfl (by rfl) _ 8 rfl rfl (cs := #[.bool fast_]) rfl Kc3.out (by kernel_rfl) (by simp) (by simp [Value.oneCell']) (D := (r22 id1 id2 (.slice poa po.length poc) phase p1 p2 x y fast_ (.slice sa sn sc) b1 b2 has q1 q2 gone t1 t2 (.slice da dn dc) ready (.slice wa wn wc) (.slice pa pn pc))) rfl ?_; intro w4 h1 h2; have Kc4 := hH h1; have hw4 := Nat.le_trans hw3 h2.size; have HB4 : Hid (Below W.heap.size W w4) := hH (below_grown9 HB3.out h2 (by omega)); have Kr4 := hH (grown_other9 Kr3.out h2 (by omega) (by omega)); clear h1 h2) | ((with_reducible refine atW w2 ?_); refine wpList_store_part _ _ _ rfl (by rfl) _ 6 rfl rfl (cs := #[.int .i64 x, .int .i64 y]) rfl Kc2.out (by kernel_rfl) (by simp) (by simp [Value.oneCell']) (D := (r22 id1 id2 (.slice poa po.length poc) phase p1 p2 x y fast (.slice sa sn sc) b1 b2 has q1 q2 gone t1 t2 (.slice da dn dc) ready (.slice wa wn wc) (.slice pa pn pc))) rfl ?_; intro w3 h1 h2; have Kc3 := hH h1; have hw3 := Nat.le_trans hw2 h2.size; have HB3 : Hid (Below W.heap.size W w3) := hH (below_grown9 HB2.out h2 (by omega)); have Kr3 := hH (grown_other9 Kr2.out h2 (by omega) (by omega)); clear h1 h2) | ((with_reducible refine atW w2 ?_); refine wpList_load_part _ _ rfl (by rfl) _ 0 rfl Kt2.out Tryz.underlying23 rfl #[.int .i64 x, .int .i64 y] (by kernel_rfl) (two_at rfl rfl) ?_) | ((with_reducible refine atW w1 ?_); refine wpList_store_part _ _ _ rfl (by rfl) _ 2 rfl rfl (cs := #[.slice poa po.length poc]) rfl Kc1.out (by kernel_rfl) (by simp) (by simp [Value.oneCell']) (D := (r22 id1 id2 (.slice poa po.length poc) phase p1 p2 v1 v2 fast (.slice sa sn sc) b1 b2 has q1 q2 gone t1 t2 (.slice da dn dc) ready (.slice wa wn wc) (.slice pa pn pc))) rfl ?_; intro w2 h1 h2; have Kc2 := hH h1; have hw2 := Nat.le_trans hw1 h2.size; have HB2 : Hid (Below W.heap.size W w2) := hH (below_grown9 HB1.out h2 (by omega)); have Kt2 := hH (grown_other9 Kt1.out h2 (by omega) (by omega)); have Kr2 := hH (grown_other9 Kr1.out h2 (by omega) (by omega)); clear h1 h2) | ((with_reducible refine atC w0 ?_); go_at_call 157; refine (HD.out _).mono ?_; rintro e w1 ⟨rfl, h5⟩; have hw1 := Nat.le_trans hw0 h5.size; have HB1 : Hid (Below W.heap.size W w1) := hH (blThen HB0.out h5); have Kc1 := hH ((h5.block W.heap.size (by omega)).trans Kc0.out); have Kt1 := hH ((h5.block (W.heap.size + 1) (by omega)).trans Kt0.out); have Kr1 := hH ((h5.block (W.heap.size + 2) (by omega)).trans Kr0.out); clear h5) | ((with_reducible refine atW w0 ?_); refine load9 _ rfl (by rfl) _ rfl Kc0.out rfl ?_) | ((with_reducible refine atW w0 ?_); refine wpList_load_one _ _ rfl (by rfl) _ 2 rfl Kc0.out Tryz.underlying24 rfl rfl ?_))
   refine bodyPost_ret (results_cell_row Tryz.results89 _ _ _ 31 _ (0, 0) _ rfl Kr7.out Tryz.underlying31 rfl szCmd) rfl ?_
   exact ⟨rfl, HB7.out⟩
  ·rw [hd] at HD hv
   rw [if_pos rfl] at hv ⊢
   subst hv
   clear hd
   obtain ⟨w0, he0, hw0, kQc, kQt, kQr, hb0⟩ := boxes3 W (.cells (r22 id1 id2 (.slice oa 0 oc) phase p1 p2 v1 v2 fast (.slice sa sn sc) b1 b2 has q1 q2 gone t1 t2 (.slice da dn dc) ready (.slice wa wn wc) (.slice pa pn pc)) 31) (.cells #[.int .i64 x, .int .i64 y] 23) (.cells z22 31)
   have Kc0 := hH kQc
   have Kt0 := hH kQt
   have Kr0 := hH kQr
   have HB0 := hH hb0
   have HE0 := hH he0
   clear he0 hb0 kQc kQt kQr
   go_enter Tryz.func89, Tryz.ntmps89
   go_upto_region 1 with fail
   rw [← HE0.out]
   go_wp2_with (first | go_skip | ((with_reducible refine atW w1 ?_); refine store9 _ _ rfl (by rfl) _ rfl rfl Kr1.out rfl rfl (by simp [Value.oneCell']) ?_; intro w2 h1 h2; have Kr2 := hH h1; have hw2 := Nat.le_trans hw1 h2.size; have HB2 : Hid (Below W.heap.size W w2) := hH (below_grown9 HB1.out h2 (by omega)); have Kc2 := hH (grown_other9 Kc1.out h2 (by omega) (by omega)); have Kt2 := hH (grown_other9 Kt1.out h2 (by omega) (by omega)); clear h1 h2) | ((with_reducible refine atW w1 ?_); refine load9 _ rfl (by rfl) _ rfl Kc1.out rfl ?_) | ((with_reducible refine atC w0 ?_); go_at_call 157; refine (HD.out _).mono ?_; rintro e w1 ⟨rfl, h5⟩; have hw1 := Nat.le_trans hw0 h5.size; have HB1 : Hid (Below W.heap.size W w1) := hH (blThen HB0.out h5); have Kc1 := hH ((h5.block W.heap.size (by omega)).trans Kc0.out); have Kt1 := hH ((h5.block (W.heap.size + 1) (by omega)).trans Kt0.out); have Kr1 := hH ((h5.block (W.heap.size + 2) (by omega)).trans Kr0.out); clear h5) | ((with_reducible refine atW w0 ?_); refine load9 _ rfl (by rfl) _ rfl Kc0.out rfl ?_) | ((with_reducible refine atW w0 ?_); refine wpList_load_one _ _ rfl (by rfl) _ 2 rfl Kc0.out Tryz.underlying24 rfl rfl ?_))
   refine bodyPost_ret (results_cell_row Tryz.results89 _ _ _ 31 _ (0, 0) _ rfl Kr2.out Tryz.underlying31 rfl szCmd) rfl ?_
   exact ⟨rfl, HB2.out⟩
 ·have hb0 : decide ((0 : Int) < ((on : Nat) : Int)) = true := by
   have : on ≠ 0 := fun e => ho (HON.out.1 e)
   exact decide_eq_true (by omega)
  have hb1 : 0 < on := by
   have : on ≠ 0 := fun e => ho (HON.out.1 e)
   omega
  have hb2 : decide (0 < on) = true := decide_eq_true hb1
  rw [if_pos (by rw [decide_eq_false ho]; rfl)] at hv ⊢
  subst hv
  clear ho HON
  obtain ⟨w0, he0, hw0, kQc, kQt, kQr, hb0⟩ := boxes3 W (.cells (r22 id1 id2 (.slice oa on oc) phase p1 p2 v1 v2 fast (.slice sa sn sc) b1 b2 has q1 q2 gone t1 t2 (.slice da dn dc) ready (.slice wa wn wc) (.slice pa pn pc)) 31) (.cells #[.int .i64 x, .int .i64 y] 23) (.cells z22 31)
  have Kc0 := hH kQc
  have Kt0 := hH kQt
  have Kr0 := hH kQr
  have HB0 := hH hb0
  have HE0 := hH he0
  clear he0 hb0 kQc kQt kQr
  go_enter Tryz.func89, Tryz.ntmps89
  go_upto_region 1 with fail
  rw [← HE0.out]
  go_wp2_with (first | go_skip | ((with_reducible refine atW w0 ?_); refine store9 _ _ rfl (by rfl) _ rfl rfl Kr0.out rfl rfl (by simp [Value.oneCell']) ?_; intro w1 h1 h2; have Kr1 := hH h1; have hw1 := Nat.le_trans hw0 h2.size; have HB1 : Hid (Below W.heap.size W w1) := hH (below_grown9 HB0.out h2 (by omega)); have Kc1 := hH (grown_other9 Kc0.out h2 (by omega) (by omega)); have Kt1 := hH (grown_other9 Kt0.out h2 (by omega) (by omega)); clear h1 h2) | ((with_reducible refine atW w0 ?_); refine load9 _ rfl (by rfl) _ rfl Kc0.out rfl ?_) | ((with_reducible refine atW w0 ?_); refine wpList_load_one _ _ rfl (by rfl) _ 2 rfl Kc0.out Tryz.underlying24 rfl rfl ?_))
  refine bodyPost_ret (results_cell_row Tryz.results89 _ _ _ 31 _ (0, 0) _ rfl Kr1.out Tryz.underlying31 rfl szCmd) rfl ?_
  exact ⟨rfl, HB1.out⟩

def nilL : Pl := ⟨.slice none 0 0, .slice none 0 0, .slice none 0 0, .slice none 0 0, .slice none 0 0⟩
theorem nilL_at (W : World) (id : Stp) : CmAt W (newC id) nilL :=
 have hd : DlV W (.slice none 0 0) [] := ⟨none, 0, [], rfl, ⟨fun s hs => (by cases hs), fun h => absurd rfl h⟩, rfl, fun _ => rfl⟩
 ⟨SlG.nil _, hd, hd, SlG.nil _, SlG.nil _⟩
theorem new9_any (id : Stp) (W : World) : Calls Tryz.prog 17 #[.agg #[.int .i64 id.1, .int .i64 id.2]] W (RetL W (newC id) nilL) := by
 obtain ⟨x, y⟩ := id
 simp only
 obtain ⟨w0, he0, hw0, kQt, kQr, hb0⟩ := boxes2 W (.cells #[.int .i64 x, .int .i64 y] 23) (.cells z22 31)
 have Kt0 := hH kQt
 have Kr0 := hH kQr
 have HB0 := hH hb0
 have HE0 := hH he0
 clear he0 hb0 kQt kQr
 go_enter Tryz.func17, Tryz.ntmps17
 go_upto_region 1 with fail
 rw [← HE0.out]
 go_wp2_with (first | go_skip | ((with_reducible refine atW w0 ?_); refine store9 _ _ rfl (by rfl) _ rfl rfl Kr0.out rfl rfl (by simp [Value.oneCell']) ?_; intro w1 h1 h2; have Kr1 := hH h1; have hw1 := Nat.le_trans hw0 h2.size; have HB1 : Hid (Below W.heap.size W w1) := hH (below_grown9 HB0.out h2 (by omega)); clear h1 h2) | ((with_reducible refine atW w0 ?_); refine wpList_load_part _ _ rfl (by rfl) _ 0 rfl Kt0.out Tryz.underlying23 rfl #[.int .i64 x, .int .i64 y] (by kernel_rfl) (two_at rfl rfl) ?_))
 refine bodyPost_ret (results_cell_row Tryz.results17 _ _ _ 31 _ (0, 0) _ rfl Kr1.out Tryz.underlying31 rfl szCmd) rfl ?_
 exact ⟨rfl, HB1.out⟩

def dlL (c : Cm) (l : Pl) (v : Vlu) (vo vd : Value) : Pl := if decB c = true then l else ⟨if c.ops = [] ∧ v.1 = false then vo else l.o, l.s, vd, l.w, l.p⟩
theorem dlL_at {W : World} {c : Cm} {l : Pl} {v : Vlu} {po : List Opr} {vo vd : Value} (h : CmAt W c l) (ho : SlG eO W vo po) (hd : DlV W vd v.2.2) : CmAt W (deciC c po v) (dlL c l v vo vd) := by
 unfold deciC dlL
 by_cases h1 : decB c = true
 ·rw [if_pos h1, if_pos h1]; exact h
 ·rw [if_neg h1, if_neg h1]
  refine ⟨?_, h.s, hd, h.w, h.p⟩
  simp only
  by_cases h2 : c.ops = [] ∧ v.1 = false
  ·rw [if_pos h2, if_pos h2]; exact ho
  ·rw [if_neg h2, if_neg h2]; exact h.o
theorem rdecide_dec (c : Cm) (l : Pl) (po : List Opr) (vo : Value) (v : Vlu) (vd : Value) (W : World) (h : CmAt W c l) (hpo : SlG eO W vo po) (hvd : DlV W vd v.2.2) (hd : decB c = true) : Calls Tryz.prog 93 #[cmV c l, vo, vlV v vd] W (RetL W (deciC c po v) (dlL c l v vo vd)) := by
 have HD := hH (fun (Y : World) => rdecided_any c l Y)
 obtain ⟨vg, ⟨u, v⟩, vds⟩ := v
 obtain ⟨va, vcp, vF, rfl, _⟩ := hvd
 generalize vF.length = vn at *
 unfold vlV
 obtain ⟨poa, poc, rfl⟩ := hpo.form
 clear hpo
 generalize po.length = pon at *
 generalize hv : deciC c po (vg, (u, v), vds) = cv
 unfold dlL
 try simp only
 obtain ⟨⟨id1, id2⟩, ops, phase, ⟨p1, p2⟩, ⟨v1, v2⟩, fast, seen, ⟨b1, b2⟩, has, ⟨q1, q2⟩, ⟨gone, ⟨t1, t2⟩, deps⟩, ready, writes, pairs⟩ := c
 obtain ⟨lo, ls, ld, lw, lp⟩ := l
 try simp only at h
 obtain ⟨oa, oc, rfl⟩ := h.o.form
 obtain ⟨sa, sc, sF, rfl, _⟩ := h.s
 obtain ⟨da, dc, dF, rfl, _⟩ := h.d
 obtain ⟨wa, wc, rfl⟩ := h.w.form
 obtain ⟨pa, pc, rfl⟩ := h.p.form
 clear h
 simp only [cmV] at *
 have HON : Hid (ops.length = 0 ↔ ops = []) := List.length_eq_zero_iff
 generalize ops.length = on at *
 generalize sF.length = sn at *
 generalize dF.length = dn at *
 generalize writes.length = wn at *
 generalize pairs.length = pn at *
 unfold deciC at hv
 simp only at hv
 rw [hd] at HD hv ⊢
 simp only [if_true] at hv ⊢
 subst hv
 clear hd
 obtain ⟨w0, he0, hw0, kQc, kQv, kQr, hb0⟩ := boxes3 W (.cells (r22 id1 id2 (.slice oa on oc) phase p1 p2 v1 v2 fast (.slice sa sn sc) b1 b2 has q1 q2 gone t1 t2 (.slice da dn dc) ready (.slice wa wn wc) (.slice pa pn pc)) 31) (.cells #[.bool vg, .int .i64 u, .int .i64 v, .slice va vn vcp] 27) (.cells z22 31)
 have Kc0 := hH kQc
 have Kr0 := hH kQr
 have HB0 := hH hb0
 have HE0 := hH he0
 clear he0 hb0 kQc kQv kQr
 go_enter Tryz.func93, Tryz.ntmps93
 go_upto_region 1 with fail
 rw [← HE0.out]
 go_wp2_with (first | go_skip | ((with_reducible refine atW w1 ?_); refine store9 _ _ rfl (by rfl) _ rfl rfl Kr1.out rfl rfl (by simp [Value.oneCell']) ?_; intro w2 h1 h2; have Kr2 := hH h1; have hw2 := Nat.le_trans hw1 h2.size; have HB2 : Hid (Below W.heap.size W w2) := hH (below_grown9 HB1.out h2 (by omega)); clear h1 h2) | ((with_reducible refine atW w1 ?_); refine load9 _ rfl (by rfl) _ rfl Kc1.out rfl ?_) | ((with_reducible refine atC w0 ?_); go_at_call 157; refine (HD.out _).mono ?_; rintro e w1 ⟨rfl, h5⟩; have hw1 := Nat.le_trans hw0 h5.size; have HB1 : Hid (Below W.heap.size W w1) := hH (blThen HB0.out h5); have Kc1 := hH ((h5.block W.heap.size (by omega)).trans Kc0.out); have Kr1 := hH ((h5.block (W.heap.size + 2) (by omega)).trans Kr0.out); clear h5) | ((with_reducible refine atW w0 ?_); refine load9 _ rfl (by rfl) _ rfl Kc0.out rfl ?_))
 refine bodyPost_ret (results_cell_row Tryz.results93 _ _ _ 31 _ (0, 0) _ rfl Kr2.out Tryz.underlying31 rfl szCmd) rfl ?_
 exact ⟨rfl, HB2.out⟩
theorem rdecide_en (c : Cm) (l : Pl) (po : List Opr) (vo : Value) (v : Vlu) (vd : Value) (W : World) (h : CmAt W c l) (hpo : SlG eO W vo po) (hvd : DlV W vd v.2.2) (hd : decB c = false) (ho : c.ops = []) (hg : v.1 = false) : Calls Tryz.prog 93 #[cmV c l, vo, vlV v vd] W (RetL W (deciC c po v) (dlL c l v vo vd)) := by
 have HD := hH (fun (Y : World) => rdecided_any c l Y)
 obtain ⟨vg, ⟨u, v⟩, vds⟩ := v
 obtain ⟨va, vcp, vF, rfl, _⟩ := hvd
 generalize vF.length = vn at *
 unfold vlV
 obtain ⟨poa, poc, rfl⟩ := hpo.form
 clear hpo
 generalize po.length = pon at *
 generalize hv : deciC c po (vg, (u, v), vds) = cv
 unfold dlL
 try simp only
 obtain ⟨⟨id1, id2⟩, ops, phase, ⟨p1, p2⟩, ⟨v1, v2⟩, fast, seen, ⟨b1, b2⟩, has, ⟨q1, q2⟩, ⟨gone, ⟨t1, t2⟩, deps⟩, ready, writes, pairs⟩ := c
 obtain ⟨lo, ls, ld, lw, lp⟩ := l
 try simp only at h
 obtain ⟨oa, oc, rfl⟩ := h.o.form
 obtain ⟨sa, sc, sF, rfl, _⟩ := h.s
 obtain ⟨da, dc, dF, rfl, _⟩ := h.d
 obtain ⟨wa, wc, rfl⟩ := h.w.form
 obtain ⟨pa, pc, rfl⟩ := h.p.form
 clear h
 simp only [cmV] at *
 try simp only at ho hg
 have HON : Hid (ops.length = 0 ↔ ops = []) := List.length_eq_zero_iff
 generalize ops.length = on at *
 generalize sF.length = sn at *
 generalize dF.length = dn at *
 generalize writes.length = wn at *
 generalize pairs.length = pn at *
 unfold deciC at hv
 simp only at hv
 rw [hd] at HD hv ⊢
 simp only [Bool.false_eq_true, if_false] at hv ⊢
 subst hg
 subst ho
 obtain rfl : on = 0 := HON.out.2 rfl
 rw [if_pos ⟨rfl, rfl⟩] at hv ⊢
 subst hv
 clear hd
 clear HON
 obtain ⟨w0, he0, hw0, kQc, kQv, kQr, hb0⟩ := boxes3 W (.cells (r22 id1 id2 (.slice oa 0 oc) phase p1 p2 v1 v2 fast (.slice sa sn sc) b1 b2 has q1 q2 gone t1 t2 (.slice da dn dc) ready (.slice wa wn wc) (.slice pa pn pc)) 31) (.cells #[.bool false, .int .i64 u, .int .i64 v, .slice va vn vcp] 27) (.cells z22 31)
 have Kc0 := hH kQc
 have Kv0 := hH kQv
 have Kr0 := hH kQr
 have HB0 := hH hb0
 have HE0 := hH he0
 clear he0 hb0 kQc kQv kQr
 go_enter Tryz.func93, Tryz.ntmps93
 go_upto_region 1 with fail
 rw [← HE0.out]
 go_wp2_with (first | go_skip | ((with_reducible refine atW w5 ?_); refine store9 _ _ rfl (by rfl) _ rfl rfl Kr5.out rfl rfl (by simp [Value.oneCell']) ?_; intro w6 h1 h2; have Kr6 := hH h1; have hw6 := Nat.le_trans hw5 h2.size; have HB6 : Hid (Below W.heap.size W w6) := hH (below_grown9 HB5.out h2 (by omega)); clear h1 h2) | ((with_reducible refine atW w5 ?_); refine load9 _ rfl (by rfl) _ rfl Kc5.out rfl ?_) | ((with_reducible refine atW w4 ?_); refine wpList_store_part _ _ _ rfl (by rfl) _ 15 rfl rfl (cs := #[.bool false, .int .i64 u, .int .i64 v, .slice va vn vcp]) rfl Kc4.out (by kernel_rfl) (by simp) (by simp [Value.oneCell']) (D := (r22 id1 id2 (.slice poa pon poc) 2 p1 p2 v1 v2 fast (.slice sa sn sc) b1 b2 true q1 q2 false u v (.slice va vn vcp) ready (.slice wa wn wc) (.slice pa pn pc))) rfl ?_; intro w5 h1 h2; have Kc5 := hH h1; have hw5 := Nat.le_trans hw4 h2.size; have HB5 : Hid (Below W.heap.size W w5) := hH (below_grown9 HB4.out h2 (by omega)); have Kr5 := hH (grown_other9 Kr4.out h2 (by omega) (by omega)); clear h1 h2) | ((with_reducible refine atW w4 ?_); refine wpList_load_part _ _ rfl (by rfl) _ 0 rfl Kv4.out Tryz.underlying27 rfl #[.bool false, .int .i64 u, .int .i64 v, .slice va vn vcp] (by kernel_rfl) (four_at rfl rfl rfl rfl) ?_) | ((with_reducible refine atW w3 ?_); refine wpList_store_part _ _ _ rfl (by rfl) _ 12 rfl rfl (cs := #[.bool true]) rfl Kc3.out (by kernel_rfl) (by simp) (by simp [Value.oneCell']) (D := (r22 id1 id2 (.slice poa pon poc) 2 p1 p2 v1 v2 fast (.slice sa sn sc) b1 b2 true q1 q2 gone t1 t2 (.slice da dn dc) ready (.slice wa wn wc) (.slice pa pn pc))) rfl ?_; intro w4 h1 h2; have Kc4 := hH h1; have hw4 := Nat.le_trans hw3 h2.size; have HB4 : Hid (Below W.heap.size W w4) := hH (below_grown9 HB3.out h2 (by omega)); have Kv4 := hH (grown_other9 Kv3.out h2 (by omega) (by omega)); have Kr4 := hH (grown_other9 Kr3.out h2 (by omega) (by omega)); clear h1 h2) | ((with_reducible refine atW w2 ?_); refine wpList_store_part _ _ _ rfl (by rfl) _ 3 rfl rfl (cs := #[.int .i64 2]) rfl Kc2.out (by kernel_rfl) (by simp) (by simp [Value.oneCell']) (D := (r22 id1 id2 (.slice poa pon poc) 2 p1 p2 v1 v2 fast (.slice sa sn sc) b1 b2 has q1 q2 gone t1 t2 (.slice da dn dc) ready (.slice wa wn wc) (.slice pa pn pc))) rfl ?_; intro w3 h1 h2; have Kc3 := hH h1; have hw3 := Nat.le_trans hw2 h2.size; have HB3 : Hid (Below W.heap.size W w3) := hH (below_grown9 HB2.out h2 (by omega)); have Kv3 := hH (grown_other9 Kv2.out h2 (by omega) (by omega)); have Kr3 := hH (grown_other9 Kr2.out h2 (by omega) (by omega)); clear h1 h2) | ((with_reducible refine atW w1 ?_); refine wpList_store_part _ _ _ rfl (by rfl) _ 2 rfl rfl (cs := #[.slice poa pon poc]) rfl Kc1.out (by kernel_rfl) (by simp) (by simp [Value.oneCell']) (D := (r22 id1 id2 (.slice poa pon poc) phase p1 p2 v1 v2 fast (.slice sa sn sc) b1 b2 has q1 q2 gone t1 t2 (.slice da dn dc) ready (.slice wa wn wc) (.slice pa pn pc))) rfl ?_; intro w2 h1 h2; have Kc2 := hH h1; have hw2 := Nat.le_trans hw1 h2.size; have HB2 : Hid (Below W.heap.size W w2) := hH (below_grown9 HB1.out h2 (by omega)); have Kv2 := hH (grown_other9 Kv1.out h2 (by omega) (by omega)); have Kr2 := hH (grown_other9 Kr1.out h2 (by omega) (by omega)); clear h1 h2) | ((with_reducible refine atW w1 ?_); refine wpList_load_one _ _ rfl (by rfl) _ 0 rfl Kv1.out Tryz.underlying4 rfl rfl ?_) | ((with_reducible refine atW w1 ?_); refine wpList_load_one _ _ rfl (by rfl) _ 2 rfl Kc1.out Tryz.underlying24 rfl rfl ?_) | ((with_reducible refine atC w0 ?_); go_at_call 157; refine (HD.out _).mono ?_; rintro e w1 ⟨rfl, h5⟩; have hw1 := Nat.le_trans hw0 h5.size; have HB1 : Hid (Below W.heap.size W w1) := hH (blThen HB0.out h5); have Kc1 := hH ((h5.block W.heap.size (by omega)).trans Kc0.out); have Kv1 := hH ((h5.block (W.heap.size + 1) (by omega)).trans Kv0.out); have Kr1 := hH ((h5.block (W.heap.size + 2) (by omega)).trans Kr0.out); clear h5) | ((with_reducible refine atW w0 ?_); refine load9 _ rfl (by rfl) _ rfl Kc0.out rfl ?_))
 refine bodyPost_ret (results_cell_row Tryz.results93 _ _ _ 31 _ (0, 0) _ rfl Kr6.out Tryz.underlying31 rfl szCmd) rfl ?_
 exact ⟨rfl, HB6.out⟩
theorem rdecide_eg (c : Cm) (l : Pl) (po : List Opr) (vo : Value) (v : Vlu) (vd : Value) (W : World) (h : CmAt W c l) (hpo : SlG eO W vo po) (hvd : DlV W vd v.2.2) (hd : decB c = false) (ho : c.ops = []) (hg : v.1 = true) : Calls Tryz.prog 93 #[cmV c l, vo, vlV v vd] W (RetL W (deciC c po v) (dlL c l v vo vd)) := by
 have HD := hH (fun (Y : World) => rdecided_any c l Y)
 obtain ⟨vg, ⟨u, v⟩, vds⟩ := v
 obtain ⟨va, vcp, vF, rfl, _⟩ := hvd
 generalize vF.length = vn at *
 unfold vlV
 obtain ⟨poa, poc, rfl⟩ := hpo.form
 clear hpo
 generalize po.length = pon at *
 generalize hv : deciC c po (vg, (u, v), vds) = cv
 unfold dlL
 try simp only
 obtain ⟨⟨id1, id2⟩, ops, phase, ⟨p1, p2⟩, ⟨v1, v2⟩, fast, seen, ⟨b1, b2⟩, has, ⟨q1, q2⟩, ⟨gone, ⟨t1, t2⟩, deps⟩, ready, writes, pairs⟩ := c
 obtain ⟨lo, ls, ld, lw, lp⟩ := l
 try simp only at h
 obtain ⟨oa, oc, rfl⟩ := h.o.form
 obtain ⟨sa, sc, sF, rfl, _⟩ := h.s
 obtain ⟨da, dc, dF, rfl, _⟩ := h.d
 obtain ⟨wa, wc, rfl⟩ := h.w.form
 obtain ⟨pa, pc, rfl⟩ := h.p.form
 clear h
 simp only [cmV] at *
 try simp only at ho hg
 have HON : Hid (ops.length = 0 ↔ ops = []) := List.length_eq_zero_iff
 generalize ops.length = on at *
 generalize sF.length = sn at *
 generalize dF.length = dn at *
 generalize writes.length = wn at *
 generalize pairs.length = pn at *
 unfold deciC at hv
 simp only at hv
 rw [hd] at HD hv ⊢
 simp only [Bool.false_eq_true, if_false] at hv ⊢
 subst hg
 subst ho
 obtain rfl : on = 0 := HON.out.2 rfl
 rw [if_neg (by rintro ⟨h1, h2⟩; cases h2)] at hv ⊢
 subst hv
 clear hd
 clear HON
 obtain ⟨w0, he0, hw0, kQc, kQv, kQr, hb0⟩ := boxes3 W (.cells (r22 id1 id2 (.slice oa 0 oc) phase p1 p2 v1 v2 fast (.slice sa sn sc) b1 b2 has q1 q2 gone t1 t2 (.slice da dn dc) ready (.slice wa wn wc) (.slice pa pn pc)) 31) (.cells #[.bool true, .int .i64 u, .int .i64 v, .slice va vn vcp] 27) (.cells z22 31)
 have Kc0 := hH kQc
 have Kv0 := hH kQv
 have Kr0 := hH kQr
 have HB0 := hH hb0
 have HE0 := hH he0
 clear he0 hb0 kQc kQv kQr
 go_enter Tryz.func93, Tryz.ntmps93
 go_upto_region 1 with fail
 rw [← HE0.out]
 go_wp2_with (first | go_skip | ((with_reducible refine atW w4 ?_); refine store9 _ _ rfl (by rfl) _ rfl rfl Kr4.out rfl rfl (by simp [Value.oneCell']) ?_; intro w5 h1 h2; have Kr5 := hH h1; have hw5 := Nat.le_trans hw4 h2.size; have HB5 : Hid (Below W.heap.size W w5) := hH (below_grown9 HB4.out h2 (by omega)); clear h1 h2) | ((with_reducible refine atW w4 ?_); refine load9 _ rfl (by rfl) _ rfl Kc4.out rfl ?_) | ((with_reducible refine atW w3 ?_); refine wpList_store_part _ _ _ rfl (by rfl) _ 15 rfl rfl (cs := #[.bool true, .int .i64 u, .int .i64 v, .slice va vn vcp]) rfl Kc3.out (by kernel_rfl) (by simp) (by simp [Value.oneCell']) (D := (r22 id1 id2 (.slice oa 0 oc) 2 p1 p2 v1 v2 fast (.slice sa sn sc) b1 b2 true q1 q2 true u v (.slice va vn vcp) ready (.slice wa wn wc) (.slice pa pn pc))) rfl ?_; intro w4 h1 h2; have Kc4 := hH h1; have hw4 := Nat.le_trans hw3 h2.size; have HB4 : Hid (Below W.heap.size W w4) := hH (below_grown9 HB3.out h2 (by omega)); have Kr4 := hH (grown_other9 Kr3.out h2 (by omega) (by omega)); clear h1 h2) | ((with_reducible refine atW w3 ?_); refine wpList_load_part _ _ rfl (by rfl) _ 0 rfl Kv3.out Tryz.underlying27 rfl #[.bool true, .int .i64 u, .int .i64 v, .slice va vn vcp] (by kernel_rfl) (four_at rfl rfl rfl rfl) ?_) | ((with_reducible refine atW w2 ?_); refine wpList_store_part _ _ _ rfl (by rfl) _ 12 rfl rfl (cs := #[.bool true]) rfl Kc2.out (by kernel_rfl) (by simp) (by simp [Value.oneCell']) (D := (r22 id1 id2 (.slice oa 0 oc) 2 p1 p2 v1 v2 fast (.slice sa sn sc) b1 b2 true q1 q2 gone t1 t2 (.slice da dn dc) ready (.slice wa wn wc) (.slice pa pn pc))) rfl ?_; intro w3 h1 h2; have Kc3 := hH h1; have hw3 := Nat.le_trans hw2 h2.size; have HB3 : Hid (Below W.heap.size W w3) := hH (below_grown9 HB2.out h2 (by omega)); have Kv3 := hH (grown_other9 Kv2.out h2 (by omega) (by omega)); have Kr3 := hH (grown_other9 Kr2.out h2 (by omega) (by omega)); clear h1 h2) | ((with_reducible refine atW w1 ?_); refine wpList_store_part _ _ _ rfl (by rfl) _ 3 rfl rfl (cs := #[.int .i64 2]) rfl Kc1.out (by kernel_rfl) (by simp) (by simp [Value.oneCell']) (D := (r22 id1 id2 (.slice oa 0 oc) 2 p1 p2 v1 v2 fast (.slice sa sn sc) b1 b2 has q1 q2 gone t1 t2 (.slice da dn dc) ready (.slice wa wn wc) (.slice pa pn pc))) rfl ?_; intro w2 h1 h2; have Kc2 := hH h1; have hw2 := Nat.le_trans hw1 h2.size; have HB2 : Hid (Below W.heap.size W w2) := hH (below_grown9 HB1.out h2 (by omega)); have Kv2 := hH (grown_other9 Kv1.out h2 (by omega) (by omega)); have Kr2 := hH (grown_other9 Kr1.out h2 (by omega) (by omega)); clear h1 h2) | ((with_reducible refine atW w1 ?_); refine wpList_load_one _ _ rfl (by rfl) _ 0 rfl Kv1.out Tryz.underlying4 rfl rfl ?_) | ((with_reducible refine atW w1 ?_); refine wpList_load_one _ _ rfl (by rfl) _ 2 rfl Kc1.out Tryz.underlying24 rfl rfl ?_) | ((with_reducible refine atC w0 ?_); go_at_call 157; refine (HD.out _).mono ?_; rintro e w1 ⟨rfl, h5⟩; have hw1 := Nat.le_trans hw0 h5.size; have HB1 : Hid (Below W.heap.size W w1) := hH (blThen HB0.out h5); have Kc1 := hH ((h5.block W.heap.size (by omega)).trans Kc0.out); have Kv1 := hH ((h5.block (W.heap.size + 1) (by omega)).trans Kv0.out); have Kr1 := hH ((h5.block (W.heap.size + 2) (by omega)).trans Kr0.out); clear h5) | ((with_reducible refine atW w0 ?_); refine load9 _ rfl (by rfl) _ rfl Kc0.out rfl ?_))
 refine bodyPost_ret (results_cell_row Tryz.results93 _ _ _ 31 _ (0, 0) _ rfl Kr5.out Tryz.underlying31 rfl szCmd) rfl ?_
 exact ⟨rfl, HB5.out⟩
theorem rdecide_fn (c : Cm) (l : Pl) (po : List Opr) (vo : Value) (v : Vlu) (vd : Value) (W : World) (h : CmAt W c l) (hpo : SlG eO W vo po) (hvd : DlV W vd v.2.2) (hd : decB c = false) (ho : c.ops ≠ []) (hg : v.1 = false) : Calls Tryz.prog 93 #[cmV c l, vo, vlV v vd] W (RetL W (deciC c po v) (dlL c l v vo vd)) := by
 have HD := hH (fun (Y : World) => rdecided_any c l Y)
 obtain ⟨vg, ⟨u, v⟩, vds⟩ := v
 obtain ⟨va, vcp, vF, rfl, _⟩ := hvd
 generalize vF.length = vn at *
 unfold vlV
 obtain ⟨poa, poc, rfl⟩ := hpo.form
 clear hpo
 generalize po.length = pon at *
 generalize hv : deciC c po (vg, (u, v), vds) = cv
 unfold dlL
 try simp only
 obtain ⟨⟨id1, id2⟩, ops, phase, ⟨p1, p2⟩, ⟨v1, v2⟩, fast, seen, ⟨b1, b2⟩, has, ⟨q1, q2⟩, ⟨gone, ⟨t1, t2⟩, deps⟩, ready, writes, pairs⟩ := c
 obtain ⟨lo, ls, ld, lw, lp⟩ := l
 try simp only at h
 obtain ⟨oa, oc, rfl⟩ := h.o.form
 obtain ⟨sa, sc, sF, rfl, _⟩ := h.s
 obtain ⟨da, dc, dF, rfl, _⟩ := h.d
 obtain ⟨wa, wc, rfl⟩ := h.w.form
 obtain ⟨pa, pc, rfl⟩ := h.p.form
 clear h
 simp only [cmV] at *
 try simp only at ho hg
 have HON : Hid (ops.length = 0 ↔ ops = []) := List.length_eq_zero_iff
 generalize ops.length = on at *
 generalize sF.length = sn at *
 generalize dF.length = dn at *
 generalize writes.length = wn at *
 generalize pairs.length = pn at *
 unfold deciC at hv
 simp only at hv
 rw [hd] at HD hv ⊢
 simp only [Bool.false_eq_true, if_false] at hv ⊢
 subst hg
 have hb0 : (((on : Nat) : Int) == 0) = false := by
  have : on ≠ 0 := fun e => ho (HON.out.1 e)
  simpa using this
 rw [if_neg (by rintro ⟨h1, h2⟩; exact ho h1)] at hv ⊢
 subst hv
 clear ho hd
 clear HON
 obtain ⟨w0, he0, hw0, kQc, kQv, kQr, hb0⟩ := boxes3 W (.cells (r22 id1 id2 (.slice oa on oc) phase p1 p2 v1 v2 fast (.slice sa sn sc) b1 b2 has q1 q2 gone t1 t2 (.slice da dn dc) ready (.slice wa wn wc) (.slice pa pn pc)) 31) (.cells #[.bool false, .int .i64 u, .int .i64 v, .slice va vn vcp] 27) (.cells z22 31)
 have Kc0 := hH kQc
 have Kv0 := hH kQv
 have Kr0 := hH kQr
 have HB0 := hH hb0
 have HE0 := hH he0
 clear he0 hb0 kQc kQv kQr
 go_enter Tryz.func93, Tryz.ntmps93
 go_upto_region 1 with fail
 rw [← HE0.out]
 go_wp2_with (first | go_skip | ((with_reducible refine atW w4 ?_); refine store9 _ _ rfl (by rfl) _ rfl rfl Kr4.out rfl rfl (by simp [Value.oneCell']) ?_; intro w5 h1 h2; have Kr5 := hH h1; have hw5 := Nat.le_trans hw4 h2.size; have HB5 : Hid (Below W.heap.size W w5) := hH (below_grown9 HB4.out h2 (by omega)); clear h1 h2) | ((with_reducible refine atW w4 ?_); refine load9 _ rfl (by rfl) _ rfl Kc4.out rfl ?_) | ((with_reducible refine atW w3 ?_); refine wpList_store_part _ _ _ rfl (by rfl) _ 15 rfl rfl (cs := #[.bool false, .int .i64 u, .int .i64 v, .slice va vn vcp]) rfl Kc3.out (by kernel_rfl) (by simp) (by simp [Value.oneCell']) (D := (r22 id1 id2 (.slice oa on oc) 2 p1 p2 v1 v2 fast (.slice sa sn sc) b1 b2 true q1 q2 false u v (.slice va vn vcp) ready (.slice wa wn wc) (.slice pa pn pc))) rfl ?_; intro w4 h1 h2; have Kc4 := hH h1; have hw4 := Nat.le_trans hw3 h2.size; have HB4 : Hid (Below W.heap.size W w4) := hH (below_grown9 HB3.out h2 (by omega)); have Kr4 := hH (grown_other9 Kr3.out h2 (by omega) (by omega)); clear h1 h2) | ((with_reducible refine atW w3 ?_); refine wpList_load_part _ _ rfl (by rfl) _ 0 rfl Kv3.out Tryz.underlying27 rfl #[.bool false, .int .i64 u, .int .i64 v, .slice va vn vcp] (by kernel_rfl) (four_at rfl rfl rfl rfl) ?_) | ((with_reducible refine atW w2 ?_); refine wpList_store_part _ _ _ rfl (by rfl) _ 12 rfl rfl (cs := #[.bool true]) rfl Kc2.out (by kernel_rfl) (by simp) (by simp [Value.oneCell']) (D := (r22 id1 id2 (.slice oa on oc) 2 p1 p2 v1 v2 fast (.slice sa sn sc) b1 b2 true q1 q2 gone t1 t2 (.slice da dn dc) ready (.slice wa wn wc) (.slice pa pn pc))) rfl ?_; intro w3 h1 h2; have Kc3 := hH h1; have hw3 := Nat.le_trans hw2 h2.size; have HB3 : Hid (Below W.heap.size W w3) := hH (below_grown9 HB2.out h2 (by omega)); have Kv3 := hH (grown_other9 Kv2.out h2 (by omega) (by omega)); have Kr3 := hH (grown_other9 Kr2.out h2 (by omega) (by omega)); clear h1 h2) | ((with_reducible refine atW w1 ?_); refine wpList_store_part _ _ _ rfl (by rfl) _ 3 rfl rfl (cs := #[.int .i64 2]) rfl Kc1.out (by kernel_rfl) (by simp) (by simp [Value.oneCell']) (D := (r22 id1 id2 (.slice oa on oc) 2 p1 p2 v1 v2 fast (.slice sa sn sc) b1 b2 has q1 q2 gone t1 t2 (.slice da dn dc) ready (.slice wa wn wc) (.slice pa pn pc))) rfl ?_; intro w2 h1 h2; have Kc2 := hH h1; have hw2 := Nat.le_trans hw1 h2.size; have HB2 : Hid (Below W.heap.size W w2) := hH (below_grown9 HB1.out h2 (by omega)); have Kv2 := hH (grown_other9 Kv1.out h2 (by omega) (by omega)); have Kr2 := hH (grown_other9 Kr1.out h2 (by omega) (by omega)); clear h1 h2) | ((with_reducible refine atW w1 ?_); refine wpList_load_one _ _ rfl (by rfl) _ 2 rfl Kc1.out Tryz.underlying24 rfl rfl ?_) | ((with_reducible refine atC w0 ?_); go_at_call 157; refine (HD.out _).mono ?_; rintro e w1 ⟨rfl, h5⟩; have hw1 := Nat.le_trans hw0 h5.size; have HB1 : Hid (Below W.heap.size W w1) := hH (blThen HB0.out h5); have Kc1 := hH ((h5.block W.heap.size (by omega)).trans Kc0.out); have Kv1 := hH ((h5.block (W.heap.size + 1) (by omega)).trans Kv0.out); have Kr1 := hH ((h5.block (W.heap.size + 2) (by omega)).trans Kr0.out); clear h5) | ((with_reducible refine atW w0 ?_); refine load9 _ rfl (by rfl) _ rfl Kc0.out rfl ?_))
 refine bodyPost_ret (results_cell_row Tryz.results93 _ _ _ 31 _ (0, 0) _ rfl Kr5.out Tryz.underlying31 rfl szCmd) rfl ?_
 exact ⟨rfl, HB5.out⟩
theorem rdecide_fg (c : Cm) (l : Pl) (po : List Opr) (vo : Value) (v : Vlu) (vd : Value) (W : World) (h : CmAt W c l) (hpo : SlG eO W vo po) (hvd : DlV W vd v.2.2) (hd : decB c = false) (ho : c.ops ≠ []) (hg : v.1 = true) : Calls Tryz.prog 93 #[cmV c l, vo, vlV v vd] W (RetL W (deciC c po v) (dlL c l v vo vd)) := by
 have HD := hH (fun (Y : World) => rdecided_any c l Y)
 obtain ⟨vg, ⟨u, v⟩, vds⟩ := v
 obtain ⟨va, vcp, vF, rfl, _⟩ := hvd
 generalize vF.length = vn at *
 unfold vlV
 obtain ⟨poa, poc, rfl⟩ := hpo.form
 clear hpo
 generalize po.length = pon at *
 generalize hv : deciC c po (vg, (u, v), vds) = cv
 unfold dlL
 try simp only
 obtain ⟨⟨id1, id2⟩, ops, phase, ⟨p1, p2⟩, ⟨v1, v2⟩, fast, seen, ⟨b1, b2⟩, has, ⟨q1, q2⟩, ⟨gone, ⟨t1, t2⟩, deps⟩, ready, writes, pairs⟩ := c
 obtain ⟨lo, ls, ld, lw, lp⟩ := l
 try simp only at h
 obtain ⟨oa, oc, rfl⟩ := h.o.form
 obtain ⟨sa, sc, sF, rfl, _⟩ := h.s
 obtain ⟨da, dc, dF, rfl, _⟩ := h.d
 obtain ⟨wa, wc, rfl⟩ := h.w.form
 obtain ⟨pa, pc, rfl⟩ := h.p.form
 clear h
 simp only [cmV] at *
 try simp only at ho hg
 have HON : Hid (ops.length = 0 ↔ ops = []) := List.length_eq_zero_iff
 generalize ops.length = on at *
 generalize sF.length = sn at *
 generalize dF.length = dn at *
 generalize writes.length = wn at *
 generalize pairs.length = pn at *
 unfold deciC at hv
 simp only at hv
 rw [hd] at HD hv ⊢
 simp only [Bool.false_eq_true, if_false] at hv ⊢
 subst hg
 have hb0 : (((on : Nat) : Int) == 0) = false := by
  have : on ≠ 0 := fun e => ho (HON.out.1 e)
  simpa using this
 rw [if_neg (by rintro ⟨h1, h2⟩; exact ho h1)] at hv ⊢
 subst hv
 clear ho hd
 clear HON
 obtain ⟨w0, he0, hw0, kQc, kQv, kQr, hb0⟩ := boxes3 W (.cells (r22 id1 id2 (.slice oa on oc) phase p1 p2 v1 v2 fast (.slice sa sn sc) b1 b2 has q1 q2 gone t1 t2 (.slice da dn dc) ready (.slice wa wn wc) (.slice pa pn pc)) 31) (.cells #[.bool true, .int .i64 u, .int .i64 v, .slice va vn vcp] 27) (.cells z22 31)
 have Kc0 := hH kQc
 have Kv0 := hH kQv
 have Kr0 := hH kQr
 have HB0 := hH hb0
 have HE0 := hH he0
 clear he0 hb0 kQc kQv kQr
 go_enter Tryz.func93, Tryz.ntmps93
 go_upto_region 1 with fail
 rw [← HE0.out]
 go_wp2_with (first | go_skip | ((with_reducible refine atW w4 ?_); refine store9 _ _ rfl (by rfl) _ rfl rfl Kr4.out rfl rfl (by simp [Value.oneCell']) ?_; intro w5 h1 h2; have Kr5 := hH h1; have hw5 := Nat.le_trans hw4 h2.size; have HB5 : Hid (Below W.heap.size W w5) := hH (below_grown9 HB4.out h2 (by omega)); clear h1 h2) | ((with_reducible refine atW w4 ?_); refine load9 _ rfl (by rfl) _ rfl Kc4.out rfl ?_) | ((with_reducible refine atW w3 ?_); refine wpList_store_part _ _ _ rfl (by rfl) _ 15 rfl rfl (cs := #[.bool true, .int .i64 u, .int .i64 v, .slice va vn vcp]) rfl Kc3.out (by kernel_rfl) (by simp) (by simp [Value.oneCell']) (D := (r22 id1 id2 (.slice oa on oc) 2 p1 p2 v1 v2 fast (.slice sa sn sc) b1 b2 true q1 q2 true u v (.slice va vn vcp) ready (.slice wa wn wc) (.slice pa pn pc))) rfl ?_; intro w4 h1 h2; have Kc4 := hH h1; have hw4 := Nat.le_trans hw3 h2.size; have HB4 : Hid (Below W.heap.size W w4) := hH (below_grown9 HB3.out h2 (by omega)); have Kr4 := hH (grown_other9 Kr3.out h2 (by omega) (by omega)); clear h1 h2) | ((with_reducible refine atW w3 ?_); refine wpList_load_part _ _ rfl (by rfl) _ 0 rfl Kv3.out Tryz.underlying27 rfl #[.bool true, .int .i64 u, .int .i64 v, .slice va vn vcp] (by kernel_rfl) (four_at rfl rfl rfl rfl) ?_) | ((with_reducible refine atW w2 ?_); refine wpList_store_part _ _ _ rfl (by rfl) _ 12 rfl rfl (cs := #[.bool true]) rfl Kc2.out (by kernel_rfl) (by simp) (by simp [Value.oneCell']) (D := (r22 id1 id2 (.slice oa on oc) 2 p1 p2 v1 v2 fast (.slice sa sn sc) b1 b2 true q1 q2 gone t1 t2 (.slice da dn dc) ready (.slice wa wn wc) (.slice pa pn pc))) rfl ?_; intro w3 h1 h2; have Kc3 := hH h1; have hw3 := Nat.le_trans hw2 h2.size; have HB3 : Hid (Below W.heap.size W w3) := hH (below_grown9 HB2.out h2 (by omega)); have Kv3 := hH (grown_other9 Kv2.out h2 (by omega) (by omega)); have Kr3 := hH (grown_other9 Kr2.out h2 (by omega) (by omega)); clear h1 h2) | ((with_reducible refine atW w1 ?_); refine wpList_store_part _ _ _ rfl (by rfl) _ 3 rfl rfl (cs := #[.int .i64 2]) rfl Kc1.out (by kernel_rfl) (by simp) (by simp [Value.oneCell']) (D := (r22 id1 id2 (.slice oa on oc) 2 p1 p2 v1 v2 fast (.slice sa sn sc) b1 b2 has q1 q2 gone t1 t2 (.slice da dn dc) ready (.slice wa wn wc) (.slice pa pn pc))) rfl ?_; intro w2 h1 h2; have Kc2 := hH h1; have hw2 := Nat.le_trans hw1 h2.size; have HB2 : Hid (Below W.heap.size W w2) := hH (below_grown9 HB1.out h2 (by omega)); have Kv2 := hH (grown_other9 Kv1.out h2 (by omega) (by omega)); have Kr2 := hH (grown_other9 Kr1.out h2 (by omega) (by omega)); clear h1 h2) | ((with_reducible refine atW w1 ?_); refine wpList_load_one _ _ rfl (by rfl) _ 2 rfl Kc1.out Tryz.underlying24 rfl rfl ?_) | ((with_reducible refine atC w0 ?_); go_at_call 157; refine (HD.out _).mono ?_; rintro e w1 ⟨rfl, h5⟩; have hw1 := Nat.le_trans hw0 h5.size; have HB1 : Hid (Below W.heap.size W w1) := hH (blThen HB0.out h5); have Kc1 := hH ((h5.block W.heap.size (by omega)).trans Kc0.out); have Kv1 := hH ((h5.block (W.heap.size + 1) (by omega)).trans Kv0.out); have Kr1 := hH ((h5.block (W.heap.size + 2) (by omega)).trans Kr0.out); clear h5) | ((with_reducible refine atW w0 ?_); refine load9 _ rfl (by rfl) _ rfl Kc0.out rfl ?_))
 refine bodyPost_ret (results_cell_row Tryz.results93 _ _ _ 31 _ (0, 0) _ rfl Kr5.out Tryz.underlying31 rfl szCmd) rfl ?_
 exact ⟨rfl, HB5.out⟩
theorem rdecide_any (c : Cm) (l : Pl) (po : List Opr) (vo : Value) (v : Vlu) (vd : Value) (W : World) (h : CmAt W c l) (hpo : SlG eO W vo po) (hvd : DlV W vd v.2.2) : Calls Tryz.prog 93 #[cmV c l, vo, vlV v vd] W (RetL W (deciC c po v) (dlL c l v vo vd)) := by
 cases hd : decB c
 ·by_cases ho : c.ops = []
  ·cases hg : v.1
   ·exact rdecide_en c l po vo v vd W h hpo hvd hd ho hg
   ·exact rdecide_eg c l po vo v vd W h hpo hvd hd ho hg
  ·cases hg : v.1
   ·exact rdecide_fn c l po vo v vd W h hpo hvd hd ho hg
   ·exact rdecide_fg c l po vo v vd W h hpo hvd hd ho hg
 ·exact rdecide_dec c l po vo v vd W h hpo hvd hd

theorem decide_dec (c : Cm) (l : Pl) (po : List Opr) (vo : Value) (v : Vlu) (vd : Value) (W : World) (h : CmAt W c l) (hpo : SlG eO W vo po) (hvd : DlV W vd v.2.2) (hd : decB c = true) : Calls Tryz.prog 43 #[cmV c l, vo, vlV v vd] W (RetL W (deciC c po v) (dlL c l v vo vd)) := by
 have HD := hH (fun (Y : World) => isDecided_any c l Y)
 have HH := hH (fun (Y : World) (hY : Below W.heap.size W Y) => hasOps_any ⟨c.id, c.ops, 2, c.prom, c.vote, c.fast, c.seen, c.bound, true, c.ballot, v, c.ready, c.writes, c.pairs⟩ { l with d := vd } Y ⟨h.o.later hY, h.s.later hY, hvd.later hY, h.w.later hY, h.p.later hY⟩)
 obtain ⟨vg, ⟨u, v⟩, vds⟩ := v
 obtain ⟨va, vcp, vF, rfl, _⟩ := hvd
 generalize vF.length = vn at *
 unfold vlV
 obtain ⟨poa, poc, rfl⟩ := hpo.form
 clear hpo
 generalize po.length = pon at *
 generalize hv : deciC c po (vg, (u, v), vds) = cv
 unfold dlL
 try simp only
 obtain ⟨⟨id1, id2⟩, ops, phase, ⟨p1, p2⟩, ⟨v1, v2⟩, fast, seen, ⟨b1, b2⟩, has, ⟨q1, q2⟩, ⟨gone, ⟨t1, t2⟩, deps⟩, ready, writes, pairs⟩ := c
 obtain ⟨lo, ls, ld, lw, lp⟩ := l
 try simp only at h
 obtain ⟨oa, oc, rfl⟩ := h.o.form
 obtain ⟨sa, sc, sF, rfl, _⟩ := h.s
 obtain ⟨da, dc, dF, rfl, _⟩ := h.d
 obtain ⟨wa, wc, rfl⟩ := h.w.form
 obtain ⟨pa, pc, rfl⟩ := h.p.form
 clear h
 simp only [cmV] at *
 have HON : Hid (ops.length = 0 ↔ ops = []) := List.length_eq_zero_iff
 generalize ops.length = on at *
 generalize sF.length = sn at *
 generalize dF.length = dn at *
 generalize writes.length = wn at *
 generalize pairs.length = pn at *
 unfold deciC at hv
 simp only at hv
 rw [hd] at HD hv ⊢
 simp only [if_true] at hv ⊢
 subst hv
 clear hd
 obtain ⟨w0, he0, hw0, kQc, kQv, kQr, hb0⟩ := boxes3 W (.cells (r22 id1 id2 (.slice oa on oc) phase p1 p2 v1 v2 fast (.slice sa sn sc) b1 b2 has q1 q2 gone t1 t2 (.slice da dn dc) ready (.slice wa wn wc) (.slice pa pn pc)) 31) (.cells #[.bool vg, .int .i64 u, .int .i64 v, .slice va vn vcp] 27) (.cells z22 31)
 have Kc0 := hH kQc
 have Kr0 := hH kQr
 have HB0 := hH hb0
 have HE0 := hH he0
 clear he0 hb0 kQc kQv kQr
 go_enter Tryz.func43, Tryz.ntmps43
 go_upto_region 1 with fail
 rw [← HE0.out]
 go_wp2_with (first | go_skip | ((with_reducible refine atW w1 ?_); refine store9 _ _ rfl (by rfl) _ rfl rfl Kr1.out rfl rfl (by simp [Value.oneCell']) ?_; intro w2 h1 h2; have Kr2 := hH h1; have hw2 := Nat.le_trans hw1 h2.size; have HB2 : Hid (Below W.heap.size W w2) := hH (below_grown9 HB1.out h2 (by omega)); clear h1 h2) | ((with_reducible refine atW w1 ?_); refine load9 _ rfl (by rfl) _ rfl Kc1.out rfl ?_) | ((with_reducible refine atC w0 ?_); go_at_call 119; refine (HD.out _).mono ?_; rintro e w1 ⟨rfl, h5⟩; have hw1 := Nat.le_trans hw0 h5.size; have HB1 : Hid (Below W.heap.size W w1) := hH (blThen HB0.out h5); have Kc1 := hH ((h5.block W.heap.size (by omega)).trans Kc0.out); have Kr1 := hH ((h5.block (W.heap.size + 2) (by omega)).trans Kr0.out); clear h5) | ((with_reducible refine atW w0 ?_); refine load9 _ rfl (by rfl) _ rfl Kc0.out rfl ?_))
 refine bodyPost_ret (results_cell_row Tryz.results43 _ _ _ 31 _ (0, 0) _ rfl Kr2.out Tryz.underlying31 rfl szCmd) rfl ?_
 exact ⟨rfl, HB2.out⟩
theorem decide_en (c : Cm) (l : Pl) (po : List Opr) (vo : Value) (v : Vlu) (vd : Value) (W : World) (h : CmAt W c l) (hpo : SlG eO W vo po) (hvd : DlV W vd v.2.2) (hd : decB c = false) (ho : c.ops = []) (hg : v.1 = false) : Calls Tryz.prog 43 #[cmV c l, vo, vlV v vd] W (RetL W (deciC c po v) (dlL c l v vo vd)) := by
 have HD := hH (fun (Y : World) => isDecided_any c l Y)
 have HH := hH (fun (Y : World) (hY : Below W.heap.size W Y) => hasOps_any ⟨c.id, c.ops, 2, c.prom, c.vote, c.fast, c.seen, c.bound, true, c.ballot, v, c.ready, c.writes, c.pairs⟩ { l with d := vd } Y ⟨h.o.later hY, h.s.later hY, hvd.later hY, h.w.later hY, h.p.later hY⟩)
 obtain ⟨vg, ⟨u, v⟩, vds⟩ := v
 obtain ⟨va, vcp, vF, rfl, _⟩ := hvd
 generalize vF.length = vn at *
 unfold vlV
 obtain ⟨poa, poc, rfl⟩ := hpo.form
 clear hpo
 generalize po.length = pon at *
 generalize hv : deciC c po (vg, (u, v), vds) = cv
 unfold dlL
 try simp only
 obtain ⟨⟨id1, id2⟩, ops, phase, ⟨p1, p2⟩, ⟨v1, v2⟩, fast, seen, ⟨b1, b2⟩, has, ⟨q1, q2⟩, ⟨gone, ⟨t1, t2⟩, deps⟩, ready, writes, pairs⟩ := c
 obtain ⟨lo, ls, ld, lw, lp⟩ := l
 try simp only at h
 obtain ⟨oa, oc, rfl⟩ := h.o.form
 obtain ⟨sa, sc, sF, rfl, _⟩ := h.s
 obtain ⟨da, dc, dF, rfl, _⟩ := h.d
 obtain ⟨wa, wc, rfl⟩ := h.w.form
 obtain ⟨pa, pc, rfl⟩ := h.p.form
 clear h
 simp only [cmV] at *
 try simp only at ho hg
 have HON : Hid (ops.length = 0 ↔ ops = []) := List.length_eq_zero_iff
 generalize ops.length = on at *
 generalize sF.length = sn at *
 generalize dF.length = dn at *
 generalize writes.length = wn at *
 generalize pairs.length = pn at *
 unfold deciC at hv
 simp only at hv
 rw [hd] at HD hv ⊢
 simp only [Bool.false_eq_true, if_false] at hv ⊢
 subst hg
 subst ho
 obtain rfl : on = 0 := HON.out.2 rfl
 rw [if_pos ⟨rfl, rfl⟩] at hv ⊢
 simp only [decide_true, Bool.not_true] at HH
 subst hv
 clear hd
 clear HON
 obtain ⟨w0, he0, hw0, kQc, kQv, kQr, hb0⟩ := boxes3 W (.cells (r22 id1 id2 (.slice oa 0 oc) phase p1 p2 v1 v2 fast (.slice sa sn sc) b1 b2 has q1 q2 gone t1 t2 (.slice da dn dc) ready (.slice wa wn wc) (.slice pa pn pc)) 31) (.cells #[.bool false, .int .i64 u, .int .i64 v, .slice va vn vcp] 27) (.cells z22 31)
 have Kc0 := hH kQc
 have Kv0 := hH kQv
 have Kr0 := hH kQr
 have HB0 := hH hb0
 have HE0 := hH he0
 clear he0 hb0 kQc kQv kQr
 go_enter Tryz.func43, Tryz.ntmps43
 go_upto_region 1 with fail
 rw [← HE0.out]
 go_upto_region 4 with (first | go_skip | ((with_reducible refine atW w1 ?_); refine wpList_store_part _ _ _ rfl (by rfl) _ 3 rfl rfl (cs := #[.int .i64 2]) rfl Kc1.out (by kernel_rfl) (by simp) (by simp [Value.oneCell']) (D := (r22 id1 id2 (.slice oa 0 oc) 2 p1 p2 v1 v2 fast (.slice sa sn sc) b1 b2 has q1 q2 gone t1 t2 (.slice da dn dc) ready (.slice wa wn wc) (.slice pa pn pc))) rfl ?_; intro w2 h1 h2; have Kc2 := hH h1; have hw2 := Nat.le_trans hw1 h2.size; have HB2 : Hid (Below W.heap.size W w2) := hH (below_grown9 HB1.out h2 (by omega)); have Kv2 := hH (grown_other9 Kv1.out h2 (by omega) (by omega)); have Kr2 := hH (grown_other9 Kr1.out h2 (by omega) (by omega)); clear h1 h2) | ((with_reducible refine atC w0 ?_); go_at_call 119; refine (HD.out _).mono ?_; rintro e w1 ⟨rfl, h5⟩; have hw1 := Nat.le_trans hw0 h5.size; have HB1 : Hid (Below W.heap.size W w1) := hH (blThen HB0.out h5); have Kc1 := hH ((h5.block W.heap.size (by omega)).trans Kc0.out); have Kv1 := hH ((h5.block (W.heap.size + 1) (by omega)).trans Kv0.out); have Kr1 := hH ((h5.block (W.heap.size + 2) (by omega)).trans Kr0.out); clear h5) | ((with_reducible refine atW w0 ?_); refine load9 _ rfl (by rfl) _ rfl Kc0.out rfl ?_))
 refine wp_region_held_drew (S := fun Y => Y.cell? ⟨(W.heap.size + 1), 0, none⟩ = some (.bool false) ∧ Y.cell? ⟨(W.heap.size + 1), 1, none⟩ = some (.int .i64 u) ∧ Y.cell? ⟨(W.heap.size + 1), 2, none⟩ = some (.int .i64 v) ∧ Y.cell? ⟨(W.heap.size + 1), 3, none⟩ = some (.slice va vn vcp)) (by kernel_rfl) (⟨cell_row Kv2.out 0 _ rfl, cell_row Kv2.out 1 _ rfl, cell_row Kv2.out 2 _ rfl, cell_row Kv2.out 3 _ rfl⟩) (fun hHeld => ?_)
 have Kc3 : Hid (w2.drew.heap[W.heap.size]? = some (.cells (r22 id1 id2 (.slice oa 0 oc) 2 p1 p2 v1 v2 fast (.slice sa sn sc) b1 b2 has q1 q2 gone t1 t2 (.slice da dn dc) ready (.slice wa wn wc) (.slice pa pn pc)) 31 (0, 0))) := Kc2.out
 have Kv3 : Hid (w2.drew.heap[(W.heap.size + 1)]? = some (.cells #[.bool false, .int .i64 u, .int .i64 v, .slice va vn vcp] 27 (0, 0))) := Kv2.out
 have Kr3 : Hid (w2.drew.heap[(W.heap.size + 2)]? = some (.cells z22 31 (0, 0))) := Kr2.out
 have HB3 : Hid (Below W.heap.size W w2.drew) := hH HB2.out.drew
 have hw3 : W.heap.size + 3 ≤ w2.drew.heap.size := hw2
 generalize w2.drew = w3 at *
 refine wpAnyH_take (i := 0) (oi := ⟨_, _, _, _, _, _⟩) (v := ?_) rfl (by kernel_rfl) (by kernel_rfl) (by kernel_rfl) (fun _ _ _ h => h) (Or.inl ⟨by rfl, ?_⟩) (by assumption) ?_
 rotate_left
 ·intro w hSw
  try dsimp only at hSw
  go_simp
  try with_reducible rfl
 try simp only [Act.put, sA9, sZ9, sS9]
 refine wpAnyH_take (i := 1) (oi := ⟨_, _, _, _, _, _⟩) (v := ?_) rfl (by kernel_rfl) (by kernel_rfl) (by kernel_rfl) (fun _ _ _ h => h) (Or.inl ⟨by rfl, ?_⟩) (by assumption) ?_
 rotate_left
 ·intro w hSw
  try dsimp only at hSw
  go_simp
  try with_reducible rfl
 try simp only [Act.put, sA9, sZ9, sS9]
 refine wpAnyH_ready (rs := [2]) (by kernel_rfl) (by simp) ?_
 refine AllReadyH.cons (o := ⟨_, _, _, _, _, _⟩) rfl (fun K hK => ?_) ?_
 rotate_left
 ·exact AllReadyH.nil
 refine wp_store_part _ _ _ rfl _ 12 rfl rfl (cs := #[.bool true]) rfl Kc3.out (by kernel_rfl) (by simp) (by simp [Value.oneCell']) (D := (r22 id1 id2 (.slice oa 0 oc) 2 p1 p2 v1 v2 fast (.slice sa sn sc) b1 b2 true q1 q2 gone t1 t2 (.slice da dn dc) ready (.slice wa wn wc) (.slice pa pn pc))) rfl ?_
 intro w4 h1 h2
 have Kc4 := hH h1; have hw4 := Nat.le_trans hw3 h2.size; have HB4 : Hid (Below W.heap.size W w4) := hH (below_grown9 HB3.out h2 (by omega)); have Kv4 := hH (grown_other9 Kv3.out h2 (by omega) (by omega)); have Kr4 := hH (grown_other9 Kr3.out h2 (by omega) (by omega)); clear h1 h2
 refine hK.out _ _ (⟨cell_row Kv4.out 0 _ rfl, cell_row Kv4.out 1 _ rfl, cell_row Kv4.out 2 _ rfl, cell_row Kv4.out 3 _ rfl⟩) (fun hHeld => ?_)
 clear hK K
 try simp only [Act.put, sA9, sZ9, sS9]
 refine wpAnyH_take (i := 3) (oi := ⟨_, _, _, _, _, _⟩) (v := ?_) rfl (by kernel_rfl) (by kernel_rfl) (by kernel_rfl) (fun _ _ _ h => h) (Or.inl ⟨by rfl, ?_⟩) (by assumption) ?_
 rotate_left
 ·intro w hSw
  try dsimp only at hSw
  go_simp
  try with_reducible rfl
 try simp only [Act.put, sA9, sZ9, sS9]
 refine wpAnyH_ready (rs := [4]) (by kernel_rfl) (by simp) ?_
 refine AllReadyH.cons (o := ⟨_, _, _, _, _, _⟩) rfl (fun K hK => ?_) ?_
 rotate_left
 ·exact AllReadyH.nil
 refine wp_store_part _ _ _ rfl _ 15 rfl rfl (cs := #[.bool false, .int .i64 u, .int .i64 v, .slice va vn vcp]) rfl Kc4.out (by kernel_rfl) (by simp) (by simp [Value.oneCell']) (D := (r22 id1 id2 (.slice oa 0 oc) 2 p1 p2 v1 v2 fast (.slice sa sn sc) b1 b2 true q1 q2 false u v (.slice va vn vcp) ready (.slice wa wn wc) (.slice pa pn pc))) rfl ?_
 intro w5 h1 h2
 have Kc5 := hH h1; have hw5 := Nat.le_trans hw4 h2.size; have HB5 : Hid (Below W.heap.size W w5) := hH (below_grown9 HB4.out h2 (by omega)); have Kv5 := hH (grown_other9 Kv4.out h2 (by omega) (by omega)); have Kr5 := hH (grown_other9 Kr4.out h2 (by omega) (by omega)); clear h1 h2
 refine hK.out _ _ (⟨cell_row Kv5.out 0 _ rfl, cell_row Kv5.out 1 _ rfl, cell_row Kv5.out 2 _ rfl, cell_row Kv5.out 3 _ rfl⟩) (fun hHeld => ?_)
 clear hK K
 try simp only [Act.put, sA9, sZ9, sS9]
 refine wpAnyH_done (by kernel_rfl) ?_ _
 go_wp2_with (first | go_skip | ((with_reducible refine atW w7 ?_); refine store9 _ _ rfl (by rfl) _ rfl rfl Kr7.out rfl rfl (by simp [Value.oneCell']) ?_; intro w8 h1 h2; have Kr8 := hH h1; have hw8 := Nat.le_trans hw7 h2.size; have HB8 : Hid (Below W.heap.size W w8) := hH (below_grown9 HB7.out h2 (by omega)); clear h1 h2) | ((with_reducible refine atW w7 ?_); refine load9 _ rfl (by rfl) _ rfl Kc7.out rfl ?_) | ((with_reducible refine atW w6 ?_); refine wpList_store_part _ _ _ rfl (by rfl) _ 2 rfl rfl (cs := #[.slice poa pon poc]) rfl Kc6.out (by kernel_rfl) (by simp) (by simp [Value.oneCell']) (D := (r22 id1 id2 (.slice poa pon poc) 2 p1 p2 v1 v2 fast (.slice sa sn sc) b1 b2 true q1 q2 false u v (.slice va vn vcp) ready (.slice wa wn wc) (.slice pa pn pc))) rfl ?_; intro w7 h1 h2; have Kc7 := hH h1; have hw7 := Nat.le_trans hw6 h2.size; have HB7 : Hid (Below W.heap.size W w7) := hH (below_grown9 HB6.out h2 (by omega)); have Kr7 := hH (grown_other9 Kr6.out h2 (by omega) (by omega)); clear h1 h2) | ((with_reducible refine atW w6 ?_); refine wpList_load_one _ _ rfl (by rfl) _ 0 rfl Kv6.out Tryz.underlying4 rfl rfl ?_) | ((with_reducible refine atC w5 ?_); go_at_call 121; refine (HH.out _ HB5.out).mono ?_; rintro e w6 ⟨rfl, h5⟩; have hw6 := Nat.le_trans hw5 h5.size; have HB6 : Hid (Below W.heap.size W w6) := hH (blThen HB5.out h5); have Kc6 := hH ((h5.block W.heap.size (by omega)).trans Kc5.out); have Kv6 := hH ((h5.block (W.heap.size + 1) (by omega)).trans Kv5.out); have Kr6 := hH ((h5.block (W.heap.size + 2) (by omega)).trans Kr5.out); clear h5) | ((with_reducible refine atW w5 ?_); refine load9 _ rfl (by rfl) _ rfl Kc5.out rfl ?_))
 refine bodyPost_ret (results_cell_row Tryz.results43 _ _ _ 31 _ (0, 0) _ rfl Kr8.out Tryz.underlying31 rfl szCmd) rfl ?_
 exact ⟨rfl, HB8.out⟩
theorem decide_eg (c : Cm) (l : Pl) (po : List Opr) (vo : Value) (v : Vlu) (vd : Value) (W : World) (h : CmAt W c l) (hpo : SlG eO W vo po) (hvd : DlV W vd v.2.2) (hd : decB c = false) (ho : c.ops = []) (hg : v.1 = true) : Calls Tryz.prog 43 #[cmV c l, vo, vlV v vd] W (RetL W (deciC c po v) (dlL c l v vo vd)) := by
 have HD := hH (fun (Y : World) => isDecided_any c l Y)
 have HH := hH (fun (Y : World) (hY : Below W.heap.size W Y) => hasOps_any ⟨c.id, c.ops, 2, c.prom, c.vote, c.fast, c.seen, c.bound, true, c.ballot, v, c.ready, c.writes, c.pairs⟩ { l with d := vd } Y ⟨h.o.later hY, h.s.later hY, hvd.later hY, h.w.later hY, h.p.later hY⟩)
 obtain ⟨vg, ⟨u, v⟩, vds⟩ := v
 obtain ⟨va, vcp, vF, rfl, _⟩ := hvd
 generalize vF.length = vn at *
 unfold vlV
 obtain ⟨poa, poc, rfl⟩ := hpo.form
 clear hpo
 generalize po.length = pon at *
 generalize hv : deciC c po (vg, (u, v), vds) = cv
 unfold dlL
 try simp only
 obtain ⟨⟨id1, id2⟩, ops, phase, ⟨p1, p2⟩, ⟨v1, v2⟩, fast, seen, ⟨b1, b2⟩, has, ⟨q1, q2⟩, ⟨gone, ⟨t1, t2⟩, deps⟩, ready, writes, pairs⟩ := c
 obtain ⟨lo, ls, ld, lw, lp⟩ := l
 try simp only at h
 obtain ⟨oa, oc, rfl⟩ := h.o.form
 obtain ⟨sa, sc, sF, rfl, _⟩ := h.s
 obtain ⟨da, dc, dF, rfl, _⟩ := h.d
 obtain ⟨wa, wc, rfl⟩ := h.w.form
 obtain ⟨pa, pc, rfl⟩ := h.p.form
 clear h
 simp only [cmV] at *
 try simp only at ho hg
 have HON : Hid (ops.length = 0 ↔ ops = []) := List.length_eq_zero_iff
 generalize ops.length = on at *
 generalize sF.length = sn at *
 generalize dF.length = dn at *
 generalize writes.length = wn at *
 generalize pairs.length = pn at *
 unfold deciC at hv
 simp only at hv
 rw [hd] at HD hv ⊢
 simp only [Bool.false_eq_true, if_false] at hv ⊢
 subst hg
 subst ho
 obtain rfl : on = 0 := HON.out.2 rfl
 rw [if_neg (by rintro ⟨h1, h2⟩; cases h2)] at hv ⊢
 simp only [decide_true, Bool.not_true] at HH
 subst hv
 clear hd
 clear HON
 obtain ⟨w0, he0, hw0, kQc, kQv, kQr, hb0⟩ := boxes3 W (.cells (r22 id1 id2 (.slice oa 0 oc) phase p1 p2 v1 v2 fast (.slice sa sn sc) b1 b2 has q1 q2 gone t1 t2 (.slice da dn dc) ready (.slice wa wn wc) (.slice pa pn pc)) 31) (.cells #[.bool true, .int .i64 u, .int .i64 v, .slice va vn vcp] 27) (.cells z22 31)
 have Kc0 := hH kQc
 have Kv0 := hH kQv
 have Kr0 := hH kQr
 have HB0 := hH hb0
 have HE0 := hH he0
 clear he0 hb0 kQc kQv kQr
 go_enter Tryz.func43, Tryz.ntmps43
 go_upto_region 1 with fail
 rw [← HE0.out]
 go_upto_region 4 with (first | go_skip | ((with_reducible refine atW w1 ?_); refine wpList_store_part _ _ _ rfl (by rfl) _ 3 rfl rfl (cs := #[.int .i64 2]) rfl Kc1.out (by kernel_rfl) (by simp) (by simp [Value.oneCell']) (D := (r22 id1 id2 (.slice oa 0 oc) 2 p1 p2 v1 v2 fast (.slice sa sn sc) b1 b2 has q1 q2 gone t1 t2 (.slice da dn dc) ready (.slice wa wn wc) (.slice pa pn pc))) rfl ?_; intro w2 h1 h2; have Kc2 := hH h1; have hw2 := Nat.le_trans hw1 h2.size; have HB2 : Hid (Below W.heap.size W w2) := hH (below_grown9 HB1.out h2 (by omega)); have Kv2 := hH (grown_other9 Kv1.out h2 (by omega) (by omega)); have Kr2 := hH (grown_other9 Kr1.out h2 (by omega) (by omega)); clear h1 h2) | ((with_reducible refine atC w0 ?_); go_at_call 119; refine (HD.out _).mono ?_; rintro e w1 ⟨rfl, h5⟩; have hw1 := Nat.le_trans hw0 h5.size; have HB1 : Hid (Below W.heap.size W w1) := hH (blThen HB0.out h5); have Kc1 := hH ((h5.block W.heap.size (by omega)).trans Kc0.out); have Kv1 := hH ((h5.block (W.heap.size + 1) (by omega)).trans Kv0.out); have Kr1 := hH ((h5.block (W.heap.size + 2) (by omega)).trans Kr0.out); clear h5) | ((with_reducible refine atW w0 ?_); refine load9 _ rfl (by rfl) _ rfl Kc0.out rfl ?_))
 refine wp_region_held_drew (S := fun Y => Y.cell? ⟨(W.heap.size + 1), 0, none⟩ = some (.bool true) ∧ Y.cell? ⟨(W.heap.size + 1), 1, none⟩ = some (.int .i64 u) ∧ Y.cell? ⟨(W.heap.size + 1), 2, none⟩ = some (.int .i64 v) ∧ Y.cell? ⟨(W.heap.size + 1), 3, none⟩ = some (.slice va vn vcp)) (by kernel_rfl) (⟨cell_row Kv2.out 0 _ rfl, cell_row Kv2.out 1 _ rfl, cell_row Kv2.out 2 _ rfl, cell_row Kv2.out 3 _ rfl⟩) (fun hHeld => ?_)
 have Kc3 : Hid (w2.drew.heap[W.heap.size]? = some (.cells (r22 id1 id2 (.slice oa 0 oc) 2 p1 p2 v1 v2 fast (.slice sa sn sc) b1 b2 has q1 q2 gone t1 t2 (.slice da dn dc) ready (.slice wa wn wc) (.slice pa pn pc)) 31 (0, 0))) := Kc2.out
 have Kv3 : Hid (w2.drew.heap[(W.heap.size + 1)]? = some (.cells #[.bool true, .int .i64 u, .int .i64 v, .slice va vn vcp] 27 (0, 0))) := Kv2.out
 have Kr3 : Hid (w2.drew.heap[(W.heap.size + 2)]? = some (.cells z22 31 (0, 0))) := Kr2.out
 have HB3 : Hid (Below W.heap.size W w2.drew) := hH HB2.out.drew
 have hw3 : W.heap.size + 3 ≤ w2.drew.heap.size := hw2
 generalize w2.drew = w3 at *
 refine wpAnyH_take (i := 0) (oi := ⟨_, _, _, _, _, _⟩) (v := ?_) rfl (by kernel_rfl) (by kernel_rfl) (by kernel_rfl) (fun _ _ _ h => h) (Or.inl ⟨by rfl, ?_⟩) (by assumption) ?_
 rotate_left
 ·intro w hSw
  try dsimp only at hSw
  go_simp
  try with_reducible rfl
 try simp only [Act.put, sA9, sZ9, sS9]
 refine wpAnyH_take (i := 1) (oi := ⟨_, _, _, _, _, _⟩) (v := ?_) rfl (by kernel_rfl) (by kernel_rfl) (by kernel_rfl) (fun _ _ _ h => h) (Or.inl ⟨by rfl, ?_⟩) (by assumption) ?_
 rotate_left
 ·intro w hSw
  try dsimp only at hSw
  go_simp
  try with_reducible rfl
 try simp only [Act.put, sA9, sZ9, sS9]
 refine wpAnyH_ready (rs := [2]) (by kernel_rfl) (by simp) ?_
 refine AllReadyH.cons (o := ⟨_, _, _, _, _, _⟩) rfl (fun K hK => ?_) ?_
 rotate_left
 ·exact AllReadyH.nil
 refine wp_store_part _ _ _ rfl _ 12 rfl rfl (cs := #[.bool true]) rfl Kc3.out (by kernel_rfl) (by simp) (by simp [Value.oneCell']) (D := (r22 id1 id2 (.slice oa 0 oc) 2 p1 p2 v1 v2 fast (.slice sa sn sc) b1 b2 true q1 q2 gone t1 t2 (.slice da dn dc) ready (.slice wa wn wc) (.slice pa pn pc))) rfl ?_
 intro w4 h1 h2
 have Kc4 := hH h1; have hw4 := Nat.le_trans hw3 h2.size; have HB4 : Hid (Below W.heap.size W w4) := hH (below_grown9 HB3.out h2 (by omega)); have Kv4 := hH (grown_other9 Kv3.out h2 (by omega) (by omega)); have Kr4 := hH (grown_other9 Kr3.out h2 (by omega) (by omega)); clear h1 h2
 refine hK.out _ _ (⟨cell_row Kv4.out 0 _ rfl, cell_row Kv4.out 1 _ rfl, cell_row Kv4.out 2 _ rfl, cell_row Kv4.out 3 _ rfl⟩) (fun hHeld => ?_)
 clear hK K
 try simp only [Act.put, sA9, sZ9, sS9]
 refine wpAnyH_take (i := 3) (oi := ⟨_, _, _, _, _, _⟩) (v := ?_) rfl (by kernel_rfl) (by kernel_rfl) (by kernel_rfl) (fun _ _ _ h => h) (Or.inl ⟨by rfl, ?_⟩) (by assumption) ?_
 rotate_left
 ·intro w hSw
  try dsimp only at hSw
  go_simp
  try with_reducible rfl
 try simp only [Act.put, sA9, sZ9, sS9]
 refine wpAnyH_ready (rs := [4]) (by kernel_rfl) (by simp) ?_
 refine AllReadyH.cons (o := ⟨_, _, _, _, _, _⟩) rfl (fun K hK => ?_) ?_
 rotate_left
 ·exact AllReadyH.nil
 refine wp_store_part _ _ _ rfl _ 15 rfl rfl (cs := #[.bool true, .int .i64 u, .int .i64 v, .slice va vn vcp]) rfl Kc4.out (by kernel_rfl) (by simp) (by simp [Value.oneCell']) (D := (r22 id1 id2 (.slice oa 0 oc) 2 p1 p2 v1 v2 fast (.slice sa sn sc) b1 b2 true q1 q2 true u v (.slice va vn vcp) ready (.slice wa wn wc) (.slice pa pn pc))) rfl ?_
 intro w5 h1 h2
 have Kc5 := hH h1; have hw5 := Nat.le_trans hw4 h2.size; have HB5 : Hid (Below W.heap.size W w5) := hH (below_grown9 HB4.out h2 (by omega)); have Kv5 := hH (grown_other9 Kv4.out h2 (by omega) (by omega)); have Kr5 := hH (grown_other9 Kr4.out h2 (by omega) (by omega)); clear h1 h2
 refine hK.out _ _ (⟨cell_row Kv5.out 0 _ rfl, cell_row Kv5.out 1 _ rfl, cell_row Kv5.out 2 _ rfl, cell_row Kv5.out 3 _ rfl⟩) (fun hHeld => ?_)
 clear hK K
 try simp only [Act.put, sA9, sZ9, sS9]
 refine wpAnyH_done (by kernel_rfl) ?_ _
 go_wp2_with (first | go_skip | ((with_reducible refine atW w6 ?_); refine store9 _ _ rfl (by rfl) _ rfl rfl Kr6.out rfl rfl (by simp [Value.oneCell']) ?_; intro w7 h1 h2; have Kr7 := hH h1; have hw7 := Nat.le_trans hw6 h2.size; have HB7 : Hid (Below W.heap.size W w7) := hH (below_grown9 HB6.out h2 (by omega)); clear h1 h2) | ((with_reducible refine atW w6 ?_); refine load9 _ rfl (by rfl) _ rfl Kc6.out rfl ?_) | ((with_reducible refine atW w6 ?_); refine wpList_load_one _ _ rfl (by rfl) _ 0 rfl Kv6.out Tryz.underlying4 rfl rfl ?_) | ((with_reducible refine atC w5 ?_); go_at_call 121; refine (HH.out _ HB5.out).mono ?_; rintro e w6 ⟨rfl, h5⟩; have hw6 := Nat.le_trans hw5 h5.size; have HB6 : Hid (Below W.heap.size W w6) := hH (blThen HB5.out h5); have Kc6 := hH ((h5.block W.heap.size (by omega)).trans Kc5.out); have Kv6 := hH ((h5.block (W.heap.size + 1) (by omega)).trans Kv5.out); have Kr6 := hH ((h5.block (W.heap.size + 2) (by omega)).trans Kr5.out); clear h5) | ((with_reducible refine atW w5 ?_); refine load9 _ rfl (by rfl) _ rfl Kc5.out rfl ?_))
 refine bodyPost_ret (results_cell_row Tryz.results43 _ _ _ 31 _ (0, 0) _ rfl Kr7.out Tryz.underlying31 rfl szCmd) rfl ?_
 exact ⟨rfl, HB7.out⟩
theorem decide_fn (c : Cm) (l : Pl) (po : List Opr) (vo : Value) (v : Vlu) (vd : Value) (W : World) (h : CmAt W c l) (hpo : SlG eO W vo po) (hvd : DlV W vd v.2.2) (hd : decB c = false) (ho : c.ops ≠ []) (hg : v.1 = false) : Calls Tryz.prog 43 #[cmV c l, vo, vlV v vd] W (RetL W (deciC c po v) (dlL c l v vo vd)) := by
 have HD := hH (fun (Y : World) => isDecided_any c l Y)
 have HH := hH (fun (Y : World) (hY : Below W.heap.size W Y) => hasOps_any ⟨c.id, c.ops, 2, c.prom, c.vote, c.fast, c.seen, c.bound, true, c.ballot, v, c.ready, c.writes, c.pairs⟩ { l with d := vd } Y ⟨h.o.later hY, h.s.later hY, hvd.later hY, h.w.later hY, h.p.later hY⟩)
 obtain ⟨vg, ⟨u, v⟩, vds⟩ := v
 obtain ⟨va, vcp, vF, rfl, _⟩ := hvd
 generalize vF.length = vn at *
 unfold vlV
 obtain ⟨poa, poc, rfl⟩ := hpo.form
 clear hpo
 generalize po.length = pon at *
 generalize hv : deciC c po (vg, (u, v), vds) = cv
 unfold dlL
 try simp only
 obtain ⟨⟨id1, id2⟩, ops, phase, ⟨p1, p2⟩, ⟨v1, v2⟩, fast, seen, ⟨b1, b2⟩, has, ⟨q1, q2⟩, ⟨gone, ⟨t1, t2⟩, deps⟩, ready, writes, pairs⟩ := c
 obtain ⟨lo, ls, ld, lw, lp⟩ := l
 try simp only at h
 obtain ⟨oa, oc, rfl⟩ := h.o.form
 obtain ⟨sa, sc, sF, rfl, _⟩ := h.s
 obtain ⟨da, dc, dF, rfl, _⟩ := h.d
 obtain ⟨wa, wc, rfl⟩ := h.w.form
 obtain ⟨pa, pc, rfl⟩ := h.p.form
 clear h
 simp only [cmV] at *
 try simp only at ho hg
 have HON : Hid (ops.length = 0 ↔ ops = []) := List.length_eq_zero_iff
 generalize ops.length = on at *
 generalize sF.length = sn at *
 generalize dF.length = dn at *
 generalize writes.length = wn at *
 generalize pairs.length = pn at *
 unfold deciC at hv
 simp only at hv
 rw [hd] at HD hv ⊢
 simp only [Bool.false_eq_true, if_false] at hv ⊢
 subst hg
 have hb0 : (((on : Nat) : Int) == 0) = false := by
  have : on ≠ 0 := fun e => ho (HON.out.1 e)
  simpa using this
 rw [if_neg (by rintro ⟨h1, h2⟩; exact ho h1)] at hv ⊢
 simp only [decide_eq_false ho, Bool.not_false] at HH
 subst hv
 clear ho hd
 clear HON
 obtain ⟨w0, he0, hw0, kQc, kQv, kQr, hb0⟩ := boxes3 W (.cells (r22 id1 id2 (.slice oa on oc) phase p1 p2 v1 v2 fast (.slice sa sn sc) b1 b2 has q1 q2 gone t1 t2 (.slice da dn dc) ready (.slice wa wn wc) (.slice pa pn pc)) 31) (.cells #[.bool false, .int .i64 u, .int .i64 v, .slice va vn vcp] 27) (.cells z22 31)
 have Kc0 := hH kQc
 have Kv0 := hH kQv
 have Kr0 := hH kQr
 have HB0 := hH hb0
 have HE0 := hH he0
 clear he0 hb0 kQc kQv kQr
 go_enter Tryz.func43, Tryz.ntmps43
 go_upto_region 1 with fail
 rw [← HE0.out]
 go_upto_region 4 with (first | go_skip | ((with_reducible refine atW w1 ?_); refine wpList_store_part _ _ _ rfl (by rfl) _ 3 rfl rfl (cs := #[.int .i64 2]) rfl Kc1.out (by kernel_rfl) (by simp) (by simp [Value.oneCell']) (D := (r22 id1 id2 (.slice oa on oc) 2 p1 p2 v1 v2 fast (.slice sa sn sc) b1 b2 has q1 q2 gone t1 t2 (.slice da dn dc) ready (.slice wa wn wc) (.slice pa pn pc))) rfl ?_; intro w2 h1 h2; have Kc2 := hH h1; have hw2 := Nat.le_trans hw1 h2.size; have HB2 : Hid (Below W.heap.size W w2) := hH (below_grown9 HB1.out h2 (by omega)); have Kv2 := hH (grown_other9 Kv1.out h2 (by omega) (by omega)); have Kr2 := hH (grown_other9 Kr1.out h2 (by omega) (by omega)); clear h1 h2) | ((with_reducible refine atC w0 ?_); go_at_call 119; refine (HD.out _).mono ?_; rintro e w1 ⟨rfl, h5⟩; have hw1 := Nat.le_trans hw0 h5.size; have HB1 : Hid (Below W.heap.size W w1) := hH (blThen HB0.out h5); have Kc1 := hH ((h5.block W.heap.size (by omega)).trans Kc0.out); have Kv1 := hH ((h5.block (W.heap.size + 1) (by omega)).trans Kv0.out); have Kr1 := hH ((h5.block (W.heap.size + 2) (by omega)).trans Kr0.out); clear h5) | ((with_reducible refine atW w0 ?_); refine load9 _ rfl (by rfl) _ rfl Kc0.out rfl ?_))
 refine wp_region_held_drew (S := fun Y => Y.cell? ⟨(W.heap.size + 1), 0, none⟩ = some (.bool false) ∧ Y.cell? ⟨(W.heap.size + 1), 1, none⟩ = some (.int .i64 u) ∧ Y.cell? ⟨(W.heap.size + 1), 2, none⟩ = some (.int .i64 v) ∧ Y.cell? ⟨(W.heap.size + 1), 3, none⟩ = some (.slice va vn vcp)) (by kernel_rfl) (⟨cell_row Kv2.out 0 _ rfl, cell_row Kv2.out 1 _ rfl, cell_row Kv2.out 2 _ rfl, cell_row Kv2.out 3 _ rfl⟩) (fun hHeld => ?_)
 have Kc3 : Hid (w2.drew.heap[W.heap.size]? = some (.cells (r22 id1 id2 (.slice oa on oc) 2 p1 p2 v1 v2 fast (.slice sa sn sc) b1 b2 has q1 q2 gone t1 t2 (.slice da dn dc) ready (.slice wa wn wc) (.slice pa pn pc)) 31 (0, 0))) := Kc2.out
 have Kv3 : Hid (w2.drew.heap[(W.heap.size + 1)]? = some (.cells #[.bool false, .int .i64 u, .int .i64 v, .slice va vn vcp] 27 (0, 0))) := Kv2.out
 have Kr3 : Hid (w2.drew.heap[(W.heap.size + 2)]? = some (.cells z22 31 (0, 0))) := Kr2.out
 have HB3 : Hid (Below W.heap.size W w2.drew) := hH HB2.out.drew
 have hw3 : W.heap.size + 3 ≤ w2.drew.heap.size := hw2
 generalize w2.drew = w3 at *
 refine wpAnyH_take (i := 0) (oi := ⟨_, _, _, _, _, _⟩) (v := ?_) rfl (by kernel_rfl) (by kernel_rfl) (by kernel_rfl) (fun _ _ _ h => h) (Or.inl ⟨by rfl, ?_⟩) (by assumption) ?_
 rotate_left
 ·intro w hSw
  try dsimp only at hSw
  go_simp
  try with_reducible rfl
 try simp only [Act.put, sA9, sZ9, sS9]
 refine wpAnyH_take (i := 1) (oi := ⟨_, _, _, _, _, _⟩) (v := ?_) rfl (by kernel_rfl) (by kernel_rfl) (by kernel_rfl) (fun _ _ _ h => h) (Or.inl ⟨by rfl, ?_⟩) (by assumption) ?_
 rotate_left
 ·intro w hSw
  try dsimp only at hSw
  go_simp
  try with_reducible rfl
 try simp only [Act.put, sA9, sZ9, sS9]
 refine wpAnyH_ready (rs := [2]) (by kernel_rfl) (by simp) ?_
 refine AllReadyH.cons (o := ⟨_, _, _, _, _, _⟩) rfl (fun K hK => ?_) ?_
 rotate_left
 ·exact AllReadyH.nil
 refine wp_store_part _ _ _ rfl _ 12 rfl rfl (cs := #[.bool true]) rfl Kc3.out (by kernel_rfl) (by simp) (by simp [Value.oneCell']) (D := (r22 id1 id2 (.slice oa on oc) 2 p1 p2 v1 v2 fast (.slice sa sn sc) b1 b2 true q1 q2 gone t1 t2 (.slice da dn dc) ready (.slice wa wn wc) (.slice pa pn pc))) rfl ?_
 intro w4 h1 h2
 have Kc4 := hH h1; have hw4 := Nat.le_trans hw3 h2.size; have HB4 : Hid (Below W.heap.size W w4) := hH (below_grown9 HB3.out h2 (by omega)); have Kv4 := hH (grown_other9 Kv3.out h2 (by omega) (by omega)); have Kr4 := hH (grown_other9 Kr3.out h2 (by omega) (by omega)); clear h1 h2
 refine hK.out _ _ (⟨cell_row Kv4.out 0 _ rfl, cell_row Kv4.out 1 _ rfl, cell_row Kv4.out 2 _ rfl, cell_row Kv4.out 3 _ rfl⟩) (fun hHeld => ?_)
 clear hK K
 try simp only [Act.put, sA9, sZ9, sS9]
 refine wpAnyH_take (i := 3) (oi := ⟨_, _, _, _, _, _⟩) (v := ?_) rfl (by kernel_rfl) (by kernel_rfl) (by kernel_rfl) (fun _ _ _ h => h) (Or.inl ⟨by rfl, ?_⟩) (by assumption) ?_
 rotate_left
 ·intro w hSw
  try dsimp only at hSw
  go_simp
  try with_reducible rfl
 try simp only [Act.put, sA9, sZ9, sS9]
 refine wpAnyH_ready (rs := [4]) (by kernel_rfl) (by simp) ?_
 refine AllReadyH.cons (o := ⟨_, _, _, _, _, _⟩) rfl (fun K hK => ?_) ?_
 rotate_left
 ·exact AllReadyH.nil
 refine wp_store_part _ _ _ rfl _ 15 rfl rfl (cs := #[.bool false, .int .i64 u, .int .i64 v, .slice va vn vcp]) rfl Kc4.out (by kernel_rfl) (by simp) (by simp [Value.oneCell']) (D := (r22 id1 id2 (.slice oa on oc) 2 p1 p2 v1 v2 fast (.slice sa sn sc) b1 b2 true q1 q2 false u v (.slice va vn vcp) ready (.slice wa wn wc) (.slice pa pn pc))) rfl ?_
 intro w5 h1 h2
 have Kc5 := hH h1; have hw5 := Nat.le_trans hw4 h2.size; have HB5 : Hid (Below W.heap.size W w5) := hH (below_grown9 HB4.out h2 (by omega)); have Kv5 := hH (grown_other9 Kv4.out h2 (by omega) (by omega)); have Kr5 := hH (grown_other9 Kr4.out h2 (by omega) (by omega)); clear h1 h2
 refine hK.out _ _ (⟨cell_row Kv5.out 0 _ rfl, cell_row Kv5.out 1 _ rfl, cell_row Kv5.out 2 _ rfl, cell_row Kv5.out 3 _ rfl⟩) (fun hHeld => ?_)
 clear hK K
 try simp only [Act.put, sA9, sZ9, sS9]
 refine wpAnyH_done (by kernel_rfl) ?_ _
 go_wp2_with (first | go_skip | ((with_reducible refine atW w6 ?_); refine store9 _ _ rfl (by rfl) _ rfl rfl Kr6.out rfl rfl (by simp [Value.oneCell']) ?_; intro w7 h1 h2; have Kr7 := hH h1; have hw7 := Nat.le_trans hw6 h2.size; have HB7 : Hid (Below W.heap.size W w7) := hH (below_grown9 HB6.out h2 (by omega)); clear h1 h2) | ((with_reducible refine atW w6 ?_); refine load9 _ rfl (by rfl) _ rfl Kc6.out rfl ?_) | ((with_reducible refine atC w5 ?_); go_at_call 121; refine (HH.out _ HB5.out).mono ?_; rintro e w6 ⟨rfl, h5⟩; have hw6 := Nat.le_trans hw5 h5.size; have HB6 : Hid (Below W.heap.size W w6) := hH (blThen HB5.out h5); have Kc6 := hH ((h5.block W.heap.size (by omega)).trans Kc5.out); have Kr6 := hH ((h5.block (W.heap.size + 2) (by omega)).trans Kr5.out); clear h5) | ((with_reducible refine atW w5 ?_); refine load9 _ rfl (by rfl) _ rfl Kc5.out rfl ?_))
 refine bodyPost_ret (results_cell_row Tryz.results43 _ _ _ 31 _ (0, 0) _ rfl Kr7.out Tryz.underlying31 rfl szCmd) rfl ?_
 exact ⟨rfl, HB7.out⟩
theorem decide_fg (c : Cm) (l : Pl) (po : List Opr) (vo : Value) (v : Vlu) (vd : Value) (W : World) (h : CmAt W c l) (hpo : SlG eO W vo po) (hvd : DlV W vd v.2.2) (hd : decB c = false) (ho : c.ops ≠ []) (hg : v.1 = true) : Calls Tryz.prog 43 #[cmV c l, vo, vlV v vd] W (RetL W (deciC c po v) (dlL c l v vo vd)) := by
 have HD := hH (fun (Y : World) => isDecided_any c l Y)
 have HH := hH (fun (Y : World) (hY : Below W.heap.size W Y) => hasOps_any ⟨c.id, c.ops, 2, c.prom, c.vote, c.fast, c.seen, c.bound, true, c.ballot, v, c.ready, c.writes, c.pairs⟩ { l with d := vd } Y ⟨h.o.later hY, h.s.later hY, hvd.later hY, h.w.later hY, h.p.later hY⟩)
 obtain ⟨vg, ⟨u, v⟩, vds⟩ := v
 obtain ⟨va, vcp, vF, rfl, _⟩ := hvd
 generalize vF.length = vn at *
 unfold vlV
 obtain ⟨poa, poc, rfl⟩ := hpo.form
 clear hpo
 generalize po.length = pon at *
 generalize hv : deciC c po (vg, (u, v), vds) = cv
 unfold dlL
 try simp only
 obtain ⟨⟨id1, id2⟩, ops, phase, ⟨p1, p2⟩, ⟨v1, v2⟩, fast, seen, ⟨b1, b2⟩, has, ⟨q1, q2⟩, ⟨gone, ⟨t1, t2⟩, deps⟩, ready, writes, pairs⟩ := c
 obtain ⟨lo, ls, ld, lw, lp⟩ := l
 try simp only at h
 obtain ⟨oa, oc, rfl⟩ := h.o.form
 obtain ⟨sa, sc, sF, rfl, _⟩ := h.s
 obtain ⟨da, dc, dF, rfl, _⟩ := h.d
 obtain ⟨wa, wc, rfl⟩ := h.w.form
 obtain ⟨pa, pc, rfl⟩ := h.p.form
 clear h
 simp only [cmV] at *
 try simp only at ho hg
 have HON : Hid (ops.length = 0 ↔ ops = []) := List.length_eq_zero_iff
 generalize ops.length = on at *
 generalize sF.length = sn at *
 generalize dF.length = dn at *
 generalize writes.length = wn at *
 generalize pairs.length = pn at *
 unfold deciC at hv
 simp only at hv
 rw [hd] at HD hv ⊢
 simp only [Bool.false_eq_true, if_false] at hv ⊢
 subst hg
 have hb0 : (((on : Nat) : Int) == 0) = false := by
  have : on ≠ 0 := fun e => ho (HON.out.1 e)
  simpa using this
 rw [if_neg (by rintro ⟨h1, h2⟩; exact ho h1)] at hv ⊢
 simp only [decide_eq_false ho, Bool.not_false] at HH
 subst hv
 clear ho hd
 clear HON
 obtain ⟨w0, he0, hw0, kQc, kQv, kQr, hb0⟩ := boxes3 W (.cells (r22 id1 id2 (.slice oa on oc) phase p1 p2 v1 v2 fast (.slice sa sn sc) b1 b2 has q1 q2 gone t1 t2 (.slice da dn dc) ready (.slice wa wn wc) (.slice pa pn pc)) 31) (.cells #[.bool true, .int .i64 u, .int .i64 v, .slice va vn vcp] 27) (.cells z22 31)
 have Kc0 := hH kQc
 have Kv0 := hH kQv
 have Kr0 := hH kQr
 have HB0 := hH hb0
 have HE0 := hH he0
 clear he0 hb0 kQc kQv kQr
 go_enter Tryz.func43, Tryz.ntmps43
 go_upto_region 1 with fail
 rw [← HE0.out]
 go_upto_region 4 with (first | go_skip | ((with_reducible refine atW w1 ?_); refine wpList_store_part _ _ _ rfl (by rfl) _ 3 rfl rfl (cs := #[.int .i64 2]) rfl Kc1.out (by kernel_rfl) (by simp) (by simp [Value.oneCell']) (D := (r22 id1 id2 (.slice oa on oc) 2 p1 p2 v1 v2 fast (.slice sa sn sc) b1 b2 has q1 q2 gone t1 t2 (.slice da dn dc) ready (.slice wa wn wc) (.slice pa pn pc))) rfl ?_; intro w2 h1 h2; have Kc2 := hH h1; have hw2 := Nat.le_trans hw1 h2.size; have HB2 : Hid (Below W.heap.size W w2) := hH (below_grown9 HB1.out h2 (by omega)); have Kv2 := hH (grown_other9 Kv1.out h2 (by omega) (by omega)); have Kr2 := hH (grown_other9 Kr1.out h2 (by omega) (by omega)); clear h1 h2) | ((with_reducible refine atC w0 ?_); go_at_call 119; refine (HD.out _).mono ?_; rintro e w1 ⟨rfl, h5⟩; have hw1 := Nat.le_trans hw0 h5.size; have HB1 : Hid (Below W.heap.size W w1) := hH (blThen HB0.out h5); have Kc1 := hH ((h5.block W.heap.size (by omega)).trans Kc0.out); have Kv1 := hH ((h5.block (W.heap.size + 1) (by omega)).trans Kv0.out); have Kr1 := hH ((h5.block (W.heap.size + 2) (by omega)).trans Kr0.out); clear h5) | ((with_reducible refine atW w0 ?_); refine load9 _ rfl (by rfl) _ rfl Kc0.out rfl ?_))
 refine wp_region_held_drew (S := fun Y => Y.cell? ⟨(W.heap.size + 1), 0, none⟩ = some (.bool true) ∧ Y.cell? ⟨(W.heap.size + 1), 1, none⟩ = some (.int .i64 u) ∧ Y.cell? ⟨(W.heap.size + 1), 2, none⟩ = some (.int .i64 v) ∧ Y.cell? ⟨(W.heap.size + 1), 3, none⟩ = some (.slice va vn vcp)) (by kernel_rfl) (⟨cell_row Kv2.out 0 _ rfl, cell_row Kv2.out 1 _ rfl, cell_row Kv2.out 2 _ rfl, cell_row Kv2.out 3 _ rfl⟩) (fun hHeld => ?_)
 have Kc3 : Hid (w2.drew.heap[W.heap.size]? = some (.cells (r22 id1 id2 (.slice oa on oc) 2 p1 p2 v1 v2 fast (.slice sa sn sc) b1 b2 has q1 q2 gone t1 t2 (.slice da dn dc) ready (.slice wa wn wc) (.slice pa pn pc)) 31 (0, 0))) := Kc2.out
 have Kv3 : Hid (w2.drew.heap[(W.heap.size + 1)]? = some (.cells #[.bool true, .int .i64 u, .int .i64 v, .slice va vn vcp] 27 (0, 0))) := Kv2.out
 have Kr3 : Hid (w2.drew.heap[(W.heap.size + 2)]? = some (.cells z22 31 (0, 0))) := Kr2.out
 have HB3 : Hid (Below W.heap.size W w2.drew) := hH HB2.out.drew
 have hw3 : W.heap.size + 3 ≤ w2.drew.heap.size := hw2
 generalize w2.drew = w3 at *
 refine wpAnyH_take (i := 0) (oi := ⟨_, _, _, _, _, _⟩) (v := ?_) rfl (by kernel_rfl) (by kernel_rfl) (by kernel_rfl) (fun _ _ _ h => h) (Or.inl ⟨by rfl, ?_⟩) (by assumption) ?_
 rotate_left
 ·intro w hSw
  try dsimp only at hSw
  go_simp
  try with_reducible rfl
 try simp only [Act.put, sA9, sZ9, sS9]
 refine wpAnyH_take (i := 1) (oi := ⟨_, _, _, _, _, _⟩) (v := ?_) rfl (by kernel_rfl) (by kernel_rfl) (by kernel_rfl) (fun _ _ _ h => h) (Or.inl ⟨by rfl, ?_⟩) (by assumption) ?_
 rotate_left
 ·intro w hSw
  try dsimp only at hSw
  go_simp
  try with_reducible rfl
 try simp only [Act.put, sA9, sZ9, sS9]
 refine wpAnyH_ready (rs := [2]) (by kernel_rfl) (by simp) ?_
 refine AllReadyH.cons (o := ⟨_, _, _, _, _, _⟩) rfl (fun K hK => ?_) ?_
 rotate_left
 ·exact AllReadyH.nil
 refine wp_store_part _ _ _ rfl _ 12 rfl rfl (cs := #[.bool true]) rfl Kc3.out (by kernel_rfl) (by simp) (by simp [Value.oneCell']) (D := (r22 id1 id2 (.slice oa on oc) 2 p1 p2 v1 v2 fast (.slice sa sn sc) b1 b2 true q1 q2 gone t1 t2 (.slice da dn dc) ready (.slice wa wn wc) (.slice pa pn pc))) rfl ?_
 intro w4 h1 h2
 have Kc4 := hH h1; have hw4 := Nat.le_trans hw3 h2.size; have HB4 : Hid (Below W.heap.size W w4) := hH (below_grown9 HB3.out h2 (by omega)); have Kv4 := hH (grown_other9 Kv3.out h2 (by omega) (by omega)); have Kr4 := hH (grown_other9 Kr3.out h2 (by omega) (by omega)); clear h1 h2
 refine hK.out _ _ (⟨cell_row Kv4.out 0 _ rfl, cell_row Kv4.out 1 _ rfl, cell_row Kv4.out 2 _ rfl, cell_row Kv4.out 3 _ rfl⟩) (fun hHeld => ?_)
 clear hK K
 try simp only [Act.put, sA9, sZ9, sS9]
 refine wpAnyH_take (i := 3) (oi := ⟨_, _, _, _, _, _⟩) (v := ?_) rfl (by kernel_rfl) (by kernel_rfl) (by kernel_rfl) (fun _ _ _ h => h) (Or.inl ⟨by rfl, ?_⟩) (by assumption) ?_
 rotate_left
 ·intro w hSw
  try dsimp only at hSw
  go_simp
  try with_reducible rfl
 try simp only [Act.put, sA9, sZ9, sS9]
 refine wpAnyH_ready (rs := [4]) (by kernel_rfl) (by simp) ?_
 refine AllReadyH.cons (o := ⟨_, _, _, _, _, _⟩) rfl (fun K hK => ?_) ?_
 rotate_left
 ·exact AllReadyH.nil
 refine wp_store_part _ _ _ rfl _ 15 rfl rfl (cs := #[.bool true, .int .i64 u, .int .i64 v, .slice va vn vcp]) rfl Kc4.out (by kernel_rfl) (by simp) (by simp [Value.oneCell']) (D := (r22 id1 id2 (.slice oa on oc) 2 p1 p2 v1 v2 fast (.slice sa sn sc) b1 b2 true q1 q2 true u v (.slice va vn vcp) ready (.slice wa wn wc) (.slice pa pn pc))) rfl ?_
 intro w5 h1 h2
 have Kc5 := hH h1; have hw5 := Nat.le_trans hw4 h2.size; have HB5 : Hid (Below W.heap.size W w5) := hH (below_grown9 HB4.out h2 (by omega)); have Kv5 := hH (grown_other9 Kv4.out h2 (by omega) (by omega)); have Kr5 := hH (grown_other9 Kr4.out h2 (by omega) (by omega)); clear h1 h2
 refine hK.out _ _ (⟨cell_row Kv5.out 0 _ rfl, cell_row Kv5.out 1 _ rfl, cell_row Kv5.out 2 _ rfl, cell_row Kv5.out 3 _ rfl⟩) (fun hHeld => ?_)
 clear hK K
 try simp only [Act.put, sA9, sZ9, sS9]
 refine wpAnyH_done (by kernel_rfl) ?_ _
 go_wp2_with (first | go_skip | ((with_reducible refine atW w6 ?_); refine store9 _ _ rfl (by rfl) _ rfl rfl Kr6.out rfl rfl (by simp [Value.oneCell']) ?_; intro w7 h1 h2; have Kr7 := hH h1; have hw7 := Nat.le_trans hw6 h2.size; have HB7 : Hid (Below W.heap.size W w7) := hH (below_grown9 HB6.out h2 (by omega)); clear h1 h2) | ((with_reducible refine atW w6 ?_); refine load9 _ rfl (by rfl) _ rfl Kc6.out rfl ?_) | ((with_reducible refine atC w5 ?_); go_at_call 121; refine (HH.out _ HB5.out).mono ?_; rintro e w6 ⟨rfl, h5⟩; have hw6 := Nat.le_trans hw5 h5.size; have HB6 : Hid (Below W.heap.size W w6) := hH (blThen HB5.out h5); have Kc6 := hH ((h5.block W.heap.size (by omega)).trans Kc5.out); have Kr6 := hH ((h5.block (W.heap.size + 2) (by omega)).trans Kr5.out); clear h5) | ((with_reducible refine atW w5 ?_); refine load9 _ rfl (by rfl) _ rfl Kc5.out rfl ?_))
 refine bodyPost_ret (results_cell_row Tryz.results43 _ _ _ 31 _ (0, 0) _ rfl Kr7.out Tryz.underlying31 rfl szCmd) rfl ?_
 exact ⟨rfl, HB7.out⟩
theorem decide_any (c : Cm) (l : Pl) (po : List Opr) (vo : Value) (v : Vlu) (vd : Value) (W : World) (h : CmAt W c l) (hpo : SlG eO W vo po) (hvd : DlV W vd v.2.2) : Calls Tryz.prog 43 #[cmV c l, vo, vlV v vd] W (RetL W (deciC c po v) (dlL c l v vo vd)) := by
 cases hd : decB c
 ·by_cases ho : c.ops = []
  ·cases hg : v.1
   ·exact decide_en c l po vo v vd W h hpo hvd hd ho hg
   ·exact decide_eg c l po vo v vd W h hpo hvd hd ho hg
  ·cases hg : v.1
   ·exact decide_fn c l po vo v vd W h hpo hvd hd ho hg
   ·exact decide_fg c l po vo v vd W h hpo hvd hd ho hg
 ·exact decide_dec c l po vo v vd W h hpo hvd hd

theorem accept_any (c : Cm) (l : Pl) (b : Stp) (v : Vlu) (vd : Value) (W : World) (h : CmAt W c l) (hvd : DlV W vd v.2.2) : Calls Tryz.prog 42 #[cmV c l, .agg #[.int .i64 b.1, .int .i64 b.2], vlV v vd] W (RetB W (accC c b v) (if proB c b = true then { l with d := vd } else l) (proB c b)) := by
 have HP := hH (fun (Y : World) (hY : Below W.heap.size W Y) => bind_any c l b v.2.1 Y (h.later hY))
 obtain ⟨x, y⟩ := b
 obtain ⟨vg, ⟨u, v⟩, vds⟩ := v
 obtain ⟨va, vcp, vF, rfl, _⟩ := hvd
 generalize vF.length = vn at *
 unfold vlV
 generalize hv : accC c (x, y) (vg, (u, v), vds) = cv
 obtain ⟨⟨id1, id2⟩, ops, phase, ⟨p1, p2⟩, ⟨v1, v2⟩, fast, seen, ⟨b1, b2⟩, has, ⟨q1, q2⟩, ⟨gone, ⟨t1, t2⟩, deps⟩, ready, writes, pairs⟩ := c
 obtain ⟨lo, ls, ld, lw, lp⟩ := l
 try simp only at h
 obtain ⟨oa, oc, rfl⟩ := h.o.form
 obtain ⟨sa, sc, sF, rfl, _⟩ := h.s
 obtain ⟨da, dc, dF, rfl, _⟩ := h.d
 obtain ⟨wa, wc, rfl⟩ := h.w.form
 obtain ⟨pa, pc, rfl⟩ := h.p.form
 clear h
 simp only [cmV] at *
 generalize ops.length = on at *
 generalize sF.length = sn at *
 generalize dF.length = dn at *
 generalize writes.length = wn at *
 generalize pairs.length = pn at *
 unfold accC at hv
 cases hb : proB ⟨(id1, id2), ops, phase, (p1, p2), (v1, v2), fast, seen, (b1, b2), has, (q1, q2), (gone, (t1, t2), deps), ready, writes, pairs⟩ (x, y)
 ·have hpc : binC ⟨(id1, id2), ops, phase, (p1, p2), (v1, v2), fast, seen, (b1, b2), has, (q1, q2), (gone, (t1, t2), deps), ready, writes, pairs⟩ (x, y) (u, v) = ⟨(id1, id2), ops, phase, (p1, p2), (v1, v2), fast, seen, (b1, b2), has, (q1, q2), (gone, (t1, t2), deps), ready, writes, pairs⟩ := by unfold binC; rw [hb]; rfl
  rw [hb] at HP hv
  rw [hpc] at HP
  simp only [Bool.false_eq_true, if_false] at hv ⊢
  subst hv
  clear hb hpc
  obtain ⟨w0, he0, hw0, kQc, kQb, kQv, kQr, hb0⟩ := boxes4 W (.cells (r22 id1 id2 (.slice oa on oc) phase p1 p2 v1 v2 fast (.slice sa sn sc) b1 b2 has q1 q2 gone t1 t2 (.slice da dn dc) ready (.slice wa wn wc) (.slice pa pn pc)) 31) (.cells #[.int .i64 x, .int .i64 y] 23) (.cells #[.bool vg, .int .i64 u, .int .i64 v, .slice va vn vcp] 27) (.cells z22 31)
  have Kc0 := hH kQc
  have Kb0 := hH kQb
  have Kv0 := hH kQv
  have Kr0 := hH kQr
  have HB0 := hH hb0
  have HE0 := hH he0
  clear he0 hb0 kQc kQb kQv kQr
  go_enter Tryz.func42, Tryz.ntmps42
  go_upto_region 1 with fail
  rw [← HE0.out]
  go_wp2_with (first | go_skip | ((with_reducible refine atW w2 ?_); refine store9 _ _ rfl (by rfl) _ rfl rfl Kr2.out rfl rfl (by simp [Value.oneCell']) ?_; intro w3 h1 h2; have Kr3 := hH h1; have hw3 := Nat.le_trans hw2 h2.size; have HB3 : Hid (Below W.heap.size W w3) := hH (below_grown9 HB2.out h2 (by omega)); have Kc3 := hH (grown_other9 Kc2.out h2 (by omega) (by omega)); have Kb3 := hH (grown_other9 Kb2.out h2 (by omega) (by omega)); have Kv3 := hH (grown_other9 Kv2.out h2 (by omega) (by omega)); clear h1 h2) | ((with_reducible refine atW w2 ?_); refine load9 _ rfl (by rfl) _ rfl Kc2.out rfl ?_) | ((with_reducible refine atW w1 ?_); refine store9 _ _ rfl (by rfl) _ rfl rfl Kc1.out rfl rfl (by simp [Value.oneCell']) ?_; intro w2 h1 h2; have Kc2 := hH h1; have hw2 := Nat.le_trans hw1 h2.size; have HB2 : Hid (Below W.heap.size W w2) := hH (below_grown9 HB1.out h2 (by omega)); have Kb2 := hH (grown_other9 Kb1.out h2 (by omega) (by omega)); have Kv2 := hH (grown_other9 Kv1.out h2 (by omega) (by omega)); have Kr2 := hH (grown_other9 Kr1.out h2 (by omega) (by omega)); clear h1 h2) | ((with_reducible refine atC w0 ?_); go_at_call 86; refine (HP.out _ HB0.out).mono ?_; intro e w1 h; unfold RetB at h; obtain ⟨rfl, h5⟩ := h; simp only [cmV]; have hw1 := Nat.le_trans hw0 h5.size; have HB1 : Hid (Below W.heap.size W w1) := hH (blThen HB0.out h5); have Kc1 := hH ((h5.block W.heap.size (by omega)).trans Kc0.out); have Kb1 := hH ((h5.block (W.heap.size + 1) (by omega)).trans Kb0.out); have Kv1 := hH ((h5.block (W.heap.size + 2) (by omega)).trans Kv0.out); have Kr1 := hH ((h5.block (W.heap.size + 3) (by omega)).trans Kr0.out); clear h5) | ((with_reducible refine atW w0 ?_); refine wpList_load_part _ _ rfl (by rfl) _ 1 rfl Kv0.out Tryz.underlying23 rfl #[.int .i64 u, .int .i64 v] (by kernel_rfl) (two_at rfl rfl) ?_) | ((with_reducible refine atW w0 ?_); refine wpList_load_part _ _ rfl (by rfl) _ 0 rfl Kb0.out Tryz.underlying23 rfl #[.int .i64 x, .int .i64 y] (by kernel_rfl) (two_at rfl rfl) ?_) | ((with_reducible refine atW w0 ?_); refine load9 _ rfl (by rfl) _ rfl Kc0.out rfl ?_))
  refine bodyPost_ret (results_cell_tmp9 Tryz.results42 _ _ _ 31 _ (0, 0) _ rfl Kr3.out Tryz.underlying31 rfl szCmd) rfl ?_
  exact ⟨rfl, HB3.out⟩
 ·have hpc : binC ⟨(id1, id2), ops, phase, (p1, p2), (v1, v2), fast, seen, (b1, b2), has, (q1, q2), (gone, (t1, t2), deps), ready, writes, pairs⟩ (x, y) (u, v) = ⟨(id1, id2), ops, phase, (x, y), (v1, v2), fast, seen, S1.maxL [(b1, b2), (u, v)], has, (q1, q2), (gone, (t1, t2), deps), ready, writes, pairs⟩ := by unfold binC; rw [hb]; rfl
  rw [hb] at HP hv
  rw [hpc] at HP
  simp only [if_true] at hv ⊢
  subst hv
  clear hb hpc
  generalize S1.maxL [(b1, b2), (u, v)] = M at *
  obtain ⟨w0, he0, hw0, kQc, kQb, kQv, kQr, hb0⟩ := boxes4 W (.cells (r22 id1 id2 (.slice oa on oc) phase p1 p2 v1 v2 fast (.slice sa sn sc) b1 b2 has q1 q2 gone t1 t2 (.slice da dn dc) ready (.slice wa wn wc) (.slice pa pn pc)) 31) (.cells #[.int .i64 x, .int .i64 y] 23) (.cells #[.bool vg, .int .i64 u, .int .i64 v, .slice va vn vcp] 27) (.cells z22 31)
  have Kc0 := hH kQc
  have Kb0 := hH kQb
  have Kv0 := hH kQv
  have Kr0 := hH kQr
  have HB0 := hH hb0
  have HE0 := hH he0
  clear he0 hb0 kQc kQb kQv kQr
  go_enter Tryz.func42, Tryz.ntmps42
  go_upto_region 1 with fail
  rw [← HE0.out]
  go_upto_region 3 with (first | go_skip | ((with_reducible refine atW w1 ?_); refine store9 _ _ rfl (by rfl) _ rfl rfl Kc1.out rfl rfl (by simp [Value.oneCell']) ?_; intro w2 h1 h2; have Kc2 := hH h1; have hw2 := Nat.le_trans hw1 h2.size; have HB2 : Hid (Below W.heap.size W w2) := hH (below_grown9 HB1.out h2 (by omega)); have Kb2 := hH (grown_other9 Kb1.out h2 (by omega) (by omega)); have Kv2 := hH (grown_other9 Kv1.out h2 (by omega) (by omega)); have Kr2 := hH (grown_other9 Kr1.out h2 (by omega) (by omega)); clear h1 h2) | ((with_reducible refine atC w0 ?_); go_at_call 86; refine (HP.out _ HB0.out).mono ?_; intro e w1 h; unfold RetB at h; obtain ⟨rfl, h5⟩ := h; simp only [cmV]; have hw1 := Nat.le_trans hw0 h5.size; have HB1 : Hid (Below W.heap.size W w1) := hH (blThen HB0.out h5); have Kc1 := hH ((h5.block W.heap.size (by omega)).trans Kc0.out); have Kb1 := hH ((h5.block (W.heap.size + 1) (by omega)).trans Kb0.out); have Kv1 := hH ((h5.block (W.heap.size + 2) (by omega)).trans Kv0.out); have Kr1 := hH ((h5.block (W.heap.size + 3) (by omega)).trans Kr0.out); clear h5) | ((with_reducible refine atW w0 ?_); refine wpList_load_part _ _ rfl (by rfl) _ 1 rfl Kv0.out Tryz.underlying23 rfl #[.int .i64 u, .int .i64 v] (by kernel_rfl) (two_at rfl rfl) ?_) | ((with_reducible refine atW w0 ?_); refine wpList_load_part _ _ rfl (by rfl) _ 0 rfl Kb0.out Tryz.underlying23 rfl #[.int .i64 x, .int .i64 y] (by kernel_rfl) (two_at rfl rfl) ?_) | ((with_reducible refine atW w0 ?_); refine load9 _ rfl (by rfl) _ rfl Kc0.out rfl ?_))
  refine wp_region_held_drew (S := fun Y => Y.cell? ⟨(W.heap.size + 1), 0, none⟩ = some (.int .i64 x) ∧ Y.cell? ⟨(W.heap.size + 1), 1, none⟩ = some (.int .i64 y) ∧ Y.cell? ⟨(W.heap.size + 2), 0, none⟩ = some (.bool vg) ∧ Y.cell? ⟨(W.heap.size + 2), 1, none⟩ = some (.int .i64 u) ∧ Y.cell? ⟨(W.heap.size + 2), 2, none⟩ = some (.int .i64 v) ∧ Y.cell? ⟨(W.heap.size + 2), 3, none⟩ = some (.slice va vn vcp)) (by kernel_rfl) (⟨cell_row Kb2.out 0 _ rfl, cell_row Kb2.out 1 _ rfl, cell_row Kv2.out 0 _ rfl, cell_row Kv2.out 1 _ rfl, cell_row Kv2.out 2 _ rfl, cell_row Kv2.out 3 _ rfl⟩) (fun hHeld => ?_)
  have Kc3 : Hid (w2.drew.heap[W.heap.size]? = some (.cells (r22 id1 id2 (.slice oa on oc) phase x y v1 v2 fast (.slice sa sn sc) M.1 M.2 has q1 q2 gone t1 t2 (.slice da dn dc) ready (.slice wa wn wc) (.slice pa pn pc)) 31 (0, 0))) := Kc2.out
  have Kb3 : Hid (w2.drew.heap[(W.heap.size + 1)]? = some (.cells #[.int .i64 x, .int .i64 y] 23 (0, 0))) := Kb2.out
  have Kv3 : Hid (w2.drew.heap[(W.heap.size + 2)]? = some (.cells #[.bool vg, .int .i64 u, .int .i64 v, .slice va vn vcp] 27 (0, 0))) := Kv2.out
  have Kr3 : Hid (w2.drew.heap[(W.heap.size + 3)]? = some (.cells z22 31 (0, 0))) := Kr2.out
  have HB3 : Hid (Below W.heap.size W w2.drew) := hH HB2.out.drew
  have hw3 : W.heap.size + 4 ≤ w2.drew.heap.size := hw2
  generalize w2.drew = w3 at *
  refine wpAnyH_take (i := 0) (oi := ⟨_, _, _, _, _, _⟩) (v := ?_) rfl (by kernel_rfl) (by kernel_rfl) (by kernel_rfl) (fun _ _ _ h => h) (Or.inl ⟨by rfl, ?_⟩) (by assumption) ?_
  rotate_left
  ·intro w hSw
   try dsimp only at hSw
   go_simp
   try with_reducible rfl
  try simp only [Act.put, sA9, sZ9, sS9]
  refine wpAnyH_take (i := 1) (oi := ⟨_, _, _, _, _, _⟩) (v := ?_) rfl (by kernel_rfl) (by kernel_rfl) (by kernel_rfl) (fun _ _ _ h => h) (Or.inl ⟨by rfl, ?_⟩) (by assumption) ?_
  rotate_left
  ·intro w hSw
   try dsimp only at hSw
   go_simp
   try with_reducible rfl
  try simp only [Act.put, sA9, sZ9, sS9]
  refine wpAnyH_take (i := 2) (oi := ⟨_, _, _, _, _, _⟩) (v := ?_) rfl (by kernel_rfl) (by kernel_rfl) (by kernel_rfl) (fun _ _ _ h => h) (Or.inl ⟨by rfl, ?_⟩) (by assumption) ?_
  rotate_left
  ·intro w hSw
   try dsimp only at hSw
   go_simp
   try with_reducible rfl
  try simp only [Act.put, sA9, sZ9, sS9]
  refine wpAnyH_ready (rs := [3]) (by kernel_rfl) (by simp) ?_
  refine AllReadyH.cons (o := ⟨_, _, _, _, _, _⟩) rfl (fun K hK => ?_) ?_
  rotate_left
  ·exact AllReadyH.nil
  refine wp_store_part _ _ _ rfl _ 12 rfl rfl (cs := #[.bool true]) rfl Kc3.out (by kernel_rfl) (by simp) (by simp [Value.oneCell']) (D := (r22 id1 id2 (.slice oa on oc) phase x y v1 v2 fast (.slice sa sn sc) M.1 M.2 true q1 q2 gone t1 t2 (.slice da dn dc) ready (.slice wa wn wc) (.slice pa pn pc))) rfl ?_
  intro w4 h1 h2
  have Kc4 := hH h1; have hw4 := Nat.le_trans hw3 h2.size; have HB4 : Hid (Below W.heap.size W w4) := hH (below_grown9 HB3.out h2 (by omega)); have Kb4 := hH (grown_other9 Kb3.out h2 (by omega) (by omega)); have Kv4 := hH (grown_other9 Kv3.out h2 (by omega) (by omega)); have Kr4 := hH (grown_other9 Kr3.out h2 (by omega) (by omega)); clear h1 h2
  refine hK.out _ _ (⟨cell_row Kb4.out 0 _ rfl, cell_row Kb4.out 1 _ rfl, cell_row Kv4.out 0 _ rfl, cell_row Kv4.out 1 _ rfl, cell_row Kv4.out 2 _ rfl, cell_row Kv4.out 3 _ rfl⟩) (fun hHeld => ?_)
  clear hK K
  try simp only [Act.put, sA9, sZ9, sS9]
  refine wpAnyH_take (i := 4) (oi := ⟨_, _, _, _, _, _⟩) (v := ?_) rfl (by kernel_rfl) (by kernel_rfl) (by kernel_rfl) (fun _ _ _ h => h) (Or.inl ⟨by rfl, ?_⟩) (by assumption) ?_
  rotate_left
  ·intro w hSw
   try dsimp only at hSw
   go_simp
   try with_reducible rfl
  try simp only [Act.put, sA9, sZ9, sS9]
  refine wpAnyH_ready (rs := [5]) (by kernel_rfl) (by simp) ?_
  refine AllReadyH.cons (o := ⟨_, _, _, _, _, _⟩) rfl (fun K hK => ?_) ?_
  rotate_left
  ·exact AllReadyH.nil
  refine wp_store_part _ _ _ rfl _ 13 rfl rfl (cs := #[.int .i64 x, .int .i64 y]) rfl Kc4.out (by kernel_rfl) (by simp) (by simp [Value.oneCell']) (D := (r22 id1 id2 (.slice oa on oc) phase x y v1 v2 fast (.slice sa sn sc) M.1 M.2 true x y gone t1 t2 (.slice da dn dc) ready (.slice wa wn wc) (.slice pa pn pc))) rfl ?_
  intro w5 h1 h2
  have Kc5 := hH h1; have hw5 := Nat.le_trans hw4 h2.size; have HB5 : Hid (Below W.heap.size W w5) := hH (below_grown9 HB4.out h2 (by omega)); have Kb5 := hH (grown_other9 Kb4.out h2 (by omega) (by omega)); have Kv5 := hH (grown_other9 Kv4.out h2 (by omega) (by omega)); have Kr5 := hH (grown_other9 Kr4.out h2 (by omega) (by omega)); clear h1 h2
  refine hK.out _ _ (⟨cell_row Kb5.out 0 _ rfl, cell_row Kb5.out 1 _ rfl, cell_row Kv5.out 0 _ rfl, cell_row Kv5.out 1 _ rfl, cell_row Kv5.out 2 _ rfl, cell_row Kv5.out 3 _ rfl⟩) (fun hHeld => ?_)
  clear hK K
  try simp only [Act.put, sA9, sZ9, sS9]
  refine wpAnyH_take (i := 6) (oi := ⟨_, _, _, _, _, _⟩) (v := ?_) rfl (by kernel_rfl) (by kernel_rfl) (by kernel_rfl) (fun _ _ _ h => h) (Or.inl ⟨by rfl, ?_⟩) (by assumption) ?_
  rotate_left
  ·intro w hSw
   try dsimp only at hSw
   go_simp
   try with_reducible rfl
  try simp only [Act.put, sA9, sZ9, sS9]
  refine wpAnyH_ready (rs := [7]) (by kernel_rfl) (by simp) ?_
  refine AllReadyH.cons (o := ⟨_, _, _, _, _, _⟩) rfl (fun K hK => ?_) ?_
  rotate_left
  ·exact AllReadyH.nil
  refine wp_store_part _ _ _ rfl _ 15 rfl rfl (cs := #[.bool vg, .int .i64 u, .int .i64 v, .slice va vn vcp]) rfl Kc5.out (by kernel_rfl) (by simp) (by simp [Value.oneCell']) (D := (r22 id1 id2 (.slice oa on oc) phase x y v1 v2 fast (.slice sa sn sc) M.1 M.2 true x y vg u v (.slice va vn vcp) ready (.slice wa wn wc) (.slice pa pn pc))) rfl ?_
  intro w6 h1 h2
  have Kc6 := hH h1; have hw6 := Nat.le_trans hw5 h2.size; have HB6 : Hid (Below W.heap.size W w6) := hH (below_grown9 HB5.out h2 (by omega)); have Kb6 := hH (grown_other9 Kb5.out h2 (by omega) (by omega)); have Kv6 := hH (grown_other9 Kv5.out h2 (by omega) (by omega)); have Kr6 := hH (grown_other9 Kr5.out h2 (by omega) (by omega)); clear h1 h2
  refine hK.out _ _ (⟨cell_row Kb6.out 0 _ rfl, cell_row Kb6.out 1 _ rfl, cell_row Kv6.out 0 _ rfl, cell_row Kv6.out 1 _ rfl, cell_row Kv6.out 2 _ rfl, cell_row Kv6.out 3 _ rfl⟩) (fun hHeld => ?_)
  clear hK K
  try simp only [Act.put, sA9, sZ9, sS9]
  refine wpAnyH_done (by kernel_rfl) ?_ _
  go_wp2_with (first | go_skip | ((with_reducible refine atW w6 ?_); refine store9 _ _ rfl (by rfl) _ rfl rfl Kr6.out rfl rfl (by simp [Value.oneCell']) ?_; intro w7 h1 h2; have Kr7 := hH h1; have hw7 := Nat.le_trans hw6 h2.size; have HB7 : Hid (Below W.heap.size W w7) := hH (below_grown9 HB6.out h2 (by omega)); clear h1 h2) | ((with_reducible refine atW w6 ?_); refine load9 _ rfl (by rfl) _ rfl Kc6.out rfl ?_))
  refine bodyPost_ret (results_cell_tmp9 Tryz.results42 _ _ _ 31 _ (0, 0) _ rfl Kr7.out Tryz.underlying31 rfl szCmd) rfl ?_
  exact ⟨rfl, HB7.out⟩

theorem st_fl1 (x : Int × Int) : [x].flatMap S2.st = S2.st x := by simp
theorem st_fl2 (x y : Int × Int) : [x, y].flatMap S2.st = (S2.st x ++ S2.st y) := by simp
theorem sl_pen1 (w : World) (x y : Int) (b : Nat) (hb : b = w.heap.size) (W : World) (hW : W.heap = (w.alloc (.cells #[.int .i64 x, .int .i64 y] 23)).heap) : S2.SL W b (some ⟨b, 0, none⟩) [(x, y)] := by
 subst hb
 have h : W.heap[w.heap.size]? = some (.cells #[.int .i64 x, .int .i64 y] 23 (0, 0)) := by rw [hW]; exact new_blockC w _ _
 intro _
 refine ⟨0, rfl, fun j a c hz => ?_⟩
 match j, hz with
 | 0, hz => simp only [List.getElem?_cons_zero, Option.some.injEq, Prod.mk.injEq] at hz; obtain ⟨rfl, rfl⟩ := hz; exact ⟨cell_row h 0 _ rfl, cell_row h 1 _ rfl⟩
 | n + 1, hz => simp at hz
theorem sl_pen2 (w : World) (x y u v : Int) (b : Nat) (hb : b = w.heap.size) (W : World) (hW : W.heap = (w.alloc (.cells #[.int .i64 x, .int .i64 y, .int .i64 u, .int .i64 v] 23)).heap) : S2.SL W b (some ⟨b, 0, none⟩) [(x, y), (u, v)] := by
 subst hb
 have h : W.heap[w.heap.size]? = some (.cells #[.int .i64 x, .int .i64 y, .int .i64 u, .int .i64 v] 23 (0, 0)) := by rw [hW]; exact new_blockC w _ _
 intro _
 refine ⟨0, rfl, fun j a c hz => ?_⟩
 match j, hz with
 | 0, hz => simp only [List.getElem?_cons_zero, Option.some.injEq, Prod.mk.injEq] at hz; obtain ⟨rfl, rfl⟩ := hz; exact ⟨cell_row h 0 _ rfl, cell_row h 1 _ rfl⟩
 | 1, hz => simp only [List.getElem?_cons_succ, List.getElem?_cons_zero, Option.some.injEq, Prod.mk.injEq] at hz; obtain ⟨rfl, rfl⟩ := hz; exact ⟨cell_row h 2 _ rfl, cell_row h 3 _ rfl⟩
 | n + 2, hz => simp at hz
theorem layD_le {d : SD.Dd} (h : FewV d) : (SD.layD d).length ≤ 2000000 := by
 have h1 := SD.layD_len d
 have h2 := SD.layF_len d
 have := h.1
 have := h.2
 omega
theorem pV_any (b : Nat) (r : Option Nat) (B : List UInt8) (v : Vlu) (vd : Value) (w0 w : World) (hp : S2.PenAt w b r B) (hlen : B.length ≤ 100000000) (hd : DlV w0 vd v.2.2) (hf : FewV v.2.2) (hbel : Below w0.heap.size w0 w) (hb0 : w0.heap.size ≤ b) (hr0 : ∀ k, r = some k → w0.heap.size ≤ k) :
  Calls Tryz.prog 71 #[.pointer (some ⟨b, 0, none⟩), vlV v vd] w (S2.Laid w b r (B ++ cV.lay v)) := by
 obtain ⟨gone, ⟨t1, t2⟩, deps⟩ := v
 obtain ⟨da, dc, dF, rfl, h1, h2, h3⟩ := hd
 simp only at h2 hf
 subst h2
 have HFW := hH (few_v rfl hf)
 have HFD := hH hf
 have HD := hH h1
 unfold vlV
 simp only
 have HP0 : Hid (S2.PenAt (w.alloc (.cells #[.bool gone, .int .i64 t1, .int .i64 t2, .slice da dF.length dc] 27)) b r B) := hH (hp.before (S2.kAlloc (S2.Keeps.refl (fun _ => False) w) _))
 have HS0 : Hid (S2.PenStep b r r w (w.alloc (.cells #[.bool gone, .int .i64 t1, .int .i64 t2, .slice da dF.length dc] 27))) := hH (stepAlloc (S2.PenStep.refl b r w) _)
 have HX0 : Hid (¬ S2.PenS b r w.heap.size) := hp.apart (Nat.le_refl _)
 have HK0 : Hid ((w.alloc (.cells #[.bool gone, .int .i64 t1, .int .i64 t2, .slice da dF.length dc] 27)).heap[w.heap.size]? = some (.cells #[.bool gone, .int .i64 t1, .int .i64 t2, .slice da dF.length dc] 27 (0, 0))) := hH (new_blockC w _ _)
 have HZ0 : Hid (w.heap.size < (w.alloc (.cells #[.bool gone, .int .i64 t1, .int .i64 t2, .slice da dF.length dc] 27)).heap.size) := hH (by simp)
 have HB0 : Hid (Below w0.heap.size w0 (w.alloc (.cells #[.bool gone, .int .i64 t1, .int .i64 t2, .slice da dF.length dc] 27))) := hH (hbel.trans ((blAlloc (Below.refl _ _) _ : Below w.heap.size w _).mono hbel.size))
 have HBB := hH hb0
 have HR0 := hH hr0
 have HL0 : Hid (B.length ≤ 100000000) := hH hlen
 clear hp hlen hbel hb0 hr0 hf h1 h3
 go_enter Tryz.func71, Tryz.ntmps71
 have c0_0 := cell_row HK0.out 0 _ rfl
 go_wp2_with fail
 go_region_held3 (fun Y => Y.cell? ⟨w.heap.size, 0, none⟩ = some (.bool gone)) (first | exact c0_1 | exact c0_0 | exact S2.alloc_cell c0_0 _) (first | (go_at_call 69; go_must (refine (S2.bool_any _ b r B gone (HP0.out.before (S2.kDrew (S2.Keeps.refl _ _))) (by have := HL0.out; omega)).mono ?_; intro e w1 h; unfold S2.Laid at h; obtain ⟨rfl, r1, hp1, hs1⟩ := h; have hs6 := hs1.before (w := (w.alloc (.cells #[.bool gone, .int .i64 t1, .int .i64 t2, .slice da dF.length dc] 27))) (S2.kDrew (S2.Keeps.refl _ _)); obtain ⟨G1, hG⟩ : ∃ g, g = B ++ S2.tb gone := ⟨_, rfl⟩; rw [← hG] at hp1; have HE1 := hH hG; have HL1 : Hid (G1.length ≤ 100000001) := hH (show G1.length ≤ 100000001 from by have z1 := HL0.out; have z2 := bool_len gone; rw [hG]; simp only [List.length_append]; omega); have HP1 := hH hp1; have HK1 := hH ((hs6.keeps.block w.heap.size HZ0.out HX0.out).trans HK0.out); have HX1 := hH (hs6.free HX0.out HZ0.out); have HZ1 : Hid (w.heap.size < w1.heap.size) := hH (Nat.lt_of_lt_of_le HZ0.out hs6.keeps.size); have hpb := pen_belowP (B := w0.heap.size) hs6 HB0.out.size HBB.out HR0.out; have HB1 : Hid (Below w0.heap.size w0 w1) := hH (HB0.out.trans hpb.1); have HR1 := hH hpb.2; clear hpb; have HS1 := hH (HS0.out.trans hs6); have c0_1 := cell_row HK1.out 0 _ rfl; clear hp1 hs1 hs6 hG)))
 clear c0_0 c0_1
 have c1_1 := cell_row HK1.out 1 _ rfl
 have c2_1 := cell_row HK1.out 2 _ rfl
 go_wp2_with fail
 go_region_held3 (fun Y => Y.cell? ⟨w.heap.size, 1, none⟩ = some (.int .i64 t1) ∧ Y.cell? ⟨w.heap.size, 2, none⟩ = some (.int .i64 t2)) (first | exact ⟨c1_2, c2_2⟩ | exact ⟨c1_1, c2_1⟩ | exact ⟨S2.alloc_cell c1_1 _, S2.alloc_cell c2_1 _⟩) (first | (go_at_call 66; go_must (refine (S2.stamp_any _ b r1 G1 w1.heap.size _ 1 [(t1, t2)] (HP1.out.before (S2.kDrew (S2.kAlloc (S2.Keeps.refl _ _) _))) (sl_pen1 w1 t1 t2 _ rfl _ rfl) (HP1.out.apart (Nat.le_refl _)) (by have := HL1.out; simp only [List.length_cons, List.length_nil]; omega)).mono ?_; rw [st_fl1]; intro e w2 h; unfold S2.Laid at h; obtain ⟨rfl, r2, hp1, hs1⟩ := h; have hs6 := hs1.before (w := w1) (S2.kDrew (S2.kAlloc (S2.Keeps.refl _ _) _)); obtain ⟨G2, hG⟩ : ∃ g, g = G1 ++ S2.st (t1, t2) := ⟨_, rfl⟩; rw [← hG] at hp1; have HE2 := hH hG; have HL2 : Hid (G2.length ≤ 100000017) := hH (show G2.length ≤ 100000017 from by have z1 := HL1.out; have z2 := S2.st_length (t1, t2); rw [hG]; simp only [List.length_append]; omega); have HP2 := hH hp1; have HK2 := hH ((hs6.keeps.block w.heap.size HZ1.out HX1.out).trans HK1.out); have hpb := pen_belowP (B := w0.heap.size) hs6 HB1.out.size HBB.out HR1.out; have HB2 : Hid (Below w0.heap.size w0 w2) := hH (HB1.out.trans hpb.1); have HR2 := hH hpb.2; clear hpb; have HS2 := hH (HS1.out.trans hs6); have c1_2 := cell_row HK2.out 1 _ rfl; have c2_2 := cell_row HK2.out 2 _ rfl; clear hp1 hs1 hs6 hG)))
 clear c1_1 c1_2 c2_1 c2_2
 go_wp2_with (first | go_skip | ((with_reducible refine atC w2 ?_); go_at_call 70; go_must (refine (SD.pdeps_any b r2 G2 da dc dF w0 w2 HP2.out (by have := HL2.out; omega) HFW.out.1 HFW.out.2 HD.out HB2.out HBB.out HR2.out).mono ?_; intro e w3 h; unfold S2.Laid at h; obtain ⟨rfl, r3, hp1, hs1⟩ := h; have hs6 := hs1; obtain ⟨G3, hG⟩ : ∃ g, g = G2 ++ SD.layD (SD.toD dF) := ⟨_, rfl⟩; rw [← hG] at hp1; have HE3 := hH hG; have HP3 := hH hp1; have hpb := pen_belowP (B := w0.heap.size) hs6 HB2.out.size HBB.out HR2.out; clear hpb; have HS3 := hH (HS2.out.trans hs6); clear hp1 hs1 hs6 hG)) | (with_reducible refine atW w2 ?_; refine wpList_load_one _ _ rfl rfl _ 3 rfl HK2.out Tryz.underlying25 rfl rfl ?_))
 go_end0
 refine ⟨rfl, r3, ?_, HS3.out⟩
 have h := HP3.out
 rw [HE3.out, HE2.out, HE1.out] at h
 have e : B ++ S2.tb gone ++ S2.st (t1, t2) ++ SD.layD (SD.toD dF) = B ++ cV.lay (gone, (t1, t2), SD.toD dF) := by
  show _ = B ++ (S2.tb gone ++ (S2.st (t1, t2) ++ cDs.lay (SD.toD dF)))
  rw [show cDs.lay (SD.toD dF) = SD.layD (SD.toD dF) from SD.cD_layD _]
  simp only [List.append_assoc]
 rw [← e]
 exact h

theorem pen_new9 (w : World) (T : TypeId) : S2.PenAt (w.alloc (.cells #[.slice none 0 0] T)) w.heap.size none [] := ⟨_, _, new_blockC w _ T, S2.Row.nil _, by simp⟩
theorem cV_le {v : Vlu} (h : FewV v.2.2) : (cV.lay v).length ≤ 2000017 := by
 show (S2.tb v.1 ++ (S2.st v.2.1 ++ cDs.lay v.2.2)).length ≤ _
 rw [show cDs.lay v.2.2 = SD.layD v.2.2 from SD.cD_layD _]
 have h1 := layD_le h
 have h2 := bool_len v.1
 have h3 := S2.st_length v.2.1
 simp only [List.length_append]
 omega
structure PutC (c : Cm) : Prop where
 ops : ∀ o ∈ c.ops, o.2.1.size ≤ 1000 ∧ o.2.2.1.size ≤ 1000
 writes : ∀ o ∈ c.writes, o.1.size ≤ 1000
 pairs : ∀ o ∈ c.pairs, o.1.size ≤ 1000
theorem put9_any (c : Cm) (l : Pl) (w : World) (h : CmAt w c l) (hf : FewC c) (hk : PutC c) : Calls Tryz.prog 18 #[cmV c l] w (S2.Made w (layC c)) := by
 obtain ⟨⟨id1, id2⟩, ops, phase, ⟨p1, p2⟩, ⟨v1, v2⟩, fast, seen, ⟨b1, b2⟩, has, ⟨q1, q2⟩, ⟨gone, ⟨t1, t2⟩, deps⟩, ready, writes, pairs⟩ := c
 obtain ⟨lo, ls, ld, lw, lp⟩ := l
 obtain ⟨sa, sc, sF, rfl, hs1, hs2, hs3⟩ := h.s
 simp only at hs2
 subst hs2
 have HAT := hH h
 have HFC := hH hf
 have HPC := hH hk
 have HSD := hH hs1
 have HSW := hH (few_v rfl hf.seen)
 have HLO : Hid ((layP ops).length ≤ 41000000) := hH (by
  have h1 := layO_len_le ops hk.ops
  have h2 := hf.ops
  simp only at h2
  unfold layP
  rw [List.length_append, S2.i8_length]
  omega)
 have HLW : Hid ((cW.list.lay writes).length ≤ 21000000) := hH (by
  show (S2.i8 _ ++ writes.flatMap cW.lay).length ≤ _
  have h1 := cW_len_le writes hk.writes
  have h2 := hf.writes
  simp only at h2
  rw [List.length_append, S2.i8_length]
  omega)
 have HLP : Hid ((cP.list.lay pairs).length ≤ 21000000) := hH (by
  show (S2.i8 _ ++ pairs.flatMap cP.lay).length ≤ _
  have h1 := cP_len_le pairs hk.pairs
  have h2 := hf.pairs
  simp only at h2
  rw [List.length_append, S2.i8_length]
  omega)
 clear h hf hk hs1 hs3
 simp only [cmV]
 have HN := hH (fun i o (h : ([(.cells (r22 id1 id2 lo phase p1 p2 v1 v2 fast (.slice sa sF.length sc) b1 b2 has q1 q2 gone t1 t2 ld ready lw lp) 31), (.cells #[.slice none 0 0] 110)] : List Obj)[i]? = some o) => nth_box w [(.cells (r22 id1 id2 lo phase p1 p2 v1 v2 fast (.slice sa sF.length sc) b1 b2 has q1 q2 gone t1 t2 ld ready lw lp) 31), (.cells #[.slice none 0 0] 110)] i o h)
 have HK0 : Hid (((w.alloc (.cells (r22 id1 id2 lo phase p1 p2 v1 v2 fast (.slice sa sF.length sc) b1 b2 has q1 q2 gone t1 t2 ld ready lw lp) 31)).alloc (.cells #[.slice none 0 0] 110)).heap[w.heap.size]? = some (.cells (r22 id1 id2 lo phase p1 p2 v1 v2 fast (.slice sa sF.length sc) b1 b2 has q1 q2 gone t1 t2 ld ready lw lp) 31 (0, 0))) := hH (HN.out 0 _ rfl).1
 have HZ0 : Hid (w.heap.size < ((w.alloc (.cells (r22 id1 id2 lo phase p1 p2 v1 v2 fast (.slice sa sF.length sc) b1 b2 has q1 q2 gone t1 t2 ld ready lw lp) 31)).alloc (.cells #[.slice none 0 0] 110)).heap.size) := hH (by have := (HN.out 0 _ rfl).2; simp only [List.length_cons, List.length_nil, List.foldl_cons, List.foldl_nil] at this; omega)
 have hp0 := pen_new9 (w.alloc (.cells (r22 id1 id2 lo phase p1 p2 v1 v2 fast (.slice sa sF.length sc) b1 b2 has q1 q2 gone t1 t2 ld ready lw lp) 31)) 110
 have hsz : (w.alloc (.cells (r22 id1 id2 lo phase p1 p2 v1 v2 fast (.slice sa sF.length sc) b1 b2 has q1 q2 gone t1 t2 ld ready lw lp) 31)).heap.size = w.heap.size + 1 := by simp
 rw [hsz] at hp0
 have HP0 := hH hp0
 have HX0 : Hid (¬ S2.PenS (w.heap.size + 1) none w.heap.size) := hH (by rintro (e | e); omega; cases e)
 have HB0 : Hid (Below w.heap.size w ((w.alloc (.cells (r22 id1 id2 lo phase p1 p2 v1 v2 fast (.slice sa sF.length sc) b1 b2 has q1 q2 gone t1 t2 ld ready lw lp) 31)).alloc (.cells #[.slice none 0 0] 110))) := hH (blAlloc (blAlloc (Below.refl _ _) _) _)
 have HBB : Hid (w.heap.size ≤ w.heap.size + 1) := hH (by omega)
 have HR0 : Hid (∀ k, (none : Option Nat) = some k → w.heap.size ≤ k) := hH (fun k hk => by cases hk)
 have HL0 : Hid (([] : List UInt8).length ≤ 0) := hH (Nat.le_refl _)
 clear HN hp0 hsz
 go_enter Tryz.func18, Tryz.ntmps18
 go_wp2_with fail
 generalize ((w.alloc (.cells (r22 id1 id2 lo phase p1 p2 v1 v2 fast (.slice sa sF.length sc) b1 b2 has q1 q2 gone t1 t2 ld ready lw lp) 31)).alloc (.cells #[.slice none 0 0] 110)) = wz at *
 have c0_0 := cell_row HK0.out 0 _ rfl
 have c1_0 := cell_row HK0.out 1 _ rfl
 go_region_held3 (fun Y => Y.cell? ⟨w.heap.size, 0, none⟩ = some (.int .i64 id1) ∧ Y.cell? ⟨w.heap.size, 1, none⟩ = some (.int .i64 id2)) (first | exact ⟨c0_1, c1_1⟩ | exact ⟨c0_0, c1_0⟩ | exact ⟨S2.alloc_cell c0_0 _, S2.alloc_cell c1_0 _⟩) (first | (go_at_call 66; go_must (refine (S2.stamp_any _ (w.heap.size + 1) none [] wz.heap.size _ 1 [(id1, id2)] (HP0.out.before (S2.kDrew (S2.kAlloc (S2.Keeps.refl _ _) _))) (sl_pen1 wz id1 id2 _ rfl _ rfl) (HP0.out.apart (Nat.le_refl _)) (by have := HL0.out; simp only [List.length_cons, List.length_nil]; omega)).mono ?_; rw [st_fl1]; intro e w1 h; unfold S2.Laid at h; obtain ⟨rfl, r1, hp1, hs1⟩ := h; have hs6 := hs1.before (w := wz) (S2.kDrew (S2.kAlloc (S2.Keeps.refl _ _) _)); obtain ⟨G1, hG⟩ : ∃ g, g = [] ++ S2.st (id1, id2) := ⟨_, rfl⟩; rw [← hG] at hp1; have HE1 := hH hG; have HL1 : Hid (G1.length ≤ 16) := hH (show G1.length ≤ 16 from by have z1 := HL0.out; have z2 := S2.st_length (id1, id2); rw [hG]; simp only [List.length_append]; omega); have HP1 := hH hp1; have HK1 := hH ((hs6.keeps.block w.heap.size HZ0.out HX0.out).trans HK0.out); have HX1 := hH (hs6.free HX0.out HZ0.out); have HZ1 : Hid (w.heap.size < w1.heap.size) := hH (Nat.lt_of_lt_of_le HZ0.out hs6.keeps.size); have hpb := pen_belowP (B := w.heap.size) hs6 HB0.out.size HBB.out HR0.out; have HB1 : Hid (Below w.heap.size w w1) := hH (HB0.out.trans hpb.1); have HR1 := hH hpb.2; clear hpb; have c0_1 := cell_row HK1.out 0 _ rfl; have c1_1 := cell_row HK1.out 1 _ rfl; clear hp1 hs1 hs6 hG)))
 clear c0_0 c0_1 c1_0 c1_1
 go_wp2_with (first | go_skip | ((with_reducible refine atC w1 ?_); go_at_call 67; go_must (refine (pops_any (w.heap.size + 1) r1 G1 lo ops w w1 HP1.out (by have := HL1.out; omega) (by have := HFC.out.ops; simp only at this; omega) HPC.out.ops HAT.out.o HB1.out HBB.out HR1.out).mono ?_; intro e w2 h; unfold S2.Laid at h; obtain ⟨rfl, r2, hp1, hs1⟩ := h; have hs6 := hs1; obtain ⟨G2, hG⟩ : ∃ g, g = G1 ++ layP ops := ⟨_, rfl⟩; rw [← hG] at hp1; have HE2 := hH hG; have HL2 : Hid (G2.length ≤ 41000016) := hH (show G2.length ≤ 41000016 from by have z1 := HL1.out; have z2 := HLO.out; rw [hG]; simp only [List.length_append]; omega); have HP2 := hH hp1; have HK2 := hH ((hs6.keeps.block w.heap.size HZ1.out HX1.out).trans HK1.out); have HX2 := hH (hs6.free HX1.out HZ1.out); have HZ2 : Hid (w.heap.size < w2.heap.size) := hH (Nat.lt_of_lt_of_le HZ1.out hs6.keeps.size); have hpb := pen_belowP (B := w.heap.size) hs6 HB1.out.size HBB.out HR1.out; have HB2 : Hid (Below w.heap.size w w2) := hH (HB1.out.trans hpb.1); have HR2 := hH hpb.2; clear hpb; clear hp1 hs1 hs6 hG)) | (with_reducible refine atW w1 ?_; refine wpList_load_one _ _ rfl rfl _ 2 rfl HK1.out Tryz.underlying24 rfl rfl ?_))
 have c3_2 := cell_row HK2.out 3 _ rfl
 go_wp2_with fail
 go_region_held3 (fun Y => Y.cell? ⟨w.heap.size, 3, none⟩ = some (.int .i64 phase)) (first | exact c3_3 | exact c3_2 | exact S2.alloc_cell c3_2 _) (first | (go_at_call 68; go_must (refine (S2.int_any _ (w.heap.size + 1) r2 G2 w2.heap.size _ 1 [phase] (HP2.out.before (S2.kDrew (S2.kAlloc (S2.Keeps.refl _ _) _))) (S2.one_new w2 _ _ rfl _ rfl) (HP2.out.apart (Nat.le_refl _)) (by have := HL2.out; simp only [List.length_cons, List.length_nil]; omega)).mono ?_; rw [i8_oneP]; intro e w3 h; unfold S2.Laid at h; obtain ⟨rfl, r3, hp1, hs1⟩ := h; have hs6 := hs1.before (w := w2) (S2.kDrew (S2.kAlloc (S2.Keeps.refl _ _) _)); obtain ⟨G3, hG⟩ : ∃ g, g = G2 ++ S2.i8 phase := ⟨_, rfl⟩; rw [← hG] at hp1; have HE3 := hH hG; have HL3 : Hid (G3.length ≤ 41000024) := hH (show G3.length ≤ 41000024 from by have z1 := HL2.out; have z2 := S2.i8_length phase; rw [hG]; simp only [List.length_append]; omega); have HP3 := hH hp1; have HK3 := hH ((hs6.keeps.block w.heap.size HZ2.out HX2.out).trans HK2.out); have HX3 := hH (hs6.free HX2.out HZ2.out); have HZ3 : Hid (w.heap.size < w3.heap.size) := hH (Nat.lt_of_lt_of_le HZ2.out hs6.keeps.size); have hpb := pen_belowP (B := w.heap.size) hs6 HB2.out.size HBB.out HR2.out; have HB3 : Hid (Below w.heap.size w w3) := hH (HB2.out.trans hpb.1); have HR3 := hH hpb.2; clear hpb; have c3_3 := cell_row HK3.out 3 _ rfl; clear hp1 hs1 hs6 hG)))
 clear c3_2 c3_3
 have c4_3 := cell_row HK3.out 4 _ rfl
 have c5_3 := cell_row HK3.out 5 _ rfl
 have c6_3 := cell_row HK3.out 6 _ rfl
 have c7_3 := cell_row HK3.out 7 _ rfl
 go_wp2_with fail
 go_region_held3 (fun Y => Y.cell? ⟨w.heap.size, 4, none⟩ = some (.int .i64 p1) ∧ Y.cell? ⟨w.heap.size, 5, none⟩ = some (.int .i64 p2) ∧ Y.cell? ⟨w.heap.size, 6, none⟩ = some (.int .i64 v1) ∧ Y.cell? ⟨w.heap.size, 7, none⟩ = some (.int .i64 v2)) (first | exact ⟨c4_4, c5_4, c6_4, c7_4⟩ | exact ⟨c4_3, c5_3, c6_3, c7_3⟩ | exact ⟨S2.alloc_cell c4_3 _, S2.alloc_cell c5_3 _, S2.alloc_cell c6_3 _, S2.alloc_cell c7_3 _⟩) (first | (go_at_call 66; go_must (refine (S2.stamp_any _ (w.heap.size + 1) r3 G3 w3.heap.size _ 2 [(p1, p2), (v1, v2)] (HP3.out.before (S2.kDrew (S2.kAlloc (S2.Keeps.refl _ _) _))) (sl_pen2 w3 p1 p2 v1 v2 _ rfl _ rfl) (HP3.out.apart (Nat.le_refl _)) (by have := HL3.out; simp only [List.length_cons, List.length_nil]; omega)).mono ?_; rw [st_fl2]; intro e w4 h; unfold S2.Laid at h; obtain ⟨rfl, r4, hp1, hs1⟩ := h; have hs6 := hs1.before (w := w3) (S2.kDrew (S2.kAlloc (S2.Keeps.refl _ _) _)); obtain ⟨G4, hG⟩ : ∃ g, g = G3 ++ (S2.st (p1, p2) ++ S2.st (v1, v2)) := ⟨_, rfl⟩; rw [← hG] at hp1; have HE4 := hH hG; have HL4 : Hid (G4.length ≤ 41000056) := hH (show G4.length ≤ 41000056 from by have z1 := HL3.out; have z2 := S2.st_length (p1, p2); have z3 := S2.st_length (v1, v2); rw [hG]; simp only [List.length_append]; omega); have HP4 := hH hp1; have HK4 := hH ((hs6.keeps.block w.heap.size HZ3.out HX3.out).trans HK3.out); have HX4 := hH (hs6.free HX3.out HZ3.out); have HZ4 : Hid (w.heap.size < w4.heap.size) := hH (Nat.lt_of_lt_of_le HZ3.out hs6.keeps.size); have hpb := pen_belowP (B := w.heap.size) hs6 HB3.out.size HBB.out HR3.out; have HB4 : Hid (Below w.heap.size w w4) := hH (HB3.out.trans hpb.1); have HR4 := hH hpb.2; clear hpb; have c4_4 := cell_row HK4.out 4 _ rfl; have c5_4 := cell_row HK4.out 5 _ rfl; have c6_4 := cell_row HK4.out 6 _ rfl; have c7_4 := cell_row HK4.out 7 _ rfl; clear hp1 hs1 hs6 hG)))
 clear c4_3 c4_4 c5_3 c5_4 c6_3 c6_4 c7_3 c7_4
 have c8_4 := cell_row HK4.out 8 _ rfl
 go_wp2_with fail
 go_region_held3 (fun Y => Y.cell? ⟨w.heap.size, 8, none⟩ = some (.bool fast)) (first | exact c8_5 | exact c8_4 | exact S2.alloc_cell c8_4 _) (first | (go_at_call 69; go_must (refine (S2.bool_any _ (w.heap.size + 1) r4 G4 fast (HP4.out.before (S2.kDrew (S2.Keeps.refl _ _))) (by have := HL4.out; omega)).mono ?_; intro e w5 h; unfold S2.Laid at h; obtain ⟨rfl, r5, hp1, hs1⟩ := h; have hs6 := hs1.before (w := w4) (S2.kDrew (S2.Keeps.refl _ _)); obtain ⟨G5, hG⟩ : ∃ g, g = G4 ++ S2.tb fast := ⟨_, rfl⟩; rw [← hG] at hp1; have HE5 := hH hG; have HL5 : Hid (G5.length ≤ 41000057) := hH (show G5.length ≤ 41000057 from by have z1 := HL4.out; have z2 := bool_len fast; rw [hG]; simp only [List.length_append]; omega); have HP5 := hH hp1; have HK5 := hH ((hs6.keeps.block w.heap.size HZ4.out HX4.out).trans HK4.out); have HX5 := hH (hs6.free HX4.out HZ4.out); have HZ5 : Hid (w.heap.size < w5.heap.size) := hH (Nat.lt_of_lt_of_le HZ4.out hs6.keeps.size); have hpb := pen_belowP (B := w.heap.size) hs6 HB4.out.size HBB.out HR4.out; have HB5 : Hid (Below w.heap.size w w5) := hH (HB4.out.trans hpb.1); have HR5 := hH hpb.2; clear hpb; have c8_5 := cell_row HK5.out 8 _ rfl; clear hp1 hs1 hs6 hG)))
 clear c8_4 c8_5
 go_wp2_with (first | go_skip | ((with_reducible refine atC w5 ?_); go_at_call 70; go_must (refine (SD.pdeps_any (w.heap.size + 1) r5 G5 sa sc sF w w5 HP5.out (by have := HL5.out; omega) HSW.out.1 HSW.out.2 HSD.out HB5.out HBB.out HR5.out).mono ?_; intro e w6 h; unfold S2.Laid at h; obtain ⟨rfl, r6, hp1, hs1⟩ := h; have hs6 := hs1; obtain ⟨G6, hG⟩ : ∃ g, g = G5 ++ SD.layD (SD.toD sF) := ⟨_, rfl⟩; rw [← hG] at hp1; have HE6 := hH hG; have HL6 : Hid (G6.length ≤ 43000057) := hH (show G6.length ≤ 43000057 from by have z1 := HL5.out; have z2 := layD_le HFC.out.seen; simp only at z2; rw [hG]; simp only [List.length_append]; omega); have HP6 := hH hp1; have HK6 := hH ((hs6.keeps.block w.heap.size HZ5.out HX5.out).trans HK5.out); have HX6 := hH (hs6.free HX5.out HZ5.out); have HZ6 : Hid (w.heap.size < w6.heap.size) := hH (Nat.lt_of_lt_of_le HZ5.out hs6.keeps.size); have hpb := pen_belowP (B := w.heap.size) hs6 HB5.out.size HBB.out HR5.out; have HB6 : Hid (Below w.heap.size w w6) := hH (HB5.out.trans hpb.1); have HR6 := hH hpb.2; clear hpb; clear hp1 hs1 hs6 hG)) | (with_reducible refine atW w5 ?_; refine wpList_load_one _ _ rfl rfl _ 9 rfl HK5.out Tryz.underlying25 rfl rfl ?_))
 have c10_6 := cell_row HK6.out 10 _ rfl
 have c11_6 := cell_row HK6.out 11 _ rfl
 go_wp2_with fail
 go_region_held3 (fun Y => Y.cell? ⟨w.heap.size, 10, none⟩ = some (.int .i64 b1) ∧ Y.cell? ⟨w.heap.size, 11, none⟩ = some (.int .i64 b2)) (first | exact ⟨c10_7, c11_7⟩ | exact ⟨c10_6, c11_6⟩ | exact ⟨S2.alloc_cell c10_6 _, S2.alloc_cell c11_6 _⟩) (first | (go_at_call 66; go_must (refine (S2.stamp_any _ (w.heap.size + 1) r6 G6 w6.heap.size _ 1 [(b1, b2)] (HP6.out.before (S2.kDrew (S2.kAlloc (S2.Keeps.refl _ _) _))) (sl_pen1 w6 b1 b2 _ rfl _ rfl) (HP6.out.apart (Nat.le_refl _)) (by have := HL6.out; simp only [List.length_cons, List.length_nil]; omega)).mono ?_; rw [st_fl1]; intro e w7 h; unfold S2.Laid at h; obtain ⟨rfl, r7, hp1, hs1⟩ := h; have hs6 := hs1.before (w := w6) (S2.kDrew (S2.kAlloc (S2.Keeps.refl _ _) _)); obtain ⟨G7, hG⟩ : ∃ g, g = G6 ++ S2.st (b1, b2) := ⟨_, rfl⟩; rw [← hG] at hp1; have HE7 := hH hG; have HL7 : Hid (G7.length ≤ 43000073) := hH (show G7.length ≤ 43000073 from by have z1 := HL6.out; have z2 := S2.st_length (b1, b2); rw [hG]; simp only [List.length_append]; omega); have HP7 := hH hp1; have HK7 := hH ((hs6.keeps.block w.heap.size HZ6.out HX6.out).trans HK6.out); have HX7 := hH (hs6.free HX6.out HZ6.out); have HZ7 : Hid (w.heap.size < w7.heap.size) := hH (Nat.lt_of_lt_of_le HZ6.out hs6.keeps.size); have hpb := pen_belowP (B := w.heap.size) hs6 HB6.out.size HBB.out HR6.out; have HB7 : Hid (Below w.heap.size w w7) := hH (HB6.out.trans hpb.1); have HR7 := hH hpb.2; clear hpb; have c10_7 := cell_row HK7.out 10 _ rfl; have c11_7 := cell_row HK7.out 11 _ rfl; clear hp1 hs1 hs6 hG)))
 clear c10_6 c10_7 c11_6 c11_7
 have c12_7 := cell_row HK7.out 12 _ rfl
 go_wp2_with fail
 go_region_held3 (fun Y => Y.cell? ⟨w.heap.size, 12, none⟩ = some (.bool has)) (first | exact c12_8 | exact c12_7 | exact S2.alloc_cell c12_7 _) (first | (go_at_call 69; go_must (refine (S2.bool_any _ (w.heap.size + 1) r7 G7 has (HP7.out.before (S2.kDrew (S2.Keeps.refl _ _))) (by have := HL7.out; omega)).mono ?_; intro e w8 h; unfold S2.Laid at h; obtain ⟨rfl, r8, hp1, hs1⟩ := h; have hs6 := hs1.before (w := w7) (S2.kDrew (S2.Keeps.refl _ _)); obtain ⟨G8, hG⟩ : ∃ g, g = G7 ++ S2.tb has := ⟨_, rfl⟩; rw [← hG] at hp1; have HE8 := hH hG; have HL8 : Hid (G8.length ≤ 43000074) := hH (show G8.length ≤ 43000074 from by have z1 := HL7.out; have z2 := bool_len has; rw [hG]; simp only [List.length_append]; omega); have HP8 := hH hp1; have HK8 := hH ((hs6.keeps.block w.heap.size HZ7.out HX7.out).trans HK7.out); have HX8 := hH (hs6.free HX7.out HZ7.out); have HZ8 : Hid (w.heap.size < w8.heap.size) := hH (Nat.lt_of_lt_of_le HZ7.out hs6.keeps.size); have hpb := pen_belowP (B := w.heap.size) hs6 HB7.out.size HBB.out HR7.out; have HB8 : Hid (Below w.heap.size w w8) := hH (HB7.out.trans hpb.1); have HR8 := hH hpb.2; clear hpb; have c12_8 := cell_row HK8.out 12 _ rfl; clear hp1 hs1 hs6 hG)))
 clear c12_7 c12_8
 have c13_8 := cell_row HK8.out 13 _ rfl
 have c14_8 := cell_row HK8.out 14 _ rfl
 go_wp2_with fail
 go_region_held3 (fun Y => Y.cell? ⟨w.heap.size, 13, none⟩ = some (.int .i64 q1) ∧ Y.cell? ⟨w.heap.size, 14, none⟩ = some (.int .i64 q2)) (first | exact ⟨c13_9, c14_9⟩ | exact ⟨c13_8, c14_8⟩ | exact ⟨S2.alloc_cell c13_8 _, S2.alloc_cell c14_8 _⟩) (first | (go_at_call 66; go_must (refine (S2.stamp_any _ (w.heap.size + 1) r8 G8 w8.heap.size _ 1 [(q1, q2)] (HP8.out.before (S2.kDrew (S2.kAlloc (S2.Keeps.refl _ _) _))) (sl_pen1 w8 q1 q2 _ rfl _ rfl) (HP8.out.apart (Nat.le_refl _)) (by have := HL8.out; simp only [List.length_cons, List.length_nil]; omega)).mono ?_; rw [st_fl1]; intro e w9 h; unfold S2.Laid at h; obtain ⟨rfl, r9, hp1, hs1⟩ := h; have hs6 := hs1.before (w := w8) (S2.kDrew (S2.kAlloc (S2.Keeps.refl _ _) _)); obtain ⟨G9, hG⟩ : ∃ g, g = G8 ++ S2.st (q1, q2) := ⟨_, rfl⟩; rw [← hG] at hp1; have HE9 := hH hG; have HL9 : Hid (G9.length ≤ 43000090) := hH (show G9.length ≤ 43000090 from by have z1 := HL8.out; have z2 := S2.st_length (q1, q2); rw [hG]; simp only [List.length_append]; omega); have HP9 := hH hp1; have HK9 := hH ((hs6.keeps.block w.heap.size HZ8.out HX8.out).trans HK8.out); have HX9 := hH (hs6.free HX8.out HZ8.out); have HZ9 : Hid (w.heap.size < w9.heap.size) := hH (Nat.lt_of_lt_of_le HZ8.out hs6.keeps.size); have hpb := pen_belowP (B := w.heap.size) hs6 HB8.out.size HBB.out HR8.out; have HB9 : Hid (Below w.heap.size w w9) := hH (HB8.out.trans hpb.1); have HR9 := hH hpb.2; clear hpb; have c13_9 := cell_row HK9.out 13 _ rfl; have c14_9 := cell_row HK9.out 14 _ rfl; clear hp1 hs1 hs6 hG)))
 clear c13_8 c13_9 c14_8 c14_9
 go_wp2_with (first | go_skip | ((with_reducible refine atC w9 ?_); go_at_call 71; go_must (refine (pV_any (w.heap.size + 1) r9 G9 (gone, (t1, t2), deps) ld w w9 HP9.out (by have := HL9.out; omega) HAT.out.d HFC.out.deps HB9.out HBB.out HR9.out).mono ?_; intro e w10 h; unfold S2.Laid at h; obtain ⟨rfl, r10, hp1, hs1⟩ := h; have hs6 := hs1; obtain ⟨G10, hG⟩ : ∃ g, g = G9 ++ cV.lay (gone, (t1, t2), deps) := ⟨_, rfl⟩; rw [← hG] at hp1; have HE10 := hH hG; have HL10 : Hid (G10.length ≤ 45000107) := hH (show G10.length ≤ 45000107 from by have z1 := HL9.out; have z2 := cV_le (v := (gone, (t1, t2), deps)) HFC.out.deps; rw [hG]; simp only [List.length_append]; omega); have HP10 := hH hp1; have HK10 := hH ((hs6.keeps.block w.heap.size HZ9.out HX9.out).trans HK9.out); have HX10 := hH (hs6.free HX9.out HZ9.out); have HZ10 : Hid (w.heap.size < w10.heap.size) := hH (Nat.lt_of_lt_of_le HZ9.out hs6.keeps.size); have hpb := pen_belowP (B := w.heap.size) hs6 HB9.out.size HBB.out HR9.out; have HB10 : Hid (Below w.heap.size w w10) := hH (HB9.out.trans hpb.1); have HR10 := hH hpb.2; clear hpb; clear hp1 hs1 hs6 hG)) | (with_reducible refine atW w9 ?_; refine wpList_load_part _ _ rfl rfl _ 15 rfl HK9.out Tryz.underlying27 rfl #[.bool gone, .int .i64 t1, .int .i64 t2, ld] (by kernel_rfl) (four_at rfl rfl rfl rfl) ?_))
 have c19_10 := cell_row HK10.out 19 _ rfl
 go_wp2_with fail
 go_region_held3 (fun Y => Y.cell? ⟨w.heap.size, 19, none⟩ = some (.bool ready)) (first | exact c19_11 | exact c19_10 | exact S2.alloc_cell c19_10 _) (first | (go_at_call 69; go_must (refine (S2.bool_any _ (w.heap.size + 1) r10 G10 ready (HP10.out.before (S2.kDrew (S2.Keeps.refl _ _))) (by have := HL10.out; omega)).mono ?_; intro e w11 h; unfold S2.Laid at h; obtain ⟨rfl, r11, hp1, hs1⟩ := h; have hs6 := hs1.before (w := w10) (S2.kDrew (S2.Keeps.refl _ _)); obtain ⟨G11, hG⟩ : ∃ g, g = G10 ++ S2.tb ready := ⟨_, rfl⟩; rw [← hG] at hp1; have HE11 := hH hG; have HL11 : Hid (G11.length ≤ 45000108) := hH (show G11.length ≤ 45000108 from by have z1 := HL10.out; have z2 := bool_len ready; rw [hG]; simp only [List.length_append]; omega); have HP11 := hH hp1; have HK11 := hH ((hs6.keeps.block w.heap.size HZ10.out HX10.out).trans HK10.out); have HX11 := hH (hs6.free HX10.out HZ10.out); have HZ11 : Hid (w.heap.size < w11.heap.size) := hH (Nat.lt_of_lt_of_le HZ10.out hs6.keeps.size); have hpb := pen_belowP (B := w.heap.size) hs6 HB10.out.size HBB.out HR10.out; have HB11 : Hid (Below w.heap.size w w11) := hH (HB10.out.trans hpb.1); have HR11 := hH hpb.2; clear hpb; have c19_11 := cell_row HK11.out 19 _ rfl; clear hp1 hs1 hs6 hG)))
 clear c19_10 c19_11
 go_wp2_with (first | go_skip | ((with_reducible refine atC w13 ?_); go_at_call 74; go_must (refine (S2.bytes_any _ (w.heap.size + 1) r13 G13 HP13.out (by have := HL13.out; omega)).mono ?_; intro e wf h; unfold S2.Made at h; obtain ⟨v, g, rfl, h1, h2, h3⟩ := h; have H1 := hH h1; have H2 := hH h2; have H3 := hH h3; clear h1 h2 h3)) | ((with_reducible refine atC w12 ?_); go_at_call 73; go_must (refine (pP_any (w.heap.size + 1) r12 G12 lp pairs w w12 HP12.out (by have := HL12.out; omega) (by have := HFC.out.pairs; simp only at this; omega) HPC.out.pairs HAT.out.p HB12.out HBB.out HR12.out).mono ?_; intro e w13 h; unfold S2.Laid at h; obtain ⟨rfl, r13, hp1, hs1⟩ := h; have hs6 := hs1; obtain ⟨G13, hG⟩ : ∃ g, g = G12 ++ cP.list.lay pairs := ⟨_, rfl⟩; rw [← hG] at hp1; have HE13 := hH hG; have HL13 : Hid (G13.length ≤ 87000108) := hH (show G13.length ≤ 87000108 from by have z1 := HL12.out; have z2 := HLP.out; rw [hG]; simp only [List.length_append]; omega); have HP13 := hH hp1; have hpb := pen_belowP (B := w.heap.size) hs6 HB12.out.size HBB.out HR12.out; have HB13 : Hid (Below w.heap.size w w13) := hH (HB12.out.trans hpb.1); clear hpb; clear hp1 hs1 hs6 hG)) | (with_reducible refine atW w12 ?_; refine wpList_load_one _ _ rfl rfl _ 21 rfl HK12.out Tryz.underlying29 rfl rfl ?_) | ((with_reducible refine atC w11 ?_); go_at_call 72; go_must (refine (pW_any (w.heap.size + 1) r11 G11 lw writes w w11 HP11.out (by have := HL11.out; omega) (by have := HFC.out.writes; simp only at this; omega) HPC.out.writes HAT.out.w HB11.out HBB.out HR11.out).mono ?_; intro e w12 h; unfold S2.Laid at h; obtain ⟨rfl, r12, hp1, hs1⟩ := h; have hs6 := hs1; obtain ⟨G12, hG⟩ : ∃ g, g = G11 ++ cW.list.lay writes := ⟨_, rfl⟩; rw [← hG] at hp1; have HE12 := hH hG; have HL12 : Hid (G12.length ≤ 66000108) := hH (show G12.length ≤ 66000108 from by have z1 := HL11.out; have z2 := HLW.out; rw [hG]; simp only [List.length_append]; omega); have HP12 := hH hp1; have HK12 := hH ((hs6.keeps.block w.heap.size HZ11.out HX11.out).trans HK11.out); have hpb := pen_belowP (B := w.heap.size) hs6 HB11.out.size HBB.out HR11.out; have HB12 : Hid (Below w.heap.size w w12) := hH (HB11.out.trans hpb.1); have HR12 := hH hpb.2; clear hpb; clear hp1 hs1 hs6 hG)) | (with_reducible refine atW w11 ?_; refine wpList_load_one _ _ rfl rfl _ 20 rfl HK11.out Tryz.underlying28 rfl rfl ?_))
 go_ret
 have e : [] ++ S2.st (id1, id2) ++ layP ops ++ S2.i8 phase ++ (S2.st (p1, p2) ++ S2.st (v1, v2)) ++ S2.tb fast ++ SD.layD (SD.toD sF) ++ S2.st (b1, b2) ++ S2.tb has ++ S2.st (q1, q2) ++ cV.lay (gone, (t1, t2), deps) ++ S2.tb ready ++ cW.list.lay writes ++ cP.list.lay pairs = layC ⟨(id1, id2), ops, phase, (p1, p2), (v1, v2), fast, SD.toD sF, (b1, b2), has, (q1, q2), (gone, (t1, t2), deps), ready, writes, pairs⟩ := by
  show _ = S2.st (id1, id2) ++ (cO.list.lay ops ++ (S2.i8 phase ++ (S2.st (p1, p2) ++ (S2.st (v1, v2) ++ (S2.tb fast ++ (cDs.lay (SD.toD sF) ++ (S2.st (b1, b2) ++ (S2.tb has ++ (S2.st (q1, q2) ++ (cV.lay (gone, (t1, t2), deps) ++ (S2.tb ready ++ (cW.list.lay writes ++ cP.list.lay pairs))))))))))))
  rw [show cDs.lay (SD.toD sF) = SD.layD (SD.toD sF) from SD.cD_layD _, cOs_lay]
  simp only [List.append_assoc, List.nil_append]
 have h1 := H1.out
 rw [HE13.out, HE12.out, HE11.out, HE10.out, HE9.out, HE8.out, HE7.out, HE6.out, HE5.out, HE4.out, HE3.out, HE2.out, HE1.out, e] at h1
 exact ⟨v, g, rfl, h1, fun k hk => Nat.le_trans HB13.out.size (H2.out k hk), blThen HB13.out H3.out⟩

theorem dsame9 (v v' : Value) (d d' : SD.Dd) (W : World) (h : DlV W v d) (h' : DlV W v' d') (hf : FewV d) : Calls Tryz.prog 63 #[v, v'] W fun e w' => e = .returned (.bool (decide (d = d'))) ∧ Below W.heap.size W w' := by
 obtain ⟨a, c, F, rfl, h1, h2, _⟩ := h
 obtain ⟨a', c', F', rfl, h1', h2', _⟩ := h'
 have := SD.refsame6_any a a' c c' F F' W (few_v h2 hf).1 h1 h1'
 rw [h2, h2'] at this
 exact this
theorem rsamev_any (a b : Vlu) (va vb : Value) (W : World) (ha : DlV W va a.2.2) (hb : DlV W vb b.2.2) (hf : FewV a.2.2) : Calls Tryz.prog 30 #[vlV a va, vlV b vb] W fun e w' => e = .returned (.bool (decide (a = b))) ∧ Below W.heap.size W w' := by
 have HS := hH (fun (Y : World) (hY : Below W.heap.size W Y) => dsame9 va vb a.2.2 b.2.2 Y (ha.later hY) (hb.later hY) hf)
 obtain ⟨g1, ⟨u1, v1⟩, d1⟩ := a
 obtain ⟨g2, ⟨u2, v2⟩, d2⟩ := b
 obtain ⟨aa, ac, aF, rfl, _⟩ := ha
 obtain ⟨ba, bc, bF, rfl, _⟩ := hb
 unfold vlV
 simp only at HS ⊢
 generalize aF.length = an at *
 generalize bF.length = bn at *
 clear hf
 cases g1 <;> cases g2
 ·by_cases hu : u1 = u2
  rotate_left
  ·have e1 : (u1 == u2) = false := by simpa using hu
   have hdf : decide (((false, (u1, v1), d1) : Vlu) = (false, (u2, v2), d2)) = false := decide_eq_false (by intro e; simp only [Prod.mk.injEq] at e; exact hu e.2.1.1)
   rw [hdf]
   clear hdf
   obtain ⟨w0, he0, hw0, kQa, kQb, hb0⟩ := boxes2 W (.cells #[.bool false, .int .i64 u1, .int .i64 v1, .slice aa an ac] 27) (.cells #[.bool false, .int .i64 u2, .int .i64 v2, .slice ba bn bc] 27)
   have Ka0 := hH kQa
   have Kb0 := hH kQb
   have HB0 := hH hb0
   have HE0 := hH he0
   clear he0 hb0 kQa kQb
   go_enter Tryz.func30, Tryz.ntmps30
   go_upto_region 1 with fail
   rw [← HE0.out]
   go_wp2_with (first | go_skip | ((with_reducible refine atW w0 ?_); refine wpList_load_part _ _ rfl (by rfl) _ 1 rfl Kb0.out Tryz.underlying23 rfl #[.int .i64 u2, .int .i64 v2] (by kernel_rfl) (two_at rfl rfl) ?_) | ((with_reducible refine atW w0 ?_); refine wpList_load_part _ _ rfl (by rfl) _ 1 rfl Ka0.out Tryz.underlying23 rfl #[.int .i64 u1, .int .i64 v1] (by kernel_rfl) (two_at rfl rfl) ?_) | ((with_reducible refine atW w0 ?_); refine wpList_load_one _ _ rfl (by rfl) _ 0 rfl Kb0.out Tryz.underlying4 rfl rfl ?_) | ((with_reducible refine atW w0 ?_); refine wpList_load_one _ _ rfl (by rfl) _ 0 rfl Ka0.out Tryz.underlying4 rfl rfl ?_))
   go_ret
   exact ⟨rfl, HB0.out⟩
  ·subst hu
   by_cases hv : v1 = v2
   rotate_left
   ·have e1 : (v1 == v2) = false := by simpa using hv
    have hdf : decide (((false, (u1, v1), d1) : Vlu) = (false, (u1, v2), d2)) = false := decide_eq_false (by intro e; simp only [Prod.mk.injEq] at e; exact hv e.2.1.2)
    rw [hdf]
    clear hdf
    obtain ⟨w0, he0, hw0, kQa, kQb, hb0⟩ := boxes2 W (.cells #[.bool false, .int .i64 u1, .int .i64 v1, .slice aa an ac] 27) (.cells #[.bool false, .int .i64 u1, .int .i64 v2, .slice ba bn bc] 27)
    have Ka0 := hH kQa
    have Kb0 := hH kQb
    have HB0 := hH hb0
    have HE0 := hH he0
    clear he0 hb0 kQa kQb
    go_enter Tryz.func30, Tryz.ntmps30
    go_upto_region 1 with fail
    rw [← HE0.out]
    go_wp2_with (first | go_skip | ((with_reducible refine atW w0 ?_); refine wpList_load_part _ _ rfl (by rfl) _ 1 rfl Kb0.out Tryz.underlying23 rfl #[.int .i64 u1, .int .i64 v2] (by kernel_rfl) (two_at rfl rfl) ?_) | ((with_reducible refine atW w0 ?_); refine wpList_load_part _ _ rfl (by rfl) _ 1 rfl Ka0.out Tryz.underlying23 rfl #[.int .i64 u1, .int .i64 v1] (by kernel_rfl) (two_at rfl rfl) ?_) | ((with_reducible refine atW w0 ?_); refine wpList_load_one _ _ rfl (by rfl) _ 0 rfl Kb0.out Tryz.underlying4 rfl rfl ?_) | ((with_reducible refine atW w0 ?_); refine wpList_load_one _ _ rfl (by rfl) _ 0 rfl Ka0.out Tryz.underlying4 rfl rfl ?_))
    go_ret
    exact ⟨rfl, HB0.out⟩
   ·subst hv
    have hdf : decide (((false, (u1, v1), d1) : Vlu) = (false, (u1, v1), d2)) = decide (d1 = d2) := decide_eq_decide.2 (by simp)
    rw [hdf]
    clear hdf
    generalize decide (d1 = d2) = dd at *
    obtain ⟨w0, he0, hw0, kQa, kQb, hb0⟩ := boxes2 W (.cells #[.bool false, .int .i64 u1, .int .i64 v1, .slice aa an ac] 27) (.cells #[.bool false, .int .i64 u1, .int .i64 v1, .slice ba bn bc] 27)
    have Ka0 := hH kQa
    have Kb0 := hH kQb
    have HB0 := hH hb0
    have HE0 := hH he0
    clear he0 hb0 kQa kQb
    go_enter Tryz.func30, Tryz.ntmps30
    go_upto_region 1 with fail
    rw [← HE0.out]
    go_wp2_with (first | go_skip | ((with_reducible refine atC w0 ?_); go_at_call 63; refine (HS.out _ HB0.out).mono ?_; rintro e w1 ⟨rfl, h5⟩; have hw1 := Nat.le_trans hw0 h5.size; have HB1 : Hid (Below W.heap.size W w1) := hH (blThen HB0.out h5); clear h5) | ((with_reducible refine atW w0 ?_); refine wpList_load_one _ _ rfl (by rfl) _ 3 rfl Kb0.out Tryz.underlying25 rfl rfl ?_) | ((with_reducible refine atW w0 ?_); refine wpList_load_one _ _ rfl (by rfl) _ 3 rfl Ka0.out Tryz.underlying25 rfl rfl ?_) | ((with_reducible refine atW w0 ?_); refine wpList_load_part _ _ rfl (by rfl) _ 1 rfl Kb0.out Tryz.underlying23 rfl #[.int .i64 u1, .int .i64 v1] (by kernel_rfl) (two_at rfl rfl) ?_) | ((with_reducible refine atW w0 ?_); refine wpList_load_part _ _ rfl (by rfl) _ 1 rfl Ka0.out Tryz.underlying23 rfl #[.int .i64 u1, .int .i64 v1] (by kernel_rfl) (two_at rfl rfl) ?_) | ((with_reducible refine atW w0 ?_); refine wpList_load_one _ _ rfl (by rfl) _ 0 rfl Kb0.out Tryz.underlying4 rfl rfl ?_) | ((with_reducible refine atW w0 ?_); refine wpList_load_one _ _ rfl (by rfl) _ 0 rfl Ka0.out Tryz.underlying4 rfl rfl ?_))
    go_ret
    exact ⟨rfl, HB1.out⟩
 ·have hdf : decide (((false, (u1, v1), d1) : Vlu) = (true, (u2, v2), d2)) = false := decide_eq_false (by intro e; simp only [Prod.mk.injEq] at e; cases e.1)
  rw [hdf]
  clear hdf
  obtain ⟨w0, he0, hw0, kQa, kQb, hb0⟩ := boxes2 W (.cells #[.bool false, .int .i64 u1, .int .i64 v1, .slice aa an ac] 27) (.cells #[.bool true, .int .i64 u2, .int .i64 v2, .slice ba bn bc] 27)
  have Ka0 := hH kQa
  have Kb0 := hH kQb
  have HB0 := hH hb0
  have HE0 := hH he0
  clear he0 hb0 kQa kQb
  go_enter Tryz.func30, Tryz.ntmps30
  go_upto_region 1 with fail
  rw [← HE0.out]
  go_wp2_with (first | go_skip | ((with_reducible refine atW w0 ?_); refine wpList_load_one _ _ rfl (by rfl) _ 0 rfl Kb0.out Tryz.underlying4 rfl rfl ?_) | ((with_reducible refine atW w0 ?_); refine wpList_load_one _ _ rfl (by rfl) _ 0 rfl Ka0.out Tryz.underlying4 rfl rfl ?_))
  go_ret
  exact ⟨rfl, HB0.out⟩
 ·have hdf : decide (((true, (u1, v1), d1) : Vlu) = (false, (u2, v2), d2)) = false := decide_eq_false (by intro e; simp only [Prod.mk.injEq] at e; cases e.1)
  rw [hdf]
  clear hdf
  obtain ⟨w0, he0, hw0, kQa, kQb, hb0⟩ := boxes2 W (.cells #[.bool true, .int .i64 u1, .int .i64 v1, .slice aa an ac] 27) (.cells #[.bool false, .int .i64 u2, .int .i64 v2, .slice ba bn bc] 27)
  have Ka0 := hH kQa
  have Kb0 := hH kQb
  have HB0 := hH hb0
  have HE0 := hH he0
  clear he0 hb0 kQa kQb
  go_enter Tryz.func30, Tryz.ntmps30
  go_upto_region 1 with fail
  rw [← HE0.out]
  go_wp2_with (first | go_skip | ((with_reducible refine atW w0 ?_); refine wpList_load_one _ _ rfl (by rfl) _ 0 rfl Kb0.out Tryz.underlying4 rfl rfl ?_) | ((with_reducible refine atW w0 ?_); refine wpList_load_one _ _ rfl (by rfl) _ 0 rfl Ka0.out Tryz.underlying4 rfl rfl ?_))
  go_ret
  exact ⟨rfl, HB0.out⟩
 ·by_cases hu : u1 = u2
  rotate_left
  ·have e1 : (u1 == u2) = false := by simpa using hu
   have hdf : decide (((true, (u1, v1), d1) : Vlu) = (true, (u2, v2), d2)) = false := decide_eq_false (by intro e; simp only [Prod.mk.injEq] at e; exact hu e.2.1.1)
   rw [hdf]
   clear hdf
   obtain ⟨w0, he0, hw0, kQa, kQb, hb0⟩ := boxes2 W (.cells #[.bool true, .int .i64 u1, .int .i64 v1, .slice aa an ac] 27) (.cells #[.bool true, .int .i64 u2, .int .i64 v2, .slice ba bn bc] 27)
   have Ka0 := hH kQa
   have Kb0 := hH kQb
   have HB0 := hH hb0
   have HE0 := hH he0
   clear he0 hb0 kQa kQb
   go_enter Tryz.func30, Tryz.ntmps30
   go_upto_region 1 with fail
   rw [← HE0.out]
   go_wp2_with (first | go_skip | ((with_reducible refine atW w0 ?_); refine wpList_load_part _ _ rfl (by rfl) _ 1 rfl Kb0.out Tryz.underlying23 rfl #[.int .i64 u2, .int .i64 v2] (by kernel_rfl) (two_at rfl rfl) ?_) | ((with_reducible refine atW w0 ?_); refine wpList_load_part _ _ rfl (by rfl) _ 1 rfl Ka0.out Tryz.underlying23 rfl #[.int .i64 u1, .int .i64 v1] (by kernel_rfl) (two_at rfl rfl) ?_) | ((with_reducible refine atW w0 ?_); refine wpList_load_one _ _ rfl (by rfl) _ 0 rfl Kb0.out Tryz.underlying4 rfl rfl ?_) | ((with_reducible refine atW w0 ?_); refine wpList_load_one _ _ rfl (by rfl) _ 0 rfl Ka0.out Tryz.underlying4 rfl rfl ?_))
   go_ret
   exact ⟨rfl, HB0.out⟩
  ·subst hu
   by_cases hv : v1 = v2
   rotate_left
   ·have e1 : (v1 == v2) = false := by simpa using hv
    have hdf : decide (((true, (u1, v1), d1) : Vlu) = (true, (u1, v2), d2)) = false := decide_eq_false (by intro e; simp only [Prod.mk.injEq] at e; exact hv e.2.1.2)
    rw [hdf]
    clear hdf
    obtain ⟨w0, he0, hw0, kQa, kQb, hb0⟩ := boxes2 W (.cells #[.bool true, .int .i64 u1, .int .i64 v1, .slice aa an ac] 27) (.cells #[.bool true, .int .i64 u1, .int .i64 v2, .slice ba bn bc] 27)
    have Ka0 := hH kQa
    have Kb0 := hH kQb
    have HB0 := hH hb0
    have HE0 := hH he0
    clear he0 hb0 kQa kQb
    go_enter Tryz.func30, Tryz.ntmps30
    go_upto_region 1 with fail
    rw [← HE0.out]
    go_wp2_with (first | go_skip | ((with_reducible refine atW w0 ?_); refine wpList_load_part _ _ rfl (by rfl) _ 1 rfl Kb0.out Tryz.underlying23 rfl #[.int .i64 u1, .int .i64 v2] (by kernel_rfl) (two_at rfl rfl) ?_) | ((with_reducible refine atW w0 ?_); refine wpList_load_part _ _ rfl (by rfl) _ 1 rfl Ka0.out Tryz.underlying23 rfl #[.int .i64 u1, .int .i64 v1] (by kernel_rfl) (two_at rfl rfl) ?_) | ((with_reducible refine atW w0 ?_); refine wpList_load_one _ _ rfl (by rfl) _ 0 rfl Kb0.out Tryz.underlying4 rfl rfl ?_) | ((with_reducible refine atW w0 ?_); refine wpList_load_one _ _ rfl (by rfl) _ 0 rfl Ka0.out Tryz.underlying4 rfl rfl ?_))
    go_ret
    exact ⟨rfl, HB0.out⟩
   ·subst hv
    have hdf : decide (((true, (u1, v1), d1) : Vlu) = (true, (u1, v1), d2)) = decide (d1 = d2) := decide_eq_decide.2 (by simp)
    rw [hdf]
    clear hdf
    generalize decide (d1 = d2) = dd at *
    obtain ⟨w0, he0, hw0, kQa, kQb, hb0⟩ := boxes2 W (.cells #[.bool true, .int .i64 u1, .int .i64 v1, .slice aa an ac] 27) (.cells #[.bool true, .int .i64 u1, .int .i64 v1, .slice ba bn bc] 27)
    have Ka0 := hH kQa
    have Kb0 := hH kQb
    have HB0 := hH hb0
    have HE0 := hH he0
    clear he0 hb0 kQa kQb
    go_enter Tryz.func30, Tryz.ntmps30
    go_upto_region 1 with fail
    rw [← HE0.out]
    go_wp2_with (first | go_skip | ((with_reducible refine atC w0 ?_); go_at_call 63; refine (HS.out _ HB0.out).mono ?_; rintro e w1 ⟨rfl, h5⟩; have hw1 := Nat.le_trans hw0 h5.size; have HB1 : Hid (Below W.heap.size W w1) := hH (blThen HB0.out h5); clear h5) | ((with_reducible refine atW w0 ?_); refine wpList_load_one _ _ rfl (by rfl) _ 3 rfl Kb0.out Tryz.underlying25 rfl rfl ?_) | ((with_reducible refine atW w0 ?_); refine wpList_load_one _ _ rfl (by rfl) _ 3 rfl Ka0.out Tryz.underlying25 rfl rfl ?_) | ((with_reducible refine atW w0 ?_); refine wpList_load_part _ _ rfl (by rfl) _ 1 rfl Kb0.out Tryz.underlying23 rfl #[.int .i64 u1, .int .i64 v1] (by kernel_rfl) (two_at rfl rfl) ?_) | ((with_reducible refine atW w0 ?_); refine wpList_load_part _ _ rfl (by rfl) _ 1 rfl Ka0.out Tryz.underlying23 rfl #[.int .i64 u1, .int .i64 v1] (by kernel_rfl) (two_at rfl rfl) ?_) | ((with_reducible refine atW w0 ?_); refine wpList_load_one _ _ rfl (by rfl) _ 0 rfl Kb0.out Tryz.underlying4 rfl rfl ?_) | ((with_reducible refine atW w0 ?_); refine wpList_load_one _ _ rfl (by rfl) _ 0 rfl Ka0.out Tryz.underlying4 rfl rfl ?_))
    go_ret
    exact ⟨rfl, HB1.out⟩

theorem rsame9_any (c : Cm) (l m : Pl) (W : World) (h : CmAt W c l) (h2 : CmAt W c m) (hf : FewC c) : Calls Tryz.prog 16 #[cmV c l, cmV c m] W fun e w' => e = .returned (.bool true) ∧ Below W.heap.size W w' := by
 have HO : Hid (∀ Y : World, Below W.heap.size W Y → Calls Tryz.prog 29 #[l.o, m.o] Y fun e w' => e = .returned (.bool true) ∧ Below Y.heap.size Y w') := hH (fun Y hY => by have q := opsame_any l.o m.o c.ops c.ops Y (by have := hf.ops; omega) (by have := hf.ops; omega) (h.o.later hY) (h2.o.later hY); rw [decide_eq_true rfl] at q; exact q)
 have HW : Hid (∀ Y : World, Below W.heap.size W Y → Calls Tryz.prog 64 #[l.w, m.w] Y fun e w' => e = .returned (.bool true) ∧ Below Y.heap.size Y w') := hH (fun Y hY => by have q := wrsame_any l.w m.w c.writes c.writes Y (by have := hf.writes; omega) (by have := hf.writes; omega) (h.w.later hY) (h2.w.later hY); rw [decide_eq_true rfl] at q; exact q)
 have HP : Hid (∀ Y : World, Below W.heap.size W Y → Calls Tryz.prog 65 #[l.p, m.p] Y fun e w' => e = .returned (.bool true) ∧ Below Y.heap.size Y w') := hH (fun Y hY => by have q := prsame_any l.p m.p c.pairs c.pairs Y (by have := hf.pairs; omega) (by have := hf.pairs; omega) (h.p.later hY) (h2.p.later hY); rw [decide_eq_true rfl] at q; exact q)
 have HS : Hid (∀ Y : World, Below W.heap.size W Y → Calls Tryz.prog 63 #[l.s, m.s] Y fun e w' => e = .returned (.bool true) ∧ Below Y.heap.size Y w') := hH (fun Y hY => by have q := dsame9 l.s m.s c.seen c.seen Y (h.s.later hY) (h2.s.later hY) hf.seen; rw [decide_eq_true rfl] at q; exact q)
 have HV : Hid (∀ Y : World, Below W.heap.size W Y → Calls Tryz.prog 30 #[vlV c.val l.d, vlV c.val m.d] Y fun e w' => e = .returned (.bool true) ∧ Below Y.heap.size Y w') := hH (fun Y hY => by have q := rsamev_any c.val c.val l.d m.d Y (h.d.later hY) (h2.d.later hY) hf.deps; rw [decide_eq_true rfl] at q; exact q)
 obtain ⟨⟨id1, id2⟩, ops, phase, ⟨p1, p2⟩, ⟨v1, v2⟩, fast, seen, ⟨b1, b2⟩, has, ⟨q1, q2⟩, ⟨gone, ⟨t1, t2⟩, deps⟩, ready, writes, pairs⟩ := c
 obtain ⟨lo, ls, ld, lw, lp⟩ := l
 obtain ⟨mo, ms, md, mw, mp⟩ := m
 try simp only at h h2 HO HW HP HS HV
 obtain ⟨oa, oc, rfl⟩ := h.o.form
 obtain ⟨sa, sc, sF, rfl, _⟩ := h.s
 obtain ⟨da, dc, dF, rfl, _⟩ := h.d
 obtain ⟨wa, wc, rfl⟩ := h.w.form
 obtain ⟨pa, pc, rfl⟩ := h.p.form
 obtain ⟨oa2, oc2, rfl⟩ := h2.o.form
 obtain ⟨sa2, sc2, sF2, rfl, _⟩ := h2.s
 obtain ⟨da2, dc2, dF2, rfl, _⟩ := h2.d
 obtain ⟨wa2, wc2, rfl⟩ := h2.w.form
 obtain ⟨pa2, pc2, rfl⟩ := h2.p.form
 clear h h2 hf
 unfold vlV at HV
 simp only [cmV] at *
 generalize ops.length = on at *
 generalize sF.length = sn at *
 generalize dF.length = dn at *
 generalize writes.length = wn at *
 generalize pairs.length = pn at *
 generalize sF2.length = sn2 at *
 generalize dF2.length = dn2 at *
 obtain ⟨w0, he0, hw0, kQa, kQb, hb0⟩ := boxes2 W (.cells (r22 id1 id2 (.slice oa on oc) phase p1 p2 v1 v2 fast (.slice sa sn sc) b1 b2 has q1 q2 gone t1 t2 (.slice da dn dc) ready (.slice wa wn wc) (.slice pa pn pc)) 31) (.cells (r22 id1 id2 (.slice oa2 on oc2) phase p1 p2 v1 v2 fast (.slice sa2 sn2 sc2) b1 b2 has q1 q2 gone t1 t2 (.slice da2 dn2 dc2) ready (.slice wa2 wn wc2) (.slice pa2 pn pc2)) 31)
 have Ka0 := hH kQa
 have Kb0 := hH kQb
 have HB0 := hH hb0
 have HE0 := hH he0
 clear he0 hb0 kQa kQb
 go_enter Tryz.func16, Tryz.ntmps16
 go_upto_region 1 with fail
 rw [← HE0.out]
 go_wp2_with (first | go_skip | ((with_reducible refine atC w4 ?_); go_at_call 65; refine (HP.out _ HB4.out).mono ?_; rintro e w5 ⟨rfl, h5⟩; have hw5 := Nat.le_trans hw4 h5.size; have HB5 : Hid (Below W.heap.size W w5) := hH (blThen HB4.out h5); clear h5) | ((with_reducible refine atW w4 ?_); refine wpList_load_one _ _ rfl (by rfl) _ 21 rfl Kb4.out Tryz.underlying29 rfl rfl ?_) | ((with_reducible refine atW w4 ?_); refine wpList_load_one _ _ rfl (by rfl) _ 21 rfl Ka4.out Tryz.underlying29 rfl rfl ?_) | ((with_reducible refine atC w3 ?_); go_at_call 64; refine (HW.out _ HB3.out).mono ?_; rintro e w4 ⟨rfl, h5⟩; have hw4 := Nat.le_trans hw3 h5.size; have HB4 : Hid (Below W.heap.size W w4) := hH (blThen HB3.out h5); have Ka4 := hH ((h5.block W.heap.size (by omega)).trans Ka3.out); have Kb4 := hH ((h5.block (W.heap.size + 1) (by omega)).trans Kb3.out); clear h5) | ((with_reducible refine atW w3 ?_); refine wpList_load_one _ _ rfl (by rfl) _ 20 rfl Kb3.out Tryz.underlying28 rfl rfl ?_) | ((with_reducible refine atW w3 ?_); refine wpList_load_one _ _ rfl (by rfl) _ 20 rfl Ka3.out Tryz.underlying28 rfl rfl ?_) | ((with_reducible refine atW w3 ?_); refine wpList_load_one _ _ rfl (by rfl) _ 19 rfl Kb3.out Tryz.underlying4 rfl rfl ?_) | ((with_reducible refine atW w3 ?_); refine wpList_load_one _ _ rfl (by rfl) _ 19 rfl Ka3.out Tryz.underlying4 rfl rfl ?_) | ((with_reducible refine atC w2 ?_); go_at_call 30; refine (HV.out _ HB2.out).mono ?_; rintro e w3 ⟨rfl, h5⟩; have hw3 := Nat.le_trans hw2 h5.size; have HB3 : Hid (Below W.heap.size W w3) := hH (blThen HB2.out h5); have Ka3 := hH ((h5.block W.heap.size (by omega)).trans Ka2.out); have Kb3 := hH ((h5.block (W.heap.size + 1) (by omega)).trans Kb2.out); clear h5) | ((with_reducible refine atW w2 ?_); refine wpList_load_part _ _ rfl (by rfl) _ 15 rfl Kb2.out Tryz.underlying27 rfl #[.bool gone, .int .i64 t1, .int .i64 t2, .slice da2 dn2 dc2] (by kernel_rfl) (four_at rfl rfl rfl rfl) ?_) | ((with_reducible refine atW w2 ?_); refine wpList_load_part _ _ rfl (by rfl) _ 15 rfl Ka2.out Tryz.underlying27 rfl #[.bool gone, .int .i64 t1, .int .i64 t2, .slice da dn dc] (by kernel_rfl) (four_at rfl rfl rfl rfl) ?_) | ((with_reducible refine atW w2 ?_); refine wpList_load_part _ _ rfl (by rfl) _ 13 rfl Kb2.out Tryz.underlying23 rfl #[.int .i64 q1, .int .i64 q2] (by kernel_rfl) (two_at rfl rfl) ?_) | ((with_reducible refine atW w2 ?_); refine wpList_load_part _ _ rfl (by rfl) _ 13 rfl Ka2.out Tryz.underlying23 rfl #[.int .i64 q1, .int .i64 q2] (by kernel_rfl) (two_at rfl rfl) ?_) | ((with_reducible refine atW w2 ?_); refine wpList_load_one _ _ rfl (by rfl) _ 12 rfl Kb2.out Tryz.underlying4 rfl rfl ?_) | ((with_reducible refine atW w2 ?_); refine wpList_load_one _ _ rfl (by rfl) _ 12 rfl Ka2.out Tryz.underlying4 rfl rfl ?_) | ((with_reducible refine atW w2 ?_); refine wpList_load_part _ _ rfl (by rfl) _ 10 rfl Kb2.out Tryz.underlying23 rfl #[.int .i64 b1, .int .i64 b2] (by kernel_rfl) (two_at rfl rfl) ?_) | ((with_reducible refine atW w2 ?_); refine wpList_load_part _ _ rfl (by rfl) _ 10 rfl Ka2.out Tryz.underlying23 rfl #[.int .i64 b1, .int .i64 b2] (by kernel_rfl) (two_at rfl rfl) ?_) | ((with_reducible refine atC w1 ?_); go_at_call 63; refine (HS.out _ HB1.out).mono ?_; rintro e w2 ⟨rfl, h5⟩; have hw2 := Nat.le_trans hw1 h5.size; have HB2 : Hid (Below W.heap.size W w2) := hH (blThen HB1.out h5); have Ka2 := hH ((h5.block W.heap.size (by omega)).trans Ka1.out); have Kb2 := hH ((h5.block (W.heap.size + 1) (by omega)).trans Kb1.out); clear h5) | ((with_reducible refine atW w1 ?_); refine wpList_load_one _ _ rfl (by rfl) _ 9 rfl Kb1.out Tryz.underlying25 rfl rfl ?_) | ((with_reducible refine atW w1 ?_); refine wpList_load_one _ _ rfl (by rfl) _ 9 rfl Ka1.out Tryz.underlying25 rfl rfl ?_) | ((with_reducible refine atW w1 ?_); refine wpList_load_one _ _ rfl (by rfl) _ 8 rfl Kb1.out Tryz.underlying4 rfl rfl ?_) | ((with_reducible refine atW w1 ?_); refine wpList_load_one _ _ rfl (by rfl) _ 8 rfl Ka1.out Tryz.underlying4 rfl rfl ?_) | ((with_reducible refine atW w1 ?_); refine wpList_load_part _ _ rfl (by rfl) _ 6 rfl Kb1.out Tryz.underlying23 rfl #[.int .i64 v1, .int .i64 v2] (by kernel_rfl) (two_at rfl rfl) ?_) | ((with_reducible refine atW w1 ?_); refine wpList_load_part _ _ rfl (by rfl) _ 6 rfl Ka1.out Tryz.underlying23 rfl #[.int .i64 v1, .int .i64 v2] (by kernel_rfl) (two_at rfl rfl) ?_) | ((with_reducible refine atW w1 ?_); refine wpList_load_part _ _ rfl (by rfl) _ 4 rfl Kb1.out Tryz.underlying23 rfl #[.int .i64 p1, .int .i64 p2] (by kernel_rfl) (two_at rfl rfl) ?_) | ((with_reducible refine atW w1 ?_); refine wpList_load_part _ _ rfl (by rfl) _ 4 rfl Ka1.out Tryz.underlying23 rfl #[.int .i64 p1, .int .i64 p2] (by kernel_rfl) (two_at rfl rfl) ?_) | ((with_reducible refine atW w1 ?_); refine wpList_load_one _ _ rfl (by rfl) _ 3 rfl Kb1.out Tryz.underlying3 rfl rfl ?_) | ((with_reducible refine atW w1 ?_); refine wpList_load_one _ _ rfl (by rfl) _ 3 rfl Ka1.out Tryz.underlying3 rfl rfl ?_) | ((with_reducible refine atC w0 ?_); go_at_call 29; refine (HO.out _ HB0.out).mono ?_; rintro e w1 ⟨rfl, h5⟩; have hw1 := Nat.le_trans hw0 h5.size; have HB1 : Hid (Below W.heap.size W w1) := hH (blThen HB0.out h5); have Ka1 := hH ((h5.block W.heap.size (by omega)).trans Ka0.out); have Kb1 := hH ((h5.block (W.heap.size + 1) (by omega)).trans Kb0.out); clear h5) | ((with_reducible refine atW w0 ?_); refine wpList_load_one _ _ rfl (by rfl) _ 2 rfl Kb0.out Tryz.underlying24 rfl rfl ?_) | ((with_reducible refine atW w0 ?_); refine wpList_load_one _ _ rfl (by rfl) _ 2 rfl Ka0.out Tryz.underlying24 rfl rfl ?_) | ((with_reducible refine atW w0 ?_); refine wpList_load_part _ _ rfl (by rfl) _ 0 rfl Kb0.out Tryz.underlying23 rfl #[.int .i64 id1, .int .i64 id2] (by kernel_rfl) (two_at rfl rfl) ?_) | ((with_reducible refine atW w0 ?_); refine wpList_load_part _ _ rfl (by rfl) _ 0 rfl Ka0.out Tryz.underlying23 rfl #[.int .i64 id1, .int .i64 id2] (by kernel_rfl) (two_at rfl rfl) ?_))
 go_ret
 exact ⟨rfl, HB5.out⟩

theorem ownG_kp {α : Type} {E : Enc α} {T : TypeId} {w w' : World} {base : Nat} {v : Value} {F : List α} (h : OwnG E T w base v F) (k : S2.Keeps (fun x => x < base) w w') : OwnG E T w' base v F := by
 obtain ⟨h1, h2 | ⟨g, cap, cur, rfl, hg, hh, rest⟩⟩ := h
 ·exact ⟨h1, .inl h2⟩
 ·exact ⟨h1, .inr ⟨g, cap, cur, rfl, hg, (k.block g (lt_of_block hh) (by omega)).trans hh, rest⟩⟩
def DlO (B : Nat) (w : World) (v : Value) (d : SD.Dd) : Prop := ∃ a cap F, v = .slice a F.length cap ∧ SD.Dl w a F ∧ SD.toD F = d ∧ (a = none → cap = 0) ∧ (∀ b o, a = some ⟨b, o, none⟩ → B ≤ b) ∧ ∀ s ∈ F, ∀ b o, s.ia = some ⟨b, o, none⟩ → B ≤ b
theorem DlO.dl {B : Nat} {w : World} {v : Value} {d : SD.Dd} (h : DlO B w v d) : DlV w v d := by
 obtain ⟨a, cap, F, h1, h2, h3, h4, _⟩ := h
 exact ⟨a, cap, F, h1, h2, h3, h4⟩
theorem DlO.form {B : Nat} {w : World} {v : Value} {d : SD.Dd} (h : DlO B w v d) : ∃ a n c, v = .slice a n c := by
 obtain ⟨a, cap, F, h1, _⟩ := h
 exact ⟨a, _, cap, h1⟩
theorem DlO.mono {B C : Nat} {w : World} {v : Value} {d : SD.Dd} (h : DlO B w v d) (hc : C ≤ B) : DlO C w v d := by
 obtain ⟨a, cap, F, h1, h2, h3, h4, h5, h6⟩ := h
 exact ⟨a, cap, F, h1, h2, h3, h4, fun b o e => Nat.le_trans hc (h5 b o e), fun s hs b o e => Nat.le_trans hc (h6 s hs b o e)⟩
theorem dl_kp {w w' : World} {a : Option Addr} {l : List SD.Dp} {B : Nat} (h : SD.Dl w a l) (ha : ∀ b o, a = some ⟨b, o, none⟩ → B ≤ b) (hi : ∀ s ∈ l, ∀ b o, s.ia = some ⟨b, o, none⟩ → B ≤ b) (k : S2.Keeps (fun x => x < B) w w') : SD.Dl w' a l := by
 have cl : ∀ (b o : Nat) (v : Value), B ≤ b → w.cell? ⟨b, o, none⟩ = some v → w'.cell? ⟨b, o, none⟩ = some v := fun b o v h1 h3 => k.cell (by omega) h3
 refine ⟨fun s hs => ⟨fun hne => ?_, (h.1 s hs).2⟩, fun hne => ?_⟩
 ·obtain ⟨b, o, e, hlt, hc⟩ := (h.1 s hs).1 hne
  exact ⟨b, o, e, Nat.lt_of_lt_of_le hlt k.size, fun j x y hj => ⟨cl _ _ _ (hi s hs b o e) (hc j x y hj).1, cl _ _ _ (hi s hs b o e) (hc j x y hj).2⟩⟩
 ·obtain ⟨b, o, e, hlt, hc⟩ := h.2 hne
  exact ⟨b, o, e, Nat.lt_of_lt_of_le hlt k.size, fun j s hj => ⟨cl _ _ _ (ha b o e) (hc j s hj).1, cl _ _ _ (ha b o e) (hc j s hj).2⟩⟩
theorem DlO.kp {B : Nat} {w w' : World} {v : Value} {d : SD.Dd} (h : DlO B w v d) (k : S2.Keeps (fun x => x < B) w w') : DlO B w' v d := by
 obtain ⟨a, cap, F, h1, h2, h3, h4, h5, h6⟩ := h
 exact ⟨a, cap, F, h1, dl_kp h2 h5 h6 k, h3, h4, h5, h6⟩
theorem ownD_base9 {w : World} {base b o n c : Nat} {F : List SD.Dp} (h : SD.OwnD w base (.slice (some ⟨b, o, none⟩) n c) F) : base ≤ b := by
 obtain ⟨h1, ⟨h2, _⟩ | ⟨g, cap, cur, hv, hg, _⟩⟩ := h
 ·cases h2
 ·simp only [Value.slice.injEq, Option.some.injEq, Addr.mk.injEq] at hv
  omega
theorem dlO_of {w' : World} {B : Nat} {v : Value} {F : List SD.Dp} {d : SD.Dd} (hd : SD.toD F = d) (ho : SD.OwnD w' B v F) (hg : SD.HasG w' v F) (hb : ∀ s' ∈ F, ∀ p, s'.ia = some p → B ≤ p.block) : DlO B w' v d := by
 obtain ⟨a, c, hv, h1, _, h3⟩ := ho.dl fun s hs => (hg s hs).1
 exact ⟨a, c, F, hv, h3, hd, h1, fun b o e => by subst e; exact ownD_base9 (hv ▸ ho), fun s hs b o e => hb s hs _ e⟩
structure CmOwn (B : Nat) (W : World) (c : Cm) (l : Pl) : Prop where
 o : OwnG eO 79 W B l.o c.ops
 s : DlO B W l.s c.seen
 d : DlO B W l.d c.val.2.2
 w : OwnG eW 84 W B l.w c.writes
 p : OwnG eP 86 W B l.p c.pairs
theorem CmOwn.at {B : Nat} {w : World} {c : Cm} {l : Pl} (h : CmOwn B w c l) : CmAt w c l := ⟨h.o.sl, h.s.dl, h.d.dl, h.w.sl, h.p.sl⟩
theorem CmOwn.kp {B : Nat} {w w' : World} {c : Cm} {l : Pl} (h : CmOwn B w c l) (k : S2.Keeps (fun x => x < B) w w') : CmOwn B w' c l := ⟨ownG_kp h.o k, h.s.kp k, h.d.kp k, ownG_kp h.w k, ownG_kp h.p k⟩
theorem CmOwn.mono {B C : Nat} {w : World} {c : Cm} {l : Pl} (h : CmOwn B w c l) (hc : C ≤ B) : CmOwn C w c l := ⟨h.o.mono hc, h.s.mono hc, h.d.mono hc, h.w.mono hc, h.p.mono hc⟩
theorem eyeS_store {w w' : World} {s b g R : Nat} {c : Cur} (h : EyeS w s b g c) (hg : w.grownBy w' (some R)) (hs : s < R) (hb : b < R) (hgg : c.1 ≠ [] → g < R) : EyeS w' s b g c :=
 h.grown hg (fun k e => by
  cases e
  exact .inr ⟨by omega, by omega, fun hne => by have := hgg hne; omega⟩)
theorem nil_of9 {α : Type} {a b : List α} (h : a.length ≤ b.length) (e : b = []) : a = [] := List.eq_nil_of_length_eq_zero (by rw [e] at h; simpa using h)
theorem both_lt {w w' : World} {s b B : Nat} (k : S2.Keeps (Both s b) w w') (hs : s < B) (hb : b < B) : S2.Keeps (fun x => x < B) w w' := k.mono fun x _ e => by rcases e with rfl | rfl <;> omega
theorem grown_lt {w w' : World} {R B : Nat} (h : w.grownBy w' (some R)) (hR : R < B) : S2.Keeps (fun x => x < B) w w' := S2.Keeps.grown h fun k _ e => by cases e; exact hR
def SeeV (w : World) (s b g : Nat) (c : Cur) (e : Ending) (w' : World) : Prop := ∃ vd, e = .returned (vlV (cV.val c) vd) ∧ DlO w.heap.size w' vd (cV.val c).2.2 ∧ EyeS w' s b g (cV.fin c) ∧ S2.Keeps (Both s b) w w'
theorem cDl_ok : SD.cD.list.Ok := Cod.list_ok SD.cD_ok SD.cD_pos
theorem cWl_ok : cW.list.Ok := Cod.list_ok cW_ok cW_pos
theorem cPl_ok : cP.list.Ok := Cod.list_ok cP_ok cP_pos

theorem szVal : (Tryz.prog.info? 27).map (·.size) = some 4 := by kernel_rfl
theorem sV_any {w : World} {s b g : Nat} {c : Cur} (he : EyeS w s b g c) (hlen : c.1.length ≤ 1000000) : Calls Tryz.prog 127 #[.pointer (some ⟨s, 0, none⟩)] w (SeeV w s b g c) := by
 have HLT := hH he.lt
 have HLN := hH hlen
 have HL0 : Hid (c.1.length ≤ c.1.length) := hH (Nat.le_refl _)
 have HN := hH (fun i o (h : ([(.cells #[.bool false, .int .i64 0, .int .i64 0, .slice none 0 0] 27)] : List Obj)[i]? = some o) => nth_box w [(.cells #[.bool false, .int .i64 0, .int .i64 0, .slice none 0 0] 27)] i o h)
 have hw0 : (w.heap.size + 1) ≤ (w.alloc (.cells #[.bool false, .int .i64 0, .int .i64 0, .slice none 0 0] 27)).heap.size := Nat.le_of_eq (HN.out 0 _ rfl).2
 have Kr0 : Hid ((w.alloc (.cells #[.bool false, .int .i64 0, .int .i64 0, .slice none 0 0] 27)).heap[w.heap.size]? = some (.cells #[.bool false, .int .i64 0, .int .i64 0, .slice none 0 0] 27 (0, 0))) := hH (HN.out 0 _ rfl).1
 have HE0 : Hid (EyeS (w.alloc (.cells #[.bool false, .int .i64 0, .int .i64 0, .slice none 0 0] 27)) s b g c) := hH (he.before (S2.kAlloc (S2.Keeps.refl _ _) _))
 have HK0 : Hid (S2.Keeps (Both s b) w (w.alloc (.cells #[.bool false, .int .i64 0, .int .i64 0, .slice none 0 0] 27))) := hH (S2.kAlloc (S2.Keeps.refl _ _) _)
 have p0 := HE0.out.ptr
 clear he hlen HN
 go_enter Tryz.func127, Tryz.ntmps127
 go_upto_region 1 with fail
 generalize (w.alloc (.cells #[.bool false, .int .i64 0, .int .i64 0, .slice none 0 0] 27)) = wz at *
 go_upto_region 3 with (first | go_skip | ((with_reducible refine atC w1 ?_); go_at_call 123; go_must (refine (sstamp_any HE1.out).mono ?_; intro e w2 h; unfold SeeS stV at h; obtain ⟨rfl, he1, hk1⟩ := h; have hk2 := (both_of (s := s) hk1); obtain ⟨c2, hc2⟩ : ∃ x, x = cS.fin c1 := ⟨_, rfl⟩; obtain ⟨v2, hv2⟩ : ∃ x, x = cS.val c1 := ⟨_, rfl⟩; rw [← hc2] at he1; rw [← hv2] at ⊢; have HE2 := hH he1; have p2 := he1.ptr; have HL2 : Hid (c2.1.length ≤ c.1.length) := hH (by rw [hc2]; exact Nat.le_trans (cS_ok.len c1) HL1.out); have HK2 := hH (HK1.out.then hk2); have hw2 := Nat.le_trans hw1 hk2.size; have Kr2 := hH ((hk2.block w.heap.size (by omega) (by have := HLT.out.1; have := HLT.out.2.1; rintro (e | e) <;> omega)).trans Kr1.out); have HC2 := hH hc2; have HV2 := hH hv2; clear hk1 hk2 he1 hc2 hv2)) | ((with_reducible refine atC wz ?_); go_at_call 125; go_must (refine (sbool_any HE0.out).mono ?_; intro e w1 h; unfold SeeS at h; obtain ⟨rfl, he1, hk1⟩ := h; have hk2 := (both_of (s := s) hk1); obtain ⟨c1, hc1⟩ : ∃ x, x = cB.fin c := ⟨_, rfl⟩; obtain ⟨v1, hv1⟩ : ∃ x, x = cB.val c := ⟨_, rfl⟩; rw [← hc1] at he1; rw [← hv1] at ⊢; have HE1 := hH he1; have p1 := he1.ptr; have HL1 : Hid (c1.1.length ≤ c.1.length) := hH (by rw [hc1]; exact Nat.le_trans (cB_ok.len c) HL0.out); have HK1 := hH (HK0.out.then hk2); have hw1 := Nat.le_trans hw0 hk2.size; have Kr1 := hH ((hk2.block w.heap.size (by omega) (by have := HLT.out.1; have := HLT.out.2.1; rintro (e | e) <;> omega)).trans Kr0.out); have HC1 := hH hc1; have HV1 := hH hv1; clear hk1 hk2 he1 hc1 hv1)))
 have hbx := row_box w2 #[.int .i64 v2.1, .int .i64 v2.2] 23
 have HB4 := hH (new_blockC w2 #[.int .i64 v2.1, .int .i64 v2.2] 23)
 have HE9 : Hid (EyeS (w2.alloc (.cells #[.int .i64 v2.1, .int .i64 v2.2] 23)) s b g c2) := hH (HE2.out.before (S2.kAlloc (S2.Keeps.refl _ _) _))
 have HK9 : Hid (S2.Keeps (Both s b) w (w2.alloc (.cells #[.int .i64 v2.1, .int .i64 v2.2] 23))) := hH (S2.kAlloc HK2.out _)
 have hsz9 : w2.heap.size < (w2.alloc (.cells #[.int .i64 v2.1, .int .i64 v2.2] 23)).heap.size := by simp
 have Kr9 : Hid ((w2.alloc (.cells #[.int .i64 v2.1, .int .i64 v2.2] 23)).heap[w.heap.size]? = some (.cells #[.bool false, .int .i64 0, .int .i64 0, .slice none 0 0] 27 (0, 0))) := hH (((blAlloc (Below.refl _ _) _ : Below w2.heap.size w2 (w2.alloc (.cells #[.int .i64 v2.1, .int .i64 v2.2] 23))).block w.heap.size (by omega)).trans Kr2.out)
 clear hbx
 have HGE : Hid (w.heap.size + 1 ≤ w2.heap.size) := hH hw2
 generalize hbk : w2.heap.size = bk at *
 generalize w2.alloc (.cells #[.int .i64 v2.1, .int .i64 v2.2] 23) = w9 at *
 have d0 := cell_row HB4.out 0 _ rfl
 have d1 := cell_row HB4.out 1 _ rfl
 have HSD := hH (SD.sdepsO_any (HE9.out.before (S2.kDrew (S2.Keeps.refl _ _))) (by have := HL2.out; have := HLN.out; omega))
 refine wp_region_held_drew (S := fun Y => Y.cell? ⟨bk, 0, none⟩ = some (.int .i64 v2.1) ∧ Y.cell? ⟨bk, 1, none⟩ = some (.int .i64 v2.2)) (by kernel_rfl) (⟨d0, d1⟩) (fun hHeld => ?_)
 refine wpAnyH_take (i := 0) (oi := ⟨_, _, _, _, _, _⟩) (v := ?_) rfl (by kernel_rfl) (by kernel_rfl) (by kernel_rfl) (fun _ _ _ h => h) (Or.inl ⟨by rfl, ?_⟩) (by assumption) ?_
 rotate_left
 ·intro w hSw
  try dsimp only at hSw
  go_simp
  try with_reducible rfl
 try simp only [Act.put, sA9, sZ9, sS9]
 refine wpAnyH_take (i := 1) (oi := ⟨_, _, _, _, _, _⟩) (v := ?_) rfl (by kernel_rfl) (by kernel_rfl) (by kernel_rfl) (fun _ _ _ h => h) (Or.inl ⟨by rfl, ?_⟩) (by assumption) ?_
 rotate_left
 ·intro w hSw
  try dsimp only at hSw
  go_simp
  try with_reducible rfl
 try simp only [Act.put, sA9, sZ9, sS9]
 refine wpAnyH_take (i := 2) (oi := ⟨_, _, _, _, _, _⟩) (v := ?_) rfl (by kernel_rfl) (by kernel_rfl) (by kernel_rfl) (fun _ _ _ h => h) (Or.inl ⟨by rfl, ?_⟩) (by assumption) ?_
 rotate_left
 ·intro w hSw
  try dsimp only at hSw
  go_simp
  try with_reducible rfl
 try simp only [Act.put, sA9, sZ9, sS9]
 refine wpAnyH_ready (rs := [3]) (by kernel_rfl) (by simp) ?_
 refine AllReadyH.cons (o := ⟨_, _, _, _, _, _⟩) rfl (fun K hK => ?_) ?_
 rotate_left
 ·exact AllReadyH.nil
 go_simp
 go_at_call 126
 refine HSD.out.mono ?_
 intro e wa h
 unfold SD.SeeLDO at h
 obtain ⟨xa, F, rfl, ht1, ho1, hg1, hb1, he1, hk1⟩ := h
 have hda := (hk1.block bk (by have := hsz9; exact this) (by have := HLT.out.1; have := HLT.out.2.1; have := HGE.out; rintro (e | e) <;> omega)).trans HB4.out
 have HDA := hH hda
 have e0 := cell_row hda 0 _ rfl
 have e1 := cell_row hda 1 _ rfl
 have HDO := hH (dlO_of ht1 ho1 hg1 hb1)
 have HEA := hH he1
 have HKA := hH (S2.Keeps.then (S2.kDrew HK9.out) hk1)
 have HKL := hH hk1
 have KrA := hH ((hk1.block w.heap.size (by have := hsz9; have := HGE.out; show _ < w9.heap.size; omega) (by have := HLT.out.1; have := HLT.out.2.1; rintro (e | e) <;> omega)).trans Kr9.out)
 have hszA : w9.heap.size ≤ wa.heap.size := hk1.size
 obtain ⟨a7, c7, rfl⟩ : ∃ a c, xa = .slice a F.length c := (by obtain ⟨a, c, e, _⟩ := ho1.row; exact ⟨a, c, e⟩)
 generalize F.length = fn at *
 clear ht1 ho1 hg1 hb1 he1 hk1 hda
 refine hK.out _ _ (⟨e0, e1⟩) (fun hHeld => ?_)
 clear hK K
 try simp only [Act.put, sA9, sZ9, sS9]
 refine wpAnyH_take (i := 4) (oi := ⟨_, _, _, _, _, _⟩) (v := ?_) rfl (by kernel_rfl) (by kernel_rfl) (by kernel_rfl) (fun _ _ _ h => h) (Or.inl ⟨by rfl, ?_⟩) (by assumption) ?_
 rotate_left
 ·intro w hSw
  try dsimp only at hSw
  go_simp
  try with_reducible rfl
 try simp only [Act.put, sA9, sZ9, sS9]
 refine wpAnyH_ready (rs := [5]) (by kernel_rfl) (by simp) ?_
 refine AllReadyH.cons (o := ⟨_, _, _, _, _, _⟩) rfl (fun K hK => ?_) ?_
 rotate_left
 ·exact AllReadyH.nil
 refine wp_store_part _ _ _ rfl _ 0 rfl rfl (cs := #[.bool v1, .int .i64 v2.1, .int .i64 v2.2, .slice a7 fn c7]) rfl KrA.out (by kernel_rfl) (by simp) (by simp [Value.oneCell']) (D := #[.bool v1, .int .i64 v2.1, .int .i64 v2.2, .slice a7 fn c7]) rfl ?_
 intro wf h1 h2
 have HDF := hH (grown_other9 HDA.out h2 (by omega) (by have := HGE.out; omega))
 have KrF := hH h1
 have HDOF := hH ((HDO.out.mono (show w.heap.size + 1 ≤ _ from by have := HGE.out; show _ ≤ w9.heap.size; omega)).kp (grown_lt h2 (by omega)))
 have HEF := hH (eyeS_store HEA.out h2 (by have := HLT.out.1; omega) (by have := HLT.out.2.1; omega) (fun hne => HLT.out.2.2 (fun e => hne (nil_of9 (Nat.le_trans (cDl_ok.len c2) HL2.out) e))))
 have HKF := hH (keeps_after HKA.out h2 (Nat.le_refl _))
 clear h1 h2
 refine hK.out _ _ (⟨cell_row HDF.out 0 _ rfl, cell_row HDF.out 1 _ rfl⟩) (fun hHeld => ?_)
 clear hK K
 try simp only [Act.put, sA9, sZ9, sS9]
 refine wpAnyH_done (by kernel_rfl) ?_ _
 have EV : cV.val c = (v1, v2, SD.cD.list.val c2) ∧ cV.fin c = SD.cD.list.fin c2 := by
  rw [HV1.out, HV2.out, HC2.out, HC1.out]
  exact ⟨rfl, rfl⟩
 go_wp2
 refine bodyPost_ret (results_cell_row Tryz.results127 _ _ _ 27 _ (0, 0) _ rfl KrF.out Tryz.underlying27 rfl szVal) rfl ?_
 exact ⟨.slice a7 fn c7, by rw [EV.1]; rfl, by rw [EV.1]; exact HDOF.out.mono (by omega), by rw [EV.2]; exact HEF.out, HKF.out⟩

def SeeCm (w : World) (s b g : Nat) (c : Cur) (e : Ending) (w' : World) : Prop := ∃ l, e = .returned (cmV (cmOf (cC.val c)) l) ∧ CmOwn w.heap.size w' (cmOf (cC.val c)) l ∧ EyeS w' s b g (cC.fin c) ∧ S2.Keeps (Both s b) w w'
theorem read9_any {w : World} {s b g : Nat} {c : Cur} (he : EyeS w s b g c) (hlen : c.1.length ≤ 1000000) : Calls Tryz.prog 45 #[.pointer (some ⟨s, 0, none⟩)] w (SeeCm w s b g c) := by
 have HLT := hH he.lt
 have HLN := hH hlen
 have HL0 : Hid (c.1.length ≤ c.1.length) := hH (Nat.le_refl _)
 have HN := hH (fun i o (h : ([(.cells z22 31), (.cells z22 31)] : List Obj)[i]? = some o) => nth_box w [(.cells z22 31), (.cells z22 31)] i o h)
 have hw0 : (w.heap.size + 2) ≤ ((w.alloc (.cells z22 31)).alloc (.cells z22 31)).heap.size := Nat.le_of_eq (HN.out 0 _ rfl).2
 have Kr0 : Hid (((w.alloc (.cells z22 31)).alloc (.cells z22 31)).heap[w.heap.size]? = some (.cells z22 31 (0, 0))) := hH (HN.out 0 _ rfl).1
 have Kc0 : Hid (((w.alloc (.cells z22 31)).alloc (.cells z22 31)).heap[(w.heap.size + 1)]? = some (.cells z22 31 (0, 0))) := hH (HN.out 1 _ rfl).1
 have HE0 : Hid (EyeS ((w.alloc (.cells z22 31)).alloc (.cells z22 31)) s b g c) := hH (he.before (S2.kAlloc (S2.kAlloc (S2.Keeps.refl _ _) _) _))
 have HK0 : Hid (S2.Keeps (Both s b) w ((w.alloc (.cells z22 31)).alloc (.cells z22 31))) := hH (S2.kAlloc (S2.kAlloc (S2.Keeps.refl _ _) _) _)
 have p0 := HE0.out.ptr
 clear he hlen HN
 go_enter Tryz.func45, Tryz.ntmps45
 go_upto_region 2 with fail
 generalize ((w.alloc (.cells z22 31)).alloc (.cells z22 31)) = wz at *
 go_wp2_with (first | go_skip | ((with_reducible refine atW w28 ?_); refine store9 _ _ rfl rfl _ rfl rfl Kr28.out rfl rfl (by simp [Value.oneCell']) ?_; intro w29 h1 h2; have Kr29 := hH h1; have hw29 := Nat.le_trans hw28 h2.size; have HK29 := hH (keeps_after HK28.out h2 (by omega)); have HE29 := hH (eyeS_store HE28.out h2 (by have := HLT.out.1; omega) (by have := HLT.out.2.1; omega) (fun hne => by have := HLT.out.2.2 (fun e => hne (nil_of9 HL28.out e)); omega)); have p29 := HE29.out.ptr; have HL29 := HL28; have OO_29 := hH (ownG_kp OO_28.out (grown_lt h2 (by omega))); have OS_29 := hH (OS_28.out.kp (grown_lt h2 (by omega))); have OD_29 := hH (OD_28.out.kp (grown_lt h2 (by omega))); have OW_29 := hH (ownG_kp OW_28.out (grown_lt h2 (by omega))); have OP_29 := hH (ownG_kp OP_28.out (grown_lt h2 (by omega))); clear h1 h2) | ((with_reducible refine atW w28 ?_); refine load9 _ rfl rfl _ rfl Kc28.out rfl ?_) | ((with_reducible refine atW w27 ?_); refine wpList_store_part _ _ _ rfl rfl _ 21 rfl rfl (cs := #[.slice a27 v27.length cp27]) rfl Kc27.out (by kernel_rfl) (by simp) (by simp [Value.oneCell']) (D := (r22 v1.1 v1.2 (.slice a3 v3.length cp3) v5 v7.1 v7.2 v9.1 v9.2 v11 (.slice a13 fn13 cp13) v15.1 v15.2 v17 v19.1 v19.2 v21.1 v21.2.1.1 v21.2.1.2 (.slice a21 fn21 cp21) v23 (.slice a25 v25.length cp25) (.slice a27 v27.length cp27))) rfl ?_; intro w28 h1 h2; have Kc28 := hH h1; have hw28 := Nat.le_trans hw27 h2.size; have HK28 := hH (keeps_after HK27.out h2 (by omega)); have HE28 := hH (eyeS_store HE27.out h2 (by have := HLT.out.1; omega) (by have := HLT.out.2.1; omega) (fun hne => by have := HLT.out.2.2 (fun e => hne (nil_of9 HL27.out e)); omega)); have p28 := HE28.out.ptr; have HL28 := HL27; have Kr28 := hH (grown_other9 Kr27.out h2 (by omega) (by omega)); have OO_28 := hH (ownG_kp OO_27.out (grown_lt h2 (by omega))); have OS_28 := hH (OS_27.out.kp (grown_lt h2 (by omega))); have OD_28 := hH (OD_27.out.kp (grown_lt h2 (by omega))); have OW_28 := hH (ownG_kp OW_27.out (grown_lt h2 (by omega))); have OP_28 := hH (ownG_kp OP_27.out (grown_lt h2 (by omega))); clear h1 h2) | ((with_reducible refine atC w26 ?_); go_at_call 129; go_must (refine (sPs_any HE26.out (by have := HL26.out; have := HLN.out; omega)).mono ?_; intro e w27 h; unfold SeeL at h; obtain ⟨x27, rfl, ho1, he1, hk1⟩ := h; have hk2 := hk1; obtain ⟨c27, hc27⟩ : ∃ x, x = cP.list.fin c25 := ⟨_, rfl⟩; obtain ⟨v27, hv27⟩ : ∃ x, x = cP.list.val c25 := ⟨_, rfl⟩; rw [← hc27] at he1; rw [← hv27] at ho1; have HE27 := hH he1; have p27 := he1.ptr; have HL27 : Hid (c27.1.length ≤ c.1.length) := hH (by rw [hc27]; exact Nat.le_trans (cPl_ok.len c25) HL26.out); have HK27 := hH (HK26.out.then hk2); have hw27 := Nat.le_trans hw26 hk2.size; have Kr27 := hH ((hk2.block w.heap.size (by omega) (by have := HLT.out.1; have := HLT.out.2.1; rintro (e | e) <;> omega)).trans Kr26.out); have Kc27 := hH ((hk2.block (w.heap.size + 1) (by omega) (by have := HLT.out.1; have := HLT.out.2.1; rintro (e | e) <;> omega)).trans Kc26.out); have OO_27 := hH (ownG_kp OO_26.out (both_lt hk2 (by have := HLT.out.1; omega) (by have := HLT.out.2.1; omega))); have OS_27 := hH (OS_26.out.kp (both_lt hk2 (by have := HLT.out.1; omega) (by have := HLT.out.2.1; omega))); have OD_27 := hH (OD_26.out.kp (both_lt hk2 (by have := HLT.out.1; omega) (by have := HLT.out.2.1; omega))); have OW_27 := hH (ownG_kp OW_26.out (both_lt hk2 (by have := HLT.out.1; omega) (by have := HLT.out.2.1; omega))); have OP_27 := hH (ho1.mono hw26); obtain ⟨a27, cp27, rfl⟩ := ho1.form; have HC27 := hH hc27; have HV27 := hH hv27; clear hk1 hk2 he1 hc27 hv27 ho1)) | ((with_reducible refine atW w25 ?_); refine wpList_store_part _ _ _ rfl rfl _ 20 rfl rfl (cs := #[.slice a25 v25.length cp25]) rfl Kc25.out (by kernel_rfl) (by simp) (by simp [Value.oneCell']) (D := (r22 v1.1 v1.2 (.slice a3 v3.length cp3) v5 v7.1 v7.2 v9.1 v9.2 v11 (.slice a13 fn13 cp13) v15.1 v15.2 v17 v19.1 v19.2 v21.1 v21.2.1.1 v21.2.1.2 (.slice a21 fn21 cp21) v23 (.slice a25 v25.length cp25) (.slice none 0 0))) rfl ?_; intro w26 h1 h2; have Kc26 := hH h1; have hw26 := Nat.le_trans hw25 h2.size; have HK26 := hH (keeps_after HK25.out h2 (by omega)); have HE26 := hH (eyeS_store HE25.out h2 (by have := HLT.out.1; omega) (by have := HLT.out.2.1; omega) (fun hne => by have := HLT.out.2.2 (fun e => hne (nil_of9 HL25.out e)); omega)); have p26 := HE26.out.ptr; have HL26 := HL25; have Kr26 := hH (grown_other9 Kr25.out h2 (by omega) (by omega)); have OO_26 := hH (ownG_kp OO_25.out (grown_lt h2 (by omega))); have OS_26 := hH (OS_25.out.kp (grown_lt h2 (by omega))); have OD_26 := hH (OD_25.out.kp (grown_lt h2 (by omega))); have OW_26 := hH (ownG_kp OW_25.out (grown_lt h2 (by omega))); clear h1 h2) | ((with_reducible refine atC w24 ?_); go_at_call 128; go_must (refine (sWs_any HE24.out (by have := HL24.out; have := HLN.out; omega)).mono ?_; intro e w25 h; unfold SeeL at h; obtain ⟨x25, rfl, ho1, he1, hk1⟩ := h; have hk2 := hk1; obtain ⟨c25, hc25⟩ : ∃ x, x = cW.list.fin c23 := ⟨_, rfl⟩; obtain ⟨v25, hv25⟩ : ∃ x, x = cW.list.val c23 := ⟨_, rfl⟩; rw [← hc25] at he1; rw [← hv25] at ho1; have HE25 := hH he1; have p25 := he1.ptr; have HL25 : Hid (c25.1.length ≤ c.1.length) := hH (by rw [hc25]; exact Nat.le_trans (cWl_ok.len c23) HL24.out); have HK25 := hH (HK24.out.then hk2); have hw25 := Nat.le_trans hw24 hk2.size; have Kr25 := hH ((hk2.block w.heap.size (by omega) (by have := HLT.out.1; have := HLT.out.2.1; rintro (e | e) <;> omega)).trans Kr24.out); have Kc25 := hH ((hk2.block (w.heap.size + 1) (by omega) (by have := HLT.out.1; have := HLT.out.2.1; rintro (e | e) <;> omega)).trans Kc24.out); have OO_25 := hH (ownG_kp OO_24.out (both_lt hk2 (by have := HLT.out.1; omega) (by have := HLT.out.2.1; omega))); have OS_25 := hH (OS_24.out.kp (both_lt hk2 (by have := HLT.out.1; omega) (by have := HLT.out.2.1; omega))); have OD_25 := hH (OD_24.out.kp (both_lt hk2 (by have := HLT.out.1; omega) (by have := HLT.out.2.1; omega))); have OW_25 := hH (ho1.mono hw24); obtain ⟨a25, cp25, rfl⟩ := ho1.form; have HC25 := hH hc25; have HV25 := hH hv25; clear hk1 hk2 he1 hc25 hv25 ho1)) | ((with_reducible refine atW w23 ?_); refine wpList_store_part _ _ _ rfl rfl _ 19 rfl rfl (cs := #[.bool v23]) rfl Kc23.out (by kernel_rfl) (by simp) (by simp [Value.oneCell']) (D := (r22 v1.1 v1.2 (.slice a3 v3.length cp3) v5 v7.1 v7.2 v9.1 v9.2 v11 (.slice a13 fn13 cp13) v15.1 v15.2 v17 v19.1 v19.2 v21.1 v21.2.1.1 v21.2.1.2 (.slice a21 fn21 cp21) v23 (.slice none 0 0) (.slice none 0 0))) rfl ?_; intro w24 h1 h2; have Kc24 := hH h1; have hw24 := Nat.le_trans hw23 h2.size; have HK24 := hH (keeps_after HK23.out h2 (by omega)); have HE24 := hH (eyeS_store HE23.out h2 (by have := HLT.out.1; omega) (by have := HLT.out.2.1; omega) (fun hne => by have := HLT.out.2.2 (fun e => hne (nil_of9 HL23.out e)); omega)); have p24 := HE24.out.ptr; have HL24 := HL23; have Kr24 := hH (grown_other9 Kr23.out h2 (by omega) (by omega)); have OO_24 := hH (ownG_kp OO_23.out (grown_lt h2 (by omega))); have OS_24 := hH (OS_23.out.kp (grown_lt h2 (by omega))); have OD_24 := hH (OD_23.out.kp (grown_lt h2 (by omega))); clear h1 h2) | ((with_reducible refine atC w22 ?_); go_at_call 125; go_must (refine (sbool_any HE22.out).mono ?_; intro e w23 h; unfold SeeS at h; obtain ⟨rfl, he1, hk1⟩ := h; have hk2 := (both_of (s := s) hk1); obtain ⟨c23, hc23⟩ : ∃ x, x = cB.fin c21 := ⟨_, rfl⟩; obtain ⟨v23, hv23⟩ : ∃ x, x = cB.val c21 := ⟨_, rfl⟩; rw [← hc23] at he1; rw [← hv23] at ⊢; have HE23 := hH he1; have p23 := he1.ptr; have HL23 : Hid (c23.1.length ≤ c.1.length) := hH (by rw [hc23]; exact Nat.le_trans (cB_ok.len c21) HL22.out); have HK23 := hH (HK22.out.then hk2); have hw23 := Nat.le_trans hw22 hk2.size; have Kr23 := hH ((hk2.block w.heap.size (by omega) (by have := HLT.out.1; have := HLT.out.2.1; rintro (e | e) <;> omega)).trans Kr22.out); have Kc23 := hH ((hk2.block (w.heap.size + 1) (by omega) (by have := HLT.out.1; have := HLT.out.2.1; rintro (e | e) <;> omega)).trans Kc22.out); have OO_23 := hH (ownG_kp OO_22.out (both_lt hk2 (by have := HLT.out.1; omega) (by have := HLT.out.2.1; omega))); have OS_23 := hH (OS_22.out.kp (both_lt hk2 (by have := HLT.out.1; omega) (by have := HLT.out.2.1; omega))); have OD_23 := hH (OD_22.out.kp (both_lt hk2 (by have := HLT.out.1; omega) (by have := HLT.out.2.1; omega))); have HC23 := hH hc23; have HV23 := hH hv23; clear hk1 hk2 he1 hc23 hv23)) | ((with_reducible refine atW w21 ?_); refine wpList_store_part _ _ _ rfl rfl _ 15 rfl rfl (cs := #[.bool v21.1, .int .i64 v21.2.1.1, .int .i64 v21.2.1.2, .slice a21 fn21 cp21]) rfl Kc21.out (by kernel_rfl) (by simp) (by simp [Value.oneCell']) (D := (r22 v1.1 v1.2 (.slice a3 v3.length cp3) v5 v7.1 v7.2 v9.1 v9.2 v11 (.slice a13 fn13 cp13) v15.1 v15.2 v17 v19.1 v19.2 v21.1 v21.2.1.1 v21.2.1.2 (.slice a21 fn21 cp21) false (.slice none 0 0) (.slice none 0 0))) rfl ?_; intro w22 h1 h2; have Kc22 := hH h1; have hw22 := Nat.le_trans hw21 h2.size; have HK22 := hH (keeps_after HK21.out h2 (by omega)); have HE22 := hH (eyeS_store HE21.out h2 (by have := HLT.out.1; omega) (by have := HLT.out.2.1; omega) (fun hne => by have := HLT.out.2.2 (fun e => hne (nil_of9 HL21.out e)); omega)); have p22 := HE22.out.ptr; have HL22 := HL21; have Kr22 := hH (grown_other9 Kr21.out h2 (by omega) (by omega)); have OO_22 := hH (ownG_kp OO_21.out (grown_lt h2 (by omega))); have OS_22 := hH (OS_21.out.kp (grown_lt h2 (by omega))); have OD_22 := hH (OD_21.out.kp (grown_lt h2 (by omega))); clear h1 h2) | ((with_reducible refine atC w20 ?_); go_at_call 127; go_must (refine (sV_any HE20.out (by have := HL20.out; have := HLN.out; omega)).mono ?_; intro e w21 h; unfold SeeV vlV at h; obtain ⟨x21, rfl, ho1, he1, hk1⟩ := h; have hk2 := hk1; obtain ⟨c21, hc21⟩ : ∃ x, x = cV.fin c19 := ⟨_, rfl⟩; obtain ⟨v21, hv21⟩ : ∃ x, x = cV.val c19 := ⟨_, rfl⟩; rw [← hc21] at he1; rw [← hv21] at ho1 ⊢; have HE21 := hH he1; have p21 := he1.ptr; have HL21 : Hid (c21.1.length ≤ c.1.length) := hH (by rw [hc21]; exact Nat.le_trans (cV_ok.len c19) HL20.out); have HK21 := hH (HK20.out.then hk2); have hw21 := Nat.le_trans hw20 hk2.size; have Kr21 := hH ((hk2.block w.heap.size (by omega) (by have := HLT.out.1; have := HLT.out.2.1; rintro (e | e) <;> omega)).trans Kr20.out); have Kc21 := hH ((hk2.block (w.heap.size + 1) (by omega) (by have := HLT.out.1; have := HLT.out.2.1; rintro (e | e) <;> omega)).trans Kc20.out); have OO_21 := hH (ownG_kp OO_20.out (both_lt hk2 (by have := HLT.out.1; omega) (by have := HLT.out.2.1; omega))); have OS_21 := hH (OS_20.out.kp (both_lt hk2 (by have := HLT.out.1; omega) (by have := HLT.out.2.1; omega))); have OD_21 := hH (ho1.mono hw20); obtain ⟨a21, fn21, cp21, rfl⟩ := ho1.form; have HC21 := hH hc21; have HV21 := hH hv21; clear hk1 hk2 he1 hc21 hv21 ho1)) | ((with_reducible refine atW w19 ?_); refine wpList_store_part _ _ _ rfl rfl _ 13 rfl rfl (cs := #[.int .i64 v19.1, .int .i64 v19.2]) rfl Kc19.out (by kernel_rfl) (by simp) (by simp [Value.oneCell']) (D := (r22 v1.1 v1.2 (.slice a3 v3.length cp3) v5 v7.1 v7.2 v9.1 v9.2 v11 (.slice a13 fn13 cp13) v15.1 v15.2 v17 v19.1 v19.2 false 0 0 (.slice none 0 0) false (.slice none 0 0) (.slice none 0 0))) rfl ?_; intro w20 h1 h2; have Kc20 := hH h1; have hw20 := Nat.le_trans hw19 h2.size; have HK20 := hH (keeps_after HK19.out h2 (by omega)); have HE20 := hH (eyeS_store HE19.out h2 (by have := HLT.out.1; omega) (by have := HLT.out.2.1; omega) (fun hne => by have := HLT.out.2.2 (fun e => hne (nil_of9 HL19.out e)); omega)); have p20 := HE20.out.ptr; have HL20 := HL19; have Kr20 := hH (grown_other9 Kr19.out h2 (by omega) (by omega)); have OO_20 := hH (ownG_kp OO_19.out (grown_lt h2 (by omega))); have OS_20 := hH (OS_19.out.kp (grown_lt h2 (by omega))); clear h1 h2) | ((with_reducible refine atC w18 ?_); go_at_call 123; go_must (refine (sstamp_any HE18.out).mono ?_; intro e w19 h; unfold SeeS stV at h; obtain ⟨rfl, he1, hk1⟩ := h; have hk2 := (both_of (s := s) hk1); obtain ⟨c19, hc19⟩ : ∃ x, x = cS.fin c17 := ⟨_, rfl⟩; obtain ⟨v19, hv19⟩ : ∃ x, x = cS.val c17 := ⟨_, rfl⟩; rw [← hc19] at he1; rw [← hv19] at ⊢; have HE19 := hH he1; have p19 := he1.ptr; have HL19 : Hid (c19.1.length ≤ c.1.length) := hH (by rw [hc19]; exact Nat.le_trans (cS_ok.len c17) HL18.out); have HK19 := hH (HK18.out.then hk2); have hw19 := Nat.le_trans hw18 hk2.size; have Kr19 := hH ((hk2.block w.heap.size (by omega) (by have := HLT.out.1; have := HLT.out.2.1; rintro (e | e) <;> omega)).trans Kr18.out); have Kc19 := hH ((hk2.block (w.heap.size + 1) (by omega) (by have := HLT.out.1; have := HLT.out.2.1; rintro (e | e) <;> omega)).trans Kc18.out); have OO_19 := hH (ownG_kp OO_18.out (both_lt hk2 (by have := HLT.out.1; omega) (by have := HLT.out.2.1; omega))); have OS_19 := hH (OS_18.out.kp (both_lt hk2 (by have := HLT.out.1; omega) (by have := HLT.out.2.1; omega))); have HC19 := hH hc19; have HV19 := hH hv19; clear hk1 hk2 he1 hc19 hv19)) | ((with_reducible refine atW w17 ?_); refine wpList_store_part _ _ _ rfl rfl _ 12 rfl rfl (cs := #[.bool v17]) rfl Kc17.out (by kernel_rfl) (by simp) (by simp [Value.oneCell']) (D := (r22 v1.1 v1.2 (.slice a3 v3.length cp3) v5 v7.1 v7.2 v9.1 v9.2 v11 (.slice a13 fn13 cp13) v15.1 v15.2 v17 0 0 false 0 0 (.slice none 0 0) false (.slice none 0 0) (.slice none 0 0))) rfl ?_; intro w18 h1 h2; have Kc18 := hH h1; have hw18 := Nat.le_trans hw17 h2.size; have HK18 := hH (keeps_after HK17.out h2 (by omega)); have HE18 := hH (eyeS_store HE17.out h2 (by have := HLT.out.1; omega) (by have := HLT.out.2.1; omega) (fun hne => by have := HLT.out.2.2 (fun e => hne (nil_of9 HL17.out e)); omega)); have p18 := HE18.out.ptr; have HL18 := HL17; have Kr18 := hH (grown_other9 Kr17.out h2 (by omega) (by omega)); have OO_18 := hH (ownG_kp OO_17.out (grown_lt h2 (by omega))); have OS_18 := hH (OS_17.out.kp (grown_lt h2 (by omega))); clear h1 h2) | ((with_reducible refine atC w16 ?_); go_at_call 125; go_must (refine (sbool_any HE16.out).mono ?_; intro e w17 h; unfold SeeS at h; obtain ⟨rfl, he1, hk1⟩ := h; have hk2 := (both_of (s := s) hk1); obtain ⟨c17, hc17⟩ : ∃ x, x = cB.fin c15 := ⟨_, rfl⟩; obtain ⟨v17, hv17⟩ : ∃ x, x = cB.val c15 := ⟨_, rfl⟩; rw [← hc17] at he1; rw [← hv17] at ⊢; have HE17 := hH he1; have p17 := he1.ptr; have HL17 : Hid (c17.1.length ≤ c.1.length) := hH (by rw [hc17]; exact Nat.le_trans (cB_ok.len c15) HL16.out); have HK17 := hH (HK16.out.then hk2); have hw17 := Nat.le_trans hw16 hk2.size; have Kr17 := hH ((hk2.block w.heap.size (by omega) (by have := HLT.out.1; have := HLT.out.2.1; rintro (e | e) <;> omega)).trans Kr16.out); have Kc17 := hH ((hk2.block (w.heap.size + 1) (by omega) (by have := HLT.out.1; have := HLT.out.2.1; rintro (e | e) <;> omega)).trans Kc16.out); have OO_17 := hH (ownG_kp OO_16.out (both_lt hk2 (by have := HLT.out.1; omega) (by have := HLT.out.2.1; omega))); have OS_17 := hH (OS_16.out.kp (both_lt hk2 (by have := HLT.out.1; omega) (by have := HLT.out.2.1; omega))); have HC17 := hH hc17; have HV17 := hH hv17; clear hk1 hk2 he1 hc17 hv17)) | ((with_reducible refine atW w15 ?_); refine wpList_store_part _ _ _ rfl rfl _ 10 rfl rfl (cs := #[.int .i64 v15.1, .int .i64 v15.2]) rfl Kc15.out (by kernel_rfl) (by simp) (by simp [Value.oneCell']) (D := (r22 v1.1 v1.2 (.slice a3 v3.length cp3) v5 v7.1 v7.2 v9.1 v9.2 v11 (.slice a13 fn13 cp13) v15.1 v15.2 false 0 0 false 0 0 (.slice none 0 0) false (.slice none 0 0) (.slice none 0 0))) rfl ?_; intro w16 h1 h2; have Kc16 := hH h1; have hw16 := Nat.le_trans hw15 h2.size; have HK16 := hH (keeps_after HK15.out h2 (by omega)); have HE16 := hH (eyeS_store HE15.out h2 (by have := HLT.out.1; omega) (by have := HLT.out.2.1; omega) (fun hne => by have := HLT.out.2.2 (fun e => hne (nil_of9 HL15.out e)); omega)); have p16 := HE16.out.ptr; have HL16 := HL15; have Kr16 := hH (grown_other9 Kr15.out h2 (by omega) (by omega)); have OO_16 := hH (ownG_kp OO_15.out (grown_lt h2 (by omega))); have OS_16 := hH (OS_15.out.kp (grown_lt h2 (by omega))); clear h1 h2) | ((with_reducible refine atC w14 ?_); go_at_call 123; go_must (refine (sstamp_any HE14.out).mono ?_; intro e w15 h; unfold SeeS stV at h; obtain ⟨rfl, he1, hk1⟩ := h; have hk2 := (both_of (s := s) hk1); obtain ⟨c15, hc15⟩ : ∃ x, x = cS.fin c13 := ⟨_, rfl⟩; obtain ⟨v15, hv15⟩ : ∃ x, x = cS.val c13 := ⟨_, rfl⟩; rw [← hc15] at he1; rw [← hv15] at ⊢; have HE15 := hH he1; have p15 := he1.ptr; have HL15 : Hid (c15.1.length ≤ c.1.length) := hH (by rw [hc15]; exact Nat.le_trans (cS_ok.len c13) HL14.out); have HK15 := hH (HK14.out.then hk2); have hw15 := Nat.le_trans hw14 hk2.size; have Kr15 := hH ((hk2.block w.heap.size (by omega) (by have := HLT.out.1; have := HLT.out.2.1; rintro (e | e) <;> omega)).trans Kr14.out); have Kc15 := hH ((hk2.block (w.heap.size + 1) (by omega) (by have := HLT.out.1; have := HLT.out.2.1; rintro (e | e) <;> omega)).trans Kc14.out); have OO_15 := hH (ownG_kp OO_14.out (both_lt hk2 (by have := HLT.out.1; omega) (by have := HLT.out.2.1; omega))); have OS_15 := hH (OS_14.out.kp (both_lt hk2 (by have := HLT.out.1; omega) (by have := HLT.out.2.1; omega))); have HC15 := hH hc15; have HV15 := hH hv15; clear hk1 hk2 he1 hc15 hv15)) | ((with_reducible refine atW w13 ?_); refine wpList_store_part _ _ _ rfl rfl _ 9 rfl rfl (cs := #[.slice a13 fn13 cp13]) rfl Kc13.out (by kernel_rfl) (by simp) (by simp [Value.oneCell']) (D := (r22 v1.1 v1.2 (.slice a3 v3.length cp3) v5 v7.1 v7.2 v9.1 v9.2 v11 (.slice a13 fn13 cp13) 0 0 false 0 0 false 0 0 (.slice none 0 0) false (.slice none 0 0) (.slice none 0 0))) rfl ?_; intro w14 h1 h2; have Kc14 := hH h1; have hw14 := Nat.le_trans hw13 h2.size; have HK14 := hH (keeps_after HK13.out h2 (by omega)); have HE14 := hH (eyeS_store HE13.out h2 (by have := HLT.out.1; omega) (by have := HLT.out.2.1; omega) (fun hne => by have := HLT.out.2.2 (fun e => hne (nil_of9 HL13.out e)); omega)); have p14 := HE14.out.ptr; have HL14 := HL13; have Kr14 := hH (grown_other9 Kr13.out h2 (by omega) (by omega)); have OO_14 := hH (ownG_kp OO_13.out (grown_lt h2 (by omega))); have OS_14 := hH (OS_13.out.kp (grown_lt h2 (by omega))); clear h1 h2) | ((with_reducible refine atC w12 ?_); go_at_call 126; go_must (refine (SD.sdepsO_any HE12.out (by have := HL12.out; have := HLN.out; omega)).mono ?_; intro e w13 h; unfold SD.SeeLDO at h; obtain ⟨x13, F13, rfl, ht1, ho1, hg1, hb1, he1, hk1⟩ := h; have hk2 := hk1; obtain ⟨c13, hc13⟩ : ∃ x, x = SD.cD.list.fin c11 := ⟨_, rfl⟩; obtain ⟨v13, hv13⟩ : ∃ x, x = SD.cD.list.val c11 := ⟨_, rfl⟩; rw [← hc13] at he1; rw [← hv13] at ht1; have HE13 := hH he1; have p13 := he1.ptr; have HL13 : Hid (c13.1.length ≤ c.1.length) := hH (by rw [hc13]; exact Nat.le_trans (cDl_ok.len c11) HL12.out); have HK13 := hH (HK12.out.then hk2); have hw13 := Nat.le_trans hw12 hk2.size; have Kr13 := hH ((hk2.block w.heap.size (by omega) (by have := HLT.out.1; have := HLT.out.2.1; rintro (e | e) <;> omega)).trans Kr12.out); have Kc13 := hH ((hk2.block (w.heap.size + 1) (by omega) (by have := HLT.out.1; have := HLT.out.2.1; rintro (e | e) <;> omega)).trans Kc12.out); have OO_13 := hH (ownG_kp OO_12.out (both_lt hk2 (by have := HLT.out.1; omega) (by have := HLT.out.2.1; omega))); have OS_13 := hH ((dlO_of ht1 ho1 hg1 hb1).mono hw12); obtain ⟨a13, cp13, rfl⟩ : ∃ a c, x13 = .slice a F13.length c := (by obtain ⟨a, c, e, _⟩ := ho1.row; exact ⟨a, c, e⟩); generalize F13.length = fn13 at *; have HC13 := hH hc13; have HV13 := hH hv13; clear hk1 hk2 he1 hc13 hv13 ht1 ho1 hg1 hb1)) | ((with_reducible refine atW w11 ?_); refine wpList_store_part _ _ _ rfl rfl _ 8 rfl rfl (cs := #[.bool v11]) rfl Kc11.out (by kernel_rfl) (by simp) (by simp [Value.oneCell']) (D := (r22 v1.1 v1.2 (.slice a3 v3.length cp3) v5 v7.1 v7.2 v9.1 v9.2 v11 (.slice none 0 0) 0 0 false 0 0 false 0 0 (.slice none 0 0) false (.slice none 0 0) (.slice none 0 0))) rfl ?_; intro w12 h1 h2; have Kc12 := hH h1; have hw12 := Nat.le_trans hw11 h2.size; have HK12 := hH (keeps_after HK11.out h2 (by omega)); have HE12 := hH (eyeS_store HE11.out h2 (by have := HLT.out.1; omega) (by have := HLT.out.2.1; omega) (fun hne => by have := HLT.out.2.2 (fun e => hne (nil_of9 HL11.out e)); omega)); have p12 := HE12.out.ptr; have HL12 := HL11; have Kr12 := hH (grown_other9 Kr11.out h2 (by omega) (by omega)); have OO_12 := hH (ownG_kp OO_11.out (grown_lt h2 (by omega))); clear h1 h2) | ((with_reducible refine atC w10 ?_); go_at_call 125; go_must (refine (sbool_any HE10.out).mono ?_; intro e w11 h; unfold SeeS at h; obtain ⟨rfl, he1, hk1⟩ := h; have hk2 := (both_of (s := s) hk1); obtain ⟨c11, hc11⟩ : ∃ x, x = cB.fin c9 := ⟨_, rfl⟩; obtain ⟨v11, hv11⟩ : ∃ x, x = cB.val c9 := ⟨_, rfl⟩; rw [← hc11] at he1; rw [← hv11] at ⊢; have HE11 := hH he1; have p11 := he1.ptr; have HL11 : Hid (c11.1.length ≤ c.1.length) := hH (by rw [hc11]; exact Nat.le_trans (cB_ok.len c9) HL10.out); have HK11 := hH (HK10.out.then hk2); have hw11 := Nat.le_trans hw10 hk2.size; have Kr11 := hH ((hk2.block w.heap.size (by omega) (by have := HLT.out.1; have := HLT.out.2.1; rintro (e | e) <;> omega)).trans Kr10.out); have Kc11 := hH ((hk2.block (w.heap.size + 1) (by omega) (by have := HLT.out.1; have := HLT.out.2.1; rintro (e | e) <;> omega)).trans Kc10.out); have OO_11 := hH (ownG_kp OO_10.out (both_lt hk2 (by have := HLT.out.1; omega) (by have := HLT.out.2.1; omega))); have HC11 := hH hc11; have HV11 := hH hv11; clear hk1 hk2 he1 hc11 hv11)) | ((with_reducible refine atW w9 ?_); refine wpList_store_part _ _ _ rfl rfl _ 6 rfl rfl (cs := #[.int .i64 v9.1, .int .i64 v9.2]) rfl Kc9.out (by kernel_rfl) (by simp) (by simp [Value.oneCell']) (D := (r22 v1.1 v1.2 (.slice a3 v3.length cp3) v5 v7.1 v7.2 v9.1 v9.2 false (.slice none 0 0) 0 0 false 0 0 false 0 0 (.slice none 0 0) false (.slice none 0 0) (.slice none 0 0))) rfl ?_; intro w10 h1 h2; have Kc10 := hH h1; have hw10 := Nat.le_trans hw9 h2.size; have HK10 := hH (keeps_after HK9.out h2 (by omega)); have HE10 := hH (eyeS_store HE9.out h2 (by have := HLT.out.1; omega) (by have := HLT.out.2.1; omega) (fun hne => by have := HLT.out.2.2 (fun e => hne (nil_of9 HL9.out e)); omega)); have p10 := HE10.out.ptr; have HL10 := HL9; have Kr10 := hH (grown_other9 Kr9.out h2 (by omega) (by omega)); have OO_10 := hH (ownG_kp OO_9.out (grown_lt h2 (by omega))); clear h1 h2) | ((with_reducible refine atC w8 ?_); go_at_call 123; go_must (refine (sstamp_any HE8.out).mono ?_; intro e w9 h; unfold SeeS stV at h; obtain ⟨rfl, he1, hk1⟩ := h; have hk2 := (both_of (s := s) hk1); obtain ⟨c9, hc9⟩ : ∃ x, x = cS.fin c7 := ⟨_, rfl⟩; obtain ⟨v9, hv9⟩ : ∃ x, x = cS.val c7 := ⟨_, rfl⟩; rw [← hc9] at he1; rw [← hv9] at ⊢; have HE9 := hH he1; have p9 := he1.ptr; have HL9 : Hid (c9.1.length ≤ c.1.length) := hH (by rw [hc9]; exact Nat.le_trans (cS_ok.len c7) HL8.out); have HK9 := hH (HK8.out.then hk2); have hw9 := Nat.le_trans hw8 hk2.size; have Kr9 := hH ((hk2.block w.heap.size (by omega) (by have := HLT.out.1; have := HLT.out.2.1; rintro (e | e) <;> omega)).trans Kr8.out); have Kc9 := hH ((hk2.block (w.heap.size + 1) (by omega) (by have := HLT.out.1; have := HLT.out.2.1; rintro (e | e) <;> omega)).trans Kc8.out); have OO_9 := hH (ownG_kp OO_8.out (both_lt hk2 (by have := HLT.out.1; omega) (by have := HLT.out.2.1; omega))); have HC9 := hH hc9; have HV9 := hH hv9; clear hk1 hk2 he1 hc9 hv9)) | ((with_reducible refine atW w7 ?_); refine wpList_store_part _ _ _ rfl rfl _ 4 rfl rfl (cs := #[.int .i64 v7.1, .int .i64 v7.2]) rfl Kc7.out (by kernel_rfl) (by simp) (by simp [Value.oneCell']) (D := (r22 v1.1 v1.2 (.slice a3 v3.length cp3) v5 v7.1 v7.2 0 0 false (.slice none 0 0) 0 0 false 0 0 false 0 0 (.slice none 0 0) false (.slice none 0 0) (.slice none 0 0))) rfl ?_; intro w8 h1 h2; have Kc8 := hH h1; have hw8 := Nat.le_trans hw7 h2.size; have HK8 := hH (keeps_after HK7.out h2 (by omega)); have HE8 := hH (eyeS_store HE7.out h2 (by have := HLT.out.1; omega) (by have := HLT.out.2.1; omega) (fun hne => by have := HLT.out.2.2 (fun e => hne (nil_of9 HL7.out e)); omega)); have p8 := HE8.out.ptr; have HL8 := HL7; have Kr8 := hH (grown_other9 Kr7.out h2 (by omega) (by omega)); have OO_8 := hH (ownG_kp OO_7.out (grown_lt h2 (by omega))); clear h1 h2) | ((with_reducible refine atC w6 ?_); go_at_call 123; go_must (refine (sstamp_any HE6.out).mono ?_; intro e w7 h; unfold SeeS stV at h; obtain ⟨rfl, he1, hk1⟩ := h; have hk2 := (both_of (s := s) hk1); obtain ⟨c7, hc7⟩ : ∃ x, x = cS.fin c5 := ⟨_, rfl⟩; obtain ⟨v7, hv7⟩ : ∃ x, x = cS.val c5 := ⟨_, rfl⟩; rw [← hc7] at he1; rw [← hv7] at ⊢; have HE7 := hH he1; have p7 := he1.ptr; have HL7 : Hid (c7.1.length ≤ c.1.length) := hH (by rw [hc7]; exact Nat.le_trans (cS_ok.len c5) HL6.out); have HK7 := hH (HK6.out.then hk2); have hw7 := Nat.le_trans hw6 hk2.size; have Kr7 := hH ((hk2.block w.heap.size (by omega) (by have := HLT.out.1; have := HLT.out.2.1; rintro (e | e) <;> omega)).trans Kr6.out); have Kc7 := hH ((hk2.block (w.heap.size + 1) (by omega) (by have := HLT.out.1; have := HLT.out.2.1; rintro (e | e) <;> omega)).trans Kc6.out); have OO_7 := hH (ownG_kp OO_6.out (both_lt hk2 (by have := HLT.out.1; omega) (by have := HLT.out.2.1; omega))); have HC7 := hH hc7; have HV7 := hH hv7; clear hk1 hk2 he1 hc7 hv7)) | ((with_reducible refine atW w5 ?_); refine wpList_store_part _ _ _ rfl rfl _ 3 rfl rfl (cs := #[.int .i64 v5]) rfl Kc5.out (by kernel_rfl) (by simp) (by simp [Value.oneCell']) (D := (r22 v1.1 v1.2 (.slice a3 v3.length cp3) v5 0 0 0 0 false (.slice none 0 0) 0 0 false 0 0 false 0 0 (.slice none 0 0) false (.slice none 0 0) (.slice none 0 0))) rfl ?_; intro w6 h1 h2; have Kc6 := hH h1; have hw6 := Nat.le_trans hw5 h2.size; have HK6 := hH (keeps_after HK5.out h2 (by omega)); have HE6 := hH (eyeS_store HE5.out h2 (by have := HLT.out.1; omega) (by have := HLT.out.2.1; omega) (fun hne => by have := HLT.out.2.2 (fun e => hne (nil_of9 HL5.out e)); omega)); have p6 := HE6.out.ptr; have HL6 := HL5; have Kr6 := hH (grown_other9 Kr5.out h2 (by omega) (by omega)); have OO_6 := hH (ownG_kp OO_5.out (grown_lt h2 (by omega))); clear h1 h2) | ((with_reducible refine atC w4 ?_); go_at_call 103; go_must (refine (sint_any HE4.out).mono ?_; intro e w5 h; unfold SeeS at h; obtain ⟨rfl, he1, hk1⟩ := h; have hk2 := (both_of (s := s) hk1); obtain ⟨c5, hc5⟩ : ∃ x, x = cI.fin c3 := ⟨_, rfl⟩; obtain ⟨v5, hv5⟩ : ∃ x, x = cI.val c3 := ⟨_, rfl⟩; rw [← hc5] at he1; rw [← hv5] at ⊢; have HE5 := hH he1; have p5 := he1.ptr; have HL5 : Hid (c5.1.length ≤ c.1.length) := hH (by rw [hc5]; exact Nat.le_trans (cI_ok.len c3) HL4.out); have HK5 := hH (HK4.out.then hk2); have hw5 := Nat.le_trans hw4 hk2.size; have Kr5 := hH ((hk2.block w.heap.size (by omega) (by have := HLT.out.1; have := HLT.out.2.1; rintro (e | e) <;> omega)).trans Kr4.out); have Kc5 := hH ((hk2.block (w.heap.size + 1) (by omega) (by have := HLT.out.1; have := HLT.out.2.1; rintro (e | e) <;> omega)).trans Kc4.out); have OO_5 := hH (ownG_kp OO_4.out (both_lt hk2 (by have := HLT.out.1; omega) (by have := HLT.out.2.1; omega))); have HC5 := hH hc5; have HV5 := hH hv5; clear hk1 hk2 he1 hc5 hv5)) | ((with_reducible refine atW w3 ?_); refine wpList_store_part _ _ _ rfl rfl _ 2 rfl rfl (cs := #[.slice a3 v3.length cp3]) rfl Kc3.out (by kernel_rfl) (by simp) (by simp [Value.oneCell']) (D := (r22 v1.1 v1.2 (.slice a3 v3.length cp3) 0 0 0 0 0 false (.slice none 0 0) 0 0 false 0 0 false 0 0 (.slice none 0 0) false (.slice none 0 0) (.slice none 0 0))) rfl ?_; intro w4 h1 h2; have Kc4 := hH h1; have hw4 := Nat.le_trans hw3 h2.size; have HK4 := hH (keeps_after HK3.out h2 (by omega)); have HE4 := hH (eyeS_store HE3.out h2 (by have := HLT.out.1; omega) (by have := HLT.out.2.1; omega) (fun hne => by have := HLT.out.2.2 (fun e => hne (nil_of9 HL3.out e)); omega)); have p4 := HE4.out.ptr; have HL4 := HL3; have Kr4 := hH (grown_other9 Kr3.out h2 (by omega) (by omega)); have OO_4 := hH (ownG_kp OO_3.out (grown_lt h2 (by omega))); clear h1 h2) | ((with_reducible refine atC w2 ?_); go_at_call 124; go_must (refine (sops_any HE2.out (by have := HL2.out; have := HLN.out; omega)).mono ?_; intro e w3 h; unfold SeeL at h; obtain ⟨x3, rfl, ho1, he1, hk1⟩ := h; have hk2 := hk1; obtain ⟨c3, hc3⟩ : ∃ x, x = cO.list.fin c1 := ⟨_, rfl⟩; obtain ⟨v3, hv3⟩ : ∃ x, x = cO.list.val c1 := ⟨_, rfl⟩; rw [← hc3] at he1; rw [← hv3] at ho1; have HE3 := hH he1; have p3 := he1.ptr; have HL3 : Hid (c3.1.length ≤ c.1.length) := hH (by rw [hc3]; exact Nat.le_trans (cOs_ok.len c1) HL2.out); have HK3 := hH (HK2.out.then hk2); have hw3 := Nat.le_trans hw2 hk2.size; have Kr3 := hH ((hk2.block w.heap.size (by omega) (by have := HLT.out.1; have := HLT.out.2.1; rintro (e | e) <;> omega)).trans Kr2.out); have Kc3 := hH ((hk2.block (w.heap.size + 1) (by omega) (by have := HLT.out.1; have := HLT.out.2.1; rintro (e | e) <;> omega)).trans Kc2.out); have OO_3 := hH (ho1.mono hw2); obtain ⟨a3, cp3, rfl⟩ := ho1.form; have HC3 := hH hc3; have HV3 := hH hv3; clear hk1 hk2 he1 hc3 hv3 ho1)) | ((with_reducible refine atW w1 ?_); refine wpList_store_part _ _ _ rfl rfl _ 0 rfl rfl (cs := #[.int .i64 v1.1, .int .i64 v1.2]) rfl Kc1.out (by kernel_rfl) (by simp) (by simp [Value.oneCell']) (D := (r22 v1.1 v1.2 (.slice none 0 0) 0 0 0 0 0 false (.slice none 0 0) 0 0 false 0 0 false 0 0 (.slice none 0 0) false (.slice none 0 0) (.slice none 0 0))) rfl ?_; intro w2 h1 h2; have Kc2 := hH h1; have hw2 := Nat.le_trans hw1 h2.size; have HK2 := hH (keeps_after HK1.out h2 (by omega)); have HE2 := hH (eyeS_store HE1.out h2 (by have := HLT.out.1; omega) (by have := HLT.out.2.1; omega) (fun hne => by have := HLT.out.2.2 (fun e => hne (nil_of9 HL1.out e)); omega)); have p2 := HE2.out.ptr; have HL2 := HL1; have Kr2 := hH (grown_other9 Kr1.out h2 (by omega) (by omega)); clear h1 h2) | ((with_reducible refine atC wz ?_); go_at_call 123; go_must (refine (sstamp_any HE0.out).mono ?_; intro e w1 h; unfold SeeS stV at h; obtain ⟨rfl, he1, hk1⟩ := h; have hk2 := (both_of (s := s) hk1); obtain ⟨c1, hc1⟩ : ∃ x, x = cS.fin c := ⟨_, rfl⟩; obtain ⟨v1, hv1⟩ : ∃ x, x = cS.val c := ⟨_, rfl⟩; rw [← hc1] at he1; rw [← hv1] at ⊢; have HE1 := hH he1; have p1 := he1.ptr; have HL1 : Hid (c1.1.length ≤ c.1.length) := hH (by rw [hc1]; exact Nat.le_trans (cS_ok.len c) HL0.out); have HK1 := hH (HK0.out.then hk2); have hw1 := Nat.le_trans hw0 hk2.size; have Kr1 := hH ((hk2.block w.heap.size (by omega) (by have := HLT.out.1; have := HLT.out.2.1; rintro (e | e) <;> omega)).trans Kr0.out); have Kc1 := hH ((hk2.block (w.heap.size + 1) (by omega) (by have := HLT.out.1; have := HLT.out.2.1; rintro (e | e) <;> omega)).trans Kc0.out); have HC1 := hH hc1; have HV1 := hH hv1; clear hk1 hk2 he1 hc1 hv1)))
 have EV : cmOf (cC.val c) = ⟨v1, v3, v5, v7, v9, v11, v13, v15, v17, v19, v21, v23, v25, v27⟩ ∧ cC.fin c = c27 := by
  have e1 : cC.val c = (v1, v3, v5, v7, v9, v11, v13, v15, v17, v19, v21, v23, v25, v27) := by
   rw [HV27.out, HV25.out, HV23.out, HV21.out, HV19.out, HV17.out, HV15.out, HV13.out, HV11.out, HV9.out, HV7.out, HV5.out, HV3.out, HV1.out]
   rw [HC25.out, HC23.out, HC21.out, HC19.out, HC17.out, HC15.out, HC13.out, HC11.out, HC9.out, HC7.out, HC5.out, HC3.out, HC1.out]
   rfl
  refine ⟨by rw [e1]; rfl, ?_⟩
  rw [HC27.out, HC25.out, HC23.out, HC21.out, HC19.out, HC17.out, HC15.out, HC13.out, HC11.out, HC9.out, HC7.out, HC5.out, HC3.out, HC1.out]
  rfl
 refine bodyPost_ret (results_cell_row Tryz.results45 _ _ _ 31 _ (0, 0) _ rfl Kr29.out Tryz.underlying31 rfl szCmd) rfl ?_
 exact ⟨⟨.slice a3 v3.length cp3, .slice a13 fn13 cp13, .slice a21 fn21 cp21, .slice a25 v25.length cp25, .slice a27 v27.length cp27⟩, by rw [EV.1]; rfl, by rw [EV.1]; exact ⟨OO_29.out.mono (by omega), OS_29.out.mono (by omega), OD_29.out.mono (by omega), OW_29.out.mono (by omega), OP_29.out.mono (by omega)⟩, by rw [EV.2]; exact HE29.out, HK29.out⟩

theorem few_parse (B : List UInt8) (hB : B.length ≤ 20000) : FewC (cmOf (cC.val (B, false, false))) := by
 have L1 := Nat.le_trans (cS_ok.len (B, false, false)) hB
 have L2 := Nat.le_trans (cOs_ok.len (cS.fin (B, false, false))) L1
 have L3 := Nat.le_trans (cI_ok.len _) L2
 have L4 := Nat.le_trans (cS_ok.len _) L3
 have L5 := Nat.le_trans (cS_ok.len _) L4
 have L6 := Nat.le_trans (cB_ok.len _) L5
 have L7 := Nat.le_trans (cDl_ok.len _) L6
 have L8 := Nat.le_trans (cS_ok.len _) L7
 have L9 := Nat.le_trans (cB_ok.len _) L8
 have L10 := Nat.le_trans (cS_ok.len _) L9
 have L11 := Nat.le_trans (cB_ok.len _) L10
 have L12 := Nat.le_trans (cS_ok.len _) L11
 have L13 := Nat.le_trans (cDl_ok.len _) L12
 have L14 := Nat.le_trans (cB_ok.len _) L13
 have L15 := Nat.le_trans (cWl_ok.len _) L14
 have M1 := list_len cO_ok (cS.fin (B, false, false))
 have M2 := list_len SD.cD_ok (cB.fin (cS.fin (cS.fin (cI.fin (cO.list.fin (cS.fin (B, false, false)))))))
 have M3 := list_len SD.cD_ok (cS.fin (cB.fin (cS.fin (cB.fin (cS.fin (SD.cD.list.fin (cB.fin (cS.fin (cS.fin (cI.fin (cO.list.fin (cS.fin (B, false, false))))))))))))) 
 have M4 := list_len cW_ok (cB.fin (SD.cD.list.fin (cS.fin (cB.fin (cS.fin (cB.fin (cS.fin (SD.cD.list.fin (cB.fin (cS.fin (cS.fin (cI.fin (cO.list.fin (cS.fin (B, false, false)))))))))))))))
 have M5 := list_len cP_ok (cW.list.fin (cB.fin (SD.cD.list.fin (cS.fin (cB.fin (cS.fin (cB.fin (cS.fin (SD.cD.list.fin (cB.fin (cS.fin (cS.fin (cI.fin (cO.list.fin (cS.fin (B, false, false)))))))))))))))) 
 have N2 := SD.list_cost (cB.fin (cS.fin (cS.fin (cI.fin (cO.list.fin (cS.fin (B, false, false)))))))
 have N3 := SD.list_cost (cS.fin (cB.fin (cS.fin (cB.fin (cS.fin (SD.cD.list.fin (cB.fin (cS.fin (cS.fin (cI.fin (cO.list.fin (cS.fin (B, false, false))))))))))))) 
 refine ⟨?_, ⟨?_, ?_⟩, ⟨?_, ?_⟩, ?_, ?_⟩
 ·show (cO.list.val (cS.fin (B, false, false))).length ≤ _
  omega
 ·show (SD.cD.list.val (cB.fin (cS.fin (cS.fin (cI.fin (cO.list.fin (cS.fin (B, false, false)))))))).length ≤ _
  omega
 ·show SD.idsN (SD.cD.list.val (cB.fin (cS.fin (cS.fin (cI.fin (cO.list.fin (cS.fin (B, false, false)))))))) ≤ _
  omega
 ·show (SD.cD.list.val (cS.fin (cB.fin (cS.fin (cB.fin (cS.fin (SD.cD.list.fin (cB.fin (cS.fin (cS.fin (cI.fin (cO.list.fin (cS.fin (B, false, false)))))))))))))).length ≤ _
  omega
 ·show SD.idsN (SD.cD.list.val (cS.fin (cB.fin (cS.fin (cB.fin (cS.fin (SD.cD.list.fin (cB.fin (cS.fin (cS.fin (cI.fin (cO.list.fin (cS.fin (B, false, false)))))))))))))) ≤ _
  omega
 ·show (cW.list.val (cB.fin (SD.cD.list.fin (cS.fin (cB.fin (cS.fin (cB.fin (cS.fin (SD.cD.list.fin (cB.fin (cS.fin (cS.fin (cI.fin (cO.list.fin (cS.fin (B, false, false)))))))))))))))).length ≤ _
  omega
 ·show (cP.list.val (cW.list.fin (cB.fin (SD.cD.list.fin (cS.fin (cB.fin (cS.fin (cB.fin (cS.fin (SD.cD.list.fin (cB.fin (cS.fin (cS.fin (cI.fin (cO.list.fin (cS.fin (B, false, false))))))))))))))))).length ≤ _
  omega
def cm0 : Cm := newC z2
theorem parseC_is (B : List UInt8) : parseC B = if doneC (cC.fin (B, false, false)) = 0 ∧ checkC (cmOf (cC.val (B, false, false))) = 0 then some (cmOf (cC.val (B, false, false))) else none := by
 unfold parseC parseK
 split <;> rfl
def RetPc (w : World) (B : List UInt8) (e : Ending) (w' : World) : Prop := ∃ l, e = .returned (.tuple #[cmV ((parseC B).getD cm0) l, .int .i64 (if (parseC B).isSome = true then 0 else 90)]) ∧ CmAt w' ((parseC B).getD cm0) l ∧ Below w.heap.size w w'
theorem parse9_any (gv : Nat) (va : Value) (B : List UInt8) (w : World) (hB : S2.Bw w gv va B) (hgv : B ≠ [] → gv < w.heap.size) (hlen : B.length ≤ 20000) : Calls Tryz.prog 11 #[va] w (RetPc w B) := by
 have HBS : Hid (S2.Bw (w.alloc (.cells z22 31)) gv va B) := hH (hB.keep (S2.kAlloc (S2.Keeps.refl (fun _ => False) w) _) (fun _ h => h))
 have HLB := hH hlen
 have hF := few_parse B hlen
 have hP := parseC_is B
 obtain ⟨C, hC⟩ : ∃ x, x = cmOf (cC.val (B, false, false)) := ⟨_, rfl⟩
 obtain ⟨D, hD⟩ : ∃ x, x = doneC (cC.fin (B, false, false)) := ⟨_, rfl⟩
 rw [← hC] at hF hP
 rw [← hD] at hP
 have HCH := hH (fun (l : Pl) (Y : World) (h : CmAt Y C l) => check9_any C l Y h hF)
 obtain ⟨⟨id1, id2⟩, ops, phase, ⟨p1, p2⟩, ⟨v1, v2⟩, fast, seen, ⟨b1, b2⟩, has, ⟨q1, q2⟩, ⟨gone, ⟨t1, t2⟩, deps⟩, ready, writes, pairs⟩ := C
 simp only [cmV] at HCH
 have HCE := hH hC.symm
 have HDE := hH hD.symm
 have HPI := hH hP
 have Kr0 : Hid ((w.alloc (.cells z22 31)).heap[w.heap.size]? = some (.cells z22 31 (0, 0))) := hH (new_blockC w _ _)
 clear hB hlen hF hP hC hD hgv
 by_cases hdn : D = 0
 ·by_cases hck : checkC ⟨(id1, id2), ops, phase, (p1, p2), (v1, v2), fast, seen, (b1, b2), has, (q1, q2), (gone, (t1, t2), deps), ready, writes, pairs⟩ = 0
  ·have HPS : Hid (parseC B = some ⟨(id1, id2), ops, phase, (p1, p2), (v1, v2), fast, seen, (b1, b2), has, (q1, q2), (gone, (t1, t2), deps), ready, writes, pairs⟩) := hH (HPI.out.trans (if_pos ⟨hdn, hck⟩))
   subst hdn
   go_enter Tryz.func11, Tryz.ntmps11
   go_wp2_with (first | go_skip | ((with_reducible refine atW w4 ?_); refine store9 _ _ rfl rfl _ rfl rfl Kr5.out rfl rfl (by simp [Value.oneCell']) ?_; intro w6 h1 h2; have K6 := hH h1; have HO6 := hH (HO4.out.kp (grown_lt h2 (by omega))); have HB6 : Hid (Below w.heap.size w w6) := hH (below_grown9 HB4.out h2 (Nat.le_refl _)); clear h1 h2) | ((with_reducible refine atW w4 ?_); refine load9 _ rfl rfl _ rfl K54.out rfl ?_) | ((with_reducible refine atC w3 ?_); go_at_call 14; go_must (refine (HCH.out ⟨.slice oa on oc, .slice sa sn sc, .slice da dn dc, .slice wa wn wc, .slice pa pn pc⟩ w3 HO3.out.at).mono ?_; rintro e w4 ⟨rfl, h5⟩; rw [hck]; have HB4 : Hid (Below w.heap.size w w4) := hH (blThen HB3.out h5); have K54 := hH ((h5.block w2.heap.size (by omega)).trans K53.out); have Kr5 := hH ((h5.block w.heap.size (by omega)).trans Kr4.out); have HO4 := hH (HO3.out.kp (S2.Keeps.ofBelow h5)); have hw4 := h5.size; clear h5)) | ((with_reducible refine atW w3 ?_); refine load9 _ rfl rfl _ rfl K53.out rfl ?_) | ((with_reducible refine atC w3 ?_); go_at_call 46; go_must (refine HDN.out.mono ?_; rintro e w5 ⟨rfl, rfl⟩)) | ((with_reducible refine atW (w2.alloc (.cells z22 31)) ?_); refine store9 _ _ rfl rfl _ rfl rfl K50.out rfl rfl (by simp [Value.oneCell']) ?_; intro w3 h1 h2; have K53 := hH h1; have h6 : w2.heap.size < w3.heap.size := (by have := h2.size; simp only [World.size_alloc] at this; omega); have Kr4 := hH (grown_other9 Kr3.out h2 (by simp; omega) (by omega)); have HE4 := hH (eyeS_store HE3.out h2 HL2.out.1 HL2.out.2.1 (fun hne => HL2.out.2.2 hne)); have hb3 := below_grown9 (blAlloc (Below.refl _ _) _) h2 (Nat.le_refl _); have HO3 := hH (HO2.out.kp (S2.Keeps.ofBelow hb3)); have HB3 : Hid (Below w.heap.size w w3) := hH (blThen HB2.out hb3); have HDN := hH (sdone_any HE4.out); rw [HDE.out] at HDN; clear h1 h2 hb3) | ((with_reducible refine atC w1 ?_); go_at_call 45; go_must (refine (read9_any HE1.out (by have := HLB.out; show B.length ≤ _; omega)).mono ?_; intro e w2 h; unfold SeeCm at h; rw [HCE.out] at h; obtain ⟨⟨lo, ls, ld, lw, lp⟩, rfl, ho1, he2, hk2⟩ := h; have HO2 := hH ho1; obtain ⟨oa, oc, rfl⟩ := ho1.o.form; obtain ⟨sa, sn, sc, rfl⟩ := ho1.s.form; obtain ⟨da, dn, dc, rfl⟩ := ho1.d.form; obtain ⟨wa, wc, rfl⟩ := ho1.w.form; obtain ⟨pa, pc, rfl⟩ := ho1.p.form; simp only [cmV]; have Kr2 := hH ((hk2.block w.heap.size (by omega) (by have := HSB.out; rintro (e | e) <;> omega)).trans Kr1.out); have hw2 : w1.heap.size ≤ w2.heap.size := hk2.size; have HB2 : Hid (Below w.heap.size w w2) := hH (HB1.out.trans (hk2.below (by omega) (fun x hx e => by have := HSB.out; rcases e with e | e <;> omega))); have K50 := hH (new_blockC w2 z22 31); have HL2 := hH he2.lt; have HE3 : Hid (EyeS (w2.alloc (.cells z22 31)) s b g (cC.fin (B, false, false))) := hH (he2.before (S2.kAlloc (S2.Keeps.refl _ _) _)); have Kr3 := hH (((blAlloc (Below.refl _ _) (.cells z22 31) : Below w2.heap.size w2 _).block w.heap.size (by omega)).trans Kr2.out); generalize ops.length = on at *; generalize writes.length = wn at *; generalize pairs.length = pn at *; clear ho1 he2 hk2)) | ((with_reducible refine atC (w.alloc (.cells z22 31)) ?_); go_at_call 44; go_must (refine (sopen_any gv va B _ HBS.out (by have := HLB.out; omega)).mono ?_; intro e w1 h; obtain ⟨s, b, g, rfl, he1, hs1, hs2, hs3, h5⟩ := h; have HE1 := hH he1; have HSB : Hid (w.heap.size + 1 ≤ s ∧ w.heap.size + 1 ≤ b) := hH (by simp only [World.size_alloc] at hs1 hs2; exact ⟨hs1, hs2⟩); have Kr1 := hH ((h5.block w.heap.size (by simp)).trans Kr0.out); have hw1 : w.heap.size + 1 ≤ w1.heap.size := (by have := h5.size; simp only [World.size_alloc] at this; exact this); have HB1 : Hid (Below w.heap.size w w1) := hH (blThen (blAlloc (Below.refl _ _) _) h5); clear he1 hs1 hs2 hs3 h5)))
   refine bodyPost_ret (results_cell_tmp9 Tryz.results11 _ _ _ 31 _ (0, 0) _ rfl K6.out Tryz.underlying31 rfl szCmd) rfl ?_
   exact ⟨⟨.slice oa on oc, .slice sa sn sc, .slice da dn dc, .slice wa wn wc, .slice pa pn pc⟩, by rw [HPS.out]; rfl, by rw [HPS.out]; exact HO6.out.at, HB6.out⟩
  ·have HPN : Hid (parseC B = none) := hH (HPI.out.trans (if_neg fun h => hck h.2))
   obtain ⟨k, hk⟩ : ∃ k, k = checkC ⟨(id1, id2), ops, phase, (p1, p2), (v1, v2), fast, seen, (b1, b2), has, (q1, q2), (gone, (t1, t2), deps), ready, writes, pairs⟩ := ⟨_, rfl⟩
   rw [← hk] at hck HCH
   have hck2 : ((k == 0) = false) := by simpa using hck
   have hck3 : ((k != 0) = true) := by simpa using hck
   subst hdn
   clear hk
   go_enter Tryz.func11, Tryz.ntmps11
   go_wp2_with (first | go_skip | ((with_reducible refine atW w4 ?_); refine store9 _ _ rfl rfl _ rfl rfl Kr5.out rfl rfl (by simp [Value.oneCell']) ?_; intro w6 h1 h2; have K6 := hH h1; have HB6 : Hid (Below w.heap.size w w6) := hH (below_grown9 HB4.out h2 (Nat.le_refl _)); clear h1 h2) | ((with_reducible refine atC w3 ?_); go_at_call 14; go_must (refine (HCH.out ⟨.slice oa on oc, .slice sa sn sc, .slice da dn dc, .slice wa wn wc, .slice pa pn pc⟩ w3 HO3.out.at).mono ?_; rintro e w4 ⟨rfl, h5⟩; have HB4 : Hid (Below w.heap.size w w4) := hH (blThen HB3.out h5); have K54 := hH ((h5.block w2.heap.size (by omega)).trans K53.out); have Kr5 := hH ((h5.block w.heap.size (by omega)).trans Kr4.out); have HO4 := hH (HO3.out.kp (S2.Keeps.ofBelow h5)); have hw4 := h5.size; clear h5)) | ((with_reducible refine atW w3 ?_); refine load9 _ rfl rfl _ rfl K53.out rfl ?_) | ((with_reducible refine atC w3 ?_); go_at_call 46; go_must (refine HDN.out.mono ?_; rintro e w5 ⟨rfl, rfl⟩)) | ((with_reducible refine atW (w2.alloc (.cells z22 31)) ?_); refine store9 _ _ rfl rfl _ rfl rfl K50.out rfl rfl (by simp [Value.oneCell']) ?_; intro w3 h1 h2; have K53 := hH h1; have h6 : w2.heap.size < w3.heap.size := (by have := h2.size; simp only [World.size_alloc] at this; omega); have Kr4 := hH (grown_other9 Kr3.out h2 (by simp; omega) (by omega)); have HE4 := hH (eyeS_store HE3.out h2 HL2.out.1 HL2.out.2.1 (fun hne => HL2.out.2.2 hne)); have hb3 := below_grown9 (blAlloc (Below.refl _ _) _) h2 (Nat.le_refl _); have HO3 := hH (HO2.out.kp (S2.Keeps.ofBelow hb3)); have HB3 : Hid (Below w.heap.size w w3) := hH (blThen HB2.out hb3); have HDN := hH (sdone_any HE4.out); rw [HDE.out] at HDN; clear h1 h2 hb3) | ((with_reducible refine atC w1 ?_); go_at_call 45; go_must (refine (read9_any HE1.out (by have := HLB.out; show B.length ≤ _; omega)).mono ?_; intro e w2 h; unfold SeeCm at h; rw [HCE.out] at h; obtain ⟨⟨lo, ls, ld, lw, lp⟩, rfl, ho1, he2, hk2⟩ := h; have HO2 := hH ho1; obtain ⟨oa, oc, rfl⟩ := ho1.o.form; obtain ⟨sa, sn, sc, rfl⟩ := ho1.s.form; obtain ⟨da, dn, dc, rfl⟩ := ho1.d.form; obtain ⟨wa, wc, rfl⟩ := ho1.w.form; obtain ⟨pa, pc, rfl⟩ := ho1.p.form; simp only [cmV]; have Kr2 := hH ((hk2.block w.heap.size (by omega) (by have := HSB.out; rintro (e | e) <;> omega)).trans Kr1.out); have hw2 : w1.heap.size ≤ w2.heap.size := hk2.size; have HB2 : Hid (Below w.heap.size w w2) := hH (HB1.out.trans (hk2.below (by omega) (fun x hx e => by have := HSB.out; rcases e with e | e <;> omega))); have K50 := hH (new_blockC w2 z22 31); have HL2 := hH he2.lt; have HE3 : Hid (EyeS (w2.alloc (.cells z22 31)) s b g (cC.fin (B, false, false))) := hH (he2.before (S2.kAlloc (S2.Keeps.refl _ _) _)); have Kr3 := hH (((blAlloc (Below.refl _ _) (.cells z22 31) : Below w2.heap.size w2 _).block w.heap.size (by omega)).trans Kr2.out); generalize ops.length = on at *; generalize writes.length = wn at *; generalize pairs.length = pn at *; clear ho1 he2 hk2)) | ((with_reducible refine atC (w.alloc (.cells z22 31)) ?_); go_at_call 44; go_must (refine (sopen_any gv va B _ HBS.out (by have := HLB.out; omega)).mono ?_; intro e w1 h; obtain ⟨s, b, g, rfl, he1, hs1, hs2, hs3, h5⟩ := h; have HE1 := hH he1; have HSB : Hid (w.heap.size + 1 ≤ s ∧ w.heap.size + 1 ≤ b) := hH (by simp only [World.size_alloc] at hs1 hs2; exact ⟨hs1, hs2⟩); have Kr1 := hH ((h5.block w.heap.size (by simp)).trans Kr0.out); have hw1 : w.heap.size + 1 ≤ w1.heap.size := (by have := h5.size; simp only [World.size_alloc] at this; exact this); have HB1 : Hid (Below w.heap.size w w1) := hH (blThen (blAlloc (Below.refl _ _) _) h5); clear he1 hs1 hs2 hs3 h5)))
   refine bodyPost_ret (results_cell_tmp9 Tryz.results11 _ _ _ 31 _ (0, 0) _ rfl K6.out Tryz.underlying31 rfl szCmd) rfl ?_
   exact ⟨nilL, by rw [HPN.out]; rfl, by rw [HPN.out]; exact nilL_at _ _, HB6.out⟩
 ·have HPN : Hid (parseC B = none) := hH (HPI.out.trans (if_neg fun h => hdn h.1))
  have hdn2 : ((D == 0) = false) := by simpa using hdn
  have hdn3 : ((D != 0) = true) := by simpa using hdn
  go_enter Tryz.func11, Tryz.ntmps11
  go_wp2_with (first | go_skip | ((with_reducible refine atW w3 ?_); refine store9 _ _ rfl rfl _ rfl rfl Kr4.out rfl rfl (by simp [Value.oneCell']) ?_; intro w6 h1 h2; have K6 := hH h1; have HB6 : Hid (Below w.heap.size w w6) := hH (below_grown9 HB3.out h2 (Nat.le_refl _)); clear h1 h2) | ((with_reducible refine atC w3 ?_); go_at_call 46; go_must (refine HDN.out.mono ?_; rintro e w5 ⟨rfl, rfl⟩)) | ((with_reducible refine atW (w2.alloc (.cells z22 31)) ?_); refine store9 _ _ rfl rfl _ rfl rfl K50.out rfl rfl (by simp [Value.oneCell']) ?_; intro w3 h1 h2; have K53 := hH h1; have h6 : w2.heap.size < w3.heap.size := (by have := h2.size; simp only [World.size_alloc] at this; omega); have Kr4 := hH (grown_other9 Kr3.out h2 (by simp; omega) (by omega)); have HE4 := hH (eyeS_store HE3.out h2 HL2.out.1 HL2.out.2.1 (fun hne => HL2.out.2.2 hne)); have hb3 := below_grown9 (blAlloc (Below.refl _ _) _) h2 (Nat.le_refl _); have HO3 := hH (HO2.out.kp (S2.Keeps.ofBelow hb3)); have HB3 : Hid (Below w.heap.size w w3) := hH (blThen HB2.out hb3); have HDN := hH (sdone_any HE4.out); rw [HDE.out] at HDN; clear h1 h2 hb3) | ((with_reducible refine atC w1 ?_); go_at_call 45; go_must (refine (read9_any HE1.out (by have := HLB.out; show B.length ≤ _; omega)).mono ?_; intro e w2 h; unfold SeeCm at h; rw [HCE.out] at h; obtain ⟨⟨lo, ls, ld, lw, lp⟩, rfl, ho1, he2, hk2⟩ := h; have HO2 := hH ho1; obtain ⟨oa, oc, rfl⟩ := ho1.o.form; obtain ⟨sa, sn, sc, rfl⟩ := ho1.s.form; obtain ⟨da, dn, dc, rfl⟩ := ho1.d.form; obtain ⟨wa, wc, rfl⟩ := ho1.w.form; obtain ⟨pa, pc, rfl⟩ := ho1.p.form; simp only [cmV]; have Kr2 := hH ((hk2.block w.heap.size (by omega) (by have := HSB.out; rintro (e | e) <;> omega)).trans Kr1.out); have hw2 : w1.heap.size ≤ w2.heap.size := hk2.size; have HB2 : Hid (Below w.heap.size w w2) := hH (HB1.out.trans (hk2.below (by omega) (fun x hx e => by have := HSB.out; rcases e with e | e <;> omega))); have K50 := hH (new_blockC w2 z22 31); have HL2 := hH he2.lt; have HE3 : Hid (EyeS (w2.alloc (.cells z22 31)) s b g (cC.fin (B, false, false))) := hH (he2.before (S2.kAlloc (S2.Keeps.refl _ _) _)); have Kr3 := hH (((blAlloc (Below.refl _ _) (.cells z22 31) : Below w2.heap.size w2 _).block w.heap.size (by omega)).trans Kr2.out); generalize ops.length = on at *; generalize writes.length = wn at *; generalize pairs.length = pn at *; clear ho1 he2 hk2)) | ((with_reducible refine atC (w.alloc (.cells z22 31)) ?_); go_at_call 44; go_must (refine (sopen_any gv va B _ HBS.out (by have := HLB.out; omega)).mono ?_; intro e w1 h; obtain ⟨s, b, g, rfl, he1, hs1, hs2, hs3, h5⟩ := h; have HE1 := hH he1; have HSB : Hid (w.heap.size + 1 ≤ s ∧ w.heap.size + 1 ≤ b) := hH (by simp only [World.size_alloc] at hs1 hs2; exact ⟨hs1, hs2⟩); have Kr1 := hH ((h5.block w.heap.size (by simp)).trans Kr0.out); have hw1 : w.heap.size + 1 ≤ w1.heap.size := (by have := h5.size; simp only [World.size_alloc] at this; exact this); have HB1 : Hid (Below w.heap.size w w1) := hH (blThen (blAlloc (Below.refl _ _) _) h5); clear he1 hs1 hs2 hs3 h5)))
  refine bodyPost_ret (results_cell_tmp9 Tryz.results11 _ _ _ 31 _ (0, 0) _ rfl K6.out Tryz.underlying31 rfl szCmd) rfl ?_
  exact ⟨nilL, by rw [HPN.out]; rfl, by rw [HPN.out]; exact nilL_at _ _, HB6.out⟩

theorem yields_row {P : Program} {ops : Array Oper} {S : World → Prop} {op : Oper} {a : Act} (hw : Region.wanted op (yielded ops a.tmps) = true) (ty : TypeId) (x : Operand) (ho : op.op = .load ty x)
  (b o : Nat) (hx : a.eval x = .pointer (some ⟨b, o, none⟩)) {C : Array Value} {T : TypeId} {fr : Nat × Nat} (hS : ∀ w, S w → w.heap[b]? = some (.cells C T fr)) {d : TypeDesc} (hu : P.underlying ty = some d) (hd : d.isRow = true) (cs : Array Value) (hi : (P.info? ty).map (·.size) = some cs.toList.length) (hcs : ∀ j v, cs.toList[j]? = some v → C[o + j]? = some v) : YieldsIf P ops S op (.agg cs) a := by
 have := yieldsIf_load_mid (P := P) (ops := ops) (S := S) hw ty x ho b o hx cs.toList d (fun w hw => range_part (hS w hw) o cs.toList hcs) hu hd hi
 rwa [Array.toArray_toList] at this
theorem all_at {C : Array Value} : ∀ j v, C.toList[j]? = some v → C[0 + j]? = some v := by
 intro j v h
 rw [Nat.zero_add]
 simpa using h
theorem row_up {w w' : World} {b : Nat} {o : Obj} (k : Hid (w.heap[b]? = some o)) (l : Hid (b < w.heap.size)) (h5 : Below w.heap.size w w') : Hid (w'.heap[b]? = some o) := (h5.block b l.out).trans k.out
theorem lt_up {w w' : World} {b : Nat} (l : Hid (b < w.heap.size)) (h5 : Below w.heap.size w w') : Hid (b < w'.heap.size) := Nat.lt_of_lt_of_le l.out h5.size
def opL : Opr := (1, ⟨#[97]⟩, ⟨#[]⟩, 0)
def vL : Vlu := (false, (3, 1), [])
def c1L : Cm := ⟨(3, 1), [], 0, (5, 1), (0, 0), false, [], (0, 0), false, (0, 0), (false, (0, 0), []), false, [], []⟩
def d1L : Cm := ⟨(3, 1), [], 0, (5, 1), (0, 0), false, [], (3, 1), true, (5, 1), (false, (3, 1), []), false, [], []⟩
def e1L : Cm := ⟨(3, 1), [opL], 2, (5, 1), (0, 0), false, [], (3, 1), true, (5, 1), (false, (3, 1), []), false, [], []⟩
theorem live9_pro : proC (newC (3, 1)) (5, 1) = c1L := by kernel_rfl
theorem live9_proB : proB (newC (3, 1)) (5, 1) = true := by decide +kernel
theorem live9_no : accC c1L (3, 1) vL = c1L := by kernel_rfl
theorem live9_noB : proB c1L (3, 1) = false := by decide +kernel
theorem live9_acc : accC c1L (5, 1) vL = d1L := by kernel_rfl
theorem live9_accB : proB c1L (5, 1) = true := by decide +kernel
theorem live9_dec : deciC d1L [opL] vL = e1L := by kernel_rfl
theorem live9_decB : decB d1L = false := by decide +kernel
theorem live9_again : deciC e1L [] (true, z2, []) = e1L := by kernel_rfl
theorem live9_againB : decB e1L = true := by decide +kernel
theorem live9_check : checkC e1L = 0 := by decide +kernel
theorem live9_zero : checkC cm0 = 90 := by decide +kernel
theorem live9_tup : parseK cC (fun t => checkC (cmOf t)) (layC e1L) = some e1L.tup := by kernel_rfl
theorem live9_bytes : parseC (layC e1L) = some e1L := by unfold parseC; rw [live9_tup]; rfl
theorem live9_len : (layC e1L).length ≤ 20000 := by decide +kernel
theorem live9_few : FewC e1L := ⟨by decide, ⟨by decide, by decide⟩, ⟨by decide, by decide⟩, by decide, by decide⟩
theorem live9_put : PutC e1L := ⟨by decide +kernel, by decide +kernel, by decide +kernel⟩
theorem few_cm0 : FewC cm0 := ⟨by decide, ⟨by decide, by decide⟩, ⟨by decide, by decide⟩, by decide, by decide⟩
theorem dl_nil9 (Y : World) : DlV Y (.slice none 0 0) [] := ⟨none, 0, [], rfl, ⟨fun s hs => (by cases hs), fun h => absurd rfl h⟩, rfl, fun _ => rfl⟩
theorem at_nil9 (Y : World) (c : Cm) (ho : c.ops = []) (hs : c.seen = []) (hd : c.val.2.2 = []) (hw : c.writes = []) (hp : c.pairs = []) : CmAt Y c nilL :=
 ⟨by rw [ho]; exact SlG.nil _, by rw [hs]; exact dl_nil9 Y, by rw [hd]; exact dl_nil9 Y, by rw [hw]; exact SlG.nil _, by rw [hp]; exact SlG.nil _⟩
theorem list_G9 {α : Type} (E : Enc α) (X : World) (t : TypeId) (l : List α) (n k : Nat) (cs : Array Value) (hcs : cs = (cellsG E l).toArray) (h : X.heap.size = n) (hk : l.length = k) : SlG E (X.alloc (.cells cs t)) (.slice (some ⟨n, 0, none⟩) k k) l := by
 subst h
 subst hcs
 subst hk
 refine ⟨_, _, rfl, fun h => (by cases h), fun _ => ⟨X.heap.size, 0, rfl, by simp, fun i y hi j u hu => ?_⟩⟩
 have hb : (X.alloc (.cells (cellsG E l).toArray t)).heap[X.heap.size]? = some (.cells (cellsG E l).toArray t (0, 0)) := by
  show (X.heap.push _)[X.heap.size]? = _
  rw [Array.getElem?_push_size]
 have e := cellsG_at l i y hi j (enc_lt hu)
 rw [hu] at e
 simp only [World.cell?, hb]
 simpa using e

def szL {α : Type} (f : α → Nat) (l : List α) : Nat := (l.map f).sum
theorem szL_take {α : Type} (f : α → Nat) {l : List α} {k : Nat} {x : α} (h : l[k]? = some x) : szL f (l.take (k + 1)) = szL f (l.take k) + f x := by
 unfold szL
 rw [List.take_add_one, h]
 simp
theorem szL_big {α : Type} (f : α → Nat) (R : Nat) {l : List α} (h : ∀ x ∈ l, f x ≤ R) (k : Nat) : szL f (l.take k) ≤ k * R := by
 induction k with
 | zero => simp [szL]
 | succ k ih =>
  by_cases hk : k < l.length
  ·obtain ⟨x, hx⟩ := at_lt hk
   have := h x (List.mem_of_getElem? hx)
   rw [szL_take f hx, Nat.add_mul]
   omega
  ·have e : l.take (k + 1) = l.take k := by rw [List.take_of_length_le (by omega), List.take_of_length_le (by omega)]
   rw [e]
   exact Nat.le_trans ih (Nat.mul_le_mul_right _ (Nat.le_succ k))
def fO (o : Opr) : Nat := o.2.1.size + o.2.2.1.size
def fD (x : Int × List (Int × Int)) : Nat := x.2.length
def fW (x : Wrt) : Nat := x.1.size
def fP (x : ByteArray × Nat) : Nat := x.1.size
def fI (s : SD.Dp) : Nat := s.ids.length
theorem szL_toD (F : List SD.Dp) : szL fD (SD.toD F) = szL fI F := by
 unfold szL SD.toD
 rw [List.map_map]
 rfl
def smallC (c : Cm) : Bool := decide (c.ops.length + c.seen.length + c.val.2.2.length + c.writes.length + c.pairs.length ≤ 120 ∧ szL fO c.ops + szL fD c.seen + szL fD c.val.2.2 + szL fW c.writes + szL fP c.pairs ≤ 20000)
theorem small_no1 {c : Cm} (h : 120 < c.ops.length + c.seen.length + c.val.2.2.length + c.writes.length + c.pairs.length) : smallC c = false := decide_eq_false fun q => absurd q.1 (Nat.not_le_of_lt h)
theorem small_no2 {c : Cm} {n : Nat} (e : n = szL fO c.ops + szL fD c.seen + szL fD c.val.2.2 + szL fW c.writes + szL fP c.pairs) (h : ¬ n ≤ 20000) : smallC c = false := decide_eq_false fun q => h (by rw [e]; exact q.2)
theorem small_yes {c : Cm} {m n : Nat} (d : m = c.ops.length + c.seen.length + c.val.2.2.length + c.writes.length + c.pairs.length) (g : m ≤ 120) (e : n = szL fO c.ops + szL fD c.seen + szL fD c.val.2.2 + szL fW c.writes + szL fP c.pairs) (h : n ≤ 20000) : smallC c = true := decide_eq_true ⟨by rw [← d]; exact g, by rw [← e]; exact h⟩
structure ReachC (c : Cm) : Prop where
 ol : c.ops.length ≤ 140737488355328
 sl : c.seen.length ≤ 140737488355328
 dl : c.val.2.2.length ≤ 140737488355328
 wl : c.writes.length ≤ 140737488355328
 pl : c.pairs.length ≤ 140737488355328
 o : ∀ x ∈ c.ops, fO x ≤ 281474976710656
 s : ∀ x ∈ c.seen, fD x ≤ 140737488355328
 d : ∀ x ∈ c.val.2.2, fD x ≤ 140737488355328
 w : ∀ x ∈ c.writes, fW x ≤ 140737488355328
 p : ∀ x ∈ c.pairs, fP x ≤ 140737488355328
theorem few_small {c : Cm} (h : smallC c = true) : FewC c := by
 have h1 := of_decide_eq_true h
 have e : ∀ d : SD.Dd, SD.idsN d = szL fD d := fun _ => rfl
 exact ⟨by omega, ⟨by omega, by rw [e]; omega⟩, ⟨by omega, by rw [e]; omega⟩, by omega, by omega⟩
theorem w64_9 {x : Int} (h1 : 0 ≤ x) (h2 : x < 9223372036854775808) : wrap64 x = x := by unfold wrap64; omega
theorem cell_up9 {w w' : World} {b i : Nat} {v : Value} (h5 : Below w.heap.size w w') (hl : b < w.heap.size) (hc : w.cell? ⟨b, i, none⟩ = some v) : w'.cell? ⟨b, i, none⟩ = some v := cell_in h5 hl hc
theorem small9_any (c : Cm) (l : Pl) (W : World) (h : CmAt W c l) (hr : ReachC c) : Calls Tryz.prog 9 #[cmV c l] W fun e w' => e = .returned (.bool (smallC c)) ∧ Below W.heap.size W w' := by
 obtain ⟨⟨id1, id2⟩, ops, phase, ⟨p1, p2⟩, ⟨v1, v2⟩, fast, seen, ⟨b1, b2⟩, has, ⟨q1, q2⟩, ⟨gone, ⟨t1, t2⟩, deps⟩, ready, writes, pairs⟩ := c
 obtain ⟨lo, ls, ld, lw, lp⟩ := l
 have ho := h.o
 have hw := h.w
 have hp := h.p
 obtain ⟨sa, sc, sF, hls, hsl, hst, _⟩ := h.s
 obtain ⟨da, dc, dF, hld, hdl, hdt, _⟩ := h.d
 simp only at ho hw hp hls hld hst hdt
 subst hls hld hst hdt
 obtain ⟨oa, oc, rfl⟩ := ho.form
 obtain ⟨wa, wc, rfl⟩ := hw.form
 obtain ⟨pa, pc, rfl⟩ := hp.form
 have HO := hH ho
 have HS := hH hsl
 have HD := hH hdl
 have HW := hH hw
 have HP := hH hp
 have HZS := hH (szL_toD sF)
 have HZD := hH (szL_toD dF)
 have HRs : Hid (∀ s ∈ sF, fI s ≤ 140737488355328) := hH (fun s hs => hr.s (s.sh, s.ids) (List.mem_map.2 ⟨s, hs, rfl⟩))
 have HRd : Hid (∀ s ∈ dF, fI s ≤ 140737488355328) := hH (fun s hs => hr.d (s.sh, s.ids) (List.mem_map.2 ⟨s, hs, rfl⟩))
 have HRo : Hid (∀ x ∈ ops, fO x ≤ 281474976710656) := hH hr.o
 have HRw : Hid (∀ x ∈ writes, fW x ≤ 140737488355328) := hH hr.w
 have HRp : Hid (∀ x ∈ pairs, fP x ≤ 140737488355328) := hH hr.p
 have hol : ops.length ≤ 140737488355328 := hr.ol
 have hsl2 : sF.length ≤ 140737488355328 := by have := hr.sl; simpa [SD.toD] using this
 have hdl2 : dF.length ≤ 140737488355328 := by have := hr.dl; simpa [SD.toD] using this
 have hwl : writes.length ≤ 140737488355328 := hr.wl
 have hpl : pairs.length ≤ 140737488355328 := hr.pl
 have HBN : Hid (ops.length ≤ 140737488355328 ∧ sF.length ≤ 140737488355328 ∧ dF.length ≤ 140737488355328 ∧ writes.length ≤ 140737488355328 ∧ pairs.length ≤ 140737488355328) := hH ⟨hol, hsl2, hdl2, hwl, hpl⟩
 clear h hr ho hw hp hsl hdl hol hsl2 hdl2 hwl hpl
 unfold cmV
 simp only
 obtain ⟨w0, he0, hw0, kQc, hb0⟩ := boxes1 W (.cells (r22 id1 id2 (.slice oa ops.length oc) phase p1 p2 v1 v2 fast (.slice sa sF.length sc) b1 b2 has q1 q2 gone t1 t2 (.slice da dF.length dc) ready (.slice wa writes.length wc) (.slice pa pairs.length pc)) 31)
 have Kc0 := hH kQc
 have HB0 := hH hb0
 have HE0 := hH he0
 clear he0 hb0 kQc
 go_enter Tryz.func9, Tryz.ntmps9
 go_upto_region 1 with fail
 rw [← HE0.out]
 have HL : Hid (W.heap.size < w0.heap.size) := hH (by omega)
 clear hw0
 have HBW := HB0
 have c2 := cell_row Kc0.out 2 _ rfl
 have c9 := cell_row Kc0.out 9 _ rfl
 have c18 := cell_row Kc0.out 18 _ rfl
 have c20 := cell_row Kc0.out 20 _ rfl
 have c21 := cell_row Kc0.out 21 _ rfl
 clear Kc0 HE0 HB0
 by_cases h120 : 120 < ops.length + sF.length + dF.length + writes.length + pairs.length
 ·have hd2 : (120 : Int) < (ops.length : Int) + (sF.length : Int) + (dF.length : Int) + (writes.length : Int) + (pairs.length : Int) := by exact_mod_cast h120
  have hd1 := decide_eq_true hd2
  have HV : Hid (smallC ⟨(id1, id2), ops, phase, (p1, p2), (v1, v2), fast, SD.toD sF, (b1, b2), has, (q1, q2), (gone, (t1, t2), SD.toD dF), ready, writes, pairs⟩ = false) := hH (small_no1 (by simp only [SD.toD, List.length_map]; omega))
  have hq : ((0 : Int) ≤ (ops.length : Int) + (sF.length : Int) ∧ (ops.length : Int) + (sF.length : Int) < 9223372036854775808) ∧ ((0 : Int) ≤ (ops.length : Int) + (sF.length : Int) + (dF.length : Int) ∧ (ops.length : Int) + (sF.length : Int) + (dF.length : Int) < 9223372036854775808) ∧ ((0 : Int) ≤ (ops.length : Int) + (sF.length : Int) + (dF.length : Int) + (writes.length : Int) ∧ (ops.length : Int) + (sF.length : Int) + (dF.length : Int) + (writes.length : Int) < 9223372036854775808) ∧ ((0 : Int) ≤ (ops.length : Int) + (sF.length : Int) + (dF.length : Int) + (writes.length : Int) + (pairs.length : Int) ∧ (ops.length : Int) + (sF.length : Int) + (dF.length : Int) + (writes.length : Int) + (pairs.length : Int) < 9223372036854775808) := by have h5 := HBN.out; obtain ⟨q1, q2, q3, q4, q5⟩ := h5; omega
  have hw2 : wrap64 ((ops.length : Int) + (sF.length : Int)) = (ops.length : Int) + (sF.length : Int) := w64_9 hq.1.1 hq.1.2
  have hw3 : wrap64 ((ops.length : Int) + (sF.length : Int) + (dF.length : Int)) = (ops.length : Int) + (sF.length : Int) + (dF.length : Int) := w64_9 hq.2.1.1 hq.2.1.2
  have hw4 : wrap64 ((ops.length : Int) + (sF.length : Int) + (dF.length : Int) + (writes.length : Int)) = (ops.length : Int) + (sF.length : Int) + (dF.length : Int) + (writes.length : Int) := w64_9 hq.2.2.1.1 hq.2.2.1.2
  have hw5 : wrap64 ((ops.length : Int) + (sF.length : Int) + (dF.length : Int) + (writes.length : Int) + (pairs.length : Int)) = (ops.length : Int) + (sF.length : Int) + (dF.length : Int) + (writes.length : Int) + (pairs.length : Int) := w64_9 hq.2.2.2.1 hq.2.2.2.2
  clear hq
  go_wp2
  go_ret
  exact ⟨ret_bool HV.out.symm, HBW.out⟩
 ·have hd2 : ¬ (120 : Int) < (ops.length : Int) + (sF.length : Int) + (dF.length : Int) + (writes.length : Int) + (pairs.length : Int) := by exact_mod_cast h120
  have hd1 := decide_eq_false hd2
  have HN120 : Hid (ops.length + (SD.toD sF).length + (SD.toD dF).length + writes.length + pairs.length ≤ 120) := hH (by simp only [SD.toD, List.length_map]; omega)
  have HBI : Hid (Below w0.heap.size w0 w0) := hH (Below.refl _ _)
  have hq : ((0 : Int) ≤ (ops.length : Int) + (sF.length : Int) ∧ (ops.length : Int) + (sF.length : Int) < 9223372036854775808) ∧ ((0 : Int) ≤ (ops.length : Int) + (sF.length : Int) + (dF.length : Int) ∧ (ops.length : Int) + (sF.length : Int) + (dF.length : Int) < 9223372036854775808) ∧ ((0 : Int) ≤ (ops.length : Int) + (sF.length : Int) + (dF.length : Int) + (writes.length : Int) ∧ (ops.length : Int) + (sF.length : Int) + (dF.length : Int) + (writes.length : Int) < 9223372036854775808) ∧ ((0 : Int) ≤ (ops.length : Int) + (sF.length : Int) + (dF.length : Int) + (writes.length : Int) + (pairs.length : Int) ∧ (ops.length : Int) + (sF.length : Int) + (dF.length : Int) + (writes.length : Int) + (pairs.length : Int) < 9223372036854775808) := by have h5 := HBN.out; obtain ⟨q1, q2, q3, q4, q5⟩ := h5; omega
  have hw2 : wrap64 ((ops.length : Int) + (sF.length : Int)) = (ops.length : Int) + (sF.length : Int) := w64_9 hq.1.1 hq.1.2
  have hw3 : wrap64 ((ops.length : Int) + (sF.length : Int) + (dF.length : Int)) = (ops.length : Int) + (sF.length : Int) + (dF.length : Int) := w64_9 hq.2.1.1 hq.2.1.2
  have hw4 : wrap64 ((ops.length : Int) + (sF.length : Int) + (dF.length : Int) + (writes.length : Int)) = (ops.length : Int) + (sF.length : Int) + (dF.length : Int) + (writes.length : Int) := w64_9 hq.2.2.1.1 hq.2.2.1.2
  have hw5 : wrap64 ((ops.length : Int) + (sF.length : Int) + (dF.length : Int) + (writes.length : Int) + (pairs.length : Int)) = (ops.length : Int) + (sF.length : Int) + (dF.length : Int) + (writes.length : Int) + (pairs.length : Int) := w64_9 hq.2.2.2.1 hq.2.2.2.2
  clear hq
  go_wp2
  clear hw2 hw3 hw4 hw5
  go_loopw [4, 5] (fun b i wr => ∃ k : Nat, k ≤ ops.length ∧ b = .int .i64 (szL fO (ops.take k) : Nat) ∧ i = .int .i64 k ∧ Below w0.heap.size w0 wr) (fun _ i _ => ops.length - (RowKit.intOf i).toNat)
  case atStart => exact ⟨0, Nat.zero_le _, by simp [szL], rfl, HBI.out⟩
  case round =>
   clear HBI
   obtain ⟨k, hk, rfl, rfl, hb⟩ := hrel
   have HB0 := hH hb
   have cb := cell_up9 hb HL.out c2
   clear hb
   have hbig := szL_big fO 281474976710656 HRo.out k
   by_cases hlt : k < ops.length
   ·have hk1 : (k : Int) < (ops.length : Int) := by omega
    have hk0 : (0 : Int) ≤ (k : Int) := by omega
    have hdk : decide ((k : Int) < (ops.length : Int)) = true := decide_eq_true hk1
    obtain ⟨⟨kd, key, to_, nm⟩, hx⟩ := at_lt hlt
    obtain ⟨g, o, hA, hg, d0, d1, d2, d3⟩ := ops_at HO.out hx
    simp only at d1 d2
    have e1 := cell_in HBW.out hg d1
    have e1 := cell_in HB0.out (Nat.lt_of_lt_of_le hg HBW.out.size) e1
    have e2 := cell_in HBW.out hg d2
    have e2 := cell_in HB0.out (Nat.lt_of_lt_of_le hg HBW.out.size) e2
    have HFT := hH (szL_take fO hx)
    have hsz : key.size + to_.size ≤ 281474976710656 := HRo.out _ (List.mem_of_getElem? hx)
    clear hx d0 d1 d2 d3
    subst hA
    generalize hG : szL fO (ops.take k) = G at *
    clear hG
    have hq : ((0 : Int) ≤ (G : Int) + (key.size : Int) ∧ (G : Int) + (key.size : Int) < 9223372036854775808) ∧ (0 : Int) ≤ (G : Int) + (key.size : Int) + (to_.size : Int) ∧ (G : Int) + (key.size : Int) + (to_.size : Int) < 9223372036854775808 := by omega
    have hw1 := wrap_in64 hq.1.1 hq.1.2
    have hw2 := wrap_in64 hq.2.1 hq.2.2
    have hv1 := w64_9 hq.1.1 hq.1.2
    have hv2 := w64_9 hq.2.1 hq.2.2
    clear hq
    go_wp2_with fail
    go_quiet (fail)
    go_wp2
    go_roundw
    case rel => exact ⟨k + 1, hlt, by rw [HFT.out]; show _ = Value.int .i64 (((G + (key.size + to_.size) : Nat)) : Int); (try simp only [hw1, hw2, hv1, hv2]); rw [← Nat.add_assoc, Int.natCast_add, Int.natCast_add], by go_num, HB0.out.trans ⟨rfl, rfl, rfl, Nat.le_refl _, fun _ _ => rfl⟩⟩
    case measure => clear hv1 hv2 hw1 hw2; simp [RowKit.intOf]; omega
   ·have hge : ¬ (k : Int) < (ops.length : Int) := by omega
    have hdk : decide ((k : Int) < (ops.length : Int)) = false := decide_eq_false hge
    generalize hS : szL fO (ops.take k) = S1 at *
    have HS1 : Hid (S1 = szL fO ops) := hH (by rw [← hS, List.take_of_length_le (by omega)])
    have hbS1 : S1 ≤ 33776997205278720 := by omega
    clear hS hbig
    go_wp2
    clear cb hdk hge hk
    go_loopw [4, 6] (fun b i wr => ∃ k : Nat, k ≤ sF.length ∧ b = .int .i64 ((S1 : Int) + (szL fI (sF.take k) : Nat)) ∧ i = .int .i64 k ∧ Below w0.heap.size w0 wr) (fun _ i _ => sF.length - (RowKit.intOf i).toNat)
    case atStart => exact ⟨0, Nat.zero_le _, by simp [szL], rfl, HB0.out⟩
    case round =>
     clear HB0
     obtain ⟨k, hk, rfl, rfl, hb⟩ := hrel
     have HB1 := hH hb
     have cb := cell_up9 hb HL.out c9
     clear hb
     have hbig := szL_big fI 140737488355328 HRs.out k
     by_cases hlt : k < sF.length
     ·have hk1 : (k : Int) < (sF.length : Int) := by omega
      have hk0 : (0 : Int) ≤ (k : Int) := by omega
      have hdk : decide ((k : Int) < (sF.length : Int)) = true := decide_eq_true hk1
      obtain ⟨s, hx⟩ := at_lt hlt
      obtain ⟨g, o, hA, hg, d0, d1, _⟩ := SD.Dl.at HS.out hx
      unfold SD.ilD at d1
      have e1 := cell_in HBW.out hg d1
      have e1 := cell_in HB1.out (Nat.lt_of_lt_of_le hg HBW.out.size) e1
      have HFT := hH (szL_take fI hx)
      have hsz : s.ids.length ≤ 140737488355328 := HRs.out _ (List.mem_of_getElem? hx)
      clear hx d0 d1
      subst hA
      generalize hG : szL fI (sF.take k) = G at *
      clear hG
      have hq : (0 : Int) ≤ (S1 : Int) + (G : Int) + (s.ids.length : Int) ∧ (S1 : Int) + (G : Int) + (s.ids.length : Int) < 9223372036854775808 := by omega
      have hw1 := wrap_in64 hq.1 hq.2
      have hv1 := w64_9 hq.1 hq.2
      clear hq
      go_wp2
      go_roundw
      case rel => exact ⟨k + 1, hlt, by rw [HFT.out]; show _ = Value.int .i64 ((S1 : Int) + ((G + s.ids.length : Nat) : Int)); (try simp only [hw1, hv1]); rw [Int.natCast_add, Int.add_assoc], by go_num, HB1.out⟩
      case measure => clear hv1 hw1; simp [RowKit.intOf]; omega
     ·have hge : ¬ (k : Int) < (sF.length : Int) := by omega
      have hdk : decide ((k : Int) < (sF.length : Int)) = false := decide_eq_false hge
      have hG2 : szL fI (sF.take k) = szL fI sF := by rw [List.take_of_length_le (by omega)]
      obtain ⟨S2, hS⟩ : ∃ q_ : Nat, q_ = S1 + szL fI (sF.take k) := ⟨_, rfl⟩
      have hSI : (S1 : Int) + (szL fI (sF.take k) : Int) = (S2 : Int) := by rw [hS]; exact (Int.natCast_add _ _).symm
      have HS2 : Hid (S2 = szL fO ops + szL fI sF) := hH (by rw [hS, HS1.out, hG2])
      have hbS2 : S2 ≤ 67553994410557440 := by omega
      rw [hSI]
      clear hS hSI hG2 hbig HS1 hbS1
      go_wp2
      clear cb hdk hge hk
      go_loopw [4, 7] (fun b i wr => ∃ k : Nat, k ≤ dF.length ∧ b = .int .i64 ((S2 : Int) + (szL fI (dF.take k) : Nat)) ∧ i = .int .i64 k ∧ Below w0.heap.size w0 wr) (fun _ i _ => dF.length - (RowKit.intOf i).toNat)
      case atStart => exact ⟨0, Nat.zero_le _, by simp [szL], rfl, HB1.out⟩
      case round =>
       clear HB1
       obtain ⟨k, hk, rfl, rfl, hb⟩ := hrel
       have HB2 := hH hb
       have cb := cell_up9 hb HL.out c18
       clear hb
       have hbig := szL_big fI 140737488355328 HRd.out k
       by_cases hlt : k < dF.length
       ·have hk1 : (k : Int) < (dF.length : Int) := by omega
        have hk0 : (0 : Int) ≤ (k : Int) := by omega
        have hdk : decide ((k : Int) < (dF.length : Int)) = true := decide_eq_true hk1
        obtain ⟨s, hx⟩ := at_lt hlt
        obtain ⟨g, o, hA, hg, d0, d1, _⟩ := SD.Dl.at HD.out hx
        unfold SD.ilD at d1
        have e1 := cell_in HBW.out hg d1
        have e1 := cell_in HB2.out (Nat.lt_of_lt_of_le hg HBW.out.size) e1
        have HFT := hH (szL_take fI hx)
        have hsz : s.ids.length ≤ 140737488355328 := HRd.out _ (List.mem_of_getElem? hx)
        clear hx d0 d1
        subst hA
        generalize hG : szL fI (dF.take k) = G at *
        clear hG
        have hq : (0 : Int) ≤ (S2 : Int) + (G : Int) + (s.ids.length : Int) ∧ (S2 : Int) + (G : Int) + (s.ids.length : Int) < 9223372036854775808 := by omega
        have hw1 := wrap_in64 hq.1 hq.2
        have hv1 := w64_9 hq.1 hq.2
        clear hq
        go_wp2
        go_roundw
        case rel => exact ⟨k + 1, hlt, by rw [HFT.out]; show _ = Value.int .i64 ((S2 : Int) + ((G + s.ids.length : Nat) : Int)); (try simp only [hw1, hv1]); rw [Int.natCast_add, Int.add_assoc], by go_num, HB2.out⟩
        case measure => clear hv1 hw1; simp [RowKit.intOf]; omega
       ·have hge : ¬ (k : Int) < (dF.length : Int) := by omega
        have hdk : decide ((k : Int) < (dF.length : Int)) = false := decide_eq_false hge
        have hG2 : szL fI (dF.take k) = szL fI dF := by rw [List.take_of_length_le (by omega)]
        obtain ⟨S3, hS⟩ : ∃ q_ : Nat, q_ = S2 + szL fI (dF.take k) := ⟨_, rfl⟩
        have hSI : (S2 : Int) + (szL fI (dF.take k) : Int) = (S3 : Int) := by rw [hS]; exact (Int.natCast_add _ _).symm
        have HS3 : Hid (S3 = szL fO ops + szL fI sF + szL fI dF) := hH (by rw [hS, HS2.out, hG2])
        have hbS3 : S3 ≤ 101330991615836160 := by omega
        rw [hSI]
        clear hS hSI hG2 hbig HS2 hbS2
        go_wp2
        clear cb hdk hge hk
        go_loopw [4, 8] (fun b i wr => ∃ k : Nat, k ≤ writes.length ∧ b = .int .i64 ((S3 : Int) + (szL fW (writes.take k) : Nat)) ∧ i = .int .i64 k ∧ Below w0.heap.size w0 wr) (fun _ i _ => writes.length - (RowKit.intOf i).toNat)
        case atStart => exact ⟨0, Nat.zero_le _, by simp [szL], rfl, HB2.out⟩
        case round =>
         clear HB2
         obtain ⟨k, hk, rfl, rfl, hb⟩ := hrel
         have HB3 := hH hb
         have cb := cell_up9 hb HL.out c20
         clear hb
         have hbig := szL_big fW 140737488355328 HRw.out k
         by_cases hlt : k < writes.length
         ·have hk1 : (k : Int) < (writes.length : Int) := by omega
          have hk0 : (0 : Int) ≤ (k : Int) := by omega
          have hdk : decide ((k : Int) < (writes.length : Int)) = true := decide_eq_true hk1
          obtain ⟨⟨key, nm, gn⟩, hx⟩ := at_lt hlt
          obtain ⟨g, o, hA, hg, d0, d1, d2⟩ := wrs_at HW.out hx
          simp only at d0
          have e1 := cell_in HBW.out hg d0
          have e1 := cell_in HB3.out (Nat.lt_of_lt_of_le hg HBW.out.size) e1
          have HFT := hH (szL_take fW hx)
          have hsz : key.size ≤ 140737488355328 := HRw.out _ (List.mem_of_getElem? hx)
          clear hx d0 d1 d2
          subst hA
          generalize hG : szL fW (writes.take k) = G at *
          clear hG
          have hq : (0 : Int) ≤ (S3 : Int) + (G : Int) + (key.size : Int) ∧ (S3 : Int) + (G : Int) + (key.size : Int) < 9223372036854775808 := by omega
          have hw1 := wrap_in64 hq.1 hq.2
          have hv1 := w64_9 hq.1 hq.2
          clear hq
          go_wp2
          go_roundw
          case rel => exact ⟨k + 1, hlt, by rw [HFT.out]; show _ = Value.int .i64 ((S3 : Int) + ((G + key.size : Nat) : Int)); (try simp only [hw1, hv1]); rw [Int.natCast_add, Int.add_assoc], by go_num, HB3.out⟩
          case measure => clear hv1 hw1; simp [RowKit.intOf]; omega
         ·have hge : ¬ (k : Int) < (writes.length : Int) := by omega
          have hdk : decide ((k : Int) < (writes.length : Int)) = false := decide_eq_false hge
          have hG2 : szL fW (writes.take k) = szL fW writes := by rw [List.take_of_length_le (by omega)]
          obtain ⟨S4, hS⟩ : ∃ q_ : Nat, q_ = S3 + szL fW (writes.take k) := ⟨_, rfl⟩
          have hSI : (S3 : Int) + (szL fW (writes.take k) : Int) = (S4 : Int) := by rw [hS]; exact (Int.natCast_add _ _).symm
          have HS4 : Hid (S4 = szL fO ops + szL fI sF + szL fI dF + szL fW writes) := hH (by rw [hS, HS3.out, hG2])
          have hbS4 : S4 ≤ 135107988821114880 := by omega
          rw [hSI]
          clear hS hSI hG2 hbig HS3 hbS3
          go_wp2
          clear cb hdk hge hk
          go_loopw [4, 9] (fun b i wr => ∃ k : Nat, k ≤ pairs.length ∧ b = .int .i64 ((S4 : Int) + (szL fP (pairs.take k) : Nat)) ∧ i = .int .i64 k ∧ Below w0.heap.size w0 wr) (fun _ i _ => pairs.length - (RowKit.intOf i).toNat)
          case atStart => exact ⟨0, Nat.zero_le _, by simp [szL], rfl, HB3.out⟩
          case round =>
           clear HB3
           obtain ⟨k, hk, rfl, rfl, hb⟩ := hrel
           have HB4 := hH hb
           have cb := cell_up9 hb HL.out c21
           clear hb
           have hbig := szL_big fP 140737488355328 HRp.out k
           by_cases hlt : k < pairs.length
           ·have hk1 : (k : Int) < (pairs.length : Int) := by omega
            have hk0 : (0 : Int) ≤ (k : Int) := by omega
            have hdk : decide ((k : Int) < (pairs.length : Int)) = true := decide_eq_true hk1
            obtain ⟨⟨key, nm⟩, hx⟩ := at_lt hlt
            obtain ⟨g, o, hA, hg, d0, d1⟩ := prs_at HP.out hx
            simp only at d0
            have e1 := cell_in HBW.out hg d0
            have e1 := cell_in HB4.out (Nat.lt_of_lt_of_le hg HBW.out.size) e1
            have HFT := hH (szL_take fP hx)
            have hsz : key.size ≤ 140737488355328 := HRp.out _ (List.mem_of_getElem? hx)
            clear hx d0 d1
            subst hA
            generalize hG : szL fP (pairs.take k) = G at *
            clear hG
            have hq : (0 : Int) ≤ (S4 : Int) + (G : Int) + (key.size : Int) ∧ (S4 : Int) + (G : Int) + (key.size : Int) < 9223372036854775808 := by omega
            have hw1 := wrap_in64 hq.1 hq.2
            have hv1 := w64_9 hq.1 hq.2
            clear hq
            go_wp2
            go_roundw
            case rel => exact ⟨k + 1, hlt, by rw [HFT.out]; show _ = Value.int .i64 ((S4 : Int) + ((G + key.size : Nat) : Int)); (try simp only [hw1, hv1]); rw [Int.natCast_add, Int.add_assoc], by go_num, HB4.out⟩
            case measure => clear hv1 hw1; simp [RowKit.intOf]; omega
           ·have hge : ¬ (k : Int) < (pairs.length : Int) := by omega
            have hdk : decide ((k : Int) < (pairs.length : Int)) = false := decide_eq_false hge
            have hG2 : szL fP (pairs.take k) = szL fP pairs := by rw [List.take_of_length_le (by omega)]
            obtain ⟨S5, hS⟩ : ∃ q_ : Nat, q_ = S4 + szL fP (pairs.take k) := ⟨_, rfl⟩
            have hSI : (S4 : Int) + (szL fP (pairs.take k) : Int) = (S5 : Int) := by rw [hS]; exact (Int.natCast_add _ _).symm
            have HS5 : Hid (S5 = szL fO ops + szL fI sF + szL fI dF + szL fW writes + szL fP pairs) := hH (by rw [hS, HS4.out, hG2])
            have hbS5 : S5 ≤ 168884986026393600 := by omega
            rw [hSI]
            clear hS hSI hG2 hbig HS4 hbS4
            have HTOT : Hid (S5 = szL fO ops + szL fD (SD.toD sF) + szL fD (SD.toD dF) + szL fW writes + szL fP pairs) := hH (by rw [HZS.out, HZD.out]; exact HS5.out)
            by_cases hn : S5 ≤ 20000
            ·have hnl : decide ((S5 : Int) ≤ 20000) = true := decide_eq_true (by omega)
             have HV : Hid (smallC ⟨(id1, id2), ops, phase, (p1, p2), (v1, v2), fast, SD.toD sF, (b1, b2), has, (q1, q2), (gone, (t1, t2), SD.toD dF), ready, writes, pairs⟩ = true) := hH (small_yes rfl HN120.out (HTOT.out) hn)
             go_wp2
             go_ret
             exact ⟨ret_bool HV.out.symm, blThen HBW.out HB4.out⟩
            ·have hnl : decide ((S5 : Int) ≤ 20000) = false := decide_eq_false (by omega)
             have HV : Hid (smallC ⟨(id1, id2), ops, phase, (p1, p2), (v1, v2), fast, SD.toD sF, (b1, b2), has, (q1, q2), (gone, (t1, t2), SD.toD dF), ready, writes, pairs⟩ = false) := hH (small_no2 (HTOT.out) hn)
             go_wp2
             go_ret
             exact ⟨ret_bool HV.out.symm, blThen HBW.out HB4.out⟩

def loL (c : Cm) (l : Pl) (vo : Value) : Pl := if c.phase = 2 ∧ c.val.1 = false ∧ c.ready = false then ⟨l.o, l.s, l.d, vo, l.p⟩ else l
theorem loL_at {W : World} {c : Cm} {l : Pl} {po : List Wrt} {vo : Value} (h : CmAt W c l) (ho : SlG eW W vo po) : CmAt W (loaC c po) (loL c l vo) := by
 unfold loaC loL
 split
 ·exact ⟨h.o, h.s, h.d, ho, h.p⟩
 ·exact h
def doL (c : Cm) (l : Pl) (vo : Value) : Pl := if c.phase = 2 ∧ c.ready = true then ⟨l.o, l.s, l.d, l.w, vo⟩ else l
theorem doL_at {W : World} {c : Cm} {l : Pl} {po : Al Nat} {vo : Value} (h : CmAt W c l) (ho : SlG eP W vo po) : CmAt W (donC c po) (doL c l vo) := by
 unfold donC doL
 split
 ·exact ⟨h.o, h.s, h.d, h.w, ho⟩
 ·exact h
theorem rload_any (c : Cm) (l : Pl) (po : List Wrt) (vo : Value) (W : World) (h : CmAt W c l) (hpo : SlG eW W vo po) : Calls Tryz.prog 94 #[cmV c l, vo] W (RetL W (loaC c po) (loL c l vo)) := by
 obtain ⟨poa, poc, rfl⟩ := hpo.form
 clear hpo
 generalize po.length = pon at *
 generalize hv : loaC c po = cv
 unfold loL
 try simp only
 obtain ⟨⟨id1, id2⟩, ops, phase, ⟨p1, p2⟩, ⟨v1, v2⟩, fast, seen, ⟨b1, b2⟩, has, ⟨q1, q2⟩, ⟨gone, ⟨t1, t2⟩, deps⟩, ready, writes, pairs⟩ := c
 obtain ⟨lo, ls, ld, lw, lp⟩ := l
 try simp only at h
 obtain ⟨oa, oc, rfl⟩ := h.o.form
 obtain ⟨sa, sc, sF, rfl, _⟩ := h.s
 obtain ⟨da, dc, dF, rfl, _⟩ := h.d
 obtain ⟨wa, wc, rfl⟩ := h.w.form
 obtain ⟨pa, pc, rfl⟩ := h.p.form
 clear h
 simp only [cmV] at *
 generalize ops.length = on at *
 generalize sF.length = sn at *
 generalize dF.length = dn at *
 generalize writes.length = wn at *
 generalize pairs.length = pn at *
 unfold loaC at hv
 simp only at hv
 by_cases hp : phase = 2
 rotate_left
 ·have hb : ((phase == 2) = false) := by simpa using hp
  rw [if_neg (fun e => hp e.1)] at hv ⊢
  subst hv
  obtain ⟨w0, he0, hw0, kQc, kQr, hb0⟩ := boxes2 W (.cells (r22 id1 id2 (.slice oa on oc) phase p1 p2 v1 v2 fast (.slice sa sn sc) b1 b2 has q1 q2 gone t1 t2 (.slice da dn dc) ready (.slice wa wn wc) (.slice pa pn pc)) 31) (.cells z22 31)
  have Kc0 := hH kQc
  have Kr0 := hH kQr
  have HB0 := hH hb0
  have HE0 := hH he0
  clear he0 hb0 kQc kQr
  go_enter Tryz.func94, Tryz.ntmps94
  go_upto_region 1 with fail
  rw [← HE0.out]
  go_wp2_with (first | go_skip | ((with_reducible refine atW w0 ?_); refine store9 _ _ rfl (by rfl) _ rfl rfl Kr0.out rfl rfl (by simp [Value.oneCell']) ?_; intro w1 h1 h2; have Kr1 := hH h1; have hw1 := Nat.le_trans hw0 h2.size; have HB1 : Hid (Below W.heap.size W w1) := hH (below_grown9 HB0.out h2 (by omega)); have Kc1 := hH (grown_other9 Kc0.out h2 (by omega) (by omega)); clear h1 h2) | ((with_reducible refine atW w0 ?_); refine load9 _ rfl (by rfl) _ rfl Kc0.out rfl ?_) | ((with_reducible refine atW w0 ?_); refine wpList_load_one _ _ rfl (by rfl) _ 3 rfl Kc0.out Tryz.underlying3 rfl rfl ?_))
  refine bodyPost_ret (results_cell_row Tryz.results94 _ _ _ 31 _ (0, 0) _ rfl Kr1.out Tryz.underlying31 rfl szCmd) rfl ?_
  exact ⟨rfl, HB1.out⟩
 ·subst hp
  cases gone
  rotate_left
  ·rw [if_neg (fun e => by cases e.2.1)] at hv ⊢
   subst hv
   obtain ⟨w0, he0, hw0, kQc, kQr, hb0⟩ := boxes2 W (.cells (r22 id1 id2 (.slice oa on oc) 2 p1 p2 v1 v2 fast (.slice sa sn sc) b1 b2 has q1 q2 true t1 t2 (.slice da dn dc) ready (.slice wa wn wc) (.slice pa pn pc)) 31) (.cells z22 31)
   have Kc0 := hH kQc
   have Kr0 := hH kQr
   have HB0 := hH hb0
   have HE0 := hH he0
   clear he0 hb0 kQc kQr
   go_enter Tryz.func94, Tryz.ntmps94
   go_upto_region 1 with fail
   rw [← HE0.out]
   go_wp2_with (first | go_skip | ((with_reducible refine atW w0 ?_); refine store9 _ _ rfl (by rfl) _ rfl rfl Kr0.out rfl rfl (by simp [Value.oneCell']) ?_; intro w1 h1 h2; have Kr1 := hH h1; have hw1 := Nat.le_trans hw0 h2.size; have HB1 : Hid (Below W.heap.size W w1) := hH (below_grown9 HB0.out h2 (by omega)); have Kc1 := hH (grown_other9 Kc0.out h2 (by omega) (by omega)); clear h1 h2) | ((with_reducible refine atW w0 ?_); refine load9 _ rfl (by rfl) _ rfl Kc0.out rfl ?_) | ((with_reducible refine atW w0 ?_); refine wpList_load_one _ _ rfl (by rfl) _ 15 rfl Kc0.out Tryz.underlying4 rfl rfl ?_) | ((with_reducible refine atW w0 ?_); refine wpList_load_one _ _ rfl (by rfl) _ 3 rfl Kc0.out Tryz.underlying3 rfl rfl ?_))
   refine bodyPost_ret (results_cell_row Tryz.results94 _ _ _ 31 _ (0, 0) _ rfl Kr1.out Tryz.underlying31 rfl szCmd) rfl ?_
   exact ⟨rfl, HB1.out⟩
  cases ready
  rotate_left
  ·rw [if_neg (fun e => by cases e.2.2)] at hv ⊢
   subst hv
   obtain ⟨w0, he0, hw0, kQc, kQr, hb0⟩ := boxes2 W (.cells (r22 id1 id2 (.slice oa on oc) 2 p1 p2 v1 v2 fast (.slice sa sn sc) b1 b2 has q1 q2 false t1 t2 (.slice da dn dc) true (.slice wa wn wc) (.slice pa pn pc)) 31) (.cells z22 31)
   have Kc0 := hH kQc
   have Kr0 := hH kQr
   have HB0 := hH hb0
   have HE0 := hH he0
   clear he0 hb0 kQc kQr
   go_enter Tryz.func94, Tryz.ntmps94
   go_upto_region 1 with fail
   rw [← HE0.out]
   go_wp2_with (first | go_skip | ((with_reducible refine atW w0 ?_); refine store9 _ _ rfl (by rfl) _ rfl rfl Kr0.out rfl rfl (by simp [Value.oneCell']) ?_; intro w1 h1 h2; have Kr1 := hH h1; have hw1 := Nat.le_trans hw0 h2.size; have HB1 : Hid (Below W.heap.size W w1) := hH (below_grown9 HB0.out h2 (by omega)); have Kc1 := hH (grown_other9 Kc0.out h2 (by omega) (by omega)); clear h1 h2) | ((with_reducible refine atW w0 ?_); refine load9 _ rfl (by rfl) _ rfl Kc0.out rfl ?_) | ((with_reducible refine atW w0 ?_); refine wpList_load_one _ _ rfl (by rfl) _ 19 rfl Kc0.out Tryz.underlying4 rfl rfl ?_) | ((with_reducible refine atW w0 ?_); refine wpList_load_one _ _ rfl (by rfl) _ 15 rfl Kc0.out Tryz.underlying4 rfl rfl ?_) | ((with_reducible refine atW w0 ?_); refine wpList_load_one _ _ rfl (by rfl) _ 3 rfl Kc0.out Tryz.underlying3 rfl rfl ?_))
   refine bodyPost_ret (results_cell_row Tryz.results94 _ _ _ 31 _ (0, 0) _ rfl Kr1.out Tryz.underlying31 rfl szCmd) rfl ?_
   exact ⟨rfl, HB1.out⟩
  ·rw [if_pos ⟨rfl, rfl, rfl⟩] at hv ⊢
   subst hv
   obtain ⟨w0, he0, hw0, kQc, kQr, hb0⟩ := boxes2 W (.cells (r22 id1 id2 (.slice oa on oc) 2 p1 p2 v1 v2 fast (.slice sa sn sc) b1 b2 has q1 q2 false t1 t2 (.slice da dn dc) false (.slice wa wn wc) (.slice pa pn pc)) 31) (.cells z22 31)
   have Kc0 := hH kQc
   have Kr0 := hH kQr
   have HB0 := hH hb0
   have HE0 := hH he0
   clear he0 hb0 kQc kQr
   go_enter Tryz.func94, Tryz.ntmps94
   go_upto_region 1 with fail
   rw [← HE0.out]
   go_wp2_with (first | go_skip | ((with_reducible refine atW w2 ?_); refine store9 _ _ rfl (by rfl) _ rfl rfl Kr2.out rfl rfl (by simp [Value.oneCell']) ?_; intro w3 h1 h2; have Kr3 := hH h1; have hw3 := Nat.le_trans hw2 h2.size; have HB3 : Hid (Below W.heap.size W w3) := hH (below_grown9 HB2.out h2 (by omega)); clear h1 h2) | ((with_reducible refine atW w2 ?_); refine load9 _ rfl (by rfl) _ rfl Kc2.out rfl ?_) | ((with_reducible refine atW w1 ?_); refine wpList_store_part _ _ _ rfl (by rfl) _ 20 rfl rfl (cs := #[.slice poa pon poc]) rfl Kc1.out (by kernel_rfl) (by simp) (by simp [Value.oneCell']) (D := (r22 id1 id2 (.slice oa on oc) 2 p1 p2 v1 v2 fast (.slice sa sn sc) b1 b2 has q1 q2 false t1 t2 (.slice da dn dc) true (.slice poa pon poc) (.slice pa pn pc))) rfl ?_; intro w2 h1 h2; have Kc2 := hH h1; have hw2 := Nat.le_trans hw1 h2.size; have HB2 : Hid (Below W.heap.size W w2) := hH (below_grown9 HB1.out h2 (by omega)); have Kr2 := hH (grown_other9 Kr1.out h2 (by omega) (by omega)); clear h1 h2) | ((with_reducible refine atW w0 ?_); refine wpList_store_part _ _ _ rfl (by rfl) _ 19 rfl rfl (cs := #[.bool true]) rfl Kc0.out (by kernel_rfl) (by simp) (by simp [Value.oneCell']) (D := (r22 id1 id2 (.slice oa on oc) 2 p1 p2 v1 v2 fast (.slice sa sn sc) b1 b2 has q1 q2 false t1 t2 (.slice da dn dc) true (.slice wa wn wc) (.slice pa pn pc))) rfl ?_; intro w1 h1 h2; have Kc1 := hH h1; have hw1 := Nat.le_trans hw0 h2.size; have HB1 : Hid (Below W.heap.size W w1) := hH (below_grown9 HB0.out h2 (by omega)); have Kr1 := hH (grown_other9 Kr0.out h2 (by omega) (by omega)); clear h1 h2) | ((with_reducible refine atW w0 ?_); refine wpList_load_one _ _ rfl (by rfl) _ 19 rfl Kc0.out Tryz.underlying4 rfl rfl ?_) | ((with_reducible refine atW w0 ?_); refine wpList_load_one _ _ rfl (by rfl) _ 15 rfl Kc0.out Tryz.underlying4 rfl rfl ?_) | ((with_reducible refine atW w0 ?_); refine wpList_load_one _ _ rfl (by rfl) _ 3 rfl Kc0.out Tryz.underlying3 rfl rfl ?_))
   refine bodyPost_ret (results_cell_row Tryz.results94 _ _ _ 31 _ (0, 0) _ rfl Kr3.out Tryz.underlying31 rfl szCmd) rfl ?_
   exact ⟨rfl, HB3.out⟩
theorem rdone_any (c : Cm) (l : Pl) (po : Al Nat) (vo : Value) (W : World) (h : CmAt W c l) (hpo : SlG eP W vo po) : Calls Tryz.prog 95 #[cmV c l, vo] W (RetL W (donC c po) (doL c l vo)) := by
 obtain ⟨poa, poc, rfl⟩ := hpo.form
 clear hpo
 generalize po.length = pon at *
 generalize hv : donC c po = cv
 unfold doL
 try simp only
 obtain ⟨⟨id1, id2⟩, ops, phase, ⟨p1, p2⟩, ⟨v1, v2⟩, fast, seen, ⟨b1, b2⟩, has, ⟨q1, q2⟩, ⟨gone, ⟨t1, t2⟩, deps⟩, ready, writes, pairs⟩ := c
 obtain ⟨lo, ls, ld, lw, lp⟩ := l
 try simp only at h
 obtain ⟨oa, oc, rfl⟩ := h.o.form
 obtain ⟨sa, sc, sF, rfl, _⟩ := h.s
 obtain ⟨da, dc, dF, rfl, _⟩ := h.d
 obtain ⟨wa, wc, rfl⟩ := h.w.form
 obtain ⟨pa, pc, rfl⟩ := h.p.form
 clear h
 simp only [cmV] at *
 generalize ops.length = on at *
 generalize sF.length = sn at *
 generalize dF.length = dn at *
 generalize writes.length = wn at *
 generalize pairs.length = pn at *
 unfold donC at hv
 simp only at hv
 by_cases hp : phase = 2
 rotate_left
 ·have hb : ((phase == 2) = false) := by simpa using hp
  rw [if_neg (fun e => hp e.1)] at hv ⊢
  subst hv
  obtain ⟨w0, he0, hw0, kQc, kQr, hb0⟩ := boxes2 W (.cells (r22 id1 id2 (.slice oa on oc) phase p1 p2 v1 v2 fast (.slice sa sn sc) b1 b2 has q1 q2 gone t1 t2 (.slice da dn dc) ready (.slice wa wn wc) (.slice pa pn pc)) 31) (.cells z22 31)
  have Kc0 := hH kQc
  have Kr0 := hH kQr
  have HB0 := hH hb0
  have HE0 := hH he0
  clear he0 hb0 kQc kQr
  go_enter Tryz.func95, Tryz.ntmps95
  go_upto_region 1 with fail
  rw [← HE0.out]
  go_wp2_with (first | go_skip | ((with_reducible refine atW w0 ?_); refine store9 _ _ rfl (by rfl) _ rfl rfl Kr0.out rfl rfl (by simp [Value.oneCell']) ?_; intro w1 h1 h2; have Kr1 := hH h1; have hw1 := Nat.le_trans hw0 h2.size; have HB1 : Hid (Below W.heap.size W w1) := hH (below_grown9 HB0.out h2 (by omega)); have Kc1 := hH (grown_other9 Kc0.out h2 (by omega) (by omega)); clear h1 h2) | ((with_reducible refine atW w0 ?_); refine load9 _ rfl (by rfl) _ rfl Kc0.out rfl ?_) | ((with_reducible refine atW w0 ?_); refine wpList_load_one _ _ rfl (by rfl) _ 3 rfl Kc0.out Tryz.underlying3 rfl rfl ?_))
  refine bodyPost_ret (results_cell_row Tryz.results95 _ _ _ 31 _ (0, 0) _ rfl Kr1.out Tryz.underlying31 rfl szCmd) rfl ?_
  exact ⟨rfl, HB1.out⟩
 ·subst hp
  cases ready
  ·rw [if_neg (fun e => by cases e.2)] at hv ⊢
   subst hv
   obtain ⟨w0, he0, hw0, kQc, kQr, hb0⟩ := boxes2 W (.cells (r22 id1 id2 (.slice oa on oc) 2 p1 p2 v1 v2 fast (.slice sa sn sc) b1 b2 has q1 q2 gone t1 t2 (.slice da dn dc) false (.slice wa wn wc) (.slice pa pn pc)) 31) (.cells z22 31)
   have Kc0 := hH kQc
   have Kr0 := hH kQr
   have HB0 := hH hb0
   have HE0 := hH he0
   clear he0 hb0 kQc kQr
   go_enter Tryz.func95, Tryz.ntmps95
   go_upto_region 1 with fail
   rw [← HE0.out]
   go_wp2_with (first | go_skip | ((with_reducible refine atW w0 ?_); refine store9 _ _ rfl (by rfl) _ rfl rfl Kr0.out rfl rfl (by simp [Value.oneCell']) ?_; intro w1 h1 h2; have Kr1 := hH h1; have hw1 := Nat.le_trans hw0 h2.size; have HB1 : Hid (Below W.heap.size W w1) := hH (below_grown9 HB0.out h2 (by omega)); have Kc1 := hH (grown_other9 Kc0.out h2 (by omega) (by omega)); clear h1 h2) | ((with_reducible refine atW w0 ?_); refine load9 _ rfl (by rfl) _ rfl Kc0.out rfl ?_) | ((with_reducible refine atW w0 ?_); refine wpList_load_one _ _ rfl (by rfl) _ 19 rfl Kc0.out Tryz.underlying4 rfl rfl ?_) | ((with_reducible refine atW w0 ?_); refine wpList_load_one _ _ rfl (by rfl) _ 3 rfl Kc0.out Tryz.underlying3 rfl rfl ?_))
   refine bodyPost_ret (results_cell_row Tryz.results95 _ _ _ 31 _ (0, 0) _ rfl Kr1.out Tryz.underlying31 rfl szCmd) rfl ?_
   exact ⟨rfl, HB1.out⟩
  ·rw [if_pos ⟨rfl, rfl⟩] at hv ⊢
   subst hv
   obtain ⟨w0, he0, hw0, kQc, kQr, hb0⟩ := boxes2 W (.cells (r22 id1 id2 (.slice oa on oc) 2 p1 p2 v1 v2 fast (.slice sa sn sc) b1 b2 has q1 q2 gone t1 t2 (.slice da dn dc) true (.slice wa wn wc) (.slice pa pn pc)) 31) (.cells z22 31)
   have Kc0 := hH kQc
   have Kr0 := hH kQr
   have HB0 := hH hb0
   have HE0 := hH he0
   clear he0 hb0 kQc kQr
   go_enter Tryz.func95, Tryz.ntmps95
   go_upto_region 1 with fail
   rw [← HE0.out]
   go_wp2_with (first | go_skip | ((with_reducible refine atW w2 ?_); refine store9 _ _ rfl (by rfl) _ rfl rfl Kr2.out rfl rfl (by simp [Value.oneCell']) ?_; intro w3 h1 h2; have Kr3 := hH h1; have hw3 := Nat.le_trans hw2 h2.size; have HB3 : Hid (Below W.heap.size W w3) := hH (below_grown9 HB2.out h2 (by omega)); clear h1 h2) | ((with_reducible refine atW w2 ?_); refine load9 _ rfl (by rfl) _ rfl Kc2.out rfl ?_) | ((with_reducible refine atW w1 ?_); refine wpList_store_part _ _ _ rfl (by rfl) _ 21 rfl rfl (cs := #[.slice poa pon poc]) rfl Kc1.out (by kernel_rfl) (by simp) (by simp [Value.oneCell']) (D := (r22 id1 id2 (.slice oa on oc) 3 p1 p2 v1 v2 fast (.slice sa sn sc) b1 b2 has q1 q2 gone t1 t2 (.slice da dn dc) true (.slice wa wn wc) (.slice poa pon poc))) rfl ?_; intro w2 h1 h2; have Kc2 := hH h1; have hw2 := Nat.le_trans hw1 h2.size; have HB2 : Hid (Below W.heap.size W w2) := hH (below_grown9 HB1.out h2 (by omega)); have Kr2 := hH (grown_other9 Kr1.out h2 (by omega) (by omega)); clear h1 h2) | ((with_reducible refine atW w0 ?_); refine wpList_store_part _ _ _ rfl (by rfl) _ 3 rfl rfl (cs := #[.int .i64 3]) rfl Kc0.out (by kernel_rfl) (by simp) (by simp [Value.oneCell']) (D := (r22 id1 id2 (.slice oa on oc) 3 p1 p2 v1 v2 fast (.slice sa sn sc) b1 b2 has q1 q2 gone t1 t2 (.slice da dn dc) true (.slice wa wn wc) (.slice pa pn pc))) rfl ?_; intro w1 h1 h2; have Kc1 := hH h1; have hw1 := Nat.le_trans hw0 h2.size; have HB1 : Hid (Below W.heap.size W w1) := hH (below_grown9 HB0.out h2 (by omega)); have Kr1 := hH (grown_other9 Kr0.out h2 (by omega) (by omega)); clear h1 h2) | ((with_reducible refine atW w0 ?_); refine wpList_load_one _ _ rfl (by rfl) _ 19 rfl Kc0.out Tryz.underlying4 rfl rfl ?_) | ((with_reducible refine atW w0 ?_); refine wpList_load_one _ _ rfl (by rfl) _ 3 rfl Kc0.out Tryz.underlying3 rfl rfl ?_))
   refine bodyPost_ret (results_cell_row Tryz.results95 _ _ _ 31 _ (0, 0) _ rfl Kr3.out Tryz.underlying31 rfl szCmd) rfl ?_
   exact ⟨rfl, HB3.out⟩
end SC
end Go.Proofs.YtgipkikedacmdaaGreat
