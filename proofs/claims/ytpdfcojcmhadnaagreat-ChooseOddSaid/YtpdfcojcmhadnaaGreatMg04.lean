/- The reference's Nodes; small. Conditions: lists of at most a million. -/
import Derived.RangeFuncNested
import Derived.RangeFuncBound
import Derived.RangeFuncCalls
import Derived.RangeFuncLeaves
import Derived.Shelf.Abstract
import Derived.Shelf.RegionOpen
import Derived.OwnWalkIn
import Derived.TacticsInMore
import Derived.LoopNIn
import Derived.LoopIn
import Derived.Test.YtpdfcojcmhadnaaGreatMg03
set_option maxRecDepth 100000
set_option maxHeartbeats 16000000
namespace Go.Proofs.YtpdfcojcmhadnaaGreat
namespace S3
open Go.RowKit Go.Sort Go.Shelf
attribute [local go_sem] Oper.semAt_some
theorem cutF_more {n p q : Nat} {a b : List Sp} {s t : Sp} (hs : a[p]? = some s) (ht : b[q]? = some t) :
  cutF (n + 1) (a.drop p) (b.drop q) = (if fullS (commonS s t) = true then [commonS s t] else []) ++ (if behindT s.2 t.2 = true then cutF n (a.drop p) (b.drop (q + 1)) else cutF n (a.drop (p + 1)) (b.drop q)) := by
 obtain ⟨h1, rfl⟩ := List.getElem?_eq_some_iff.1 hs
 obtain ⟨h2, rfl⟩ := List.getElem?_eq_some_iff.1 ht
 rw [List.drop_eq_getElem_cons h1, List.drop_eq_getElem_cons h2]
 rfl
theorem cutF_end {n p q : Nat} {a b : List Sp} (h : a.length ≤ p ∨ b.length ≤ q) : cutF n (a.drop p) (b.drop q) = [] := by
 rcases h with h | h
 ·rw [List.drop_eq_nil_of_le h, cutF_nil1]
 ·rw [List.drop_eq_nil_of_le h, cutF_nil2]
theorem bcell {W w1 : World} (hb : Below W.heap.size W w1) : (∀ b o, b < W.heap.size → w1.cell? ⟨b, o, none⟩ = W.cell? ⟨b, o, none⟩) ∧ (∀ b o, b < W.heap.size → w1.frozen? ⟨b, o, none⟩ = W.frozen? ⟨b, o, none⟩) :=
 ⟨fun b o h => hb.cell (p := ⟨b, o, none⟩) h, fun b o h => hb.frozen (p := ⟨b, o, none⟩) h⟩
theorem keep7 {w w' : World} {Ba Bb ga gb oa ob pa pb : Nat} {va vb s1 s2 t1 t2 : Value} (h : Below w.heap.size w w') (ha : Ba < w.heap.size) (hb : Bb < w.heap.size) (hga : ga < w.heap.size) (hgb : gb < w.heap.size)
  (c1 : w.cell? ⟨Ba, 0, none⟩ = some va) (c2 : w.cell? ⟨Bb, 0, none⟩ = some vb) (c3 : w.cell? ⟨ga, oa + pa * 2, none⟩ = some s1) (c4 : w.cell? ⟨ga, oa + pa * 2 + 1, none⟩ = some s2) (c5 : w.cell? ⟨gb, ob + pb * 2, none⟩ = some t1) (c6 : w.cell? ⟨gb, ob + pb * 2 + 1, none⟩ = some t2) :
  Below w.heap.size w w' ∧ w'.cell? ⟨Ba, 0, none⟩ = some va ∧ w'.cell? ⟨Bb, 0, none⟩ = some vb ∧ w'.cell? ⟨ga, oa + pa * 2, none⟩ = some s1 ∧ w'.cell? ⟨ga, oa + pa * 2 + 1, none⟩ = some s2 ∧ w'.cell? ⟨gb, ob + pb * 2, none⟩ = some t1 ∧ w'.cell? ⟨gb, ob + pb * 2 + 1, none⟩ = some t2 :=
 ⟨h, cell_in h ha c1, cell_in h hb c2, cell_in h hga c3, cell_in h hga c4, cell_in h hgb c5, cell_in h hgb c6⟩
theorem block_setCell {w : World} {b i : Nat} {c : Array Value} {t : TypeId} (h : w.heap[b]? = some (.cells c t (0, 0))) (u : Value) : (w.setCell ⟨b, i, none⟩ u).heap[b]? = some (.cells (c.setIfInBounds i u) t (0, 0)) := by
 have hlt := lt_of_block h
 have h' : w.heap[b] = .cells c t (0, 0) := by simpa [Array.getElem?_eq_getElem hlt] using h
 show (w.heap.modify b _)[b]? = _
 rw [Array.getElem?_eq_getElem (by simpa using hlt), Array.getElem_modify_self, h']
 rfl
theorem Box2.set {w : World} {b : Nat} {s : Sp} (h : Box2 w b s) (t : Sp) : Box2 ((w.setCell ⟨b, 0, none⟩ (.string t.1)).setCell ⟨b, 1, none⟩ (.string t.2)) b t :=
 block_setCell (block_setCell h (.string t.1)) (.string t.2)
theorem way2 {wr w1 : World} (s : Sp) (hb : Below (wr.alloc (.cells #[.string ⟨#[]⟩, .string ⟨#[]⟩] 57)).drew.heap.size (wr.alloc (.cells #[.string ⟨#[]⟩, .string ⟨#[]⟩] 57)).drew w1) :
  Below wr.heap.size wr ((w1.setCell ⟨wr.heap.size, 0, none⟩ (.string s.1)).setCell ⟨wr.heap.size, 1, none⟩ (.string s.2)) ∧ Box2 ((w1.setCell ⟨wr.heap.size, 0, none⟩ (.string s.1)).setCell ⟨wr.heap.size, 1, none⟩ (.string s.2)) wr.heap.size s := by
 have h1 : Below wr.heap.size wr w1 := blThen (blAlloc (Below.refl wr.heap.size wr) (.cells #[.string ⟨#[]⟩, .string ⟨#[]⟩] 57)).drew hb
 have h0 : Box2 (wr.alloc (.cells #[.string ⟨#[]⟩, .string ⟨#[]⟩] 57)).drew wr.heap.size (⟨#[]⟩, ⟨#[]⟩) := box2_new wr (⟨#[]⟩, ⟨#[]⟩)
 exact ⟨blSet (blSet h1 (p := ⟨wr.heap.size, 0, none⟩) (Nat.le_refl _) _) (p := ⟨wr.heap.size, 1, none⟩) (Nat.le_refl _) _, (h0.later hb h0.lt).set s⟩
theorem blDrewN {w x : World} (h : Below w.heap.size w x) (n : Nat) : Below w.heap.size w (x.drewN n) := ⟨h.os, h.tape, h.output, h.size, h.block⟩
theorem meetings_stops (n : Nat) (w0 w : World) (Ba Bb : Nat) (va vb : Value) (la lb : List Sp) (hla : la.length ≤ 1000000) (hlb : lb.length ≤ 1000000) (ha : Sl w0 va la) (hb : Sl w0 vb lb) (hBa : Box1 w0 Ba 32 va) (hBb : Box1 w0 Bb 32 vb) (hbel : Below w0.heap.size w0 w) :
  SeqStopsK Fence.wide n Tryz.prog 97 #[.pointer (some ⟨Ba, 0, none⟩), .pointer (some ⟨Bb, 0, none⟩)] (fun s => #[.agg #[.string s.1, .string s.2]]) (Below w0.heap.size) (fun xs => xs = cutL la lb) (fun pre => pre <+: cutL la lb) (la.length + lb.length) w := by
 intro l J Jx W hW hJ hJx hY h0
 obtain ⟨aa, ca, rfl⟩ := ha.form
 obtain ⟨ab, cb, rfl⟩ := hb.form
 have HA := Lib.hid ha
 have HB := Lib.hid hb
 have HBA := Lib.hid hBa
 have HBB := Lib.hid hBb
 have HY := Lib.hid hY
 have hJg : ∀ pre A B, W.heap.size ≤ A.heap.size → J pre A → Below A.heap.size A B → J pre B := fun pre A B _ hj hab => hJ pre A B none hj (grown_of_below hab none) (fun r e => by cases e)
 have HJG := Lib.hid hJg
 have HW := Lib.hid (hbel.trans (hW.mono hbel.size))
 clear ha hb hBa hBb hY hJ hJx hW hbel hJg
 refine callsIn_of_wp Tryz.func97 rfl trivial ?_ rfl
 simp only [Tryz.ntmps97, List.size_toArray, List.length_cons, List.length_nil, Nat.reduceAdd, Nat.reduceSub, Array.replicate_succ, Array.replicate_zero, List.push_toArray, List.append_toArray, List.nil_append, List.cons_append]
 gi_wp2
 gi_loopw [4, 5] (fun i j wr => ∃ (p q : Nat) (pre : List Sp), i = .int .i64 p ∧ j = .int .i64 q ∧ p ≤ la.length ∧ q ≤ lb.length ∧ pre.length ≤ p + q ∧ pre ++ cutF (la.length - p + (lb.length - q)) (la.drop p) (lb.drop q) = cutL la lb ∧ Below w0.heap.size w0 wr ∧ W.heap.size ≤ wr.heap.size ∧ J pre wr) (fun i j _ => la.length - (RowKit.intOf i).toNat + (lb.length - (RowKit.intOf j).toNat))
 case atStart => exact ⟨0, 0, [], rfl, rfl, Nat.zero_le _, Nat.zero_le _, Nat.le_refl _, by simp [cutL], HW.out, Nat.le_refl _, h0⟩
 case round =>
  obtain ⟨p, q, pre, rfl, rfl, hp, hq, hpl, hcut, hbel, hsz, hj⟩ := hrel
  have HCUT := Lib.hid hcut
  have HBEL := Lib.hid hbel
  have HSZ := Lib.hid hsz
  have hba := (HBA.out.later hbel HBA.out.lt).c
  have hbb := (HBB.out.later hbel HBB.out.lt).c
  clear hcut hbel hsz h0
  by_cases h1 : p < la.length
  ·by_cases h2 : q < lb.length
   ·obtain ⟨s, hs⟩ := at_lt h1
    obtain ⟨t, ht⟩ := at_lt h2
    obtain ⟨ga, oa, rfl, hga, ca0, ca1⟩ := HA.out.at hs
    obtain ⟨gb, ob, rfl, hgb, cb0, cb1⟩ := HB.out.at ht
    have CA1 := Lib.hid ca1
    have CB1 := Lib.hid cb1
    replace ca0 := cell_in HBEL.out hga ca0
    replace ca1 := cell_in HBEL.out hga ca1
    replace cb0 := cell_in HBEL.out hgb cb0
    replace cb1 := cell_in HBEL.out hgb cb1
    obtain ⟨m, hm⟩ : ∃ m, la.length - p + (lb.length - q) = m + 1 := ⟨la.length - p + (lb.length - q) - 1, by omega⟩
    have HC := HCUT.out
    rw [hm, cutF_more hs ht] at HC
    have HM := Lib.hid hm
    have HCX := Lib.hid HC
    have hBaL := (HBA.out.later HBEL.out HBA.out.lt).lt
    have hBbL := (HBB.out.later HBEL.out HBB.out.lt).lt
    have hgaL := Nat.lt_of_lt_of_le hga HBEL.out.size
    have hgbL := Nat.lt_of_lt_of_le hgb HBEL.out.size
    clear hs ht hm HC HCUT
    gi_wp2
    refine wpIn_wide.2 ?_
    go_region_held3 (fun w' => Below wr.heap.size wr w' ∧ w'.cell? ⟨Ba, 0, none⟩ = some (.slice (some ⟨ga, oa, none⟩) la.length ca) ∧ w'.cell? ⟨Bb, 0, none⟩ = some (.slice (some ⟨gb, ob, none⟩) lb.length cb) ∧ w'.cell? ⟨ga, oa + p * 2, none⟩ = some (.string s.1) ∧ w'.cell? ⟨ga, oa + p * 2 + 1, none⟩ = some (.string s.2) ∧ w'.cell? ⟨gb, ob + q * 2, none⟩ = some (.string t.1) ∧ w'.cell? ⟨gb, ob + q * 2 + 1, none⟩ = some (.string t.2))
     ((refine keep7 ?_ hBaL hBbL hgaL hgbL hba hbb ca0 ca1 cb0 cb1; (repeat (first | exact Below.refl _ _ | refine Below.drew ?_ | refine blAlloc ?_ _ | refine blThen ?_ hb1 | refine Below.setCell ?_ (by simp) _))))
     (first | (go_at_call 98; refine (common_any s t _).mono ?_; rintro r w1 ⟨rfl, hb1⟩; obtain ⟨hcc, hff⟩ := bcell hb1; have hz1 := hb1.size; simp at hz1))
    ·have hbx := blAlloc (blThen (Below.refl _ _).drew hb1) (.cells #[.string (commonS s t).1, .string (commonS s t).2] 57)
     have hbox := box2_new w1 (commonS s t)
     clear hcc hff hz1 hb1
     generalize w1.alloc (.cells #[.string (commonS s t).1, .string (commonS s t).2] 57) = X at hbx hbox ⊢
     generalize w1.heap.size = B at hbox ⊢
     have hx0 := hbox.c0
     have hx1 := hbox.c1
     have hBlt := hbox.lt
     have HBX := Lib.hid hbx
     have hbx2 := blAlloc hbx (.cells #[.string (commonS s t).1, .string (commonS s t).2] 57)
     have HBX2 := Lib.hid hbx2
     have hjx : J pre (X.alloc (.cells #[.string (commonS s t).1, .string (commonS s t).2] 57)) := HJG.out pre wr _ HSZ.out hj hbx2
     clear hbx hbx2 hbox hj hba hbb ca0 ca1 cb0 cb1
     cases hf : fullS (commonS s t)
     ·gi_wp2_with (refine ⟨trivial, (fun h => by cases h), ?_⟩; gi_at_call 99; refine (callsIn_wide.2 (isEmpty_any (commonS s t) _)).mono ?_; rintro r w2 ⟨rfl, rfl⟩)
      refine ⟨fun _ h => (by cases h), ?_⟩
      have hbelY := HBEL.out.trans (HBX2.out.mono HBEL.out.size)
      have hszY := Nat.le_trans HSZ.out HBX2.out.size
      clear hx0 hx1 hBlt HBX HBX2
      generalize X.alloc (.cells #[.string (commonS s t).1, .string (commonS s t).2] 57) = Y at *
      have hjY := hjx
      have HCY : Hid (pre ++ (if behindT s.2 t.2 = true then cutF m (la.drop p) (lb.drop (q + 1)) else cutF m (la.drop (p + 1)) (lb.drop q)) = cutL la lb) := by
       have h := HCX.out
       rw [hf] at h
       show _ = _
       simpa using h
      clear hf hjx
      have hbaY := (HBA.out.later hbelY HBA.out.lt).c
      have hbbY := (HBB.out.later hbelY HBB.out.lt).c
      have caY := cell_in hbelY hga CA1.out
      have cbY := cell_in hbelY hgb CB1.out
      have HBELY := Lib.hid hbelY
      have HSZY := Lib.hid hszY
      clear hbelY hszY
      cases hbh : behindT s.2 t.2
      ·gi_wp2
       refine wpIn_wide.2 ?_
       go_quiet ((go_at_call 100; exact Calls.quiet_of_same ((behind_any _ _ _).mono fun e w' h => ⟨h.1.trans (by rw [hbh]), h.2.symm⟩)))
       gi_wp2
       go_roundw
       case rel => exact ⟨p + 1, q, pre, by go_num, rfl, h1, hq, by omega, by
        have h := HCY.out
        rw [hbh] at h
        rw [show la.length - (p + 1) + (lb.length - q) = m by have := HM.out; omega]
        simpa using h, HBELY.out.trans ((blDrewN (Below.refl _ _) _).mono HBELY.out.size), HSZY.out, HJG.out pre _ _ HSZY.out hjY (blDrewN (Below.refl _ _) _)⟩
       case measure => simp [RowKit.intOf]; omega
      ·gi_wp2
       refine wpIn_wide.2 ?_
       go_quiet ((go_at_call 100; exact Calls.quiet_of_same ((behind_any _ _ _).mono fun e w' h => ⟨h.1.trans (by rw [hbh]), h.2.symm⟩)))
       gi_wp2
       go_roundw
       case rel => exact ⟨p, q + 1, pre, rfl, by go_num, hp, h2, by omega, by
        have h := HCY.out
        rw [hbh] at h
        rw [show la.length - p + (lb.length - (q + 1)) = m by have := HM.out; omega]
        simpa using h, HBELY.out.trans ((blDrewN (Below.refl _ _) _).mono HBELY.out.size), HSZY.out, HJG.out pre _ _ HSZY.out hjY (blDrewN (Below.refl _ _) _)⟩
       case measure => simp [RowKit.intOf]; omega
     ·obtain ⟨fn, tmps, assign, body, hy, hR⟩ := HY.out pre (commonS s t) _ hjx (by omega)
      gi_wp2_with (refine ⟨trivial, (fun h => by cases h), ?_⟩; gi_at_call 99; refine (callsIn_wide.2 (isEmpty_any (commonS s t) _)).mono ?_; rintro r w2 ⟨rfl, rfl⟩)
      refine ⟨fun h => (by cases h), ?_⟩
      refine hR.mono ?_
      have hbelX := HBEL.out.trans (HBX2.out.mono HBEL.out.size)
      have hszX := Nat.le_trans HSZ.out HBX2.out.size
      clear hR hy hx0 hx1 hBlt HBX HBX2 hjx
      have HBELX := Lib.hid hbelX
      have HSZX := Lib.hid hszX
      clear hbelX hszX
      rintro e Y (⟨rfl, hjY, hk3⟩ | ⟨rfl, hJx3⟩)
      ·have hbelY := HBELX.out.trans hk3
       have hszY := Nat.le_trans HSZX.out (show _ ≤ _ from hk3.size)
       have HCY : Hid ((pre ++ [commonS s t]) ++ (if behindT s.2 t.2 = true then cutF m (la.drop p) (lb.drop (q + 1)) else cutF m (la.drop (p + 1)) (lb.drop q)) = cutL la lb) := by
        have h := HCX.out
        rw [hf] at h
        show _ = _
        simpa using h
       clear hf hk3
       have hbaY := (HBA.out.later hbelY HBA.out.lt).c
       have hbbY := (HBB.out.later hbelY HBB.out.lt).c
       have caY := cell_in hbelY hga CA1.out
       have cbY := cell_in hbelY hgb CB1.out
       have HBELY := Lib.hid hbelY
       have HSZY := Lib.hid hszY
       clear hbelY hszY
       cases hbh : behindT s.2 t.2
       ·gi_wp2
        refine wpIn_wide.2 ?_
        go_quiet ((go_at_call 100; exact Calls.quiet_of_same ((behind_any _ _ _).mono fun e w' h => ⟨h.1.trans (by rw [hbh]), h.2.symm⟩)))
        gi_wp2
        go_roundw
        case rel => exact ⟨p + 1, q, (pre ++ [commonS s t]), by go_num, rfl, h1, hq, by simp; omega, by
         have h := HCY.out
         rw [hbh] at h
         rw [show la.length - (p + 1) + (lb.length - q) = m by have := HM.out; omega]
         simpa using h, HBELY.out.trans ((blDrewN (Below.refl _ _) _).mono HBELY.out.size), HSZY.out, HJG.out (pre ++ [commonS s t]) _ _ HSZY.out hjY (blDrewN (Below.refl _ _) _)⟩
        case measure => simp [RowKit.intOf]; omega
       ·gi_wp2
        refine wpIn_wide.2 ?_
        go_quiet ((go_at_call 100; exact Calls.quiet_of_same ((behind_any _ _ _).mono fun e w' h => ⟨h.1.trans (by rw [hbh]), h.2.symm⟩)))
        gi_wp2
        go_roundw
        case rel => exact ⟨p, q + 1, (pre ++ [commonS s t]), rfl, by go_num, hp, h2, by simp; omega, by
         have h := HCY.out
         rw [hbh] at h
         rw [show la.length - p + (lb.length - (q + 1)) = m by have := HM.out; omega]
         simpa using h, HBELY.out.trans ((blDrewN (Below.refl _ _) _).mono HBELY.out.size), HSZY.out, HJG.out (pre ++ [commonS s t]) _ _ HSZY.out hjY (blDrewN (Below.refl _ _) _)⟩
        case measure => simp [RowKit.intOf]; omega
      ·have hfin : pre ++ [commonS s t] <+: cutL la lb := by
        have h := HCX.out
        rw [hf] at h
        exact ⟨_, by simpa using h⟩
       have HFIN := Lib.hid hfin
       clear hfin
       gi_wp2
       refine bodyPost_ret (results_none rfl _ _ _) rfl ?_
       exact ⟨⟨_, rfl⟩, .inr ⟨_, HFIN.out, hJx3⟩⟩
    ·obtain ⟨hbx, hbox⟩ := way2 (commonS s t) hb1
     clear hcc hff hz1 hb1
     generalize (w1.setCell ⟨wr.heap.size, 0, none⟩ (.string (commonS s t).1)).setCell ⟨wr.heap.size, 1, none⟩ (.string (commonS s t).2) = X at hbx hbox ⊢
     obtain ⟨B, hB⟩ : ∃ B, wr.heap.size = B := ⟨_, rfl⟩
     rw [hB] at hbox ⊢
     clear hB
     have hx0 := hbox.c0
     have hx1 := hbox.c1
     have hBlt := hbox.lt
     have HBX := Lib.hid hbx
     have hbx2 := blAlloc hbx (.cells #[.string (commonS s t).1, .string (commonS s t).2] 57)
     have HBX2 := Lib.hid hbx2
     have hjx : J pre (X.alloc (.cells #[.string (commonS s t).1, .string (commonS s t).2] 57)) := HJG.out pre wr _ HSZ.out hj hbx2
     clear hbx hbx2 hbox hj hba hbb ca0 ca1 cb0 cb1
     cases hf : fullS (commonS s t)
     ·gi_wp2_with (refine ⟨trivial, (fun h => by cases h), ?_⟩; gi_at_call 99; refine (callsIn_wide.2 (isEmpty_any (commonS s t) _)).mono ?_; rintro r w2 ⟨rfl, rfl⟩)
      refine ⟨fun _ h => (by cases h), ?_⟩
      have hbelY := HBEL.out.trans (HBX2.out.mono HBEL.out.size)
      have hszY := Nat.le_trans HSZ.out HBX2.out.size
      clear hx0 hx1 hBlt HBX HBX2
      generalize X.alloc (.cells #[.string (commonS s t).1, .string (commonS s t).2] 57) = Y at *
      have hjY := hjx
      have HCY : Hid (pre ++ (if behindT s.2 t.2 = true then cutF m (la.drop p) (lb.drop (q + 1)) else cutF m (la.drop (p + 1)) (lb.drop q)) = cutL la lb) := by
       have h := HCX.out
       rw [hf] at h
       show _ = _
       simpa using h
      clear hf hjx
      have hbaY := (HBA.out.later hbelY HBA.out.lt).c
      have hbbY := (HBB.out.later hbelY HBB.out.lt).c
      have caY := cell_in hbelY hga CA1.out
      have cbY := cell_in hbelY hgb CB1.out
      have HBELY := Lib.hid hbelY
      have HSZY := Lib.hid hszY
      clear hbelY hszY
      cases hbh : behindT s.2 t.2
      ·gi_wp2
       refine wpIn_wide.2 ?_
       go_quiet ((go_at_call 100; exact Calls.quiet_of_same ((behind_any _ _ _).mono fun e w' h => ⟨h.1.trans (by rw [hbh]), h.2.symm⟩)))
       gi_wp2
       go_roundw
       case rel => exact ⟨p + 1, q, pre, by go_num, rfl, h1, hq, by omega, by
        have h := HCY.out
        rw [hbh] at h
        rw [show la.length - (p + 1) + (lb.length - q) = m by have := HM.out; omega]
        simpa using h, HBELY.out.trans ((blDrewN (Below.refl _ _) _).mono HBELY.out.size), HSZY.out, HJG.out pre _ _ HSZY.out hjY (blDrewN (Below.refl _ _) _)⟩
       case measure => simp [RowKit.intOf]; omega
      ·gi_wp2
       refine wpIn_wide.2 ?_
       go_quiet ((go_at_call 100; exact Calls.quiet_of_same ((behind_any _ _ _).mono fun e w' h => ⟨h.1.trans (by rw [hbh]), h.2.symm⟩)))
       gi_wp2
       go_roundw
       case rel => exact ⟨p, q + 1, pre, rfl, by go_num, hp, h2, by omega, by
        have h := HCY.out
        rw [hbh] at h
        rw [show la.length - p + (lb.length - (q + 1)) = m by have := HM.out; omega]
        simpa using h, HBELY.out.trans ((blDrewN (Below.refl _ _) _).mono HBELY.out.size), HSZY.out, HJG.out pre _ _ HSZY.out hjY (blDrewN (Below.refl _ _) _)⟩
       case measure => simp [RowKit.intOf]; omega
     ·obtain ⟨fn, tmps, assign, body, hy, hR⟩ := HY.out pre (commonS s t) _ hjx (by omega)
      gi_wp2_with (refine ⟨trivial, (fun h => by cases h), ?_⟩; gi_at_call 99; refine (callsIn_wide.2 (isEmpty_any (commonS s t) _)).mono ?_; rintro r w2 ⟨rfl, rfl⟩)
      refine ⟨fun h => (by cases h), ?_⟩
      refine hR.mono ?_
      have hbelX := HBEL.out.trans (HBX2.out.mono HBEL.out.size)
      have hszX := Nat.le_trans HSZ.out HBX2.out.size
      clear hR hy hx0 hx1 hBlt HBX HBX2 hjx
      have HBELX := Lib.hid hbelX
      have HSZX := Lib.hid hszX
      clear hbelX hszX
      rintro e Y (⟨rfl, hjY, hk3⟩ | ⟨rfl, hJx3⟩)
      ·have hbelY := HBELX.out.trans hk3
       have hszY := Nat.le_trans HSZX.out (show _ ≤ _ from hk3.size)
       have HCY : Hid ((pre ++ [commonS s t]) ++ (if behindT s.2 t.2 = true then cutF m (la.drop p) (lb.drop (q + 1)) else cutF m (la.drop (p + 1)) (lb.drop q)) = cutL la lb) := by
        have h := HCX.out
        rw [hf] at h
        show _ = _
        simpa using h
       clear hf hk3
       have hbaY := (HBA.out.later hbelY HBA.out.lt).c
       have hbbY := (HBB.out.later hbelY HBB.out.lt).c
       have caY := cell_in hbelY hga CA1.out
       have cbY := cell_in hbelY hgb CB1.out
       have HBELY := Lib.hid hbelY
       have HSZY := Lib.hid hszY
       clear hbelY hszY
       cases hbh : behindT s.2 t.2
       ·gi_wp2
        refine wpIn_wide.2 ?_
        go_quiet ((go_at_call 100; exact Calls.quiet_of_same ((behind_any _ _ _).mono fun e w' h => ⟨h.1.trans (by rw [hbh]), h.2.symm⟩)))
        gi_wp2
        go_roundw
        case rel => exact ⟨p + 1, q, (pre ++ [commonS s t]), by go_num, rfl, h1, hq, by simp; omega, by
         have h := HCY.out
         rw [hbh] at h
         rw [show la.length - (p + 1) + (lb.length - q) = m by have := HM.out; omega]
         simpa using h, HBELY.out.trans ((blDrewN (Below.refl _ _) _).mono HBELY.out.size), HSZY.out, HJG.out (pre ++ [commonS s t]) _ _ HSZY.out hjY (blDrewN (Below.refl _ _) _)⟩
        case measure => simp [RowKit.intOf]; omega
       ·gi_wp2
        refine wpIn_wide.2 ?_
        go_quiet ((go_at_call 100; exact Calls.quiet_of_same ((behind_any _ _ _).mono fun e w' h => ⟨h.1.trans (by rw [hbh]), h.2.symm⟩)))
        gi_wp2
        go_roundw
        case rel => exact ⟨p, q + 1, (pre ++ [commonS s t]), rfl, by go_num, hp, h2, by simp; omega, by
         have h := HCY.out
         rw [hbh] at h
         rw [show la.length - p + (lb.length - (q + 1)) = m by have := HM.out; omega]
         simpa using h, HBELY.out.trans ((blDrewN (Below.refl _ _) _).mono HBELY.out.size), HSZY.out, HJG.out (pre ++ [commonS s t]) _ _ HSZY.out hjY (blDrewN (Below.refl _ _) _)⟩
        case measure => simp [RowKit.intOf]; omega
      ·have hfin : pre ++ [commonS s t] <+: cutL la lb := by
        have h := HCX.out
        rw [hf] at h
        exact ⟨_, by simpa using h⟩
       have HFIN := Lib.hid hfin
       clear hfin
       gi_wp2
       refine bodyPost_ret (results_none rfl _ _ _) rfl ?_
       exact ⟨⟨_, rfl⟩, .inr ⟨_, HFIN.out, hJx3⟩⟩
   ·have hfin : pre = cutL la lb := by
     have h := HCUT.out
     rwa [cutF_end (.inr (by omega)), List.append_nil] at h
    have HFIN := Lib.hid hfin
    clear hfin HCUT
    gi_wp2
    go_end0
    exact ⟨⟨_, rfl⟩, .inl ⟨_, HFIN.out, hj⟩⟩
  ·have hfin : pre = cutL la lb := by
    have h := HCUT.out
    rwa [cutF_end (.inl (by omega)), List.append_nil] at h
   have HFIN := Lib.hid hfin
   clear hfin HCUT
   gi_wp2
   go_end0
   exact ⟨⟨_, rfl⟩, .inl ⟨_, HFIN.out, hj⟩⟩
end S3
end Go.Proofs.YtpdfcojcmhadnaaGreat

set_option linter.unusedVariables false
namespace Go.Proofs.YtpdfcojcmhadnaaGreat
open S3
namespace S4
open Go.RowKit
def crewA (f : Nat → Bool) : Array Value := #[.bool (f 0), .bool (f 1), .bool (f 2), .bool (f 3), .bool (f 4), .bool (f 5), .bool (f 6), .bool (f 7)]
def Crew (w : World) (b : Nat) (f : Nat → Bool) : Prop := w.heap[b]? = some (.cells (crewA f) 106 (0, 0))
theorem below8 {m : Nat} (h : m < 8) : m = 0 ∨ m = 1 ∨ m = 2 ∨ m = 3 ∨ m = 4 ∨ m = 5 ∨ m = 6 ∨ m = 7 := by omega
theorem Crew.lt {w : World} {b : Nat} {f : Nat → Bool} (h : Crew w b f) : b < w.heap.size := lt_of_block h
theorem Crew.cell {w : World} {b : Nat} {f : Nat → Bool} (h : Crew w b f) {m : Nat} (hm : m < 8) : w.cell? ⟨b, m, none⟩ = some (.bool (f m)) := by
 rw [cell_of_row w b _ _ _ _ h]
 rcases below8 hm with rfl | rfl | rfl | rfl | rfl | rfl | rfl | rfl <;> rfl
theorem Crew.frozen {w : World} {b : Nat} {f : Nat → Bool} (h : Crew w b f) (m : Nat) : w.frozen? ⟨b, m, none⟩ = false := by unfold Crew at h; simp [World.frozen?, h]
theorem Crew.congr {w : World} {b : Nat} {f g : Nat → Bool} (h : Crew w b f) (e : ∀ m, m < 8 → f m = g m) : Crew w b g := by
 unfold Crew crewA at *
 rw [← e 0 (by decide), ← e 1 (by decide), ← e 2 (by decide), ← e 3 (by decide), ← e 4 (by decide), ← e 5 (by decide), ← e 6 (by decide), ← e 7 (by decide)]
 exact h
theorem Crew.set {w : World} {b : Nat} {f : Nat → Bool} (h : Crew w b f) {m : Nat} (hm : m < 8) : Crew (w.setCell ⟨b, m, none⟩ (.bool true)) b (fun n => f n || n == m) := by
 have h2 := block_setCell (i := m) h (.bool true)
 unfold Crew
 rw [h2]
 congr 2
 rcases below8 hm with rfl | rfl | rfl | rfl | rfl | rfl | rfl | rfl <;> simp [crewA]
theorem Crew.later {w wr : World} {b B : Nat} {f : Nat → Bool} (h : Crew w b f) (hb : Below B w wr) (hB : b < B) : Crew wr b f := (hb.block b hB).trans h
theorem crew_new (w : World) (f : Nat → Bool) : Crew (w.alloc (.cells (crewA f) 106)) w.heap.size f := heap_alloc_new w _
theorem Crew.beside {w wr : World} {b k : Nat} {f : Nat → Bool} (h : Crew w b f) (hg : w.grownBy wr (some k)) (hne : b ≠ k) : Crew wr b f := (hg.block b h.lt (fun e => hne (by simpa using e))).trans h
theorem cell_grown {w wr : World} {b g o : Nat} {v : Value} (h : w.grownBy wr (some b)) (hg : g < w.heap.size) (hne : g ≠ b) (hc : w.cell? ⟨g, o, none⟩ = some v) : wr.cell? ⟨g, o, none⟩ = some v := by
 have hb := h.block g hg (fun e => hne (by simpa using e))
 simp only [World.cell?, hb] at *
 exact hc
theorem grown_refl (w : World) (r : Option Nat) : w.grownBy w r := ⟨rfl, rfl, rfl, Nat.le_refl _, fun _ _ _ => rfl⟩
theorem grown_set {x w : World} {b i : Nat} (h : x.grownBy w (some b)) (u : Value) : x.grownBy (w.setCell ⟨b, i, none⟩ u) (some b) :=
 ⟨h.os, h.tape, h.output, by simpa using h.size, fun k hk hne => by
  rw [← h.block k hk hne]
  have hkb : b ≠ k := fun e => hne (by rw [e])
  show (w.heap.modify b _)[k]? = _
  rw [Array.getElem?_modify, if_neg hkb]⟩
def inC (l : List Int) (n : Nat) : Bool := nodeB (n : Int) && hasN l (n : Int)
theorem inC_take {l : List Int} {k : Nat} {x : Int} (h : l[k]? = some x) (n : Nat) : inC (l.take (k + 1)) n = (inC (l.take k) n || (nodeB x && (n : Int) == x)) := by
 unfold inC hasN
 rw [List.take_add_one, h, List.any_append]
 simp only [Option.toList_some, List.any_cons, List.any_nil, Bool.or_false]
 cases h1 : (x == (n : Int))
 ·have h2 : ((n : Int) == x) = false := by
   have : x ≠ (n : Int) := by simpa using h1
   simpa using fun e => this e.symm
  rw [h2]; simp
 ·have e : x = (n : Int) := by simpa using h1
  subst e
  cases nodeB (n : Int) <;> simp
theorem nat_beq (a b : Nat) : ((a : Int) == (b : Int)) = (a == b) := by
 rw [Bool.eq_iff_iff, beq_iff_eq, beq_iff_eq]
 omega
theorem add_any (b : Nat) (f : Nat → Bool) (a : Option Addr) (c : Nat) (l : List Int) (w : World) (hlen : l.length ≤ 1000000) (hc : Crew w b f) (ha : Il w a c l) (hne : l ≠ [] → ∀ g o, a = some ⟨g, o, none⟩ → g ≠ b) :
  Calls Tryz.prog 93 #[.pointer (some ⟨b, 0, none⟩), .slice a l.length c] w fun e w' => e = .returned (.tuple #[]) ∧ Crew w' b (fun n => f n || inC l n) ∧ w.grownBy w' (some b) := by
 have HC := Lib.hid hc
 have HA := Lib.hid ha
 have HNE := Lib.hid hne
 clear hc ha hne
 go_enter Tryz.func93, Tryz.ntmps93
 go_wp2
 go_loopw [8] (fun i wr => ∃ k : Nat, k ≤ l.length ∧ i = .int .i64 k ∧ Crew wr b (fun n => f n || inC (l.take k) n) ∧ w.grownBy wr (some b)) (fun i _ => l.length - (RowKit.intOf i).toNat)
 case atStart => exact ⟨0, Nat.zero_le _, rfl, HC.out.congr (fun m _ => by simp [inC, hasN]), grown_refl _ _⟩
 case round =>
  obtain ⟨k, hk, rfl, hcr, hg⟩ := hrel
  by_cases hlt : k < l.length
  ·obtain ⟨x, hx⟩ := at_lt hlt
   obtain ⟨g, o, rfl, hgl, d0⟩ := HA.out.at hx
   have c0 := cell_grown hg hgl (HNE.out (ne_of_lt hlt) g o rfl) d0
   have hgw := Nat.lt_of_lt_of_le hgl hg.size
   have hk0 : (0 : Int) ≤ (k : Int) := by omega
   have hk1 : (k : Int) < (l.length : Int) := by omega
   have hdk : decide ((k : Int) < (l.length : Int)) = true := decide_eq_true hk1
   have HX := Lib.hid hx
   have HG := Lib.hid hg
   have HCR := Lib.hid hcr
   clear hx hg hcr d0
   cases hb : nodeB x
   ·have HBB := Lib.hid hb
    clear hb
    go_wp2_with (go_at_call 94; refine (isNode_any _ _).mono ?_; rintro r w' ⟨rfl, rfl⟩; rw [HBB.out])
    go_roundw
    case rel => exact ⟨k + 1, hlt, by go_num, HCR.out.congr (fun m _ => by rw [inC_take HX.out, HBB.out]; simp), HG.out⟩
    case measure => simp [RowKit.intOf]; omega
   ·have HBB := Lib.hid hb
    have h17 := nodeB_iff.1 hb
    obtain ⟨m, rfl⟩ := Int.eq_ofNat_of_zero_le (show 0 ≤ x by omega)
    have hm : m < 8 := by omega
    have hm0 : (0 : Int) ≤ (m : Int) := by omega
    have hm1 : (m : Int) < 8 := by omega
    have e0 := HCR.out.cell hm
    have f0 := HCR.out.frozen m
    have hbl := HCR.out.lt
    clear hb h17
    go_wp2_with (go_at_call 94; refine (isNode_any _ _).mono ?_; rintro r w' ⟨rfl, rfl⟩; rw [HBB.out])
    go_roundw
    case rel => exact ⟨k + 1, hlt, by go_num, (HCR.out.set hm).congr (fun n _ => by rw [inC_take HX.out, HBB.out, Bool.or_assoc, Bool.true_and]; rw [nat_beq]), grown_set HG.out _⟩
    case measure => simp [RowKit.intOf]; omega
  ·have hdk : decide ((k : Int) < (l.length : Int)) = false := decide_eq_false (by omega)
   have HCF : Hid (Crew wr b (fun n => f n || inC l n)) := by have h := hcr; rwa [List.take_of_length_le (by omega)] at h
   have HG := Lib.hid hg
   clear hcr hg
   go_wp2
   go_end0
   exact ⟨rfl, HCF.out, HG.out⟩
theorem has_c (b : Nat) (f : Nat → Bool) (n : Int) (w : World) (hc : Crew w b f) :
  Calls Tryz.prog 73 #[.pointer (some ⟨b, 0, none⟩), .int .i64 n] w fun e w' => e = .returned (.bool (nodeB n && f n.toNat)) ∧ w = w' := by
 generalize hv : (nodeB n && f n.toNat) = v
 have HV := Lib.hid hv
 clear hv
 cases hb : nodeB n
 ·have HF : Hid (v = false) := by rw [← HV.out, hb]; rfl
  have HBB := Lib.hid hb
  clear hb
  go_enter Tryz.func73, Tryz.ntmps73
  go_wp2_with (go_at_call 94; refine (isNode_any _ _).mono ?_; rintro r w' ⟨rfl, rfl⟩; rw [HBB.out])
  go_ret
  exact ⟨ret_bool HF.out.symm, rfl⟩
 ·have HBB := Lib.hid hb
  have h17 := nodeB_iff.1 hb
  obtain ⟨m, rfl⟩ := Int.eq_ofNat_of_zero_le (show 0 ≤ n by omega)
  have hm : m < 8 := by omega
  have hm0 : (0 : Int) ≤ (m : Int) := by omega
  have hm1 : (m : Int) < 8 := by omega
  have e0 := hc.cell hm
  have hbl := hc.lt
  have HF : Hid (f m = v) := by show _ = _; rw [← HV.out, hb]; simp
  clear hb h17 hc
  go_enter Tryz.func73, Tryz.ntmps73
  go_wp2_with (go_at_call 94; refine (isNode_any _ _).mono ?_; rintro r w' ⟨rfl, rfl⟩; rw [HBB.out])
  go_ret
  exact ⟨ret_bool HF.out, rfl⟩

theorem anyHas_take {l : List Sh} {P : List Int} {k : Nat} {i : Int} (h : P[k]? = some i) (n : Int) : anyHas l (P.take (k + 1)) n = (anyHas l (P.take k) n || atHas l i n) := by
 unfold anyHas
 rw [List.take_add_one, h, List.any_append]
 simp
def crewF (l : List Sh) (P : List Int) (n : Nat) : Bool := nodeB (n : Int) && anyHas l P (n : Int)
theorem below_set {w x y : World} {b : Nat} (h : Below w.heap.size w x) (hb : w.heap.size ≤ b) (hg : x.grownBy y (some b)) : Below w.heap.size w y :=
 h.grown hg h.size (fun k hk => by cases hk; exact hb)
theorem crewOf_any (a : Option Addr) (c : Nat) (l : List Sh) (ap : Option Addr) (cp : Nat) (P : List Int) (w : World) (hlen : l.length ≤ 1000000) (hlp : P.length ≤ 1000000) (hn5 : ∀ s ∈ l, s.nodes.length ≤ 1000000) (ha : Hl w a l) (hp : Il w ap cp P) :
  Calls Tryz.prog 72 #[.slice a l.length c, .slice ap P.length cp] w fun e w' => e = .returned (.agg (crewA (crewF l P))) ∧ Below w.heap.size w w' := by
 have HA := Lib.hid ha
 have HP := Lib.hid hp
 have HN5 := Lib.hid hn5
 clear ha hp hn5
 have hb0 := blAlloc (blAlloc (Below.refl w.heap.size w) (.cells (crewA (fun _ => false)) 106)) (.cells (crewA (fun _ => false)) 106)
 have hc0 : Crew ((w.alloc (.cells (crewA (fun _ => false)) 106)).alloc (.cells (crewA (fun _ => false)) 106)) w.heap.size (fun _ => false) := (crew_new w _).later ((Below.refl _ _).alloc (Nat.le_refl _) _) (by simp)
 have hc1 : Crew ((w.alloc (.cells (crewA (fun _ => false)) 106)).alloc (.cells (crewA (fun _ => false)) 106)) (w.heap.size + 1) (fun _ => false) := by have h := crew_new (w.alloc (.cells (crewA (fun _ => false)) 106)) (fun _ => false); rwa [World.size_alloc] at h
 have HB0 := Lib.hid hb0
 have HC0 := Lib.hid hc0
 have HC1 := Lib.hid hc1
 clear hb0 hc0 hc1
 unfold crewA at HB0 HC0 HC1
 go_enter Tryz.func72, Tryz.ntmps72
 go_wp2
 go_loopw [10] (fun i wr => ∃ k : Nat, k ≤ P.length ∧ i = .int .i64 k ∧ Crew wr w.heap.size (fun _ => false) ∧ Crew wr (w.heap.size + 1) (crewF l (P.take k)) ∧ Below w.heap.size w wr) (fun i _ => P.length - (RowKit.intOf i).toNat)
 case atStart => exact ⟨0, Nat.zero_le _, rfl, HC0.out, HC1.out.congr (fun m _ => by simp [crewF, anyHas]), HB0.out⟩
 case round =>
  obtain ⟨k, hk, rfl, hr, hcr, hb⟩ := hrel
  by_cases hlt : k < P.length
  ·obtain ⟨i, hi⟩ := at_lt hlt
   obtain ⟨gp, op, rfl, hgp, d0⟩ := HP.out.at hi
   have c0 := cell_in hb hgp d0
   have hgw := Nat.lt_of_lt_of_le hgp hb.size
   have hk0 : (0 : Int) ≤ (k : Int) := by omega
   have hk1 : (k : Int) < (P.length : Int) := by omega
   have hdk : decide ((k : Int) < (P.length : Int)) = true := decide_eq_true hk1
   have HI := Lib.hid hi
   have HB := Lib.hid hb
   have HR := Lib.hid hr
   have HCR := Lib.hid hcr
   clear hi hb hr hcr d0
   by_cases hi0 : 0 ≤ i
   ·obtain ⟨q, rfl⟩ := Int.eq_ofNat_of_zero_le hi0
    have hd0 : decide ((0 : Int) ≤ (q : Int)) = true := decide_eq_true hi0
    by_cases hil : q < l.length
    ·obtain ⟨s, hs⟩ := at_lt hil
     obtain ⟨g, o, rfl, hg, e0, e1, e2⟩ := HA.out.at hs
     have f2 := cell_in HB.out hg e2
     have hgw2 := Nat.lt_of_lt_of_le hg HB.out.size
     have hq0 : (0 : Int) ≤ (q : Int) := by omega
     have hq1 : (q : Int) < (l.length : Int) := by omega
     have hdq : decide ((q : Int) < (l.length : Int)) = true := decide_eq_true hq1
     have HL5 := Lib.hid (HN5.out s (List.mem_of_getElem? hs))
     have HIL := Lib.hid (HA.out.1 s (List.mem_of_getElem? hs))
     have HS := Lib.hid hs
     have HNX : Hid (s.nodes ≠ [] → ∀ g o, s.na = some ⟨g, o, none⟩ → g ≠ w.heap.size + 1) := by
      intro hne g' o' e'
      obtain ⟨g2, o2, e3, hg2, _⟩ := HIL.out.2 hne
      rw [e3] at e'
      simp only [Option.some.injEq, Addr.mk.injEq, and_true] at e'
      omega
     clear hs e0 e1 e2
     go_wp2_with (go_at_call 93; refine (add_any _ _ _ _ s.nodes _ HL5.out HCR.out (HIL.out.later HB.out) HNX.out).mono ?_; rintro e w2 ⟨rfl, h1, h2⟩; have H1 := Lib.hid h1; have H2 := Lib.hid h2; clear h1 h2)
     go_roundw
     case rel => exact ⟨k + 1, hlt, by go_num, HR.out.beside H2.out (by omega), H1.out.congr (fun m _ => by unfold crewF inC; rw [anyHas_take HI.out, atHas_at HS.out, ← Bool.and_or_distrib_left]), below_set HB.out (by omega) H2.out⟩
     case measure => simp [RowKit.intOf]; omega
    ·have hdq : decide ((q : Int) < (l.length : Int)) = false := decide_eq_false (by omega)
     have HO := Lib.hid (atHas_out (l := l) (i := (q : Int)) (by omega))
     go_wp2
     go_roundw
     case rel => exact ⟨k + 1, hlt, by go_num, HR.out, HCR.out.congr (fun m _ => by unfold crewF; rw [anyHas_take HI.out, HO.out, Bool.or_false]), HB.out⟩
     case measure => simp [RowKit.intOf]; omega
   ·have hd0 : decide ((0 : Int) ≤ i) = false := decide_eq_false hi0
    have HO := Lib.hid (atHas_neg (l := l) (i := i) (by omega))
    go_wp2
    go_roundw
    case rel => exact ⟨k + 1, hlt, by go_num, HR.out, HCR.out.congr (fun m _ => by unfold crewF; rw [anyHas_take HI.out, HO.out, Bool.or_false]), HB.out⟩
    case measure => simp [RowKit.intOf]; omega
  ·have hdk : decide ((k : Int) < (P.length : Int)) = false := decide_eq_false (by omega)
   have HCF : Hid (Crew wr (w.heap.size + 1) (crewF l P)) := by have h := hcr; rwa [List.take_of_length_le (by omega)] at h
   have HB := Lib.hid hb
   have HR := Lib.hid hr
   clear hcr hb hr
   have e0 := HCF.out.cell (m := 0) (by decide)
   have e1 := HCF.out.cell (m := 1) (by decide)
   have e2 := HCF.out.cell (m := 2) (by decide)
   have e3 := HCF.out.cell (m := 3) (by decide)
   have e4 := HCF.out.cell (m := 4) (by decide)
   have e5 := HCF.out.cell (m := 5) (by decide)
   have e6 := HCF.out.cell (m := 6) (by decide)
   have e7 := HCF.out.cell (m := 7) (by decide)
   have r0 := HR.out.cell (m := 0) (by decide)
   have r1 := HR.out.cell (m := 1) (by decide)
   have r2 := HR.out.cell (m := 2) (by decide)
   have r3 := HR.out.cell (m := 3) (by decide)
   have r4 := HR.out.cell (m := 4) (by decide)
   have r5 := HR.out.cell (m := 5) (by decide)
   have r6 := HR.out.cell (m := 6) (by decide)
   have r7 := HR.out.cell (m := 7) (by decide)
   have z0 := HR.out.frozen 0
   have z1 := HR.out.frozen 1
   have z2 := HR.out.frozen 2
   have z3 := HR.out.frozen 3
   have z4 := HR.out.frozen 4
   have z5 := HR.out.frozen 5
   have z6 := HR.out.frozen 6
   have z7 := HR.out.frozen 7
   have hl0 := HR.out.lt
   have hl1 := HCF.out.lt
   go_wp2
   refine bodyPost_ret (v := .agg (crewA (crewF l P))) ?_ rfl ⟨rfl, ?_⟩
   ·simp [results, Tryz.results72, go_sem, crewA, r0, r1, r2, r3, r4, r5, r6, r7]
   ·exact blSet (blSet (blSet (blSet (blSet (blSet (blSet (blSet (HB.out) (p := ⟨w.heap.size, 0, none⟩) (Nat.le_refl _) _) (p := ⟨w.heap.size, 1, none⟩) (Nat.le_refl _) _) (p := ⟨w.heap.size, 2, none⟩) (Nat.le_refl _) _) (p := ⟨w.heap.size, 3, none⟩) (Nat.le_refl _) _) (p := ⟨w.heap.size, 4, none⟩) (Nat.le_refl _) _) (p := ⟨w.heap.size, 5, none⟩) (Nat.le_refl _) _) (p := ⟨w.heap.size, 6, none⟩) (Nat.le_refl _) _) (p := ⟨w.heap.size, 7, none⟩) (Nat.le_refl _) _
theorem keeps_any (a : Option Addr) (c : Nat) (l : List Sh) (n : Int) (ap : Option Addr) (cp : Nat) (P : List Int) (w : World) (hlen : l.length ≤ 1000000) (hlp : P.length ≤ 1000000) (hn5 : ∀ s ∈ l, s.nodes.length ≤ 1000000) (ha : Hl w a l) (hp : Il w ap cp P) :
  Calls Tryz.prog 51 #[.slice a l.length c, .int .i64 n, .slice ap P.length cp] w fun e w' => e = .returned (.bool (nodeB n && anyHas l P n)) ∧ Below w.heap.size w w' := by
 have HA := Lib.hid ha
 have HP := Lib.hid hp
 have HV : Hid ((nodeB n && crewF l P n.toNat) = (nodeB n && anyHas l P n)) := by
  show _ = _
  unfold crewF
  cases hb : nodeB n
  ·rfl
  ·have := nodeB_iff.1 hb
   rw [Int.toNat_of_nonneg (by omega), hb]
   simp
 clear ha hp
 go_enter Tryz.func51, Tryz.ntmps51
 go_wp2_with fail
 refine (crewOf_any _ _ l _ _ P _ hlen hlp hn5 HA.out HP.out).mono ?_
 rintro e w1 ⟨rfl, hb⟩
 have HB := Lib.hid hb
 have hcr := crew_new w1 (crewF l P)
 clear hb
 generalize crewF l P = f at *
 have HCR := Lib.hid hcr
 clear hcr
 unfold crewA at *
 go_wp2_with fail
 refine (has_c _ f n _ HCR.out).mono ?_
 rintro e w' ⟨rfl, rfl⟩
 go_wp2
 go_ret
 exact ⟨ret_bool HV.out, blAlloc HB.out _⟩
def RetI (w : World) (r : List Int) (e : Ending) (w' : World) : Prop := ∃ v, e = .returned v ∧ OwnI w' w.heap.size v r ∧ Below w.heap.size w w'

theorem nodesTo_one (f : Int → Bool) : nodesTo f 1 = [] := by
 unfold nodesTo
 rw [ofTo_succ, ofTo_zero]
 rfl
theorem nodesTo_succ (f : Int → Bool) {k : Nat} (h1 : 1 ≤ k) (h2 : k ≤ 7) : nodesTo f (k + 1) = nodesTo f k ++ if f k = true then [(k : Int)] else [] := by
 unfold nodesTo
 rw [ofTo_succ]
 have : nodeB (k : Int) = true := nodeB_iff.2 ⟨by omega, by omega⟩
 rw [this, Bool.true_and]
theorem nodesTo_len (f : Int → Bool) (k : Nat) : (nodesTo f k).length ≤ k := ofTo_len _ _
theorem any_all {l : List Sh} {P : List Int} {q : Nat} {n : Int} (h : P.length ≤ q) : anyHas l (P.take q) n = anyHas l P n := by rw [List.take_of_length_le h]
theorem refnodes_any (a : Option Addr) (c : Nat) (l : List Sh) (ap : Option Addr) (cp : Nat) (P : List Int) (w : World) (hlen : l.length ≤ 1000000) (hlp : P.length ≤ 1000000) (hn5 : ∀ s ∈ l, s.nodes.length ≤ 1000000) (ha : Hl w a l) (hp : Il w ap cp P) :
  Calls Tryz.prog 10 #[.slice a l.length c, .slice ap P.length cp] w (RetI w (nodesL l P)) := by
 have HA := Lib.hid ha
 have HP := Lib.hid hp
 have HN5 := Lib.hid hn5
 clear ha hp hn5
 go_enter Tryz.func10, Tryz.ntmps10
 go_wp2
 go_loopw [5, 6] (fun v i wr => ∃ k : Nat, 1 ≤ k ∧ k ≤ 8 ∧ i = .int .i64 k ∧ OwnI wr w.heap.size v (nodesTo (anyHas l P) k) ∧ Below w.heap.size w wr) (fun _ i _ => 8 - (RowKit.intOf i).toNat)
 case atStart => exact ⟨1, Nat.le_refl _, by decide, rfl, by rw [nodesTo_one]; exact OwnI.nil _ _, Below.refl _ _⟩
 case round =>
  obtain ⟨k, hk1, hk8, rfl, ho, hb⟩ := hrel
  obtain ⟨av, cv, rfl⟩ := ho.form
  have HO := Lib.hid ho
  have HB := Lib.hid hb
  clear ho hb
  by_cases hlt : k ≤ 7
  ·have hdk : decide ((k : Int) ≤ 7) = true := decide_eq_true (by omega)
   have HLK := Lib.hid (nodesTo_len (anyHas l P) k)
   go_wp2
   go_loopw [7, 8] (fun b j wr2 => ∃ q : Nat, q ≤ P.length ∧ j = .int .i64 q ∧ b = .bool (anyHas l (P.take q) k) ∧ wr = wr2) (fun _ j _ => P.length - (RowKit.intOf j).toNat)
   case atStart => exact ⟨0, Nat.zero_le _, rfl, rfl, rfl⟩
   case round =>
    obtain ⟨q, hq, rfl, rfl, rfl⟩ := hrel
    by_cases hlt2 : q < P.length
    ·obtain ⟨i, hi⟩ := at_lt hlt2
     have HT := Lib.hid (anyHas_take (l := l) hi (k : Int))
     have hdq : decide ((q : Int) < (P.length : Int)) = true := decide_eq_true (by omega)
     cases hany : anyHas l (P.take q) (k : Int)
     ·have HANY := Lib.hid hany
      obtain ⟨gp, op, rfl, hgp, d0⟩ := HP.out.at hi
      have c0 := cell_in HB.out hgp d0
      have hgw := Nat.lt_of_lt_of_le hgp HB.out.size
      have hq0 : (0 : Int) ≤ (q : Int) := by omega
      have hq1 : (q : Int) < (P.length : Int) := by omega
      clear hi hany d0
      by_cases hi0 : 0 ≤ i
      ·obtain ⟨p, rfl⟩ := Int.eq_ofNat_of_zero_le hi0
       have hd0 : decide ((0 : Int) ≤ (p : Int)) = true := decide_eq_true hi0
       by_cases hil : p < l.length
       ·obtain ⟨s, hs⟩ := at_lt hil
        obtain ⟨g, o, rfl, hg, e0, e1, e2⟩ := HA.out.at hs
        have f2 := cell_in HB.out hg e2
        have hgw2 := Nat.lt_of_lt_of_le hg HB.out.size
        have hp0 : (0 : Int) ≤ (p : Int) := by omega
        have hp1 : (p : Int) < (l.length : Int) := by omega
        have hdp : decide ((p : Int) < (l.length : Int)) = true := decide_eq_true hp1
        have HL5 := Lib.hid (HN5.out s (List.mem_of_getElem? hs))
        have HIL := Lib.hid ((HA.out.1 s (List.mem_of_getElem? hs)).later HB.out)
        have HX : Hid (anyHas l (P.take (q + 1)) (k : Int) = hasN s.nodes (k : Int)) := by show _ = _; rw [HT.out, HANY.out, atHas_at hs, Bool.false_or]
        clear hs e0 e1 e2
        generalize hh : hasN s.nodes (k : Int) = b at *
        have HH := Lib.hid hh
        clear hh
        cases b
        all_goals
         go_wp2_with (go_at_call 25; refine (refin_i _ _ s.nodes (k : Int) _ HL5.out HIL.out).mono ?_; rintro r w2 ⟨rfl, rfl⟩; rw [HH.out])
         go_roundw
         case rel => exact ⟨q + 1, hlt2, by go_num, by rw [HX.out], by trivial⟩
         case measure => simp [RowKit.intOf]; omega
       ·have hdp : decide ((p : Int) < (l.length : Int)) = false := decide_eq_false (by omega)
        have HX : Hid (anyHas l (P.take (q + 1)) (k : Int) = false) := by show _ = _; rw [HT.out, HANY.out, atHas_out (by omega)]; rfl
        go_wp2
        go_roundw
        case rel => exact ⟨q + 1, hlt2, by go_num, by rw [HX.out], by trivial⟩
        case measure => simp [RowKit.intOf]; omega
      ·have hd0 : decide ((0 : Int) ≤ i) = false := decide_eq_false hi0
       have HX : Hid (anyHas l (P.take (q + 1)) (k : Int) = false) := by show _ = _; rw [HT.out, HANY.out, atHas_neg (by omega)]; rfl
       go_wp2
       go_roundw
       case rel => exact ⟨q + 1, hlt2, by go_num, by rw [HX.out], by trivial⟩
       case measure => simp [RowKit.intOf]; omega
     ·have HX : Hid (anyHas l (P.take (q + 1)) (k : Int) = true) := by show _ = _; rw [HT.out, hany]; rfl
      clear hi hany
      go_wp2
      go_roundw
      case rel => exact ⟨q + 1, hlt2, by go_num, by rw [HX.out], by trivial⟩
      case measure => simp [RowKit.intOf]; omega
    ·have hdq : decide ((q : Int) < (P.length : Int)) = false := decide_eq_false (by omega)
     have HAL := Lib.hid (any_all (l := l) (P := P) (q := q) (n := (k : Int)) (by omega))
     have HSU := Lib.hid (nodesTo_succ (anyHas l P) hk1 hlt)
     rw [HAL.out]
     generalize hh : anyHas l P (k : Int) = b at *
     have HH := Lib.hid hh
     clear hh
     cases b
     ·go_wp2
      go_roundw
      case rel => exact ⟨k + 1, by omega, by omega, by go_num, by rw [HSU.out]; simp only [Bool.false_eq_true, if_false, List.append_nil]; exact HO.out, HB.out⟩
      case measure => simp [RowKit.intOf]; omega
     ·go_wp2_with (at_builtin; refine append_i rfl _ _ rfl w.heap.size _ (nodesTo (anyHas l P) k) rfl (HO.out.later (blAlloc (Below.refl _ _) _)) _ _ _ [(k : Int)] rfl rfl (one_newI _ _ _ rfl) (by have := HLK.out; simp; omega) (by have := HB.out.size; simp; omega) ?_; intro v1 w3 h1 h2; have H1 := Lib.hid h1; have H2 := Lib.hid (grown_belowI (blAlloc HB.out _) (HO.out.later (blAlloc (Below.refl _ _) _)) (Nat.le_refl _) (by have := HB.out.size; simp; omega) h2); clear h1 h2)
      go_roundw
      case rel => exact ⟨k + 1, by omega, by omega, by go_num, by rw [HSU.out]; exact H1.out, H2.out⟩
      case measure => simp [RowKit.intOf]; omega
  ·obtain rfl : k = 8 := by omega
   go_wp2
   go_ret
   exact ⟨_, rfl, HO.out, HB.out⟩
end S4
end Go.Proofs.YtpdfcojcmhadnaaGreat
