/- The iterator over what two sets have in common: whatever the loop's body does, so it keeps what lay before, the common spans come, in their order. Conditions: lists of at most a million spans. -/
import Derived.RangeFuncNested
import Derived.RangeFuncBound
import Derived.RangeFuncCalls
import Derived.RangeFuncLeaves
import Derived.Shelf.Abstract
import Derived.Shelf.RegionOpen
import Derived.OwnWalkIn
import Derived.TacticsInMore
import Derived.LoopNIn
import Derived.LoopIn
import Derived.Test.YtfdkkgjkhamoeaaGreatMg02
/- The iterator over what two sets have in common: whatever the loop's body does, so it keeps what lay before, the common spans come, in their order. Conditions: lists of at most a million spans. -/
namespace Go.Proofs.YtfdkkgjkhamoeaaGreat
namespace S3
open Go.RowKit Go.Sort Go.Shelf
attribute [local go_sem] Oper.semAt_some

theorem cutF_more {n p q : Nat} {a b : List Sp} {s t : Sp} (hs : a[p]? = some s) (ht : b[q]? = some t) :
    cutF (n + 1) (a.drop p) (b.drop q) = (if fullS (commonS s t) = true then [commonS s t] else []) ++ (if behindT s.2 t.2 = true then cutF n (a.drop p) (b.drop (q + 1)) else cutF n (a.drop (p + 1)) (b.drop q)) := by
  obtain ⟨h1, rfl⟩ := List.getElem?_eq_some_iff.1 hs
  obtain ⟨h2, rfl⟩ := List.getElem?_eq_some_iff.1 ht
  rw [List.drop_eq_getElem_cons h1, List.drop_eq_getElem_cons h2]
  rfl
theorem cutF_end {n p q : Nat} {a b : List Sp} (h : a.length ≤ p ∨ b.length ≤ q) : cutF n (a.drop p) (b.drop q) = [] := by
  rcases h with h | h
  · rw [List.drop_eq_nil_of_le h, cutF_nil1]
  · rw [List.drop_eq_nil_of_le h, cutF_nil2]
theorem bcell {W w1 : World} (hb : Below W.heap.size W w1) : (∀ b o, b < W.heap.size → w1.cell? ⟨b, o, none⟩ = W.cell? ⟨b, o, none⟩) ∧ (∀ b o, b < W.heap.size → w1.frozen? ⟨b, o, none⟩ = W.frozen? ⟨b, o, none⟩) :=
  ⟨fun b o h => hb.cell (p := ⟨b, o, none⟩) h, fun b o h => hb.frozen (p := ⟨b, o, none⟩) h⟩
theorem keep7 {w w' : World} {Ba Bb ga gb oa ob pa pb : Nat} {va vb s1 s2 t1 t2 : Value} (h : Below w.heap.size w w') (ha : Ba < w.heap.size) (hb : Bb < w.heap.size) (hga : ga < w.heap.size) (hgb : gb < w.heap.size)
    (c1 : w.cell? ⟨Ba, 0, none⟩ = some va) (c2 : w.cell? ⟨Bb, 0, none⟩ = some vb) (c3 : w.cell? ⟨ga, oa + pa * 2, none⟩ = some s1) (c4 : w.cell? ⟨ga, oa + pa * 2 + 1, none⟩ = some s2) (c5 : w.cell? ⟨gb, ob + pb * 2, none⟩ = some t1) (c6 : w.cell? ⟨gb, ob + pb * 2 + 1, none⟩ = some t2) :
    Below w.heap.size w w' ∧ w'.cell? ⟨Ba, 0, none⟩ = some va ∧ w'.cell? ⟨Bb, 0, none⟩ = some vb ∧ w'.cell? ⟨ga, oa + pa * 2, none⟩ = some s1 ∧ w'.cell? ⟨ga, oa + pa * 2 + 1, none⟩ = some s2 ∧ w'.cell? ⟨gb, ob + pb * 2, none⟩ = some t1 ∧ w'.cell? ⟨gb, ob + pb * 2 + 1, none⟩ = some t2 :=
  ⟨h, cell_in h ha c1, cell_in h hb c2, cell_in h hga c3, cell_in h hga c4, cell_in h hgb c5, cell_in h hgb c6⟩
theorem block_setCell {w : World} {b i : Nat} {c : Array Value} {t : TypeId} (h : w.heap[b]? = some (.cells c t (0, 0))) (u : Value) : (w.setCell ⟨b, i, none⟩ u).heap[b]? = some (.cells (c.setIfInBounds i u) t (0, 0)) := by
  have hlt := lt_of_block h
  have h' : w.heap[b] = .cells c t (0, 0) := by simpa [Array.getElem?_eq_getElem hlt] using h
  show (w.heap.modify b _)[b]? = _
  rw [Array.getElem?_eq_getElem (by simpa using hlt), Array.getElem_modify_self, h']
  rfl
theorem Box2.set {w : World} {b : Nat} {s : Sp} (h : Box2 w b s) (t : Sp) : Box2 ((w.setCell ⟨b, 0, none⟩ (.string t.1)).setCell ⟨b, 1, none⟩ (.string t.2)) b t :=
  block_setCell (block_setCell h (.string t.1)) (.string t.2)
theorem way2 {wr w1 : World} (s : Sp) (hb : Below (wr.alloc (.cells #[.string ⟨#[]⟩, .string ⟨#[]⟩] 75)).drew.heap.size (wr.alloc (.cells #[.string ⟨#[]⟩, .string ⟨#[]⟩] 75)).drew w1) :
    Below wr.heap.size wr ((w1.setCell ⟨wr.heap.size, 0, none⟩ (.string s.1)).setCell ⟨wr.heap.size, 1, none⟩ (.string s.2)) ∧ Box2 ((w1.setCell ⟨wr.heap.size, 0, none⟩ (.string s.1)).setCell ⟨wr.heap.size, 1, none⟩ (.string s.2)) wr.heap.size s := by
  have h1 : Below wr.heap.size wr w1 := blThen (blAlloc (Below.refl wr.heap.size wr) (.cells #[.string ⟨#[]⟩, .string ⟨#[]⟩] 75)).drew hb
  have h0 : Box2 (wr.alloc (.cells #[.string ⟨#[]⟩, .string ⟨#[]⟩] 75)).drew wr.heap.size (⟨#[]⟩, ⟨#[]⟩) := box2_new wr (⟨#[]⟩, ⟨#[]⟩)
  exact ⟨blSet (blSet h1 (p := ⟨wr.heap.size, 0, none⟩) (Nat.le_refl _) _) (p := ⟨wr.heap.size, 1, none⟩) (Nat.le_refl _) _, (h0.later hb h0.lt).set s⟩
theorem blDrewN {w x : World} (h : Below w.heap.size w x) (n : Nat) : Below w.heap.size w (x.drewN n) := ⟨h.os, h.tape, h.output, h.size, h.block⟩

set_option maxRecDepth 100000 in
set_option maxHeartbeats 4000000 in
theorem meetings_stops (n : Nat) (w0 w : World) (Ba Bb : Nat) (va vb : Value) (la lb : List Sp) (hla : la.length ≤ 1000000) (hlb : lb.length ≤ 1000000) (ha : Sl w0 va la) (hb : Sl w0 vb lb) (hBa : Box1 w0 Ba 40 va) (hBb : Box1 w0 Bb 40 vb) (hbel : Below w0.heap.size w0 w) :
    SeqStopsK Fence.wide n Tryz.prog 137 #[.pointer (some ⟨Ba, 0, none⟩), .pointer (some ⟨Bb, 0, none⟩)] (fun s => #[.agg #[.string s.1, .string s.2]]) (Below w0.heap.size) (fun xs => xs = cutL la lb) (fun pre => pre <+: cutL la lb) (la.length + lb.length) w := by
  intro l J Jx W hW hJ hJx hY h0
  obtain ⟨aa, ca, rfl⟩ := ha.form
  obtain ⟨ab, cb, rfl⟩ := hb.form
  have HA := Lib.hid ha
  have HB := Lib.hid hb
  have HBA := Lib.hid hBa
  have HBB := Lib.hid hBb
  have HY := Lib.hid hY
  have hJg : ∀ pre A B, W.heap.size ≤ A.heap.size → J pre A → Below A.heap.size A B → J pre B := fun pre A B _ hj hab => hJ pre A B none hj (grown_of_below hab none) (fun r e => by cases e)
  have HJG := Lib.hid hJg
  have HW := Lib.hid (hbel.trans (hW.mono hbel.size))
  clear ha hb hBa hBb hY hJ hJx hW hbel hJg
  refine callsIn_of_wp Tryz.func137 rfl trivial ?_ rfl
  simp only [Tryz.ntmps137, List.size_toArray, List.length_cons, List.length_nil, Nat.reduceAdd, Nat.reduceSub, Array.replicate_succ, Array.replicate_zero, List.push_toArray, List.append_toArray, List.nil_append, List.cons_append]
  gi_wp2
  gi_loopw [4, 5] (fun i j wr => ∃ (p q : Nat) (pre : List Sp), i = .int .i64 p ∧ j = .int .i64 q ∧ p ≤ la.length ∧ q ≤ lb.length ∧ pre.length ≤ p + q ∧ pre ++ cutF (la.length - p + (lb.length - q)) (la.drop p) (lb.drop q) = cutL la lb ∧ Below w0.heap.size w0 wr ∧ W.heap.size ≤ wr.heap.size ∧ J pre wr) (fun i j _ => la.length - (intOf i).toNat + (lb.length - (intOf j).toNat))
  case atStart => exact ⟨0, 0, [], rfl, rfl, Nat.zero_le _, Nat.zero_le _, Nat.le_refl _, by simp [cutL], HW.out, Nat.le_refl _, h0⟩
  case round =>
    obtain ⟨p, q, pre, rfl, rfl, hp, hq, hpl, hcut, hbel, hsz, hj⟩ := hrel
    have HCUT := Lib.hid hcut
    have HBEL := Lib.hid hbel
    have HSZ := Lib.hid hsz
    have hba := (HBA.out.later hbel HBA.out.lt).c
    have hbb := (HBB.out.later hbel HBB.out.lt).c
    clear hcut hbel hsz h0
    by_cases h1 : p < la.length
    · by_cases h2 : q < lb.length
      · obtain ⟨s, hs⟩ := at_lt h1
        obtain ⟨t, ht⟩ := at_lt h2
        obtain ⟨ga, oa, rfl, hga, ca0, ca1⟩ := HA.out.at hs
        obtain ⟨gb, ob, rfl, hgb, cb0, cb1⟩ := HB.out.at ht
        have CA1 := Lib.hid ca1
        have CB1 := Lib.hid cb1
        replace ca0 := cell_in HBEL.out hga ca0
        replace ca1 := cell_in HBEL.out hga ca1
        replace cb0 := cell_in HBEL.out hgb cb0
        replace cb1 := cell_in HBEL.out hgb cb1
        obtain ⟨m, hm⟩ : ∃ m, la.length - p + (lb.length - q) = m + 1 := ⟨la.length - p + (lb.length - q) - 1, by omega⟩
        have HC := HCUT.out
        rw [hm, cutF_more hs ht] at HC
        have HM := Lib.hid hm
        have HCX := Lib.hid HC
        have hBaL := (HBA.out.later HBEL.out HBA.out.lt).lt
        have hBbL := (HBB.out.later HBEL.out HBB.out.lt).lt
        have hgaL := Nat.lt_of_lt_of_le hga HBEL.out.size
        have hgbL := Nat.lt_of_lt_of_le hgb HBEL.out.size
        clear hs ht hm HC HCUT
        gi_wp2
        refine wpIn_wide.2 ?_
        go_region_held3 (fun w' => Below wr.heap.size wr w' ∧ w'.cell? ⟨Ba, 0, none⟩ = some (.slice (some ⟨ga, oa, none⟩) la.length ca) ∧ w'.cell? ⟨Bb, 0, none⟩ = some (.slice (some ⟨gb, ob, none⟩) lb.length cb) ∧ w'.cell? ⟨ga, oa + p * 2, none⟩ = some (.string s.1) ∧ w'.cell? ⟨ga, oa + p * 2 + 1, none⟩ = some (.string s.2) ∧ w'.cell? ⟨gb, ob + q * 2, none⟩ = some (.string t.1) ∧ w'.cell? ⟨gb, ob + q * 2 + 1, none⟩ = some (.string t.2))
          ((refine keep7 ?_ hBaL hBbL hgaL hgbL hba hbb ca0 ca1 cb0 cb1; (repeat (first | exact Below.refl _ _ | refine Below.drew ?_ | refine blAlloc ?_ _ | refine blThen ?_ hb1 | refine Below.setCell ?_ (by simp) _))))
          (first | (go_at_call 138; refine (common_any s t _).mono ?_; rintro r w1 ⟨rfl, hb1⟩; obtain ⟨hcc, hff⟩ := bcell hb1; have hz1 := hb1.size; simp at hz1))
        · have hbx := blAlloc (blThen (Below.refl _ _).drew hb1) (.cells #[.string (commonS s t).1, .string (commonS s t).2] 75)
          have hbox := box2_new w1 (commonS s t)
          clear hcc hff hz1 hb1
          generalize w1.alloc (.cells #[.string (commonS s t).1, .string (commonS s t).2] 75) = X at hbx hbox ⊢
          generalize w1.heap.size = B at hbox ⊢
          have hx0 := hbox.c0
          have hx1 := hbox.c1
          have hBlt := hbox.lt
          have HBX := Lib.hid hbx
          have hbx2 := blAlloc hbx (.cells #[.string (commonS s t).1, .string (commonS s t).2] 75)
          have HBX2 := Lib.hid hbx2
          have hjx : J pre (X.alloc (.cells #[.string (commonS s t).1, .string (commonS s t).2] 75)) := HJG.out pre wr _ HSZ.out hj hbx2
          clear hbx hbx2 hbox hj hba hbb ca0 ca1 cb0 cb1
          cases hf : fullS (commonS s t)
          · gi_wp2_with (refine ⟨trivial, (fun h => by cases h), ?_⟩; gi_at_call 133; refine (callsIn_wide.2 (isEmpty_any (commonS s t) _)).mono ?_; rintro r w2 ⟨rfl, rfl⟩)
            refine ⟨fun _ h => (by cases h), ?_⟩
            have hbelY := HBEL.out.trans (HBX2.out.mono HBEL.out.size)
            have hszY := Nat.le_trans HSZ.out HBX2.out.size
            clear hx0 hx1 hBlt HBX HBX2
            generalize X.alloc (.cells #[.string (commonS s t).1, .string (commonS s t).2] 75) = Y at *
            have hjY := hjx
            have HCY : Hid (pre ++ (if behindT s.2 t.2 = true then cutF m (la.drop p) (lb.drop (q + 1)) else cutF m (la.drop (p + 1)) (lb.drop q)) = cutL la lb) := by
              have h := HCX.out
              rw [hf] at h
              show _ = _
              simpa using h
            clear hf hjx
            have hbaY := (HBA.out.later hbelY HBA.out.lt).c
            have hbbY := (HBB.out.later hbelY HBB.out.lt).c
            have caY := cell_in hbelY hga CA1.out
            have cbY := cell_in hbelY hgb CB1.out
            have HBELY := Lib.hid hbelY
            have HSZY := Lib.hid hszY
            clear hbelY hszY
            cases hbh : behindT s.2 t.2
            · gi_wp2
              refine wpIn_wide.2 ?_
              go_quiet ((go_at_call 136; exact Calls.quiet_of_same ((behind_any _ _ _).mono fun e w' h => ⟨h.1.trans (by rw [hbh]), h.2.symm⟩)))
              gi_wp2
              go_roundw
              case rel => exact ⟨p + 1, q, pre, by go_num, rfl, h1, hq, by omega, by
                have h := HCY.out
                rw [hbh] at h
                rw [show la.length - (p + 1) + (lb.length - q) = m by have := HM.out; omega]
                simpa using h, HBELY.out.trans ((blDrewN (Below.refl _ _) _).mono HBELY.out.size), HSZY.out, HJG.out pre _ _ HSZY.out hjY (blDrewN (Below.refl _ _) _)⟩
              case measure => simp [intOf]; omega
            · gi_wp2
              refine wpIn_wide.2 ?_
              go_quiet ((go_at_call 136; exact Calls.quiet_of_same ((behind_any _ _ _).mono fun e w' h => ⟨h.1.trans (by rw [hbh]), h.2.symm⟩)))
              gi_wp2
              go_roundw
              case rel => exact ⟨p, q + 1, pre, rfl, by go_num, hp, h2, by omega, by
                have h := HCY.out
                rw [hbh] at h
                rw [show la.length - p + (lb.length - (q + 1)) = m by have := HM.out; omega]
                simpa using h, HBELY.out.trans ((blDrewN (Below.refl _ _) _).mono HBELY.out.size), HSZY.out, HJG.out pre _ _ HSZY.out hjY (blDrewN (Below.refl _ _) _)⟩
              case measure => simp [intOf]; omega
          · obtain ⟨fn, tmps, assign, body, hy, hR⟩ := HY.out pre (commonS s t) _ hjx (by omega)
            gi_wp2_with (refine ⟨trivial, (fun h => by cases h), ?_⟩; gi_at_call 133; refine (callsIn_wide.2 (isEmpty_any (commonS s t) _)).mono ?_; rintro r w2 ⟨rfl, rfl⟩)
            refine ⟨fun h => (by cases h), ?_⟩
            refine hR.mono ?_
            have hbelX := HBEL.out.trans (HBX2.out.mono HBEL.out.size)
            have hszX := Nat.le_trans HSZ.out HBX2.out.size
            clear hR hy hx0 hx1 hBlt HBX HBX2 hjx
            have HBELX := Lib.hid hbelX
            have HSZX := Lib.hid hszX
            clear hbelX hszX
            rintro e Y (⟨rfl, hjY, hk3⟩ | ⟨rfl, hJx3⟩)
            · have hbelY := HBELX.out.trans hk3
              have hszY := Nat.le_trans HSZX.out (show _ ≤ _ from hk3.size)
              have HCY : Hid ((pre ++ [commonS s t]) ++ (if behindT s.2 t.2 = true then cutF m (la.drop p) (lb.drop (q + 1)) else cutF m (la.drop (p + 1)) (lb.drop q)) = cutL la lb) := by
                have h := HCX.out
                rw [hf] at h
                show _ = _
                simpa using h
              clear hf hk3
              have hbaY := (HBA.out.later hbelY HBA.out.lt).c
              have hbbY := (HBB.out.later hbelY HBB.out.lt).c
              have caY := cell_in hbelY hga CA1.out
              have cbY := cell_in hbelY hgb CB1.out
              have HBELY := Lib.hid hbelY
              have HSZY := Lib.hid hszY
              clear hbelY hszY
              cases hbh : behindT s.2 t.2
              · gi_wp2
                refine wpIn_wide.2 ?_
                go_quiet ((go_at_call 136; exact Calls.quiet_of_same ((behind_any _ _ _).mono fun e w' h => ⟨h.1.trans (by rw [hbh]), h.2.symm⟩)))
                gi_wp2
                go_roundw
                case rel => exact ⟨p + 1, q, (pre ++ [commonS s t]), by go_num, rfl, h1, hq, by simp; omega, by
                  have h := HCY.out
                  rw [hbh] at h
                  rw [show la.length - (p + 1) + (lb.length - q) = m by have := HM.out; omega]
                  simpa using h, HBELY.out.trans ((blDrewN (Below.refl _ _) _).mono HBELY.out.size), HSZY.out, HJG.out (pre ++ [commonS s t]) _ _ HSZY.out hjY (blDrewN (Below.refl _ _) _)⟩
                case measure => simp [intOf]; omega
              · gi_wp2
                refine wpIn_wide.2 ?_
                go_quiet ((go_at_call 136; exact Calls.quiet_of_same ((behind_any _ _ _).mono fun e w' h => ⟨h.1.trans (by rw [hbh]), h.2.symm⟩)))
                gi_wp2
                go_roundw
                case rel => exact ⟨p, q + 1, (pre ++ [commonS s t]), rfl, by go_num, hp, h2, by simp; omega, by
                  have h := HCY.out
                  rw [hbh] at h
                  rw [show la.length - p + (lb.length - (q + 1)) = m by have := HM.out; omega]
                  simpa using h, HBELY.out.trans ((blDrewN (Below.refl _ _) _).mono HBELY.out.size), HSZY.out, HJG.out (pre ++ [commonS s t]) _ _ HSZY.out hjY (blDrewN (Below.refl _ _) _)⟩
                case measure => simp [intOf]; omega
            · have hfin : pre ++ [commonS s t] <+: cutL la lb := by
                have h := HCX.out
                rw [hf] at h
                exact ⟨_, by simpa using h⟩
              have HFIN := Lib.hid hfin
              clear hfin
              gi_wp2
              refine bodyPost_ret (results_none rfl _ _ _) rfl ?_
              exact ⟨⟨_, rfl⟩, .inr ⟨_, HFIN.out, hJx3⟩⟩
        · obtain ⟨hbx, hbox⟩ := way2 (commonS s t) hb1
          clear hcc hff hz1 hb1
          generalize (w1.setCell ⟨wr.heap.size, 0, none⟩ (.string (commonS s t).1)).setCell ⟨wr.heap.size, 1, none⟩ (.string (commonS s t).2) = X at hbx hbox ⊢
          obtain ⟨B, hB⟩ : ∃ B, wr.heap.size = B := ⟨_, rfl⟩
          rw [hB] at hbox ⊢
          clear hB
          have hx0 := hbox.c0
          have hx1 := hbox.c1
          have hBlt := hbox.lt
          have HBX := Lib.hid hbx
          have hbx2 := blAlloc hbx (.cells #[.string (commonS s t).1, .string (commonS s t).2] 75)
          have HBX2 := Lib.hid hbx2
          have hjx : J pre (X.alloc (.cells #[.string (commonS s t).1, .string (commonS s t).2] 75)) := HJG.out pre wr _ HSZ.out hj hbx2
          clear hbx hbx2 hbox hj hba hbb ca0 ca1 cb0 cb1
          cases hf : fullS (commonS s t)
          · gi_wp2_with (refine ⟨trivial, (fun h => by cases h), ?_⟩; gi_at_call 133; refine (callsIn_wide.2 (isEmpty_any (commonS s t) _)).mono ?_; rintro r w2 ⟨rfl, rfl⟩)
            refine ⟨fun _ h => (by cases h), ?_⟩
            have hbelY := HBEL.out.trans (HBX2.out.mono HBEL.out.size)
            have hszY := Nat.le_trans HSZ.out HBX2.out.size
            clear hx0 hx1 hBlt HBX HBX2
            generalize X.alloc (.cells #[.string (commonS s t).1, .string (commonS s t).2] 75) = Y at *
            have hjY := hjx
            have HCY : Hid (pre ++ (if behindT s.2 t.2 = true then cutF m (la.drop p) (lb.drop (q + 1)) else cutF m (la.drop (p + 1)) (lb.drop q)) = cutL la lb) := by
              have h := HCX.out
              rw [hf] at h
              show _ = _
              simpa using h
            clear hf hjx
            have hbaY := (HBA.out.later hbelY HBA.out.lt).c
            have hbbY := (HBB.out.later hbelY HBB.out.lt).c
            have caY := cell_in hbelY hga CA1.out
            have cbY := cell_in hbelY hgb CB1.out
            have HBELY := Lib.hid hbelY
            have HSZY := Lib.hid hszY
            clear hbelY hszY
            cases hbh : behindT s.2 t.2
            · gi_wp2
              refine wpIn_wide.2 ?_
              go_quiet ((go_at_call 136; exact Calls.quiet_of_same ((behind_any _ _ _).mono fun e w' h => ⟨h.1.trans (by rw [hbh]), h.2.symm⟩)))
              gi_wp2
              go_roundw
              case rel => exact ⟨p + 1, q, pre, by go_num, rfl, h1, hq, by omega, by
                have h := HCY.out
                rw [hbh] at h
                rw [show la.length - (p + 1) + (lb.length - q) = m by have := HM.out; omega]
                simpa using h, HBELY.out.trans ((blDrewN (Below.refl _ _) _).mono HBELY.out.size), HSZY.out, HJG.out pre _ _ HSZY.out hjY (blDrewN (Below.refl _ _) _)⟩
              case measure => simp [intOf]; omega
            · gi_wp2
              refine wpIn_wide.2 ?_
              go_quiet ((go_at_call 136; exact Calls.quiet_of_same ((behind_any _ _ _).mono fun e w' h => ⟨h.1.trans (by rw [hbh]), h.2.symm⟩)))
              gi_wp2
              go_roundw
              case rel => exact ⟨p, q + 1, pre, rfl, by go_num, hp, h2, by omega, by
                have h := HCY.out
                rw [hbh] at h
                rw [show la.length - p + (lb.length - (q + 1)) = m by have := HM.out; omega]
                simpa using h, HBELY.out.trans ((blDrewN (Below.refl _ _) _).mono HBELY.out.size), HSZY.out, HJG.out pre _ _ HSZY.out hjY (blDrewN (Below.refl _ _) _)⟩
              case measure => simp [intOf]; omega
          · obtain ⟨fn, tmps, assign, body, hy, hR⟩ := HY.out pre (commonS s t) _ hjx (by omega)
            gi_wp2_with (refine ⟨trivial, (fun h => by cases h), ?_⟩; gi_at_call 133; refine (callsIn_wide.2 (isEmpty_any (commonS s t) _)).mono ?_; rintro r w2 ⟨rfl, rfl⟩)
            refine ⟨fun h => (by cases h), ?_⟩
            refine hR.mono ?_
            have hbelX := HBEL.out.trans (HBX2.out.mono HBEL.out.size)
            have hszX := Nat.le_trans HSZ.out HBX2.out.size
            clear hR hy hx0 hx1 hBlt HBX HBX2 hjx
            have HBELX := Lib.hid hbelX
            have HSZX := Lib.hid hszX
            clear hbelX hszX
            rintro e Y (⟨rfl, hjY, hk3⟩ | ⟨rfl, hJx3⟩)
            · have hbelY := HBELX.out.trans hk3
              have hszY := Nat.le_trans HSZX.out (show _ ≤ _ from hk3.size)
              have HCY : Hid ((pre ++ [commonS s t]) ++ (if behindT s.2 t.2 = true then cutF m (la.drop p) (lb.drop (q + 1)) else cutF m (la.drop (p + 1)) (lb.drop q)) = cutL la lb) := by
                have h := HCX.out
                rw [hf] at h
                show _ = _
                simpa using h
              clear hf hk3
              have hbaY := (HBA.out.later hbelY HBA.out.lt).c
              have hbbY := (HBB.out.later hbelY HBB.out.lt).c
              have caY := cell_in hbelY hga CA1.out
              have cbY := cell_in hbelY hgb CB1.out
              have HBELY := Lib.hid hbelY
              have HSZY := Lib.hid hszY
              clear hbelY hszY
              cases hbh : behindT s.2 t.2
              · gi_wp2
                refine wpIn_wide.2 ?_
                go_quiet ((go_at_call 136; exact Calls.quiet_of_same ((behind_any _ _ _).mono fun e w' h => ⟨h.1.trans (by rw [hbh]), h.2.symm⟩)))
                gi_wp2
                go_roundw
                case rel => exact ⟨p + 1, q, (pre ++ [commonS s t]), by go_num, rfl, h1, hq, by simp; omega, by
                  have h := HCY.out
                  rw [hbh] at h
                  rw [show la.length - (p + 1) + (lb.length - q) = m by have := HM.out; omega]
                  simpa using h, HBELY.out.trans ((blDrewN (Below.refl _ _) _).mono HBELY.out.size), HSZY.out, HJG.out (pre ++ [commonS s t]) _ _ HSZY.out hjY (blDrewN (Below.refl _ _) _)⟩
                case measure => simp [intOf]; omega
              · gi_wp2
                refine wpIn_wide.2 ?_
                go_quiet ((go_at_call 136; exact Calls.quiet_of_same ((behind_any _ _ _).mono fun e w' h => ⟨h.1.trans (by rw [hbh]), h.2.symm⟩)))
                gi_wp2
                go_roundw
                case rel => exact ⟨p, q + 1, (pre ++ [commonS s t]), rfl, by go_num, hp, h2, by simp; omega, by
                  have h := HCY.out
                  rw [hbh] at h
                  rw [show la.length - p + (lb.length - (q + 1)) = m by have := HM.out; omega]
                  simpa using h, HBELY.out.trans ((blDrewN (Below.refl _ _) _).mono HBELY.out.size), HSZY.out, HJG.out (pre ++ [commonS s t]) _ _ HSZY.out hjY (blDrewN (Below.refl _ _) _)⟩
                case measure => simp [intOf]; omega
            · have hfin : pre ++ [commonS s t] <+: cutL la lb := by
                have h := HCX.out
                rw [hf] at h
                exact ⟨_, by simpa using h⟩
              have HFIN := Lib.hid hfin
              clear hfin
              gi_wp2
              refine bodyPost_ret (results_none rfl _ _ _) rfl ?_
              exact ⟨⟨_, rfl⟩, .inr ⟨_, HFIN.out, hJx3⟩⟩
      · have hfin : pre = cutL la lb := by
          have h := HCUT.out
          rwa [cutF_end (.inr (by omega)), List.append_nil] at h
        have HFIN := Lib.hid hfin
        clear hfin HCUT
        gi_wp2
        go_end0
        exact ⟨⟨_, rfl⟩, .inl ⟨_, HFIN.out, hj⟩⟩
    · have hfin : pre = cutL la lb := by
        have h := HCUT.out
        rwa [cutF_end (.inl (by omega)), List.append_nil] at h
      have HFIN := Lib.hid hfin
      clear hfin HCUT
      gi_wp2
      go_end0
      exact ⟨⟨_, rfl⟩, .inl ⟨_, HFIN.out, hj⟩⟩

end S3
end Go.Proofs.YtfdkkgjkhamoeaaGreat
