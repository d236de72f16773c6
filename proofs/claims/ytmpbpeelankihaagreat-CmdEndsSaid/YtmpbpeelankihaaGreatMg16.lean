/- The reference's All of Deps. Conditions: at most a million stamps. -/
import Derived.Deep.RegionHeld
import Derived.Test.YtmpbpeelankihaaGreatMg15
import Derived.Test.YtmpbpeelankihaaGreatMg00
import Derived.Test.YtmpbpeelankihaaGreatMg13
set_option maxRecDepth 100000
set_option maxHeartbeats 16000000
set_option linter.unusedSimpArgs false
namespace Go.Proofs.YtmpbpeelankihaaGreat
namespace S1
open Go.Sort (grow)
open Go.RowKit
theorem addL_at (s : Int × Int) : ∀ (l : List (Int × Int)) (k : Nat), (∀ j y, j < k → l[j]? = some y → ltS y s = true) → (∀ y, l[k]? = some y → ltS y s = false) → k ≤ l.length →
  addL l s = if l[k]? = some s then l else l.take k ++ ([s] ++ l.drop k)
 | [], k, _, _, hk => by
  obtain rfl : k = 0 := by simpa using hk
  simp [addL]
 | x :: r, 0, _, h2, _ => by
  have hx := h2 x rfl
  unfold addL
  rw [if_neg (by rw [hx]; simp)]
  by_cases hs : x = s
  ·subst hs
   simp
  ·rw [if_neg hs, if_neg (by simpa using hs)]
   rfl
 | x :: r, k + 1, h1, h2, hk => by
  have hx := h1 0 x (Nat.succ_pos _) rfl
  have ih := addL_at s r k (fun j y hj hy => h1 (j + 1) y (by omega) (by simpa using hy)) (fun y hy => h2 y (by simpa using hy)) (by simpa using hk)
  unfold addL
  rw [if_pos hx, ih]
  simp only [List.getElem?_cons_succ, List.take_succ_cons, List.drop_succ_cons, List.cons_append]
  split <;> rfl
theorem wp_append_st {w : World} {o : Oper} {a : Act} {K : Act → World → Prop} {Q : Exit → Act → World → Prop} (s x : Operand)
  (ho : o.op = .call { callee := .builtin .append, args := #[s, x], argTypes := #[61, 61] })
  (base : Nat) (v : Value) (d : List (Int × Int)) (hs : a.eval s = v) (hown : OwnL w base v d) (ad : Option Addr) (cap : Nat) (l : List (Int × Int)) (hx : a.eval x = .slice ad l.length cap) (hsl : SL w ad l) (hn : ad = none → cap = 0)
  (hlen : d.length + l.length ≤ 4000000) (hbase : base ≤ w.heap.size)
  (h : ∀ v' w', OwnL w' base v' (d ++ l) → w.grownBy w' v.ownBlock → K (a.put o.dst v') w') : o.wp Tryz.prog a w K Q := by
 obtain ⟨i0, hi, hz0, hz1, hz2⟩ := info_parts info_st
 rcases src_of hsl with rfl | ⟨ad, rfl, hc⟩
 ·obtain rfl : cap = 0 := hn rfl
  obtain rfl : l = [] := by
   apply Classical.byContradiction
   intro hne
   obtain ⟨_, _, h, _⟩ := hsl hne
   cases h
  have hx' : a.eval x = .slice none 0 0 := hx
  have hrun := run_append_owned_none (P := Tryz.prog) (w := w) base 61 o.type 23 i0 2 Tryz.underlying61 hi v d.length (cellsL d) hown
  unfold Oper.wp
  simp [execOp, ho, resolve, invoke, builtin, hs, hx', hrun, Result.andThen]
  exact (h v w (by rw [List.append_nil]; exact hown) ⟨rfl, rfl, rfl, Nat.le_refl _, fun _ _ _ => rfl⟩)
 ·refine wp_append_own w s x 61 ho base 23 i0 (.agg #[.int .i64 0, .int .i64 0]) 2 16 Tryz.underlying61 hi hz0 hz1 hz2 rfl (by decide) v d.length (cellsL d) hs hown ad l.length cap (cellsL l) hx (cellsL_length l) (hc w (Below.refl _ _)) (cellsL_one l) (by unfold maxLen; omega) (by omega) hbase ?_
  intro v' w' h2 h3 _
  refine h v' w' ?_ h3
  show w'.ownsRow base _ 2 v' _ _
  rw [List.length_append, cellsL_append]
  exact h2
def RetA (w : World) (l : List (Int × Int)) (e : Ending) (w' : World) : Prop := ∃ a cap, e = .returned (.slice a l.length cap) ∧ SL w' a l ∧ (a = none → cap = 0) ∧ l.length ≤ cap ∧ Below w.heap.size w w'
theorem reta_own {w w' : World} {base : Nat} {v : Value} {l r : List (Int × Int)} (he : l = r) (h : OwnL w' base v r) (hb : w.heap.size ≤ base) (hB : Below w.heap.size w w') : RetA w l (.returned v) w' := by
 subst he
 obtain ⟨a, c, h1, h2, h3, _, h4, _, h5⟩ := h.retc hb hB
 exact ⟨a, c, h1, h2, h3, h4, h5⟩
theorem sl_take {w : World} {a : Option Addr} {l : List (Int × Int)} (h : SL w a l) (k : Nat) : SL w a (l.take k) := by
 intro hne
 have hl : l ≠ [] := by rintro rfl; simp at hne
 obtain ⟨b, o, ha, hb, hlst⟩ := h hl
 refine ⟨b, o, ha, hb, fun i x y hi => hlst i x y ?_⟩
 have hik : i < k := by
  have := (List.getElem?_eq_some_iff.1 hi).1
  simp only [List.length_take] at this
  omega
 rwa [List.getElem?_take_of_lt hik] at hi
theorem sl_drop {w : World} {b o : Nat} {l : List (Int × Int)} (h : SL w (some ⟨b, o, none⟩) l) (k : Nat) : SL w (some ⟨b, o + k * 2, none⟩) (l.drop k) := by
 intro hne
 have hl : l ≠ [] := by rintro rfl; simp at hne
 obtain ⟨b', o', ha, hb, hlst⟩ := h hl
 simp only [Option.some.injEq, Addr.mk.injEq, and_true] at ha
 obtain ⟨rfl, rfl⟩ := ha
 refine ⟨b, o + k * 2, rfl, hb, fun i x y hi => ?_⟩
 rw [List.getElem?_drop] at hi
 have := hlst (k + i) x y hi
 rw [show o + k * 2 + i * 2 = o + (k + i) * 2 by omega]
 exact this
theorem own_emptyL (w : World) : OwnL (w.alloc (.cells #[] 23)) w.heap.size (.slice (some ⟨w.heap.size, 0, none⟩) 0 0) [] := own_empty w
theorem OwnL.monoA {w : World} {base B : Nat} {v : Value} {d : List (Int × Int)} (h : OwnL w B v d) (hb : base ≤ B) : OwnL w base v d := by
 obtain ⟨h1, h2 | ⟨g, cap, cur, hv, hg, hx⟩⟩ := h
 ·exact ⟨h1, .inl h2⟩
 ·exact ⟨h1, .inr ⟨g, cap, cur, hv, Nat.le_trans hb hg, hx⟩⟩
theorem ownlt {w : World} {base g n c : Nat} {l : List (Int × Int)} (h : OwnL w base (.slice (some ⟨g, 0, none⟩) n c) l) : g < w.heap.size := by
 obtain ⟨h1, ⟨h2, _⟩ | ⟨g', cap, cur, hv, hg, hh, _⟩⟩ := h
 ·cases h2
 ·simp only [Value.slice.injEq, Option.some.injEq, Addr.mk.injEq] at hv
  obtain ⟨⟨rfl, _⟩, _⟩ := hv
  exact lt_of_block hh
theorem sl_grownA {w w' : World} {v : Value} {l : List (Int × Int)} {a : Option Addr} (h : SL w a l) (hx : ∀ b o, a = some ⟨b, o, none⟩ → v.ownBlock ≠ some b) (hg : w.grownBy w' v.ownBlock) : SL w' a l := by
 intro hne
 obtain ⟨b, o, rfl, hb, hl⟩ := h hne
 refine ⟨b, o, rfl, Nat.lt_of_lt_of_le hb hg.size, fun i x y hi => ?_⟩
 have hbl := hg.block b hb (fun e => hx b o rfl e.symm)
 obtain ⟨c0, c1⟩ := hl i x y hi
 simp only [World.cell?, hbl] at *
 exact ⟨c0, c1⟩
theorem add_any (a : Option Addr) (cap : Nat) (l : List (Int × Int)) (t n : Int) (w : World) (hlen : l.length ≤ 1000000) (hl : SL w a l) (hn : a = none → cap = 0) (hc : l.length ≤ cap) :
  Calls Tryz.prog 102 #[.slice a l.length cap, .agg #[.int .i64 t, .int .i64 n]] w (RetA w (addL l (t, n))) := by
 have HL := Lib.hid hl
 have HLEN := Lib.hid hlen
 have HNN := Lib.hid hn
 have HCC := Lib.hid hc
 clear hl hn hc
 go_enter Tryz.func102, Tryz.ntmps102
 go_wp2
 have hB1 : Hid (Below w.heap.size w (w.alloc (Obj.cells #[Value.int IntKind.i64 t, Value.int IntKind.i64 n] 23))) := (Below.refl _ _).alloc (Nat.le_refl _) _
 have hN : Own2 (w.alloc (Obj.cells #[Value.int IntKind.i64 t, Value.int IntKind.i64 n] 23)) w.heap.size t n := own2_new _ _ _
 generalize w.alloc (Obj.cells #[Value.int IntKind.i64 t, Value.int IntKind.i64 n] 23) = W at *
 have HN := Lib.hid hN
 have hS := hN.lt
 clear hN
 go_loopw [5] (fun i wr => ∃ k : Nat, k ≤ l.length ∧ i = .int .i64 k ∧ Below W.heap.size W wr ∧ ∀ j y, j < k → l[j]? = some y → ltS y (t, n) = true) (fun i _ => l.length - (RowKit.intOf i).toNat)
 case atStart => exact ⟨0, Nat.zero_le _, rfl, Below.refl _ _, fun j y h => absurd h (Nat.not_lt_zero _)⟩
 case round =>
  obtain ⟨k, hk, rfl, hbel, hpre⟩ := hrel
  have HB := Lib.hid hbel
  have HPRE := Lib.hid hpre
  have hN2 := HN.out.later hbel hS
  have hc0 := hN2.c0
  have hc1 := hN2.c1
  have hsz : w.heap.size < wr.heap.size := hN2.lt
  have HBW := Lib.hid (hB1.out.trans (hbel.mono (Nat.le_of_lt hS)))
  clear hbel hpre hN2
  by_cases hlt : k < l.length
  ·obtain ⟨x, y, hxy⟩ := at_lt hlt
   obtain ⟨b, o, rfl, hb, hl⟩ := HL.out (ne_of_lt hlt)
   obtain ⟨hx, hy⟩ := hl.later hb HBW.out k x y hxy
   have hbw : b < wr.heap.size := Nat.lt_of_lt_of_le hb HBW.out.size
   have hdec : decide ((k : Int) < (l.length : Int)) = true := by simpa using hlt
   have hltI : (k : Int) < (l.length : Int) := by omega
   have HXY := Lib.hid hxy
   clear hxy hl
   cases hcx : ltS (x, y) (t, n)
   ·have HLT := Lib.hid hcx
    clear hcx
    go_wp2_with fail
    refine region_aft (by kernel_rfl) (by kernel_rfl) ?_
    repeat (go_big_quiet_step (first | (go_at_call 32; exact aft_grown ((less_any _ _ _ _ _).mono fun e w' h => by rw [HLT.out] at h; exact h))))
    refine wpQuiet_nil ?_
    rintro w2 ⟨z, rfl⟩
    have z0 := z.h
    generalize z.x = w2 at z0 ⊢
    clear z
    have HB3 := Lib.hid (HB.out.trans (z0.mono HB.out.size))
    have HBW3 := Lib.hid (blThen HBW.out z0)
    have hN3 := HN.out.later HB3.out hS
    have hd0 := hN3.c0
    have hd1 := hN3.c1
    have hsz3 : w.heap.size < w2.heap.size := hN3.lt
    have hx3 := cell_in z0 hbw hx
    have hy3 := cell_in z0 hbw hy
    have hbw3 : b < w2.heap.size := Nat.lt_of_lt_of_le hbw z0.size
    have HADD : Hid (addL l (t, n) = if l[k]? = some (t, n) then l else l.take k ++ ([(t, n)] ++ l.drop k)) := addL_at (t, n) l k HPRE.out (fun y hy => by
     rw [HXY.out] at hy
     simp only [Option.some.injEq] at hy
     rw [← hy]
     exact HLT.out) hk
    clear hx hy hc0 hc1 z0 hsz hbw hN3
    by_cases heq : x = t
    ·by_cases heq2 : y = n
     ·subst heq heq2
      have HR : Hid (RetA w (addL l (x, y)) (.returned (.slice (some ⟨b, o, none⟩) l.length cap)) w2) := by
       show RetA _ _ _ _
       rw [HADD.out, if_pos HXY.out]
       exact ⟨_, _, rfl, HL.out.later HBW3.out, HNN.out, HCC.out, HBW3.out⟩
      go_wp2_with fail
      refine region_aft (by kernel_rfl) (by kernel_rfl) ?_
      repeat (go_big_quiet_step (fail))
      refine wpQuiet_nil ?_
      rintro w3 ⟨z, rfl⟩
      go_wp2
      go_ret
      obtain ⟨a', c', h1, h2, h3, h4, h5⟩ := HR.out
      exact ⟨a', c', h1, h2.later z.h, h3, h4, blThen h5 z.h⟩
     ·have h2b : (y == n) = false := by simpa using heq2
      have HNE : Hid (¬ (x = t ∧ y = n)) := fun h => heq2 h.2
      go_wp2_with fail
      refine region_aft (by kernel_rfl) (by kernel_rfl) ?_
      repeat (go_big_quiet_step (fail))
      refine wpQuiet_nil ?_
      rintro w3 ⟨z, rfl⟩
      have z3 := z.h
      generalize z.x = w3 at z3 ⊢
      clear z
      have HB5 := Lib.hid (blThen HBW3.out z3)
      have HN5 := HN.out.later (HB3.out.trans (z3.mono HB3.out.size)) hS
      have HQ0 := Lib.hid HN5.c0
      have HQ1 := Lib.hid HN5.c1
      have HLT := Lib.hid HN5.lt
      have HSL := Lib.hid (HL.out.later HB5.out)
      have HS1 := Lib.hid (sl_take HSL.out k)
      have HS2 := Lib.hid (sl_drop HSL.out k)
      have HLK : Hid ((l.take k).length = k) := by show _ = k; simp; omega
      have HLD : Hid ((l.drop k).length = l.length - k) := by show _ = _; simp
      have HNA := HNN
      have HADD2 : Hid (addL l (t, n) = l.take k ++ ([(t, n)] ++ l.drop k)) := by
       show addL l (t, n) = _
       rw [HADD.out, HXY.out, if_neg]
       simp only [Option.some.injEq, Prod.mk.injEq]
       exact HNE.out
      have hck : ¬ cap = k := by have := HCC.out; omega
      have hkc : (k : Int) ≤ (cap : Int) := by have := HCC.out; omega
      have hkl : (k : Int) ≤ (l.length : Int) := by omega
      clear HN5 hd0 hd1 hx3 hy3 z3
      go_wp2_with fail
      refine wp_region_held_drew (S := fun w' => Below w3.heap.size w3 w') (by kernel_rfl) ⟨rfl, rfl, rfl, Nat.le_refl _, fun _ _ => rfl⟩ (fun hHeld => ?_)
      have HWS : Hid (w3.heap.size ≤ w3.drew.heap.size) := Nat.le_refl _
      generalize w3.drew = wS at *
      refine wpAnyH_take (i := 1) (oi := ⟨_, _, _, _, _, _⟩) (v := ?v1x1) rfl (by kernel_rfl) (by kernel_rfl) (by kernel_rfl) (fun _ _ _ h => h) (Or.inl ⟨by rfl, ?hy1x1⟩) hHeld ?rest1x1
      case hy1x1 => (intro w' hSw; go_simp; try with_reducible rfl)
      try simp only [Act.put, List.setIfInBounds_toArray, List.set_cons_zero, List.set_cons_succ]
      refine wpAnyH_take (i := 2) (oi := ⟨_, _, _, _, _, _⟩) (v := ?v2x2) rfl (by kernel_rfl) (by kernel_rfl) (by kernel_rfl) (fun _ _ _ h => h) (Or.inl ⟨by rfl, ?hy2x2⟩) hHeld ?rest2x2
      case hy2x2 => (intro w' hSw; go_simp; try with_reducible rfl)
      try simp only [Act.put, List.setIfInBounds_toArray, List.set_cons_zero, List.set_cons_succ]
      refine wpAnyH_take (i := 3) (oi := ⟨_, _, _, _, _, _⟩) (v := ?v3x3) rfl (by kernel_rfl) (by kernel_rfl) (by kernel_rfl) (fun _ _ _ h => h) (Or.inl ⟨by rfl, ?hy3x3⟩) hHeld ?rest3x3
      case hy3x3 => (intro w' hSw; go_simp; try with_reducible rfl)
      try simp only [Act.put, List.setIfInBounds_toArray, List.set_cons_zero, List.set_cons_succ]
      refine wpAnyH_take (i := 5) (oi := ⟨_, _, _, _, _, _⟩) (v := ?v5x4) rfl (by kernel_rfl) (by kernel_rfl) (by kernel_rfl) (fun _ _ _ h => h) (Or.inl ⟨by rfl, ?hy5x4⟩) hHeld ?rest5x4
      case hy5x4 => (intro w' hSw; have s0 := cell_in hSw HLT.out HQ0.out; have s1 := cell_in hSw HLT.out HQ1.out; go_simp; try with_reducible rfl)
      try simp only [Act.put, List.setIfInBounds_toArray, List.set_cons_zero, List.set_cons_succ]
      refine wpAnyH_take (i := 8) (oi := ⟨_, _, _, _, _, _⟩) (v := ?v8x5) rfl (by kernel_rfl) (by kernel_rfl) (by kernel_rfl) (fun _ _ _ h => h) (Or.inl ⟨by rfl, ?hy8x5⟩) hHeld ?rest8x5
      case hy8x5 => (intro w' hSw; go_simp; try with_reducible rfl)
      try simp only [Act.put, List.setIfInBounds_toArray, List.set_cons_zero, List.set_cons_succ]
      refine wpAnyH_take (i := 9) (oi := ⟨_, _, _, _, _, _⟩) (v := ?v9x6) rfl (by kernel_rfl) (by kernel_rfl) (by kernel_rfl) (fun _ _ _ h => h) (Or.inl ⟨by rfl, ?hy9x6⟩) hHeld ?rest9x6
      case hy9x6 => (intro w' hSw; go_simp; try with_reducible rfl)
      try simp only [Act.put, List.setIfInBounds_toArray, List.set_cons_zero, List.set_cons_succ]
      refine wpAnyH_take (i := 10) (oi := ⟨_, _, _, _, _, _⟩) (v := ?v10x7) rfl (by kernel_rfl) (by kernel_rfl) (by kernel_rfl) (fun _ _ _ h => h) (Or.inl ⟨by rfl, ?hy10x7⟩) hHeld ?rest10x7
      case hy10x7 => (intro w' hSw; go_simp; try with_reducible rfl)
      try simp only [Act.put, List.setIfInBounds_toArray, List.set_cons_zero, List.set_cons_succ]
      refine wpAnyH_ready (rs := [0, 6]) (by kernel_rfl) (by simp) ?_
      refine AllReadyH.cons (o := ⟨_, _, _, _, _, _⟩) rfl (fun K hK => ?_) (AllReadyH.cons (o := ⟨_, _, _, _, _, _⟩) rfl (fun K hK => ?_) AllReadyH.nil)
      ·go_simp
       have HE : Hid (OwnL (wS.alloc (Obj.cells #[] 23)) w3.heap.size (.slice (some ⟨wS.heap.size, 0, none⟩) 0 0) []) := (own_emptyL wS).monoA HWS.out
       refine hK.out _ _ (blAlloc hHeld _) (fun hHeldN => ?_)
       clear hK K
       clear hHeld
       have hHeld := hHeldN
       clear hHeldN
       try simp only [Act.put, List.setIfInBounds_toArray, List.set_cons_zero, List.set_cons_succ]
       generalize wS.alloc (Obj.cells #[] 23) = wA at *
       refine wpAnyH_ready (rs := [4, 6]) (by kernel_rfl) (by simp) ?_
       refine AllReadyH.cons (o := ⟨_, _, _, _, _, _⟩) rfl (fun K hK => ?_) (AllReadyH.cons (o := ⟨_, _, _, _, _, _⟩) rfl (fun K hK => ?_) AllReadyH.nil)
       ·rw [if_pos (by rfl)]
        refine wp_append_st _ _ rfl w3.heap.size _ [] rfl HE.out (some ⟨b, o, none⟩) cap (l.take k) (by rw [HLK.out]; rfl) (HS1.out.later hHeld) HNA.out (by have := HLK.out; have := HLEN.out; simp only [List.length_nil]; omega) hHeld.size ?_
        intro v4 wC hown hgrow
        have HO4 : Hid (OwnL wC w3.heap.size v4 (l.take k)) := hown
        refine hK.out _ _ (grown_below hHeld HE.out (Nat.le_refl _) hHeld.size hgrow) (fun hHeldN => ?_)
        clear hown hgrow hK K
        clear hHeld
        have hHeld := hHeldN
        clear hHeldN
        try simp only [Act.put, List.setIfInBounds_toArray, List.set_cons_zero, List.set_cons_succ]
        refine wpAnyH_ready (rs := [6]) (by kernel_rfl) (by simp) ?_
        refine AllReadyH.cons (o := ⟨_, _, _, _, _, _⟩) rfl (fun K hK => ?_) AllReadyH.nil
        go_simp
        have HSs := Lib.hid (one_sl _ t n _ (own2_new wC t n))
        have HO4b := Lib.hid (HO4.out.later (blAlloc (Below.refl _ _) (Obj.cells #[Value.int IntKind.i64 t, Value.int IntKind.i64 n] 23)))
        refine hK.out _ _ (blAlloc hHeld _) (fun hHeldN => ?_)
        clear hK K HO4
        have HO4 := HO4b
        clear HO4b
        clear hHeld
        have hHeld := hHeldN
        clear hHeldN
        try simp only [Act.put, List.setIfInBounds_toArray, List.set_cons_zero, List.set_cons_succ]
        refine wpAnyH_ready (rs := [7]) (by kernel_rfl) (by simp) ?_
        refine AllReadyH.cons (o := ⟨_, _, _, _, _, _⟩) rfl (fun K hK => ?_) AllReadyH.nil
        rw [if_pos (by rfl)]
        refine wp_append_st _ _ rfl w3.heap.size _ (l.take k) rfl HO4.out (some ⟨wC.heap.size, 0, none⟩) 1 [(t, n)] rfl HSs.out (fun h => (by cases h)) (by have := HLK.out; have := HLEN.out; simp only [List.length_singleton]; omega) hHeld.size ?_
        intro v7 wD hown hgrow
        have HO7 := Lib.hid hown
        refine hK.out _ _ (grown_below hHeld HO4.out (Nat.le_refl _) hHeld.size hgrow) (fun hHeldN => ?_)
        clear hown hgrow
        clear hHeld
        have hHeld := hHeldN
        clear hHeldN
        clear hK K
        try simp only [Act.put, List.setIfInBounds_toArray, List.set_cons_zero, List.set_cons_succ]
        refine wpAnyH_ready (rs := [11]) (by kernel_rfl) (by simp) ?_
        refine AllReadyH.cons (o := ⟨_, _, _, _, _, _⟩) rfl (fun K hK => ?_) AllReadyH.nil
        rw [if_pos (by rfl)]
        refine wp_append_st _ _ rfl w3.heap.size _ (l.take k ++ [(t, n)]) rfl HO7.out (some ⟨b, o + k * 2, none⟩) (cap - k) (l.drop k) (by rw [HLD.out]; rfl) (HS2.out.later hHeld) (fun h => (by cases h)) (by have := HLK.out; have := HLD.out; have := HLEN.out; rw [List.length_append, List.length_singleton]; omega) hHeld.size ?_
        intro v11 wE hown hgrow
        have HO11 : Hid (OwnL wE w3.heap.size v11 (l.take k ++ ([(t, n)] ++ l.drop k))) := by
         show OwnL _ _ _ _
         rw [← List.append_assoc]
         exact hown
        refine hK.out _ _ (grown_below hHeld HO7.out (Nat.le_refl _) hHeld.size hgrow) (fun hHeldN => ?_)
        clear hown hgrow
        clear hHeld
        have hHeld := hHeldN
        clear hHeldN
        clear hK K
        try simp only [Act.put, List.setIfInBounds_toArray, List.set_cons_zero, List.set_cons_succ]
        refine wpAnyH_take (i := 12) (oi := ⟨_, _, _, _, _, _⟩) (v := ?v12x8) rfl (by kernel_rfl) (by kernel_rfl) (by kernel_rfl) (fun _ _ _ h => h) (Or.inl ⟨by rfl, ?hy12x8⟩) hHeld ?rest12x8
        case hy12x8 => (intro w' hSw; go_simp; try with_reducible rfl)
        try simp only [Act.put, List.setIfInBounds_toArray, List.set_cons_zero, List.set_cons_succ]
        refine wpAnyH_done (by kernel_rfl) ?_ _
        go_wp2
        go_ret
        exact reta_own HADD2.out HO11.out HB5.out.size (blThen HB5.out hHeld)
       ·go_simp
        have HS0 := Lib.hid (one_sl _ t n _ (own2_new wA t n))
        have HE2 := Lib.hid (HE.out.later (blAlloc (Below.refl _ _) (Obj.cells #[Value.int IntKind.i64 t, Value.int IntKind.i64 n] 23)))
        have HX : Hid (∀ c, (Value.slice (some ⟨wS.heap.size, 0, none⟩) 0 0).ownBlock = some c → c < wA.heap.size) := fun c h => (by simp only [Value.ownBlock, Option.some.injEq] at h; rw [← h]; exact ownlt HE.out)
        refine hK.out _ _ (blAlloc hHeld _) (fun hHeldN => ?_)
        clear hK K
        clear hHeld
        have hHeld := hHeldN
        clear hHeldN
        try simp only [Act.put, List.setIfInBounds_toArray, List.set_cons_zero, List.set_cons_succ]
        refine wpAnyH_ready (rs := [4]) (by kernel_rfl) (by simp) ?_
        refine AllReadyH.cons (o := ⟨_, _, _, _, _, _⟩) rfl (fun K hK => ?_) AllReadyH.nil
        rw [if_pos (by rfl)]
        refine wp_append_st _ _ rfl w3.heap.size _ [] rfl HE2.out (some ⟨b, o, none⟩) cap (l.take k) (by rw [HLK.out]; rfl) (HS1.out.later hHeld) HNA.out (by have := HLK.out; have := HLEN.out; simp only [List.length_nil]; omega) hHeld.size ?_
        intro v4 wC hown hgrow
        have HO4 : Hid (OwnL wC w3.heap.size v4 (l.take k)) := hown
        have HSs := Lib.hid (sl_grownA HS0.out (fun b' o' h e => by
         simp only [Option.some.injEq, Addr.mk.injEq] at h
         exact Nat.lt_irrefl _ (Nat.lt_of_lt_of_le (HX.out _ e) (Nat.le_of_eq h.1))) hgrow)
        refine hK.out _ _ (grown_below hHeld HE2.out (Nat.le_refl _) hHeld.size hgrow) (fun hHeldN => ?_)
        clear hown hgrow hK K
        clear hHeld
        have hHeld := hHeldN
        clear hHeldN
        try simp only [Act.put, List.setIfInBounds_toArray, List.set_cons_zero, List.set_cons_succ]
        refine wpAnyH_ready (rs := [7]) (by kernel_rfl) (by simp) ?_
        refine AllReadyH.cons (o := ⟨_, _, _, _, _, _⟩) rfl (fun K hK => ?_) AllReadyH.nil
        rw [if_pos (by rfl)]
        refine wp_append_st _ _ rfl w3.heap.size _ (l.take k) rfl HO4.out (some ⟨wA.heap.size, 0, none⟩) 1 [(t, n)] rfl HSs.out (fun h => (by cases h)) (by have := HLK.out; have := HLEN.out; simp only [List.length_singleton]; omega) hHeld.size ?_
        intro v7 wD hown hgrow
        have HO7 := Lib.hid hown
        refine hK.out _ _ (grown_below hHeld HO4.out (Nat.le_refl _) hHeld.size hgrow) (fun hHeldN => ?_)
        clear hown hgrow
        clear hHeld
        have hHeld := hHeldN
        clear hHeldN
        clear hK K
        try simp only [Act.put, List.setIfInBounds_toArray, List.set_cons_zero, List.set_cons_succ]
        refine wpAnyH_ready (rs := [11]) (by kernel_rfl) (by simp) ?_
        refine AllReadyH.cons (o := ⟨_, _, _, _, _, _⟩) rfl (fun K hK => ?_) AllReadyH.nil
        rw [if_pos (by rfl)]
        refine wp_append_st _ _ rfl w3.heap.size _ (l.take k ++ [(t, n)]) rfl HO7.out (some ⟨b, o + k * 2, none⟩) (cap - k) (l.drop k) (by rw [HLD.out]; rfl) (HS2.out.later hHeld) (fun h => (by cases h)) (by have := HLK.out; have := HLD.out; have := HLEN.out; rw [List.length_append, List.length_singleton]; omega) hHeld.size ?_
        intro v11 wE hown hgrow
        have HO11 : Hid (OwnL wE w3.heap.size v11 (l.take k ++ ([(t, n)] ++ l.drop k))) := by
         show OwnL _ _ _ _
         rw [← List.append_assoc]
         exact hown
        refine hK.out _ _ (grown_below hHeld HO7.out (Nat.le_refl _) hHeld.size hgrow) (fun hHeldN => ?_)
        clear hown hgrow
        clear hHeld
        have hHeld := hHeldN
        clear hHeldN
        clear hK K
        try simp only [Act.put, List.setIfInBounds_toArray, List.set_cons_zero, List.set_cons_succ]
        refine wpAnyH_take (i := 12) (oi := ⟨_, _, _, _, _, _⟩) (v := ?v12x9) rfl (by kernel_rfl) (by kernel_rfl) (by kernel_rfl) (fun _ _ _ h => h) (Or.inl ⟨by rfl, ?hy12x9⟩) hHeld ?rest12x9
        case hy12x9 => (intro w' hSw; go_simp; try with_reducible rfl)
        try simp only [Act.put, List.setIfInBounds_toArray, List.set_cons_zero, List.set_cons_succ]
        refine wpAnyH_done (by kernel_rfl) ?_ _
        go_wp2
        go_ret
        exact reta_own HADD2.out HO11.out HB5.out.size (blThen HB5.out hHeld)
      ·go_simp
       have HS0 : Hid (SL (wS.alloc (Obj.cells #[Value.int IntKind.i64 t, Value.int IntKind.i64 n] 23)) (some ⟨wS.heap.size, 0, none⟩) [(t, n)]) := one_sl _ t n _ (own2_new wS t n)
       have hW : wS.heap.size < (wS.alloc (Obj.cells #[Value.int IntKind.i64 t, Value.int IntKind.i64 n] 23)).heap.size := by simp
       refine hK.out _ _ (blAlloc hHeld _) (fun hHeldN => ?_)
       clear hK K
       clear hHeld
       have hHeld := hHeldN
       clear hHeldN
       try simp only [Act.put, List.setIfInBounds_toArray, List.set_cons_zero, List.set_cons_succ]
       generalize wS.alloc (Obj.cells #[Value.int IntKind.i64 t, Value.int IntKind.i64 n] 23) = wA at *
       refine wpAnyH_ready (rs := [0]) (by kernel_rfl) (by simp) ?_
       refine AllReadyH.cons (o := ⟨_, _, _, _, _, _⟩) rfl (fun K hK => ?_) AllReadyH.nil
       go_simp
       have HE : Hid (OwnL (wA.alloc (Obj.cells #[] 23)) w3.heap.size (.slice (some ⟨wA.heap.size, 0, none⟩) 0 0) []) := (own_emptyL wA).monoA (Nat.le_trans HWS.out (Nat.le_of_lt hW))
       have HS1b := Lib.hid (HS0.out.later (blAlloc (Below.refl _ _) (Obj.cells #[] 23)))
       refine hK.out _ _ (blAlloc hHeld _) (fun hHeldN => ?_)
       clear hK K
       clear hHeld
       have hHeld := hHeldN
       clear hHeldN
       try simp only [Act.put, List.setIfInBounds_toArray, List.set_cons_zero, List.set_cons_succ]
       refine wpAnyH_ready (rs := [4]) (by kernel_rfl) (by simp) ?_
       refine AllReadyH.cons (o := ⟨_, _, _, _, _, _⟩) rfl (fun K hK => ?_) AllReadyH.nil
       rw [if_pos (by rfl)]
       refine wp_append_st _ _ rfl w3.heap.size _ [] rfl HE.out (some ⟨b, o, none⟩) cap (l.take k) (by rw [HLK.out]; rfl) (HS1.out.later hHeld) HNA.out (by have := HLK.out; have := HLEN.out; simp only [List.length_nil]; omega) hHeld.size ?_
       intro v4 wC hown hgrow
       have HO4 : Hid (OwnL wC w3.heap.size v4 (l.take k)) := hown
       have HX : Hid (∀ c, (Value.slice (some ⟨wA.heap.size, 0, none⟩) 0 0).ownBlock = some c → wS.heap.size < c) := fun c h => (by simp only [Value.ownBlock, Option.some.injEq] at h; rw [← h]; exact hW)
       have HSs := Lib.hid (sl_grownA HS1b.out (fun b' o' h e => by
        simp only [Option.some.injEq, Addr.mk.injEq] at h
        exact Nat.lt_irrefl _ (Nat.lt_of_le_of_lt (Nat.le_of_eq h.1.symm) (HX.out _ e))) hgrow)
       refine hK.out _ _ (grown_below hHeld HE.out (Nat.le_refl _) hHeld.size hgrow) (fun hHeldN => ?_)
       clear hown hgrow hK K
       clear hHeld
       have hHeld := hHeldN
       clear hHeldN
       try simp only [Act.put, List.setIfInBounds_toArray, List.set_cons_zero, List.set_cons_succ]
       refine wpAnyH_ready (rs := [7]) (by kernel_rfl) (by simp) ?_
       refine AllReadyH.cons (o := ⟨_, _, _, _, _, _⟩) rfl (fun K hK => ?_) AllReadyH.nil
       rw [if_pos (by rfl)]
       refine wp_append_st _ _ rfl w3.heap.size _ (l.take k) rfl HO4.out (some ⟨wS.heap.size, 0, none⟩) 1 [(t, n)] rfl HSs.out (fun h => (by cases h)) (by have := HLK.out; have := HLEN.out; simp only [List.length_singleton]; omega) hHeld.size ?_
       intro v7 wD hown hgrow
       have HO7 := Lib.hid hown
       refine hK.out _ _ (grown_below hHeld HO4.out (Nat.le_refl _) hHeld.size hgrow) (fun hHeldN => ?_)
       clear hown hgrow
       clear hHeld
       have hHeld := hHeldN
       clear hHeldN
       clear hK K
       try simp only [Act.put, List.setIfInBounds_toArray, List.set_cons_zero, List.set_cons_succ]
       refine wpAnyH_ready (rs := [11]) (by kernel_rfl) (by simp) ?_
       refine AllReadyH.cons (o := ⟨_, _, _, _, _, _⟩) rfl (fun K hK => ?_) AllReadyH.nil
       rw [if_pos (by rfl)]
       refine wp_append_st _ _ rfl w3.heap.size _ (l.take k ++ [(t, n)]) rfl HO7.out (some ⟨b, o + k * 2, none⟩) (cap - k) (l.drop k) (by rw [HLD.out]; rfl) (HS2.out.later hHeld) (fun h => (by cases h)) (by have := HLK.out; have := HLD.out; have := HLEN.out; rw [List.length_append, List.length_singleton]; omega) hHeld.size ?_
       intro v11 wE hown hgrow
       have HO11 : Hid (OwnL wE w3.heap.size v11 (l.take k ++ ([(t, n)] ++ l.drop k))) := by
        show OwnL _ _ _ _
        rw [← List.append_assoc]
        exact hown
       refine hK.out _ _ (grown_below hHeld HO7.out (Nat.le_refl _) hHeld.size hgrow) (fun hHeldN => ?_)
       clear hown hgrow
       clear hHeld
       have hHeld := hHeldN
       clear hHeldN
       clear hK K
       try simp only [Act.put, List.setIfInBounds_toArray, List.set_cons_zero, List.set_cons_succ]
       refine wpAnyH_take (i := 12) (oi := ⟨_, _, _, _, _, _⟩) (v := ?v12x10) rfl (by kernel_rfl) (by kernel_rfl) (by kernel_rfl) (fun _ _ _ h => h) (Or.inl ⟨by rfl, ?hy12x10⟩) hHeld ?rest12x10
       case hy12x10 => (intro w' hSw; go_simp; try with_reducible rfl)
       try simp only [Act.put, List.setIfInBounds_toArray, List.set_cons_zero, List.set_cons_succ]
       refine wpAnyH_done (by kernel_rfl) ?_ _
       go_wp2
       go_ret
       exact reta_own HADD2.out HO11.out HB5.out.size (blThen HB5.out hHeld)
    ·have h1b : (x == t) = false := by simpa using heq
     have HNE : Hid (¬ (x = t ∧ y = n)) := fun h => heq h.1
     go_wp2_with fail
     refine region_aft (by kernel_rfl) (by kernel_rfl) ?_
     repeat (go_big_quiet_step (fail))
     refine wpQuiet_nil ?_
     rintro w3 ⟨z, rfl⟩
     have z3 := z.h
     generalize z.x = w3 at z3 ⊢
     clear z
     have HB5 := Lib.hid (blThen HBW3.out z3)
     have HN5 := HN.out.later (HB3.out.trans (z3.mono HB3.out.size)) hS
     have HQ0 := Lib.hid HN5.c0
     have HQ1 := Lib.hid HN5.c1
     have HLT := Lib.hid HN5.lt
     have HSL := Lib.hid (HL.out.later HB5.out)
     have HS1 := Lib.hid (sl_take HSL.out k)
     have HS2 := Lib.hid (sl_drop HSL.out k)
     have HLK : Hid ((l.take k).length = k) := by show _ = k; simp; omega
     have HLD : Hid ((l.drop k).length = l.length - k) := by show _ = _; simp
     have HNA := HNN
     have HADD2 : Hid (addL l (t, n) = l.take k ++ ([(t, n)] ++ l.drop k)) := by
      show addL l (t, n) = _
      rw [HADD.out, HXY.out, if_neg]
      simp only [Option.some.injEq, Prod.mk.injEq]
      exact HNE.out
     have hck : ¬ cap = k := by have := HCC.out; omega
     have hkc : (k : Int) ≤ (cap : Int) := by have := HCC.out; omega
     have hkl : (k : Int) ≤ (l.length : Int) := by omega
     clear HN5 hd0 hd1 hx3 hy3 z3
     go_wp2_with fail
     refine wp_region_held_drew (S := fun w' => Below w3.heap.size w3 w') (by kernel_rfl) ⟨rfl, rfl, rfl, Nat.le_refl _, fun _ _ => rfl⟩ (fun hHeld => ?_)
     have HWS : Hid (w3.heap.size ≤ w3.drew.heap.size) := Nat.le_refl _
     generalize w3.drew = wS at *
     refine wpAnyH_take (i := 1) (oi := ⟨_, _, _, _, _, _⟩) (v := ?v1x11) rfl (by kernel_rfl) (by kernel_rfl) (by kernel_rfl) (fun _ _ _ h => h) (Or.inl ⟨by rfl, ?hy1x11⟩) hHeld ?rest1x11
     case hy1x11 => (intro w' hSw; go_simp; try with_reducible rfl)
     try simp only [Act.put, List.setIfInBounds_toArray, List.set_cons_zero, List.set_cons_succ]
     refine wpAnyH_take (i := 2) (oi := ⟨_, _, _, _, _, _⟩) (v := ?v2x12) rfl (by kernel_rfl) (by kernel_rfl) (by kernel_rfl) (fun _ _ _ h => h) (Or.inl ⟨by rfl, ?hy2x12⟩) hHeld ?rest2x12
     case hy2x12 => (intro w' hSw; go_simp; try with_reducible rfl)
     try simp only [Act.put, List.setIfInBounds_toArray, List.set_cons_zero, List.set_cons_succ]
     refine wpAnyH_take (i := 3) (oi := ⟨_, _, _, _, _, _⟩) (v := ?v3x13) rfl (by kernel_rfl) (by kernel_rfl) (by kernel_rfl) (fun _ _ _ h => h) (Or.inl ⟨by rfl, ?hy3x13⟩) hHeld ?rest3x13
     case hy3x13 => (intro w' hSw; go_simp; try with_reducible rfl)
     try simp only [Act.put, List.setIfInBounds_toArray, List.set_cons_zero, List.set_cons_succ]
     refine wpAnyH_take (i := 5) (oi := ⟨_, _, _, _, _, _⟩) (v := ?v5x14) rfl (by kernel_rfl) (by kernel_rfl) (by kernel_rfl) (fun _ _ _ h => h) (Or.inl ⟨by rfl, ?hy5x14⟩) hHeld ?rest5x14
     case hy5x14 => (intro w' hSw; have s0 := cell_in hSw HLT.out HQ0.out; have s1 := cell_in hSw HLT.out HQ1.out; go_simp; try with_reducible rfl)
     try simp only [Act.put, List.setIfInBounds_toArray, List.set_cons_zero, List.set_cons_succ]
     refine wpAnyH_take (i := 8) (oi := ⟨_, _, _, _, _, _⟩) (v := ?v8x15) rfl (by kernel_rfl) (by kernel_rfl) (by kernel_rfl) (fun _ _ _ h => h) (Or.inl ⟨by rfl, ?hy8x15⟩) hHeld ?rest8x15
     case hy8x15 => (intro w' hSw; go_simp; try with_reducible rfl)
     try simp only [Act.put, List.setIfInBounds_toArray, List.set_cons_zero, List.set_cons_succ]
     refine wpAnyH_take (i := 9) (oi := ⟨_, _, _, _, _, _⟩) (v := ?v9x16) rfl (by kernel_rfl) (by kernel_rfl) (by kernel_rfl) (fun _ _ _ h => h) (Or.inl ⟨by rfl, ?hy9x16⟩) hHeld ?rest9x16
     case hy9x16 => (intro w' hSw; go_simp; try with_reducible rfl)
     try simp only [Act.put, List.setIfInBounds_toArray, List.set_cons_zero, List.set_cons_succ]
     refine wpAnyH_take (i := 10) (oi := ⟨_, _, _, _, _, _⟩) (v := ?v10x17) rfl (by kernel_rfl) (by kernel_rfl) (by kernel_rfl) (fun _ _ _ h => h) (Or.inl ⟨by rfl, ?hy10x17⟩) hHeld ?rest10x17
     case hy10x17 => (intro w' hSw; go_simp; try with_reducible rfl)
     try simp only [Act.put, List.setIfInBounds_toArray, List.set_cons_zero, List.set_cons_succ]
     refine wpAnyH_ready (rs := [0, 6]) (by kernel_rfl) (by simp) ?_
     refine AllReadyH.cons (o := ⟨_, _, _, _, _, _⟩) rfl (fun K hK => ?_) (AllReadyH.cons (o := ⟨_, _, _, _, _, _⟩) rfl (fun K hK => ?_) AllReadyH.nil)
     ·go_simp
      have HE : Hid (OwnL (wS.alloc (Obj.cells #[] 23)) w3.heap.size (.slice (some ⟨wS.heap.size, 0, none⟩) 0 0) []) := (own_emptyL wS).monoA HWS.out
      refine hK.out _ _ (blAlloc hHeld _) (fun hHeldN => ?_)
      clear hK K
      clear hHeld
      have hHeld := hHeldN
      clear hHeldN
      try simp only [Act.put, List.setIfInBounds_toArray, List.set_cons_zero, List.set_cons_succ]
      generalize wS.alloc (Obj.cells #[] 23) = wA at *
      refine wpAnyH_ready (rs := [4, 6]) (by kernel_rfl) (by simp) ?_
      refine AllReadyH.cons (o := ⟨_, _, _, _, _, _⟩) rfl (fun K hK => ?_) (AllReadyH.cons (o := ⟨_, _, _, _, _, _⟩) rfl (fun K hK => ?_) AllReadyH.nil)
      ·rw [if_pos (by rfl)]
       refine wp_append_st _ _ rfl w3.heap.size _ [] rfl HE.out (some ⟨b, o, none⟩) cap (l.take k) (by rw [HLK.out]; rfl) (HS1.out.later hHeld) HNA.out (by have := HLK.out; have := HLEN.out; simp only [List.length_nil]; omega) hHeld.size ?_
       intro v4 wC hown hgrow
       have HO4 : Hid (OwnL wC w3.heap.size v4 (l.take k)) := hown
       refine hK.out _ _ (grown_below hHeld HE.out (Nat.le_refl _) hHeld.size hgrow) (fun hHeldN => ?_)
       clear hown hgrow hK K
       clear hHeld
       have hHeld := hHeldN
       clear hHeldN
       try simp only [Act.put, List.setIfInBounds_toArray, List.set_cons_zero, List.set_cons_succ]
       refine wpAnyH_ready (rs := [6]) (by kernel_rfl) (by simp) ?_
       refine AllReadyH.cons (o := ⟨_, _, _, _, _, _⟩) rfl (fun K hK => ?_) AllReadyH.nil
       go_simp
       have HSs := Lib.hid (one_sl _ t n _ (own2_new wC t n))
       have HO4b := Lib.hid (HO4.out.later (blAlloc (Below.refl _ _) (Obj.cells #[Value.int IntKind.i64 t, Value.int IntKind.i64 n] 23)))
       refine hK.out _ _ (blAlloc hHeld _) (fun hHeldN => ?_)
       clear hK K HO4
       have HO4 := HO4b
       clear HO4b
       clear hHeld
       have hHeld := hHeldN
       clear hHeldN
       try simp only [Act.put, List.setIfInBounds_toArray, List.set_cons_zero, List.set_cons_succ]
       refine wpAnyH_ready (rs := [7]) (by kernel_rfl) (by simp) ?_
       refine AllReadyH.cons (o := ⟨_, _, _, _, _, _⟩) rfl (fun K hK => ?_) AllReadyH.nil
       rw [if_pos (by rfl)]
       refine wp_append_st _ _ rfl w3.heap.size _ (l.take k) rfl HO4.out (some ⟨wC.heap.size, 0, none⟩) 1 [(t, n)] rfl HSs.out (fun h => (by cases h)) (by have := HLK.out; have := HLEN.out; simp only [List.length_singleton]; omega) hHeld.size ?_
       intro v7 wD hown hgrow
       have HO7 := Lib.hid hown
       refine hK.out _ _ (grown_below hHeld HO4.out (Nat.le_refl _) hHeld.size hgrow) (fun hHeldN => ?_)
       clear hown hgrow
       clear hHeld
       have hHeld := hHeldN
       clear hHeldN
       clear hK K
       try simp only [Act.put, List.setIfInBounds_toArray, List.set_cons_zero, List.set_cons_succ]
       refine wpAnyH_ready (rs := [11]) (by kernel_rfl) (by simp) ?_
       refine AllReadyH.cons (o := ⟨_, _, _, _, _, _⟩) rfl (fun K hK => ?_) AllReadyH.nil
       rw [if_pos (by rfl)]
       refine wp_append_st _ _ rfl w3.heap.size _ (l.take k ++ [(t, n)]) rfl HO7.out (some ⟨b, o + k * 2, none⟩) (cap - k) (l.drop k) (by rw [HLD.out]; rfl) (HS2.out.later hHeld) (fun h => (by cases h)) (by have := HLK.out; have := HLD.out; have := HLEN.out; rw [List.length_append, List.length_singleton]; omega) hHeld.size ?_
       intro v11 wE hown hgrow
       have HO11 : Hid (OwnL wE w3.heap.size v11 (l.take k ++ ([(t, n)] ++ l.drop k))) := by
        show OwnL _ _ _ _
        rw [← List.append_assoc]
        exact hown
       refine hK.out _ _ (grown_below hHeld HO7.out (Nat.le_refl _) hHeld.size hgrow) (fun hHeldN => ?_)
       clear hown hgrow
       clear hHeld
       have hHeld := hHeldN
       clear hHeldN
       clear hK K
       try simp only [Act.put, List.setIfInBounds_toArray, List.set_cons_zero, List.set_cons_succ]
       refine wpAnyH_take (i := 12) (oi := ⟨_, _, _, _, _, _⟩) (v := ?v12x18) rfl (by kernel_rfl) (by kernel_rfl) (by kernel_rfl) (fun _ _ _ h => h) (Or.inl ⟨by rfl, ?hy12x18⟩) hHeld ?rest12x18
       case hy12x18 => (intro w' hSw; go_simp; try with_reducible rfl)
       try simp only [Act.put, List.setIfInBounds_toArray, List.set_cons_zero, List.set_cons_succ]
       refine wpAnyH_done (by kernel_rfl) ?_ _
       go_wp2
       go_ret
       exact reta_own HADD2.out HO11.out HB5.out.size (blThen HB5.out hHeld)
      ·go_simp
       have HS0 := Lib.hid (one_sl _ t n _ (own2_new wA t n))
       have HE2 := Lib.hid (HE.out.later (blAlloc (Below.refl _ _) (Obj.cells #[Value.int IntKind.i64 t, Value.int IntKind.i64 n] 23)))
       have HX : Hid (∀ c, (Value.slice (some ⟨wS.heap.size, 0, none⟩) 0 0).ownBlock = some c → c < wA.heap.size) := fun c h => (by simp only [Value.ownBlock, Option.some.injEq] at h; rw [← h]; exact ownlt HE.out)
       refine hK.out _ _ (blAlloc hHeld _) (fun hHeldN => ?_)
       clear hK K
       clear hHeld
       have hHeld := hHeldN
       clear hHeldN
       try simp only [Act.put, List.setIfInBounds_toArray, List.set_cons_zero, List.set_cons_succ]
       refine wpAnyH_ready (rs := [4]) (by kernel_rfl) (by simp) ?_
       refine AllReadyH.cons (o := ⟨_, _, _, _, _, _⟩) rfl (fun K hK => ?_) AllReadyH.nil
       rw [if_pos (by rfl)]
       refine wp_append_st _ _ rfl w3.heap.size _ [] rfl HE2.out (some ⟨b, o, none⟩) cap (l.take k) (by rw [HLK.out]; rfl) (HS1.out.later hHeld) HNA.out (by have := HLK.out; have := HLEN.out; simp only [List.length_nil]; omega) hHeld.size ?_
       intro v4 wC hown hgrow
       have HO4 : Hid (OwnL wC w3.heap.size v4 (l.take k)) := hown
       have HSs := Lib.hid (sl_grownA HS0.out (fun b' o' h e => by
        simp only [Option.some.injEq, Addr.mk.injEq] at h
        exact Nat.lt_irrefl _ (Nat.lt_of_lt_of_le (HX.out _ e) (Nat.le_of_eq h.1))) hgrow)
       refine hK.out _ _ (grown_below hHeld HE2.out (Nat.le_refl _) hHeld.size hgrow) (fun hHeldN => ?_)
       clear hown hgrow hK K
       clear hHeld
       have hHeld := hHeldN
       clear hHeldN
       try simp only [Act.put, List.setIfInBounds_toArray, List.set_cons_zero, List.set_cons_succ]
       refine wpAnyH_ready (rs := [7]) (by kernel_rfl) (by simp) ?_
       refine AllReadyH.cons (o := ⟨_, _, _, _, _, _⟩) rfl (fun K hK => ?_) AllReadyH.nil
       rw [if_pos (by rfl)]
       refine wp_append_st _ _ rfl w3.heap.size _ (l.take k) rfl HO4.out (some ⟨wA.heap.size, 0, none⟩) 1 [(t, n)] rfl HSs.out (fun h => (by cases h)) (by have := HLK.out; have := HLEN.out; simp only [List.length_singleton]; omega) hHeld.size ?_
       intro v7 wD hown hgrow
       have HO7 := Lib.hid hown
       refine hK.out _ _ (grown_below hHeld HO4.out (Nat.le_refl _) hHeld.size hgrow) (fun hHeldN => ?_)
       clear hown hgrow
       clear hHeld
       have hHeld := hHeldN
       clear hHeldN
       clear hK K
       try simp only [Act.put, List.setIfInBounds_toArray, List.set_cons_zero, List.set_cons_succ]
       refine wpAnyH_ready (rs := [11]) (by kernel_rfl) (by simp) ?_
       refine AllReadyH.cons (o := ⟨_, _, _, _, _, _⟩) rfl (fun K hK => ?_) AllReadyH.nil
       rw [if_pos (by rfl)]
       refine wp_append_st _ _ rfl w3.heap.size _ (l.take k ++ [(t, n)]) rfl HO7.out (some ⟨b, o + k * 2, none⟩) (cap - k) (l.drop k) (by rw [HLD.out]; rfl) (HS2.out.later hHeld) (fun h => (by cases h)) (by have := HLK.out; have := HLD.out; have := HLEN.out; rw [List.length_append, List.length_singleton]; omega) hHeld.size ?_
       intro v11 wE hown hgrow
       have HO11 : Hid (OwnL wE w3.heap.size v11 (l.take k ++ ([(t, n)] ++ l.drop k))) := by
        show OwnL _ _ _ _
        rw [← List.append_assoc]
        exact hown
       refine hK.out _ _ (grown_below hHeld HO7.out (Nat.le_refl _) hHeld.size hgrow) (fun hHeldN => ?_)
       clear hown hgrow
       clear hHeld
       have hHeld := hHeldN
       clear hHeldN
       clear hK K
       try simp only [Act.put, List.setIfInBounds_toArray, List.set_cons_zero, List.set_cons_succ]
       refine wpAnyH_take (i := 12) (oi := ⟨_, _, _, _, _, _⟩) (v := ?v12x19) rfl (by kernel_rfl) (by kernel_rfl) (by kernel_rfl) (fun _ _ _ h => h) (Or.inl ⟨by rfl, ?hy12x19⟩) hHeld ?rest12x19
       case hy12x19 => (intro w' hSw; go_simp; try with_reducible rfl)
       try simp only [Act.put, List.setIfInBounds_toArray, List.set_cons_zero, List.set_cons_succ]
       refine wpAnyH_done (by kernel_rfl) ?_ _
       go_wp2
       go_ret
       exact reta_own HADD2.out HO11.out HB5.out.size (blThen HB5.out hHeld)
     ·go_simp
      have HS0 : Hid (SL (wS.alloc (Obj.cells #[Value.int IntKind.i64 t, Value.int IntKind.i64 n] 23)) (some ⟨wS.heap.size, 0, none⟩) [(t, n)]) := one_sl _ t n _ (own2_new wS t n)
      have hW : wS.heap.size < (wS.alloc (Obj.cells #[Value.int IntKind.i64 t, Value.int IntKind.i64 n] 23)).heap.size := by simp
      refine hK.out _ _ (blAlloc hHeld _) (fun hHeldN => ?_)
      clear hK K
      clear hHeld
      have hHeld := hHeldN
      clear hHeldN
      try simp only [Act.put, List.setIfInBounds_toArray, List.set_cons_zero, List.set_cons_succ]
      generalize wS.alloc (Obj.cells #[Value.int IntKind.i64 t, Value.int IntKind.i64 n] 23) = wA at *
      refine wpAnyH_ready (rs := [0]) (by kernel_rfl) (by simp) ?_
      refine AllReadyH.cons (o := ⟨_, _, _, _, _, _⟩) rfl (fun K hK => ?_) AllReadyH.nil
      go_simp
      have HE : Hid (OwnL (wA.alloc (Obj.cells #[] 23)) w3.heap.size (.slice (some ⟨wA.heap.size, 0, none⟩) 0 0) []) := (own_emptyL wA).monoA (Nat.le_trans HWS.out (Nat.le_of_lt hW))
      have HS1b := Lib.hid (HS0.out.later (blAlloc (Below.refl _ _) (Obj.cells #[] 23)))
      refine hK.out _ _ (blAlloc hHeld _) (fun hHeldN => ?_)
      clear hK K
      clear hHeld
      have hHeld := hHeldN
      clear hHeldN
      try simp only [Act.put, List.setIfInBounds_toArray, List.set_cons_zero, List.set_cons_succ]
      refine wpAnyH_ready (rs := [4]) (by kernel_rfl) (by simp) ?_
      refine AllReadyH.cons (o := ⟨_, _, _, _, _, _⟩) rfl (fun K hK => ?_) AllReadyH.nil
      rw [if_pos (by rfl)]
      refine wp_append_st _ _ rfl w3.heap.size _ [] rfl HE.out (some ⟨b, o, none⟩) cap (l.take k) (by rw [HLK.out]; rfl) (HS1.out.later hHeld) HNA.out (by have := HLK.out; have := HLEN.out; simp only [List.length_nil]; omega) hHeld.size ?_
      intro v4 wC hown hgrow
      have HO4 : Hid (OwnL wC w3.heap.size v4 (l.take k)) := hown
      have HX : Hid (∀ c, (Value.slice (some ⟨wA.heap.size, 0, none⟩) 0 0).ownBlock = some c → wS.heap.size < c) := fun c h => (by simp only [Value.ownBlock, Option.some.injEq] at h; rw [← h]; exact hW)
      have HSs := Lib.hid (sl_grownA HS1b.out (fun b' o' h e => by
       simp only [Option.some.injEq, Addr.mk.injEq] at h
       exact Nat.lt_irrefl _ (Nat.lt_of_le_of_lt (Nat.le_of_eq h.1.symm) (HX.out _ e))) hgrow)
      refine hK.out _ _ (grown_below hHeld HE.out (Nat.le_refl _) hHeld.size hgrow) (fun hHeldN => ?_)
      clear hown hgrow hK K
      clear hHeld
      have hHeld := hHeldN
      clear hHeldN
      try simp only [Act.put, List.setIfInBounds_toArray, List.set_cons_zero, List.set_cons_succ]
      refine wpAnyH_ready (rs := [7]) (by kernel_rfl) (by simp) ?_
      refine AllReadyH.cons (o := ⟨_, _, _, _, _, _⟩) rfl (fun K hK => ?_) AllReadyH.nil
      rw [if_pos (by rfl)]
      refine wp_append_st _ _ rfl w3.heap.size _ (l.take k) rfl HO4.out (some ⟨wS.heap.size, 0, none⟩) 1 [(t, n)] rfl HSs.out (fun h => (by cases h)) (by have := HLK.out; have := HLEN.out; simp only [List.length_singleton]; omega) hHeld.size ?_
      intro v7 wD hown hgrow
      have HO7 := Lib.hid hown
      refine hK.out _ _ (grown_below hHeld HO4.out (Nat.le_refl _) hHeld.size hgrow) (fun hHeldN => ?_)
      clear hown hgrow
      clear hHeld
      have hHeld := hHeldN
      clear hHeldN
      clear hK K
      try simp only [Act.put, List.setIfInBounds_toArray, List.set_cons_zero, List.set_cons_succ]
      refine wpAnyH_ready (rs := [11]) (by kernel_rfl) (by simp) ?_
      refine AllReadyH.cons (o := ⟨_, _, _, _, _, _⟩) rfl (fun K hK => ?_) AllReadyH.nil
      rw [if_pos (by rfl)]
      refine wp_append_st _ _ rfl w3.heap.size _ (l.take k ++ [(t, n)]) rfl HO7.out (some ⟨b, o + k * 2, none⟩) (cap - k) (l.drop k) (by rw [HLD.out]; rfl) (HS2.out.later hHeld) (fun h => (by cases h)) (by have := HLK.out; have := HLD.out; have := HLEN.out; rw [List.length_append, List.length_singleton]; omega) hHeld.size ?_
      intro v11 wE hown hgrow
      have HO11 : Hid (OwnL wE w3.heap.size v11 (l.take k ++ ([(t, n)] ++ l.drop k))) := by
       show OwnL _ _ _ _
       rw [← List.append_assoc]
       exact hown
      refine hK.out _ _ (grown_below hHeld HO7.out (Nat.le_refl _) hHeld.size hgrow) (fun hHeldN => ?_)
      clear hown hgrow
      clear hHeld
      have hHeld := hHeldN
      clear hHeldN
      clear hK K
      try simp only [Act.put, List.setIfInBounds_toArray, List.set_cons_zero, List.set_cons_succ]
      refine wpAnyH_take (i := 12) (oi := ⟨_, _, _, _, _, _⟩) (v := ?v12x20) rfl (by kernel_rfl) (by kernel_rfl) (by kernel_rfl) (fun _ _ _ h => h) (Or.inl ⟨by rfl, ?hy12x20⟩) hHeld ?rest12x20
      case hy12x20 => (intro w' hSw; go_simp; try with_reducible rfl)
      try simp only [Act.put, List.setIfInBounds_toArray, List.set_cons_zero, List.set_cons_succ]
      refine wpAnyH_done (by kernel_rfl) ?_ _
      go_wp2
      go_ret
      exact reta_own HADD2.out HO11.out HB5.out.size (blThen HB5.out hHeld)
   ·have HLT := Lib.hid hcx
    clear hcx
    go_wp2_with fail
    refine region_aft (by kernel_rfl) (by kernel_rfl) ?_
    repeat (go_big_quiet_step (first | (go_at_call 32; exact aft_grown ((less_any _ _ _ _ _).mono fun e w' h => by rw [HLT.out] at h; exact h))))
    refine wpQuiet_nil ?_
    rintro w2 ⟨z, rfl⟩
    go_wp2
    go_roundw
    case rel => exact ⟨k + 1, hlt, by go_num, HB.out.trans (z.h.mono HB.out.size), fun j u hj hu => by
     rcases Nat.lt_or_ge j k with h | h
     ·exact HPRE.out j u h hu
     ·obtain rfl : j = k := by omega
      rw [HXY.out] at hu
      simp only [Option.some.injEq] at hu
      rw [← hu]
      exact HLT.out⟩
    case measure => simp [RowKit.intOf]; omega
  ·have hge : ¬ (k : Int) < (l.length : Int) := by omega
   have hdec : decide ((k : Int) < (l.length : Int)) = false := by simpa using hge
   go_wp2_with fail
   refine region_aft (by kernel_rfl) (by kernel_rfl) ?_
   repeat (go_big_quiet_step (fail))
   refine wpQuiet_nil ?_
   rintro w2 ⟨z, rfl⟩
   have z0 := z.h
   generalize z.x = w2 at z0 ⊢
   clear z
   go_wp2_with fail
   refine region_aft (by kernel_rfl) (by kernel_rfl) ?_
   repeat (go_big_quiet_step (fail))
   refine wpQuiet_nil ?_
   rintro w3 ⟨z, rfl⟩
   have z3 := z.h
   generalize z.x = w3 at z3 ⊢
   clear z
   have HB4 := Lib.hid ((HB.out.trans (z0.mono HB.out.size)).trans (z3.mono (Nat.le_trans HB.out.size z0.size)))
   have HB5 := Lib.hid (blThen (blThen HBW.out z0) z3)
   have HN5 := HN.out.later HB4.out hS
   have HQ0 := Lib.hid HN5.c0
   have HQ1 := Lib.hid HN5.c1
   have HLT := Lib.hid HN5.lt
   have HSL := Lib.hid (HL.out.later HB5.out)
   have HLK : Hid ((l.take k).length = k) := by show _ = k; simp; omega
   have HADD2 : Hid (addL l (t, n) = l.take k ++ ([(t, n)] ++ l.drop k)) := by
    show addL l (t, n) = _
    rw [addL_at (t, n) l k HPRE.out (fun y hy => absurd (List.getElem?_eq_some_iff.1 hy).1 hlt) hk, if_neg]
    rw [List.getElem?_eq_none (by omega)]
    simp
   have hkc : (k : Int) ≤ (cap : Int) := by have := HCC.out; omega
   have hkl : (k : Int) ≤ (l.length : Int) := by omega
   have HDR : Hid (l.drop k = []) := List.drop_eq_nil_of_le (by omega)
   have HLD : Hid ((l.drop k).length = l.length - k) := by show _ = _; simp
   clear HN5 z3 z0 hc0 hc1
   cases a with
   | none =>
    obtain rfl : l = [] := by
     apply Classical.byContradiction
     intro hne
     obtain ⟨_, _, h, _⟩ := HL.out hne
     cases h
    obtain rfl : k = 0 := by simpa using hk
    obtain rfl : cap = 0 := HNN.out rfl
    have HS1 : Hid (SL w3 none (([] : List (Int × Int)).take 0)) := SL.nil_ok _ _
    have HS2 : Hid (SL w3 none (([] : List (Int × Int)).drop 0)) := SL.nil_ok _ _
    go_wp2_with fail
    refine wp_region_held_drew (S := fun w' => Below w3.heap.size w3 w') (by kernel_rfl) ⟨rfl, rfl, rfl, Nat.le_refl _, fun _ _ => rfl⟩ (fun hHeld => ?_)
    have HWS : Hid (w3.heap.size ≤ w3.drew.heap.size) := Nat.le_refl _
    generalize w3.drew = wS at *
    refine wpAnyH_take (i := 1) (oi := ⟨_, _, _, _, _, _⟩) (v := ?v1x21) rfl (by kernel_rfl) (by kernel_rfl) (by kernel_rfl) (fun _ _ _ h => h) (Or.inl ⟨by rfl, ?hy1x21⟩) hHeld ?rest1x21
    case hy1x21 => (intro w' hSw; go_simp; try with_reducible rfl)
    try simp only [Act.put, List.setIfInBounds_toArray, List.set_cons_zero, List.set_cons_succ]
    refine wpAnyH_take (i := 2) (oi := ⟨_, _, _, _, _, _⟩) (v := ?v2x22) rfl (by kernel_rfl) (by kernel_rfl) (by kernel_rfl) (fun _ _ _ h => h) (Or.inl ⟨by rfl, ?hy2x22⟩) hHeld ?rest2x22
    case hy2x22 => (intro w' hSw; go_simp; try with_reducible rfl)
    try simp only [Act.put, List.setIfInBounds_toArray, List.set_cons_zero, List.set_cons_succ]
    refine wpAnyH_take (i := 3) (oi := ⟨_, _, _, _, _, _⟩) (v := ?v3x23) rfl (by kernel_rfl) (by kernel_rfl) (by kernel_rfl) (fun _ _ _ h => h) (Or.inl ⟨by rfl, ?hy3x23⟩) hHeld ?rest3x23
    case hy3x23 => (intro w' hSw; go_simp; try with_reducible rfl)
    try simp only [Act.put, List.setIfInBounds_toArray, List.set_cons_zero, List.set_cons_succ]
    refine wpAnyH_take (i := 5) (oi := ⟨_, _, _, _, _, _⟩) (v := ?v5x24) rfl (by kernel_rfl) (by kernel_rfl) (by kernel_rfl) (fun _ _ _ h => h) (Or.inl ⟨by rfl, ?hy5x24⟩) hHeld ?rest5x24
    case hy5x24 => (intro w' hSw; have s0 := cell_in hSw HLT.out HQ0.out; have s1 := cell_in hSw HLT.out HQ1.out; go_simp; try with_reducible rfl)
    try simp only [Act.put, List.setIfInBounds_toArray, List.set_cons_zero, List.set_cons_succ]
    refine wpAnyH_take (i := 8) (oi := ⟨_, _, _, _, _, _⟩) (v := ?v8x25) rfl (by kernel_rfl) (by kernel_rfl) (by kernel_rfl) (fun _ _ _ h => h) (Or.inl ⟨by rfl, ?hy8x25⟩) hHeld ?rest8x25
    case hy8x25 => (intro w' hSw; go_simp; try with_reducible rfl)
    try simp only [Act.put, List.setIfInBounds_toArray, List.set_cons_zero, List.set_cons_succ]
    refine wpAnyH_take (i := 9) (oi := ⟨_, _, _, _, _, _⟩) (v := ?v9x26) rfl (by kernel_rfl) (by kernel_rfl) (by kernel_rfl) (fun _ _ _ h => h) (Or.inl ⟨by rfl, ?hy9x26⟩) hHeld ?rest9x26
    case hy9x26 => (intro w' hSw; go_simp; try with_reducible rfl)
    try simp only [Act.put, List.setIfInBounds_toArray, List.set_cons_zero, List.set_cons_succ]
    refine wpAnyH_take (i := 10) (oi := ⟨_, _, _, _, _, _⟩) (v := ?v10x27) rfl (by kernel_rfl) (by kernel_rfl) (by kernel_rfl) (fun _ _ _ h => h) (Or.inl ⟨by rfl, ?hy10x27⟩) hHeld ?rest10x27
    case hy10x27 => (intro w' hSw; go_simp; try with_reducible rfl)
    try simp only [Act.put, List.setIfInBounds_toArray, List.set_cons_zero, List.set_cons_succ]
    refine wpAnyH_ready (rs := [0, 6]) (by kernel_rfl) (by simp) ?_
    refine AllReadyH.cons (o := ⟨_, _, _, _, _, _⟩) rfl (fun K hK => ?_) (AllReadyH.cons (o := ⟨_, _, _, _, _, _⟩) rfl (fun K hK => ?_) AllReadyH.nil)
    ·go_simp
     have HE : Hid (OwnL (wS.alloc (Obj.cells #[] 23)) w3.heap.size (.slice (some ⟨wS.heap.size, 0, none⟩) 0 0) []) := (own_emptyL wS).monoA HWS.out
     refine hK.out _ _ (blAlloc hHeld _) (fun hHeldN => ?_)
     clear hK K
     clear hHeld
     have hHeld := hHeldN
     clear hHeldN
     try simp only [Act.put, List.setIfInBounds_toArray, List.set_cons_zero, List.set_cons_succ]
     generalize wS.alloc (Obj.cells #[] 23) = wA at *
     refine wpAnyH_ready (rs := [4, 6]) (by kernel_rfl) (by simp) ?_
     refine AllReadyH.cons (o := ⟨_, _, _, _, _, _⟩) rfl (fun K hK => ?_) (AllReadyH.cons (o := ⟨_, _, _, _, _, _⟩) rfl (fun K hK => ?_) AllReadyH.nil)
     ·rw [if_pos (by rfl)]
      refine wp_append_st _ _ rfl w3.heap.size _ [] rfl HE.out none 0 (([] : List (Int × Int)).take 0) (by rw [HLK.out]; rfl) (HS1.out.later hHeld) (fun _ => rfl) (by have := HLK.out; have := HLEN.out; simp only [List.length_nil]; omega) hHeld.size ?_
      intro v4 wC hown hgrow
      have HO4 : Hid (OwnL wC w3.heap.size v4 (([] : List (Int × Int)).take 0)) := hown
      refine hK.out _ _ (grown_below hHeld HE.out (Nat.le_refl _) hHeld.size hgrow) (fun hHeldN => ?_)
      clear hown hgrow hK K
      clear hHeld
      have hHeld := hHeldN
      clear hHeldN
      try simp only [Act.put, List.setIfInBounds_toArray, List.set_cons_zero, List.set_cons_succ]
      refine wpAnyH_ready (rs := [6]) (by kernel_rfl) (by simp) ?_
      refine AllReadyH.cons (o := ⟨_, _, _, _, _, _⟩) rfl (fun K hK => ?_) AllReadyH.nil
      go_simp
      have HSs := Lib.hid (one_sl _ t n _ (own2_new wC t n))
      have HO4b := Lib.hid (HO4.out.later (blAlloc (Below.refl _ _) (Obj.cells #[Value.int IntKind.i64 t, Value.int IntKind.i64 n] 23)))
      refine hK.out _ _ (blAlloc hHeld _) (fun hHeldN => ?_)
      clear hK K HO4
      have HO4 := HO4b
      clear HO4b
      clear hHeld
      have hHeld := hHeldN
      clear hHeldN
      try simp only [Act.put, List.setIfInBounds_toArray, List.set_cons_zero, List.set_cons_succ]
      refine wpAnyH_ready (rs := [7]) (by kernel_rfl) (by simp) ?_
      refine AllReadyH.cons (o := ⟨_, _, _, _, _, _⟩) rfl (fun K hK => ?_) AllReadyH.nil
      rw [if_pos (by rfl)]
      refine wp_append_st _ _ rfl w3.heap.size _ (([] : List (Int × Int)).take 0) rfl HO4.out (some ⟨wC.heap.size, 0, none⟩) 1 [(t, n)] rfl HSs.out (fun h => (by cases h)) (by have := HLK.out; have := HLEN.out; simp only [List.length_singleton]; omega) hHeld.size ?_
      intro v7 wD hown hgrow
      have HO7 := Lib.hid hown
      refine hK.out _ _ (grown_below hHeld HO4.out (Nat.le_refl _) hHeld.size hgrow) (fun hHeldN => ?_)
      clear hown hgrow
      clear hHeld
      have hHeld := hHeldN
      clear hHeldN
      clear hK K
      try simp only [Act.put, List.setIfInBounds_toArray, List.set_cons_zero, List.set_cons_succ]
      refine wpAnyH_ready (rs := [11]) (by kernel_rfl) (by simp) ?_
      refine AllReadyH.cons (o := ⟨_, _, _, _, _, _⟩) rfl (fun K hK => ?_) AllReadyH.nil
      rw [if_pos (by rfl)]
      refine wp_append_st _ _ rfl w3.heap.size _ (([] : List (Int × Int)).take 0 ++ [(t, n)]) rfl HO7.out none 0 (([] : List (Int × Int)).drop 0) (by rw [HLD.out]; rfl) (HS2.out.later hHeld) (fun _ => rfl) (by have := HLK.out; have := HLD.out; have := HLEN.out; rw [List.length_append, List.length_singleton]; omega) hHeld.size ?_
      intro v11 wE hown hgrow
      have HO11 : Hid (OwnL wE w3.heap.size v11 (([] : List (Int × Int)).take 0 ++ ([(t, n)] ++ ([] : List (Int × Int)).drop 0))) := by
       show OwnL _ _ _ _
       rw [← List.append_assoc]
       exact hown
      refine hK.out _ _ (grown_below hHeld HO7.out (Nat.le_refl _) hHeld.size hgrow) (fun hHeldN => ?_)
      clear hown hgrow
      clear hHeld
      have hHeld := hHeldN
      clear hHeldN
      clear hK K
      try simp only [Act.put, List.setIfInBounds_toArray, List.set_cons_zero, List.set_cons_succ]
      refine wpAnyH_take (i := 12) (oi := ⟨_, _, _, _, _, _⟩) (v := ?v12x28) rfl (by kernel_rfl) (by kernel_rfl) (by kernel_rfl) (fun _ _ _ h => h) (Or.inl ⟨by rfl, ?hy12x28⟩) hHeld ?rest12x28
      case hy12x28 => (intro w' hSw; go_simp; try with_reducible rfl)
      try simp only [Act.put, List.setIfInBounds_toArray, List.set_cons_zero, List.set_cons_succ]
      refine wpAnyH_done (by kernel_rfl) ?_ _
      go_wp2
      go_ret
      exact reta_own HADD2.out HO11.out HB5.out.size (blThen HB5.out hHeld)
     ·go_simp
      have HS0 := Lib.hid (one_sl _ t n _ (own2_new wA t n))
      have HE2 := Lib.hid (HE.out.later (blAlloc (Below.refl _ _) (Obj.cells #[Value.int IntKind.i64 t, Value.int IntKind.i64 n] 23)))
      have HX : Hid (∀ c, (Value.slice (some ⟨wS.heap.size, 0, none⟩) 0 0).ownBlock = some c → c < wA.heap.size) := fun c h => (by simp only [Value.ownBlock, Option.some.injEq] at h; rw [← h]; exact ownlt HE.out)
      refine hK.out _ _ (blAlloc hHeld _) (fun hHeldN => ?_)
      clear hK K
      clear hHeld
      have hHeld := hHeldN
      clear hHeldN
      try simp only [Act.put, List.setIfInBounds_toArray, List.set_cons_zero, List.set_cons_succ]
      refine wpAnyH_ready (rs := [4]) (by kernel_rfl) (by simp) ?_
      refine AllReadyH.cons (o := ⟨_, _, _, _, _, _⟩) rfl (fun K hK => ?_) AllReadyH.nil
      rw [if_pos (by rfl)]
      refine wp_append_st _ _ rfl w3.heap.size _ [] rfl HE2.out none 0 (([] : List (Int × Int)).take 0) (by rw [HLK.out]; rfl) (HS1.out.later hHeld) (fun _ => rfl) (by have := HLK.out; have := HLEN.out; simp only [List.length_nil]; omega) hHeld.size ?_
      intro v4 wC hown hgrow
      have HO4 : Hid (OwnL wC w3.heap.size v4 (([] : List (Int × Int)).take 0)) := hown
      have HSs := Lib.hid (sl_grownA HS0.out (fun b' o' h e => by
       simp only [Option.some.injEq, Addr.mk.injEq] at h
       exact Nat.lt_irrefl _ (Nat.lt_of_lt_of_le (HX.out _ e) (Nat.le_of_eq h.1))) hgrow)
      refine hK.out _ _ (grown_below hHeld HE2.out (Nat.le_refl _) hHeld.size hgrow) (fun hHeldN => ?_)
      clear hown hgrow hK K
      clear hHeld
      have hHeld := hHeldN
      clear hHeldN
      try simp only [Act.put, List.setIfInBounds_toArray, List.set_cons_zero, List.set_cons_succ]
      refine wpAnyH_ready (rs := [7]) (by kernel_rfl) (by simp) ?_
      refine AllReadyH.cons (o := ⟨_, _, _, _, _, _⟩) rfl (fun K hK => ?_) AllReadyH.nil
      rw [if_pos (by rfl)]
      refine wp_append_st _ _ rfl w3.heap.size _ (([] : List (Int × Int)).take 0) rfl HO4.out (some ⟨wA.heap.size, 0, none⟩) 1 [(t, n)] rfl HSs.out (fun h => (by cases h)) (by have := HLK.out; have := HLEN.out; simp only [List.length_singleton]; omega) hHeld.size ?_
      intro v7 wD hown hgrow
      have HO7 := Lib.hid hown
      refine hK.out _ _ (grown_below hHeld HO4.out (Nat.le_refl _) hHeld.size hgrow) (fun hHeldN => ?_)
      clear hown hgrow
      clear hHeld
      have hHeld := hHeldN
      clear hHeldN
      clear hK K
      try simp only [Act.put, List.setIfInBounds_toArray, List.set_cons_zero, List.set_cons_succ]
      refine wpAnyH_ready (rs := [11]) (by kernel_rfl) (by simp) ?_
      refine AllReadyH.cons (o := ⟨_, _, _, _, _, _⟩) rfl (fun K hK => ?_) AllReadyH.nil
      rw [if_pos (by rfl)]
      refine wp_append_st _ _ rfl w3.heap.size _ (([] : List (Int × Int)).take 0 ++ [(t, n)]) rfl HO7.out none 0 (([] : List (Int × Int)).drop 0) (by rw [HLD.out]; rfl) (HS2.out.later hHeld) (fun _ => rfl) (by have := HLK.out; have := HLD.out; have := HLEN.out; rw [List.length_append, List.length_singleton]; omega) hHeld.size ?_
      intro v11 wE hown hgrow
      have HO11 : Hid (OwnL wE w3.heap.size v11 (([] : List (Int × Int)).take 0 ++ ([(t, n)] ++ ([] : List (Int × Int)).drop 0))) := by
       show OwnL _ _ _ _
       rw [← List.append_assoc]
       exact hown
      refine hK.out _ _ (grown_below hHeld HO7.out (Nat.le_refl _) hHeld.size hgrow) (fun hHeldN => ?_)
      clear hown hgrow
      clear hHeld
      have hHeld := hHeldN
      clear hHeldN
      clear hK K
      try simp only [Act.put, List.setIfInBounds_toArray, List.set_cons_zero, List.set_cons_succ]
      refine wpAnyH_take (i := 12) (oi := ⟨_, _, _, _, _, _⟩) (v := ?v12x29) rfl (by kernel_rfl) (by kernel_rfl) (by kernel_rfl) (fun _ _ _ h => h) (Or.inl ⟨by rfl, ?hy12x29⟩) hHeld ?rest12x29
      case hy12x29 => (intro w' hSw; go_simp; try with_reducible rfl)
      try simp only [Act.put, List.setIfInBounds_toArray, List.set_cons_zero, List.set_cons_succ]
      refine wpAnyH_done (by kernel_rfl) ?_ _
      go_wp2
      go_ret
      exact reta_own HADD2.out HO11.out HB5.out.size (blThen HB5.out hHeld)
    ·go_simp
     have HS0 : Hid (SL (wS.alloc (Obj.cells #[Value.int IntKind.i64 t, Value.int IntKind.i64 n] 23)) (some ⟨wS.heap.size, 0, none⟩) [(t, n)]) := one_sl _ t n _ (own2_new wS t n)
     have hW : wS.heap.size < (wS.alloc (Obj.cells #[Value.int IntKind.i64 t, Value.int IntKind.i64 n] 23)).heap.size := by simp
     refine hK.out _ _ (blAlloc hHeld _) (fun hHeldN => ?_)
     clear hK K
     clear hHeld
     have hHeld := hHeldN
     clear hHeldN
     try simp only [Act.put, List.setIfInBounds_toArray, List.set_cons_zero, List.set_cons_succ]
     generalize wS.alloc (Obj.cells #[Value.int IntKind.i64 t, Value.int IntKind.i64 n] 23) = wA at *
     refine wpAnyH_ready (rs := [0]) (by kernel_rfl) (by simp) ?_
     refine AllReadyH.cons (o := ⟨_, _, _, _, _, _⟩) rfl (fun K hK => ?_) AllReadyH.nil
     go_simp
     have HE : Hid (OwnL (wA.alloc (Obj.cells #[] 23)) w3.heap.size (.slice (some ⟨wA.heap.size, 0, none⟩) 0 0) []) := (own_emptyL wA).monoA (Nat.le_trans HWS.out (Nat.le_of_lt hW))
     have HS1b := Lib.hid (HS0.out.later (blAlloc (Below.refl _ _) (Obj.cells #[] 23)))
     refine hK.out _ _ (blAlloc hHeld _) (fun hHeldN => ?_)
     clear hK K
     clear hHeld
     have hHeld := hHeldN
     clear hHeldN
     try simp only [Act.put, List.setIfInBounds_toArray, List.set_cons_zero, List.set_cons_succ]
     refine wpAnyH_ready (rs := [4]) (by kernel_rfl) (by simp) ?_
     refine AllReadyH.cons (o := ⟨_, _, _, _, _, _⟩) rfl (fun K hK => ?_) AllReadyH.nil
     rw [if_pos (by rfl)]
     refine wp_append_st _ _ rfl w3.heap.size _ [] rfl HE.out none 0 (([] : List (Int × Int)).take 0) (by rw [HLK.out]; rfl) (HS1.out.later hHeld) (fun _ => rfl) (by have := HLK.out; have := HLEN.out; simp only [List.length_nil]; omega) hHeld.size ?_
     intro v4 wC hown hgrow
     have HO4 : Hid (OwnL wC w3.heap.size v4 (([] : List (Int × Int)).take 0)) := hown
     have HX : Hid (∀ c, (Value.slice (some ⟨wA.heap.size, 0, none⟩) 0 0).ownBlock = some c → wS.heap.size < c) := fun c h => (by simp only [Value.ownBlock, Option.some.injEq] at h; rw [← h]; exact hW)
     have HSs := Lib.hid (sl_grownA HS1b.out (fun b' o' h e => by
      simp only [Option.some.injEq, Addr.mk.injEq] at h
      exact Nat.lt_irrefl _ (Nat.lt_of_le_of_lt (Nat.le_of_eq h.1.symm) (HX.out _ e))) hgrow)
     refine hK.out _ _ (grown_below hHeld HE.out (Nat.le_refl _) hHeld.size hgrow) (fun hHeldN => ?_)
     clear hown hgrow hK K
     clear hHeld
     have hHeld := hHeldN
     clear hHeldN
     try simp only [Act.put, List.setIfInBounds_toArray, List.set_cons_zero, List.set_cons_succ]
     refine wpAnyH_ready (rs := [7]) (by kernel_rfl) (by simp) ?_
     refine AllReadyH.cons (o := ⟨_, _, _, _, _, _⟩) rfl (fun K hK => ?_) AllReadyH.nil
     rw [if_pos (by rfl)]
     refine wp_append_st _ _ rfl w3.heap.size _ (([] : List (Int × Int)).take 0) rfl HO4.out (some ⟨wS.heap.size, 0, none⟩) 1 [(t, n)] rfl HSs.out (fun h => (by cases h)) (by have := HLK.out; have := HLEN.out; simp only [List.length_singleton]; omega) hHeld.size ?_
     intro v7 wD hown hgrow
     have HO7 := Lib.hid hown
     refine hK.out _ _ (grown_below hHeld HO4.out (Nat.le_refl _) hHeld.size hgrow) (fun hHeldN => ?_)
     clear hown hgrow
     clear hHeld
     have hHeld := hHeldN
     clear hHeldN
     clear hK K
     try simp only [Act.put, List.setIfInBounds_toArray, List.set_cons_zero, List.set_cons_succ]
     refine wpAnyH_ready (rs := [11]) (by kernel_rfl) (by simp) ?_
     refine AllReadyH.cons (o := ⟨_, _, _, _, _, _⟩) rfl (fun K hK => ?_) AllReadyH.nil
     rw [if_pos (by rfl)]
     refine wp_append_st _ _ rfl w3.heap.size _ (([] : List (Int × Int)).take 0 ++ [(t, n)]) rfl HO7.out none 0 (([] : List (Int × Int)).drop 0) (by rw [HLD.out]; rfl) (HS2.out.later hHeld) (fun _ => rfl) (by have := HLK.out; have := HLD.out; have := HLEN.out; rw [List.length_append, List.length_singleton]; omega) hHeld.size ?_
     intro v11 wE hown hgrow
     have HO11 : Hid (OwnL wE w3.heap.size v11 (([] : List (Int × Int)).take 0 ++ ([(t, n)] ++ ([] : List (Int × Int)).drop 0))) := by
      show OwnL _ _ _ _
      rw [← List.append_assoc]
      exact hown
     refine hK.out _ _ (grown_below hHeld HO7.out (Nat.le_refl _) hHeld.size hgrow) (fun hHeldN => ?_)
     clear hown hgrow
     clear hHeld
     have hHeld := hHeldN
     clear hHeldN
     clear hK K
     try simp only [Act.put, List.setIfInBounds_toArray, List.set_cons_zero, List.set_cons_succ]
     refine wpAnyH_take (i := 12) (oi := ⟨_, _, _, _, _, _⟩) (v := ?v12x30) rfl (by kernel_rfl) (by kernel_rfl) (by kernel_rfl) (fun _ _ _ h => h) (Or.inl ⟨by rfl, ?hy12x30⟩) hHeld ?rest12x30
     case hy12x30 => (intro w' hSw; go_simp; try with_reducible rfl)
     try simp only [Act.put, List.setIfInBounds_toArray, List.set_cons_zero, List.set_cons_succ]
     refine wpAnyH_done (by kernel_rfl) ?_ _
     go_wp2
     go_ret
     exact reta_own HADD2.out HO11.out HB5.out.size (blThen HB5.out hHeld)
   | some ad =>
    have HNA := HNN
    have HS1 := Lib.hid (sl_take HSL.out k)
    by_cases hck : cap = k
    ·have HS2 : Hid (SL w3 (some ad) (l.drop k)) := by rw [HDR.out]; exact SL.nil_ok _ _
     subst hck
     go_wp2_with fail
     refine wp_region_held_drew (S := fun w' => Below w3.heap.size w3 w') (by kernel_rfl) ⟨rfl, rfl, rfl, Nat.le_refl _, fun _ _ => rfl⟩ (fun hHeld => ?_)
     have HWS : Hid (w3.heap.size ≤ w3.drew.heap.size) := Nat.le_refl _
     generalize w3.drew = wS at *
     refine wpAnyH_take (i := 1) (oi := ⟨_, _, _, _, _, _⟩) (v := ?v1x31) rfl (by kernel_rfl) (by kernel_rfl) (by kernel_rfl) (fun _ _ _ h => h) (Or.inl ⟨by rfl, ?hy1x31⟩) hHeld ?rest1x31
     case hy1x31 => (intro w' hSw; go_simp; try with_reducible rfl)
     try simp only [Act.put, List.setIfInBounds_toArray, List.set_cons_zero, List.set_cons_succ]
     refine wpAnyH_take (i := 2) (oi := ⟨_, _, _, _, _, _⟩) (v := ?v2x32) rfl (by kernel_rfl) (by kernel_rfl) (by kernel_rfl) (fun _ _ _ h => h) (Or.inl ⟨by rfl, ?hy2x32⟩) hHeld ?rest2x32
     case hy2x32 => (intro w' hSw; go_simp; try with_reducible rfl)
     try simp only [Act.put, List.setIfInBounds_toArray, List.set_cons_zero, List.set_cons_succ]
     refine wpAnyH_take (i := 3) (oi := ⟨_, _, _, _, _, _⟩) (v := ?v3x33) rfl (by kernel_rfl) (by kernel_rfl) (by kernel_rfl) (fun _ _ _ h => h) (Or.inl ⟨by rfl, ?hy3x33⟩) hHeld ?rest3x33
     case hy3x33 => (intro w' hSw; go_simp; try with_reducible rfl)
     try simp only [Act.put, List.setIfInBounds_toArray, List.set_cons_zero, List.set_cons_succ]
     refine wpAnyH_take (i := 5) (oi := ⟨_, _, _, _, _, _⟩) (v := ?v5x34) rfl (by kernel_rfl) (by kernel_rfl) (by kernel_rfl) (fun _ _ _ h => h) (Or.inl ⟨by rfl, ?hy5x34⟩) hHeld ?rest5x34
     case hy5x34 => (intro w' hSw; have s0 := cell_in hSw HLT.out HQ0.out; have s1 := cell_in hSw HLT.out HQ1.out; go_simp; try with_reducible rfl)
     try simp only [Act.put, List.setIfInBounds_toArray, List.set_cons_zero, List.set_cons_succ]
     refine wpAnyH_take (i := 8) (oi := ⟨_, _, _, _, _, _⟩) (v := ?v8x35) rfl (by kernel_rfl) (by kernel_rfl) (by kernel_rfl) (fun _ _ _ h => h) (Or.inl ⟨by rfl, ?hy8x35⟩) hHeld ?rest8x35
     case hy8x35 => (intro w' hSw; go_simp; try with_reducible rfl)
     try simp only [Act.put, List.setIfInBounds_toArray, List.set_cons_zero, List.set_cons_succ]
     refine wpAnyH_take (i := 9) (oi := ⟨_, _, _, _, _, _⟩) (v := ?v9x36) rfl (by kernel_rfl) (by kernel_rfl) (by kernel_rfl) (fun _ _ _ h => h) (Or.inl ⟨by rfl, ?hy9x36⟩) hHeld ?rest9x36
     case hy9x36 => (intro w' hSw; go_simp; try with_reducible rfl)
     try simp only [Act.put, List.setIfInBounds_toArray, List.set_cons_zero, List.set_cons_succ]
     refine wpAnyH_take (i := 10) (oi := ⟨_, _, _, _, _, _⟩) (v := ?v10x37) rfl (by kernel_rfl) (by kernel_rfl) (by kernel_rfl) (fun _ _ _ h => h) (Or.inl ⟨by rfl, ?hy10x37⟩) hHeld ?rest10x37
     case hy10x37 => (intro w' hSw; go_simp; try with_reducible rfl)
     try simp only [Act.put, List.setIfInBounds_toArray, List.set_cons_zero, List.set_cons_succ]
     refine wpAnyH_ready (rs := [0, 6]) (by kernel_rfl) (by simp) ?_
     refine AllReadyH.cons (o := ⟨_, _, _, _, _, _⟩) rfl (fun K hK => ?_) (AllReadyH.cons (o := ⟨_, _, _, _, _, _⟩) rfl (fun K hK => ?_) AllReadyH.nil)
     ·go_simp
      have HE : Hid (OwnL (wS.alloc (Obj.cells #[] 23)) w3.heap.size (.slice (some ⟨wS.heap.size, 0, none⟩) 0 0) []) := (own_emptyL wS).monoA HWS.out
      refine hK.out _ _ (blAlloc hHeld _) (fun hHeldN => ?_)
      clear hK K
      clear hHeld
      have hHeld := hHeldN
      clear hHeldN
      try simp only [Act.put, List.setIfInBounds_toArray, List.set_cons_zero, List.set_cons_succ]
      generalize wS.alloc (Obj.cells #[] 23) = wA at *
      refine wpAnyH_ready (rs := [4, 6]) (by kernel_rfl) (by simp) ?_
      refine AllReadyH.cons (o := ⟨_, _, _, _, _, _⟩) rfl (fun K hK => ?_) (AllReadyH.cons (o := ⟨_, _, _, _, _, _⟩) rfl (fun K hK => ?_) AllReadyH.nil)
      ·rw [if_pos (by rfl)]
       refine wp_append_st _ _ rfl w3.heap.size _ [] rfl HE.out (some ad) cap (l.take cap) (by rw [HLK.out]; rfl) (HS1.out.later hHeld) HNA.out (by have := HLK.out; have := HLEN.out; simp only [List.length_nil]; omega) hHeld.size ?_
       intro v4 wC hown hgrow
       have HO4 : Hid (OwnL wC w3.heap.size v4 (l.take cap)) := hown
       refine hK.out _ _ (grown_below hHeld HE.out (Nat.le_refl _) hHeld.size hgrow) (fun hHeldN => ?_)
       clear hown hgrow hK K
       clear hHeld
       have hHeld := hHeldN
       clear hHeldN
       try simp only [Act.put, List.setIfInBounds_toArray, List.set_cons_zero, List.set_cons_succ]
       refine wpAnyH_ready (rs := [6]) (by kernel_rfl) (by simp) ?_
       refine AllReadyH.cons (o := ⟨_, _, _, _, _, _⟩) rfl (fun K hK => ?_) AllReadyH.nil
       go_simp
       have HSs := Lib.hid (one_sl _ t n _ (own2_new wC t n))
       have HO4b := Lib.hid (HO4.out.later (blAlloc (Below.refl _ _) (Obj.cells #[Value.int IntKind.i64 t, Value.int IntKind.i64 n] 23)))
       refine hK.out _ _ (blAlloc hHeld _) (fun hHeldN => ?_)
       clear hK K HO4
       have HO4 := HO4b
       clear HO4b
       clear hHeld
       have hHeld := hHeldN
       clear hHeldN
       try simp only [Act.put, List.setIfInBounds_toArray, List.set_cons_zero, List.set_cons_succ]
       refine wpAnyH_ready (rs := [7]) (by kernel_rfl) (by simp) ?_
       refine AllReadyH.cons (o := ⟨_, _, _, _, _, _⟩) rfl (fun K hK => ?_) AllReadyH.nil
       rw [if_pos (by rfl)]
       refine wp_append_st _ _ rfl w3.heap.size _ (l.take cap) rfl HO4.out (some ⟨wC.heap.size, 0, none⟩) 1 [(t, n)] rfl HSs.out (fun h => (by cases h)) (by have := HLK.out; have := HLEN.out; simp only [List.length_singleton]; omega) hHeld.size ?_
       intro v7 wD hown hgrow
       have HO7 := Lib.hid hown
       refine hK.out _ _ (grown_below hHeld HO4.out (Nat.le_refl _) hHeld.size hgrow) (fun hHeldN => ?_)
       clear hown hgrow
       clear hHeld
       have hHeld := hHeldN
       clear hHeldN
       clear hK K
       try simp only [Act.put, List.setIfInBounds_toArray, List.set_cons_zero, List.set_cons_succ]
       refine wpAnyH_ready (rs := [11]) (by kernel_rfl) (by simp) ?_
       refine AllReadyH.cons (o := ⟨_, _, _, _, _, _⟩) rfl (fun K hK => ?_) AllReadyH.nil
       rw [if_pos (by rfl)]
       refine wp_append_st _ _ rfl w3.heap.size _ (l.take cap ++ [(t, n)]) rfl HO7.out (some ad) 0 (l.drop cap) (by rw [HLD.out]; rfl) (HS2.out.later hHeld) (fun h => (by cases h)) (by have := HLK.out; have := HLD.out; have := HLEN.out; rw [List.length_append, List.length_singleton]; omega) hHeld.size ?_
       intro v11 wE hown hgrow
       have HO11 : Hid (OwnL wE w3.heap.size v11 (l.take cap ++ ([(t, n)] ++ l.drop cap))) := by
        show OwnL _ _ _ _
        rw [← List.append_assoc]
        exact hown
       refine hK.out _ _ (grown_below hHeld HO7.out (Nat.le_refl _) hHeld.size hgrow) (fun hHeldN => ?_)
       clear hown hgrow
       clear hHeld
       have hHeld := hHeldN
       clear hHeldN
       clear hK K
       try simp only [Act.put, List.setIfInBounds_toArray, List.set_cons_zero, List.set_cons_succ]
       refine wpAnyH_take (i := 12) (oi := ⟨_, _, _, _, _, _⟩) (v := ?v12x38) rfl (by kernel_rfl) (by kernel_rfl) (by kernel_rfl) (fun _ _ _ h => h) (Or.inl ⟨by rfl, ?hy12x38⟩) hHeld ?rest12x38
       case hy12x38 => (intro w' hSw; go_simp; try with_reducible rfl)
       try simp only [Act.put, List.setIfInBounds_toArray, List.set_cons_zero, List.set_cons_succ]
       refine wpAnyH_done (by kernel_rfl) ?_ _
       go_wp2
       go_ret
       exact reta_own HADD2.out HO11.out HB5.out.size (blThen HB5.out hHeld)
      ·go_simp
       have HS0 := Lib.hid (one_sl _ t n _ (own2_new wA t n))
       have HE2 := Lib.hid (HE.out.later (blAlloc (Below.refl _ _) (Obj.cells #[Value.int IntKind.i64 t, Value.int IntKind.i64 n] 23)))
       have HX : Hid (∀ c, (Value.slice (some ⟨wS.heap.size, 0, none⟩) 0 0).ownBlock = some c → c < wA.heap.size) := fun c h => (by simp only [Value.ownBlock, Option.some.injEq] at h; rw [← h]; exact ownlt HE.out)
       refine hK.out _ _ (blAlloc hHeld _) (fun hHeldN => ?_)
       clear hK K
       clear hHeld
       have hHeld := hHeldN
       clear hHeldN
       try simp only [Act.put, List.setIfInBounds_toArray, List.set_cons_zero, List.set_cons_succ]
       refine wpAnyH_ready (rs := [4]) (by kernel_rfl) (by simp) ?_
       refine AllReadyH.cons (o := ⟨_, _, _, _, _, _⟩) rfl (fun K hK => ?_) AllReadyH.nil
       rw [if_pos (by rfl)]
       refine wp_append_st _ _ rfl w3.heap.size _ [] rfl HE2.out (some ad) cap (l.take cap) (by rw [HLK.out]; rfl) (HS1.out.later hHeld) HNA.out (by have := HLK.out; have := HLEN.out; simp only [List.length_nil]; omega) hHeld.size ?_
       intro v4 wC hown hgrow
       have HO4 : Hid (OwnL wC w3.heap.size v4 (l.take cap)) := hown
       have HSs := Lib.hid (sl_grownA HS0.out (fun b' o' h e => by
        simp only [Option.some.injEq, Addr.mk.injEq] at h
        exact Nat.lt_irrefl _ (Nat.lt_of_lt_of_le (HX.out _ e) (Nat.le_of_eq h.1))) hgrow)
       refine hK.out _ _ (grown_below hHeld HE2.out (Nat.le_refl _) hHeld.size hgrow) (fun hHeldN => ?_)
       clear hown hgrow hK K
       clear hHeld
       have hHeld := hHeldN
       clear hHeldN
       try simp only [Act.put, List.setIfInBounds_toArray, List.set_cons_zero, List.set_cons_succ]
       refine wpAnyH_ready (rs := [7]) (by kernel_rfl) (by simp) ?_
       refine AllReadyH.cons (o := ⟨_, _, _, _, _, _⟩) rfl (fun K hK => ?_) AllReadyH.nil
       rw [if_pos (by rfl)]
       refine wp_append_st _ _ rfl w3.heap.size _ (l.take cap) rfl HO4.out (some ⟨wA.heap.size, 0, none⟩) 1 [(t, n)] rfl HSs.out (fun h => (by cases h)) (by have := HLK.out; have := HLEN.out; simp only [List.length_singleton]; omega) hHeld.size ?_
       intro v7 wD hown hgrow
       have HO7 := Lib.hid hown
       refine hK.out _ _ (grown_below hHeld HO4.out (Nat.le_refl _) hHeld.size hgrow) (fun hHeldN => ?_)
       clear hown hgrow
       clear hHeld
       have hHeld := hHeldN
       clear hHeldN
       clear hK K
       try simp only [Act.put, List.setIfInBounds_toArray, List.set_cons_zero, List.set_cons_succ]
       refine wpAnyH_ready (rs := [11]) (by kernel_rfl) (by simp) ?_
       refine AllReadyH.cons (o := ⟨_, _, _, _, _, _⟩) rfl (fun K hK => ?_) AllReadyH.nil
       rw [if_pos (by rfl)]
       refine wp_append_st _ _ rfl w3.heap.size _ (l.take cap ++ [(t, n)]) rfl HO7.out (some ad) 0 (l.drop cap) (by rw [HLD.out]; rfl) (HS2.out.later hHeld) (fun h => (by cases h)) (by have := HLK.out; have := HLD.out; have := HLEN.out; rw [List.length_append, List.length_singleton]; omega) hHeld.size ?_
       intro v11 wE hown hgrow
       have HO11 : Hid (OwnL wE w3.heap.size v11 (l.take cap ++ ([(t, n)] ++ l.drop cap))) := by
        show OwnL _ _ _ _
        rw [← List.append_assoc]
        exact hown
       refine hK.out _ _ (grown_below hHeld HO7.out (Nat.le_refl _) hHeld.size hgrow) (fun hHeldN => ?_)
       clear hown hgrow
       clear hHeld
       have hHeld := hHeldN
       clear hHeldN
       clear hK K
       try simp only [Act.put, List.setIfInBounds_toArray, List.set_cons_zero, List.set_cons_succ]
       refine wpAnyH_take (i := 12) (oi := ⟨_, _, _, _, _, _⟩) (v := ?v12x39) rfl (by kernel_rfl) (by kernel_rfl) (by kernel_rfl) (fun _ _ _ h => h) (Or.inl ⟨by rfl, ?hy12x39⟩) hHeld ?rest12x39
       case hy12x39 => (intro w' hSw; go_simp; try with_reducible rfl)
       try simp only [Act.put, List.setIfInBounds_toArray, List.set_cons_zero, List.set_cons_succ]
       refine wpAnyH_done (by kernel_rfl) ?_ _
       go_wp2
       go_ret
       exact reta_own HADD2.out HO11.out HB5.out.size (blThen HB5.out hHeld)
     ·go_simp
      have HS0 : Hid (SL (wS.alloc (Obj.cells #[Value.int IntKind.i64 t, Value.int IntKind.i64 n] 23)) (some ⟨wS.heap.size, 0, none⟩) [(t, n)]) := one_sl _ t n _ (own2_new wS t n)
      have hW : wS.heap.size < (wS.alloc (Obj.cells #[Value.int IntKind.i64 t, Value.int IntKind.i64 n] 23)).heap.size := by simp
      refine hK.out _ _ (blAlloc hHeld _) (fun hHeldN => ?_)
      clear hK K
      clear hHeld
      have hHeld := hHeldN
      clear hHeldN
      try simp only [Act.put, List.setIfInBounds_toArray, List.set_cons_zero, List.set_cons_succ]
      generalize wS.alloc (Obj.cells #[Value.int IntKind.i64 t, Value.int IntKind.i64 n] 23) = wA at *
      refine wpAnyH_ready (rs := [0]) (by kernel_rfl) (by simp) ?_
      refine AllReadyH.cons (o := ⟨_, _, _, _, _, _⟩) rfl (fun K hK => ?_) AllReadyH.nil
      go_simp
      have HE : Hid (OwnL (wA.alloc (Obj.cells #[] 23)) w3.heap.size (.slice (some ⟨wA.heap.size, 0, none⟩) 0 0) []) := (own_emptyL wA).monoA (Nat.le_trans HWS.out (Nat.le_of_lt hW))
      have HS1b := Lib.hid (HS0.out.later (blAlloc (Below.refl _ _) (Obj.cells #[] 23)))
      refine hK.out _ _ (blAlloc hHeld _) (fun hHeldN => ?_)
      clear hK K
      clear hHeld
      have hHeld := hHeldN
      clear hHeldN
      try simp only [Act.put, List.setIfInBounds_toArray, List.set_cons_zero, List.set_cons_succ]
      refine wpAnyH_ready (rs := [4]) (by kernel_rfl) (by simp) ?_
      refine AllReadyH.cons (o := ⟨_, _, _, _, _, _⟩) rfl (fun K hK => ?_) AllReadyH.nil
      rw [if_pos (by rfl)]
      refine wp_append_st _ _ rfl w3.heap.size _ [] rfl HE.out (some ad) cap (l.take cap) (by rw [HLK.out]; rfl) (HS1.out.later hHeld) HNA.out (by have := HLK.out; have := HLEN.out; simp only [List.length_nil]; omega) hHeld.size ?_
      intro v4 wC hown hgrow
      have HO4 : Hid (OwnL wC w3.heap.size v4 (l.take cap)) := hown
      have HX : Hid (∀ c, (Value.slice (some ⟨wA.heap.size, 0, none⟩) 0 0).ownBlock = some c → wS.heap.size < c) := fun c h => (by simp only [Value.ownBlock, Option.some.injEq] at h; rw [← h]; exact hW)
      have HSs := Lib.hid (sl_grownA HS1b.out (fun b' o' h e => by
       simp only [Option.some.injEq, Addr.mk.injEq] at h
       exact Nat.lt_irrefl _ (Nat.lt_of_le_of_lt (Nat.le_of_eq h.1.symm) (HX.out _ e))) hgrow)
      refine hK.out _ _ (grown_below hHeld HE.out (Nat.le_refl _) hHeld.size hgrow) (fun hHeldN => ?_)
      clear hown hgrow hK K
      clear hHeld
      have hHeld := hHeldN
      clear hHeldN
      try simp only [Act.put, List.setIfInBounds_toArray, List.set_cons_zero, List.set_cons_succ]
      refine wpAnyH_ready (rs := [7]) (by kernel_rfl) (by simp) ?_
      refine AllReadyH.cons (o := ⟨_, _, _, _, _, _⟩) rfl (fun K hK => ?_) AllReadyH.nil
      rw [if_pos (by rfl)]
      refine wp_append_st _ _ rfl w3.heap.size _ (l.take cap) rfl HO4.out (some ⟨wS.heap.size, 0, none⟩) 1 [(t, n)] rfl HSs.out (fun h => (by cases h)) (by have := HLK.out; have := HLEN.out; simp only [List.length_singleton]; omega) hHeld.size ?_
      intro v7 wD hown hgrow
      have HO7 := Lib.hid hown
      refine hK.out _ _ (grown_below hHeld HO4.out (Nat.le_refl _) hHeld.size hgrow) (fun hHeldN => ?_)
      clear hown hgrow
      clear hHeld
      have hHeld := hHeldN
      clear hHeldN
      clear hK K
      try simp only [Act.put, List.setIfInBounds_toArray, List.set_cons_zero, List.set_cons_succ]
      refine wpAnyH_ready (rs := [11]) (by kernel_rfl) (by simp) ?_
      refine AllReadyH.cons (o := ⟨_, _, _, _, _, _⟩) rfl (fun K hK => ?_) AllReadyH.nil
      rw [if_pos (by rfl)]
      refine wp_append_st _ _ rfl w3.heap.size _ (l.take cap ++ [(t, n)]) rfl HO7.out (some ad) 0 (l.drop cap) (by rw [HLD.out]; rfl) (HS2.out.later hHeld) (fun h => (by cases h)) (by have := HLK.out; have := HLD.out; have := HLEN.out; rw [List.length_append, List.length_singleton]; omega) hHeld.size ?_
      intro v11 wE hown hgrow
      have HO11 : Hid (OwnL wE w3.heap.size v11 (l.take cap ++ ([(t, n)] ++ l.drop cap))) := by
       show OwnL _ _ _ _
       rw [← List.append_assoc]
       exact hown
      refine hK.out _ _ (grown_below hHeld HO7.out (Nat.le_refl _) hHeld.size hgrow) (fun hHeldN => ?_)
      clear hown hgrow
      clear hHeld
      have hHeld := hHeldN
      clear hHeldN
      clear hK K
      try simp only [Act.put, List.setIfInBounds_toArray, List.set_cons_zero, List.set_cons_succ]
      refine wpAnyH_take (i := 12) (oi := ⟨_, _, _, _, _, _⟩) (v := ?v12x40) rfl (by kernel_rfl) (by kernel_rfl) (by kernel_rfl) (fun _ _ _ h => h) (Or.inl ⟨by rfl, ?hy12x40⟩) hHeld ?rest12x40
      case hy12x40 => (intro w' hSw; go_simp; try with_reducible rfl)
      try simp only [Act.put, List.setIfInBounds_toArray, List.set_cons_zero, List.set_cons_succ]
      refine wpAnyH_done (by kernel_rfl) ?_ _
      go_wp2
      go_ret
      exact reta_own HADD2.out HO11.out HB5.out.size (blThen HB5.out hHeld)
    ·have HS2 : Hid (SL w3 (some (ad.add (k * 2))) (l.drop k)) := by rw [HDR.out]; exact SL.nil_ok _ _
     go_wp2_with fail
     refine wp_region_held_drew (S := fun w' => Below w3.heap.size w3 w') (by kernel_rfl) ⟨rfl, rfl, rfl, Nat.le_refl _, fun _ _ => rfl⟩ (fun hHeld => ?_)
     have HWS : Hid (w3.heap.size ≤ w3.drew.heap.size) := Nat.le_refl _
     generalize w3.drew = wS at *
     refine wpAnyH_take (i := 1) (oi := ⟨_, _, _, _, _, _⟩) (v := ?v1x41) rfl (by kernel_rfl) (by kernel_rfl) (by kernel_rfl) (fun _ _ _ h => h) (Or.inl ⟨by rfl, ?hy1x41⟩) hHeld ?rest1x41
     case hy1x41 => (intro w' hSw; go_simp; try with_reducible rfl)
     try simp only [Act.put, List.setIfInBounds_toArray, List.set_cons_zero, List.set_cons_succ]
     refine wpAnyH_take (i := 2) (oi := ⟨_, _, _, _, _, _⟩) (v := ?v2x42) rfl (by kernel_rfl) (by kernel_rfl) (by kernel_rfl) (fun _ _ _ h => h) (Or.inl ⟨by rfl, ?hy2x42⟩) hHeld ?rest2x42
     case hy2x42 => (intro w' hSw; go_simp; try with_reducible rfl)
     try simp only [Act.put, List.setIfInBounds_toArray, List.set_cons_zero, List.set_cons_succ]
     refine wpAnyH_take (i := 3) (oi := ⟨_, _, _, _, _, _⟩) (v := ?v3x43) rfl (by kernel_rfl) (by kernel_rfl) (by kernel_rfl) (fun _ _ _ h => h) (Or.inl ⟨by rfl, ?hy3x43⟩) hHeld ?rest3x43
     case hy3x43 => (intro w' hSw; go_simp; try with_reducible rfl)
     try simp only [Act.put, List.setIfInBounds_toArray, List.set_cons_zero, List.set_cons_succ]
     refine wpAnyH_take (i := 5) (oi := ⟨_, _, _, _, _, _⟩) (v := ?v5x44) rfl (by kernel_rfl) (by kernel_rfl) (by kernel_rfl) (fun _ _ _ h => h) (Or.inl ⟨by rfl, ?hy5x44⟩) hHeld ?rest5x44
     case hy5x44 => (intro w' hSw; have s0 := cell_in hSw HLT.out HQ0.out; have s1 := cell_in hSw HLT.out HQ1.out; go_simp; try with_reducible rfl)
     try simp only [Act.put, List.setIfInBounds_toArray, List.set_cons_zero, List.set_cons_succ]
     refine wpAnyH_take (i := 8) (oi := ⟨_, _, _, _, _, _⟩) (v := ?v8x45) rfl (by kernel_rfl) (by kernel_rfl) (by kernel_rfl) (fun _ _ _ h => h) (Or.inl ⟨by rfl, ?hy8x45⟩) hHeld ?rest8x45
     case hy8x45 => (intro w' hSw; go_simp; try with_reducible rfl)
     try simp only [Act.put, List.setIfInBounds_toArray, List.set_cons_zero, List.set_cons_succ]
     refine wpAnyH_take (i := 9) (oi := ⟨_, _, _, _, _, _⟩) (v := ?v9x46) rfl (by kernel_rfl) (by kernel_rfl) (by kernel_rfl) (fun _ _ _ h => h) (Or.inl ⟨by rfl, ?hy9x46⟩) hHeld ?rest9x46
     case hy9x46 => (intro w' hSw; go_simp; try with_reducible rfl)
     try simp only [Act.put, List.setIfInBounds_toArray, List.set_cons_zero, List.set_cons_succ]
     refine wpAnyH_take (i := 10) (oi := ⟨_, _, _, _, _, _⟩) (v := ?v10x47) rfl (by kernel_rfl) (by kernel_rfl) (by kernel_rfl) (fun _ _ _ h => h) (Or.inl ⟨by rfl, ?hy10x47⟩) hHeld ?rest10x47
     case hy10x47 => (intro w' hSw; go_simp; try with_reducible rfl)
     try simp only [Act.put, List.setIfInBounds_toArray, List.set_cons_zero, List.set_cons_succ]
     refine wpAnyH_ready (rs := [0, 6]) (by kernel_rfl) (by simp) ?_
     refine AllReadyH.cons (o := ⟨_, _, _, _, _, _⟩) rfl (fun K hK => ?_) (AllReadyH.cons (o := ⟨_, _, _, _, _, _⟩) rfl (fun K hK => ?_) AllReadyH.nil)
     ·go_simp
      have HE : Hid (OwnL (wS.alloc (Obj.cells #[] 23)) w3.heap.size (.slice (some ⟨wS.heap.size, 0, none⟩) 0 0) []) := (own_emptyL wS).monoA HWS.out
      refine hK.out _ _ (blAlloc hHeld _) (fun hHeldN => ?_)
      clear hK K
      clear hHeld
      have hHeld := hHeldN
      clear hHeldN
      try simp only [Act.put, List.setIfInBounds_toArray, List.set_cons_zero, List.set_cons_succ]
      generalize wS.alloc (Obj.cells #[] 23) = wA at *
      refine wpAnyH_ready (rs := [4, 6]) (by kernel_rfl) (by simp) ?_
      refine AllReadyH.cons (o := ⟨_, _, _, _, _, _⟩) rfl (fun K hK => ?_) (AllReadyH.cons (o := ⟨_, _, _, _, _, _⟩) rfl (fun K hK => ?_) AllReadyH.nil)
      ·rw [if_pos (by rfl)]
       refine wp_append_st _ _ rfl w3.heap.size _ [] rfl HE.out (some ad) cap (l.take k) (by rw [HLK.out]; rfl) (HS1.out.later hHeld) HNA.out (by have := HLK.out; have := HLEN.out; simp only [List.length_nil]; omega) hHeld.size ?_
       intro v4 wC hown hgrow
       have HO4 : Hid (OwnL wC w3.heap.size v4 (l.take k)) := hown
       refine hK.out _ _ (grown_below hHeld HE.out (Nat.le_refl _) hHeld.size hgrow) (fun hHeldN => ?_)
       clear hown hgrow hK K
       clear hHeld
       have hHeld := hHeldN
       clear hHeldN
       try simp only [Act.put, List.setIfInBounds_toArray, List.set_cons_zero, List.set_cons_succ]
       refine wpAnyH_ready (rs := [6]) (by kernel_rfl) (by simp) ?_
       refine AllReadyH.cons (o := ⟨_, _, _, _, _, _⟩) rfl (fun K hK => ?_) AllReadyH.nil
       go_simp
       have HSs := Lib.hid (one_sl _ t n _ (own2_new wC t n))
       have HO4b := Lib.hid (HO4.out.later (blAlloc (Below.refl _ _) (Obj.cells #[Value.int IntKind.i64 t, Value.int IntKind.i64 n] 23)))
       refine hK.out _ _ (blAlloc hHeld _) (fun hHeldN => ?_)
       clear hK K HO4
       have HO4 := HO4b
       clear HO4b
       clear hHeld
       have hHeld := hHeldN
       clear hHeldN
       try simp only [Act.put, List.setIfInBounds_toArray, List.set_cons_zero, List.set_cons_succ]
       refine wpAnyH_ready (rs := [7]) (by kernel_rfl) (by simp) ?_
       refine AllReadyH.cons (o := ⟨_, _, _, _, _, _⟩) rfl (fun K hK => ?_) AllReadyH.nil
       rw [if_pos (by rfl)]
       refine wp_append_st _ _ rfl w3.heap.size _ (l.take k) rfl HO4.out (some ⟨wC.heap.size, 0, none⟩) 1 [(t, n)] rfl HSs.out (fun h => (by cases h)) (by have := HLK.out; have := HLEN.out; simp only [List.length_singleton]; omega) hHeld.size ?_
       intro v7 wD hown hgrow
       have HO7 := Lib.hid hown
       refine hK.out _ _ (grown_below hHeld HO4.out (Nat.le_refl _) hHeld.size hgrow) (fun hHeldN => ?_)
       clear hown hgrow
       clear hHeld
       have hHeld := hHeldN
       clear hHeldN
       clear hK K
       try simp only [Act.put, List.setIfInBounds_toArray, List.set_cons_zero, List.set_cons_succ]
       refine wpAnyH_ready (rs := [11]) (by kernel_rfl) (by simp) ?_
       refine AllReadyH.cons (o := ⟨_, _, _, _, _, _⟩) rfl (fun K hK => ?_) AllReadyH.nil
       rw [if_pos (by rfl)]
       refine wp_append_st _ _ rfl w3.heap.size _ (l.take k ++ [(t, n)]) rfl HO7.out (some (ad.add (k * 2))) (cap - k) (l.drop k) (by rw [HLD.out]; rfl) (HS2.out.later hHeld) (fun h => (by cases h)) (by have := HLK.out; have := HLD.out; have := HLEN.out; rw [List.length_append, List.length_singleton]; omega) hHeld.size ?_
       intro v11 wE hown hgrow
       have HO11 : Hid (OwnL wE w3.heap.size v11 (l.take k ++ ([(t, n)] ++ l.drop k))) := by
        show OwnL _ _ _ _
        rw [← List.append_assoc]
        exact hown
       refine hK.out _ _ (grown_below hHeld HO7.out (Nat.le_refl _) hHeld.size hgrow) (fun hHeldN => ?_)
       clear hown hgrow
       clear hHeld
       have hHeld := hHeldN
       clear hHeldN
       clear hK K
       try simp only [Act.put, List.setIfInBounds_toArray, List.set_cons_zero, List.set_cons_succ]
       refine wpAnyH_take (i := 12) (oi := ⟨_, _, _, _, _, _⟩) (v := ?v12x48) rfl (by kernel_rfl) (by kernel_rfl) (by kernel_rfl) (fun _ _ _ h => h) (Or.inl ⟨by rfl, ?hy12x48⟩) hHeld ?rest12x48
       case hy12x48 => (intro w' hSw; go_simp; try with_reducible rfl)
       try simp only [Act.put, List.setIfInBounds_toArray, List.set_cons_zero, List.set_cons_succ]
       refine wpAnyH_done (by kernel_rfl) ?_ _
       go_wp2
       go_ret
       exact reta_own HADD2.out HO11.out HB5.out.size (blThen HB5.out hHeld)
      ·go_simp
       have HS0 := Lib.hid (one_sl _ t n _ (own2_new wA t n))
       have HE2 := Lib.hid (HE.out.later (blAlloc (Below.refl _ _) (Obj.cells #[Value.int IntKind.i64 t, Value.int IntKind.i64 n] 23)))
       have HX : Hid (∀ c, (Value.slice (some ⟨wS.heap.size, 0, none⟩) 0 0).ownBlock = some c → c < wA.heap.size) := fun c h => (by simp only [Value.ownBlock, Option.some.injEq] at h; rw [← h]; exact ownlt HE.out)
       refine hK.out _ _ (blAlloc hHeld _) (fun hHeldN => ?_)
       clear hK K
       clear hHeld
       have hHeld := hHeldN
       clear hHeldN
       try simp only [Act.put, List.setIfInBounds_toArray, List.set_cons_zero, List.set_cons_succ]
       refine wpAnyH_ready (rs := [4]) (by kernel_rfl) (by simp) ?_
       refine AllReadyH.cons (o := ⟨_, _, _, _, _, _⟩) rfl (fun K hK => ?_) AllReadyH.nil
       rw [if_pos (by rfl)]
       refine wp_append_st _ _ rfl w3.heap.size _ [] rfl HE2.out (some ad) cap (l.take k) (by rw [HLK.out]; rfl) (HS1.out.later hHeld) HNA.out (by have := HLK.out; have := HLEN.out; simp only [List.length_nil]; omega) hHeld.size ?_
       intro v4 wC hown hgrow
       have HO4 : Hid (OwnL wC w3.heap.size v4 (l.take k)) := hown
       have HSs := Lib.hid (sl_grownA HS0.out (fun b' o' h e => by
        simp only [Option.some.injEq, Addr.mk.injEq] at h
        exact Nat.lt_irrefl _ (Nat.lt_of_lt_of_le (HX.out _ e) (Nat.le_of_eq h.1))) hgrow)
       refine hK.out _ _ (grown_below hHeld HE2.out (Nat.le_refl _) hHeld.size hgrow) (fun hHeldN => ?_)
       clear hown hgrow hK K
       clear hHeld
       have hHeld := hHeldN
       clear hHeldN
       try simp only [Act.put, List.setIfInBounds_toArray, List.set_cons_zero, List.set_cons_succ]
       refine wpAnyH_ready (rs := [7]) (by kernel_rfl) (by simp) ?_
       refine AllReadyH.cons (o := ⟨_, _, _, _, _, _⟩) rfl (fun K hK => ?_) AllReadyH.nil
       rw [if_pos (by rfl)]
       refine wp_append_st _ _ rfl w3.heap.size _ (l.take k) rfl HO4.out (some ⟨wA.heap.size, 0, none⟩) 1 [(t, n)] rfl HSs.out (fun h => (by cases h)) (by have := HLK.out; have := HLEN.out; simp only [List.length_singleton]; omega) hHeld.size ?_
       intro v7 wD hown hgrow
       have HO7 := Lib.hid hown
       refine hK.out _ _ (grown_below hHeld HO4.out (Nat.le_refl _) hHeld.size hgrow) (fun hHeldN => ?_)
       clear hown hgrow
       clear hHeld
       have hHeld := hHeldN
       clear hHeldN
       clear hK K
       try simp only [Act.put, List.setIfInBounds_toArray, List.set_cons_zero, List.set_cons_succ]
       refine wpAnyH_ready (rs := [11]) (by kernel_rfl) (by simp) ?_
       refine AllReadyH.cons (o := ⟨_, _, _, _, _, _⟩) rfl (fun K hK => ?_) AllReadyH.nil
       rw [if_pos (by rfl)]
       refine wp_append_st _ _ rfl w3.heap.size _ (l.take k ++ [(t, n)]) rfl HO7.out (some (ad.add (k * 2))) (cap - k) (l.drop k) (by rw [HLD.out]; rfl) (HS2.out.later hHeld) (fun h => (by cases h)) (by have := HLK.out; have := HLD.out; have := HLEN.out; rw [List.length_append, List.length_singleton]; omega) hHeld.size ?_
       intro v11 wE hown hgrow
       have HO11 : Hid (OwnL wE w3.heap.size v11 (l.take k ++ ([(t, n)] ++ l.drop k))) := by
        show OwnL _ _ _ _
        rw [← List.append_assoc]
        exact hown
       refine hK.out _ _ (grown_below hHeld HO7.out (Nat.le_refl _) hHeld.size hgrow) (fun hHeldN => ?_)
       clear hown hgrow
       clear hHeld
       have hHeld := hHeldN
       clear hHeldN
       clear hK K
       try simp only [Act.put, List.setIfInBounds_toArray, List.set_cons_zero, List.set_cons_succ]
       refine wpAnyH_take (i := 12) (oi := ⟨_, _, _, _, _, _⟩) (v := ?v12x49) rfl (by kernel_rfl) (by kernel_rfl) (by kernel_rfl) (fun _ _ _ h => h) (Or.inl ⟨by rfl, ?hy12x49⟩) hHeld ?rest12x49
       case hy12x49 => (intro w' hSw; go_simp; try with_reducible rfl)
       try simp only [Act.put, List.setIfInBounds_toArray, List.set_cons_zero, List.set_cons_succ]
       refine wpAnyH_done (by kernel_rfl) ?_ _
       go_wp2
       go_ret
       exact reta_own HADD2.out HO11.out HB5.out.size (blThen HB5.out hHeld)
     ·go_simp
      have HS0 : Hid (SL (wS.alloc (Obj.cells #[Value.int IntKind.i64 t, Value.int IntKind.i64 n] 23)) (some ⟨wS.heap.size, 0, none⟩) [(t, n)]) := one_sl _ t n _ (own2_new wS t n)
      have hW : wS.heap.size < (wS.alloc (Obj.cells #[Value.int IntKind.i64 t, Value.int IntKind.i64 n] 23)).heap.size := by simp
      refine hK.out _ _ (blAlloc hHeld _) (fun hHeldN => ?_)
      clear hK K
      clear hHeld
      have hHeld := hHeldN
      clear hHeldN
      try simp only [Act.put, List.setIfInBounds_toArray, List.set_cons_zero, List.set_cons_succ]
      generalize wS.alloc (Obj.cells #[Value.int IntKind.i64 t, Value.int IntKind.i64 n] 23) = wA at *
      refine wpAnyH_ready (rs := [0]) (by kernel_rfl) (by simp) ?_
      refine AllReadyH.cons (o := ⟨_, _, _, _, _, _⟩) rfl (fun K hK => ?_) AllReadyH.nil
      go_simp
      have HE : Hid (OwnL (wA.alloc (Obj.cells #[] 23)) w3.heap.size (.slice (some ⟨wA.heap.size, 0, none⟩) 0 0) []) := (own_emptyL wA).monoA (Nat.le_trans HWS.out (Nat.le_of_lt hW))
      have HS1b := Lib.hid (HS0.out.later (blAlloc (Below.refl _ _) (Obj.cells #[] 23)))
      refine hK.out _ _ (blAlloc hHeld _) (fun hHeldN => ?_)
      clear hK K
      clear hHeld
      have hHeld := hHeldN
      clear hHeldN
      try simp only [Act.put, List.setIfInBounds_toArray, List.set_cons_zero, List.set_cons_succ]
      refine wpAnyH_ready (rs := [4]) (by kernel_rfl) (by simp) ?_
      refine AllReadyH.cons (o := ⟨_, _, _, _, _, _⟩) rfl (fun K hK => ?_) AllReadyH.nil
      rw [if_pos (by rfl)]
      refine wp_append_st _ _ rfl w3.heap.size _ [] rfl HE.out (some ad) cap (l.take k) (by rw [HLK.out]; rfl) (HS1.out.later hHeld) HNA.out (by have := HLK.out; have := HLEN.out; simp only [List.length_nil]; omega) hHeld.size ?_
      intro v4 wC hown hgrow
      have HO4 : Hid (OwnL wC w3.heap.size v4 (l.take k)) := hown
      have HX : Hid (∀ c, (Value.slice (some ⟨wA.heap.size, 0, none⟩) 0 0).ownBlock = some c → wS.heap.size < c) := fun c h => (by simp only [Value.ownBlock, Option.some.injEq] at h; rw [← h]; exact hW)
      have HSs := Lib.hid (sl_grownA HS1b.out (fun b' o' h e => by
       simp only [Option.some.injEq, Addr.mk.injEq] at h
       exact Nat.lt_irrefl _ (Nat.lt_of_le_of_lt (Nat.le_of_eq h.1.symm) (HX.out _ e))) hgrow)
      refine hK.out _ _ (grown_below hHeld HE.out (Nat.le_refl _) hHeld.size hgrow) (fun hHeldN => ?_)
      clear hown hgrow hK K
      clear hHeld
      have hHeld := hHeldN
      clear hHeldN
      try simp only [Act.put, List.setIfInBounds_toArray, List.set_cons_zero, List.set_cons_succ]
      refine wpAnyH_ready (rs := [7]) (by kernel_rfl) (by simp) ?_
      refine AllReadyH.cons (o := ⟨_, _, _, _, _, _⟩) rfl (fun K hK => ?_) AllReadyH.nil
      rw [if_pos (by rfl)]
      refine wp_append_st _ _ rfl w3.heap.size _ (l.take k) rfl HO4.out (some ⟨wS.heap.size, 0, none⟩) 1 [(t, n)] rfl HSs.out (fun h => (by cases h)) (by have := HLK.out; have := HLEN.out; simp only [List.length_singleton]; omega) hHeld.size ?_
      intro v7 wD hown hgrow
      have HO7 := Lib.hid hown
      refine hK.out _ _ (grown_below hHeld HO4.out (Nat.le_refl _) hHeld.size hgrow) (fun hHeldN => ?_)
      clear hown hgrow
      clear hHeld
      have hHeld := hHeldN
      clear hHeldN
      clear hK K
      try simp only [Act.put, List.setIfInBounds_toArray, List.set_cons_zero, List.set_cons_succ]
      refine wpAnyH_ready (rs := [11]) (by kernel_rfl) (by simp) ?_
      refine AllReadyH.cons (o := ⟨_, _, _, _, _, _⟩) rfl (fun K hK => ?_) AllReadyH.nil
      rw [if_pos (by rfl)]
      refine wp_append_st _ _ rfl w3.heap.size _ (l.take k ++ [(t, n)]) rfl HO7.out (some (ad.add (k * 2))) (cap - k) (l.drop k) (by rw [HLD.out]; rfl) (HS2.out.later hHeld) (fun h => (by cases h)) (by have := HLK.out; have := HLD.out; have := HLEN.out; rw [List.length_append, List.length_singleton]; omega) hHeld.size ?_
      intro v11 wE hown hgrow
      have HO11 : Hid (OwnL wE w3.heap.size v11 (l.take k ++ ([(t, n)] ++ l.drop k))) := by
       show OwnL _ _ _ _
       rw [← List.append_assoc]
       exact hown
      refine hK.out _ _ (grown_below hHeld HO7.out (Nat.le_refl _) hHeld.size hgrow) (fun hHeldN => ?_)
      clear hown hgrow
      clear hHeld
      have hHeld := hHeldN
      clear hHeldN
      clear hK K
      try simp only [Act.put, List.setIfInBounds_toArray, List.set_cons_zero, List.set_cons_succ]
      refine wpAnyH_take (i := 12) (oi := ⟨_, _, _, _, _, _⟩) (v := ?v12x50) rfl (by kernel_rfl) (by kernel_rfl) (by kernel_rfl) (fun _ _ _ h => h) (Or.inl ⟨by rfl, ?hy12x50⟩) hHeld ?rest12x50
      case hy12x50 => (intro w' hSw; go_simp; try with_reducible rfl)
      try simp only [Act.put, List.setIfInBounds_toArray, List.set_cons_zero, List.set_cons_succ]
      refine wpAnyH_done (by kernel_rfl) ?_ _
      go_wp2
      go_ret
      exact reta_own HADD2.out HO11.out HB5.out.size (blThen HB5.out hHeld)
end S1
end Go.Proofs.YtmpbpeelankihaaGreat

set_option linter.unusedVariables false
namespace Go.Proofs.YtmpbpeelankihaaGreat
open S1
namespace SD
open Go.RowKit
structure Dp where
 sh : Int
 ia : Option Addr
 ic : Nat
 ids : List (Int × Int)
def Dp.d (x : Dp) : Int × List (Int × Int) := (x.sh, x.ids)
def toD (l : List Dp) : Dd := l.map Dp.d
theorem toD_length (l : List Dp) : (toD l).length = l.length := by simp [toD]
theorem toD_at {l : List Dp} {k : Nat} {s : Dp} (h : l[k]? = some s) : (toD l)[k]? = some (s.sh, s.ids) := by simp [toD, h, Dp.d]
def ilD (s : Dp) : Value := .slice s.ia s.ids.length s.ic
def RowD (w : World) (g o : Nat) (l : List Dp) : Prop := ∀ (i : Nat) s, l[i]? = some s → w.cell? ⟨g, o + i * 2, none⟩ = some (.int .i64 s.sh) ∧ w.cell? ⟨g, o + i * 2 + 1, none⟩ = some (ilD s)
def IdsAt (w : World) (s : Dp) : Prop := SL w s.ia s.ids ∧ (s.ia = none → s.ic = 0) ∧ s.ids.length ≤ s.ic
def Dl (w : World) (a : Option Addr) (l : List Dp) : Prop := (∀ s ∈ l, IdsAt w s) ∧ (l ≠ [] → ∃ g o, a = some ⟨g, o, none⟩ ∧ g < w.heap.size ∧ RowD w g o l)
theorem IdsAt.later {W wr : World} {s : Dp} (h : IdsAt W s) (hw : Below W.heap.size W wr) : IdsAt wr s := ⟨h.1.later hw, h.2⟩
theorem RowD.later {W wr : World} {g o : Nat} {l : List Dp} (h : RowD W g o l) (hg : g < W.heap.size) (hw : Below W.heap.size W wr) : RowD wr g o l := fun i s hi => ⟨cell_in hw hg (h i s hi).1, cell_in hw hg (h i s hi).2⟩
theorem Dl.later {W wr : World} {a : Option Addr} {l : List Dp} (h : Dl W a l) (hw : Below W.heap.size W wr) : Dl wr a l := by
 refine ⟨fun s hs => (h.1 s hs).later hw, fun hne => ?_⟩
 obtain ⟨g, o, ha, hg, hl⟩ := h.2 hne
 exact ⟨g, o, ha, Nat.lt_of_lt_of_le hg hw.size, hl.later hg hw⟩
theorem Dl.at {w : World} {a : Option Addr} {l : List Dp} (h : Dl w a l) {k : Nat} {s : Dp} (hs : l[k]? = some s) : ∃ g o, a = some ⟨g, o, none⟩ ∧ g < w.heap.size ∧ w.cell? ⟨g, o + k * 2, none⟩ = some (.int .i64 s.sh) ∧ w.cell? ⟨g, o + k * 2 + 1, none⟩ = some (ilD s) ∧ IdsAt w s := by
 have hne : l ≠ [] := by rintro rfl; simp at hs
 obtain ⟨g, o, ha, hg, hl⟩ := h.2 hne
 exact ⟨g, o, ha, hg, (hl k s hs).1, (hl k s hs).2, h.1 s (List.mem_of_getElem? hs)⟩
theorem Dl.nil (w : World) (a : Option Addr) : Dl w a [] := ⟨fun s h => (by cases h), fun h => absurd rfl h⟩
theorem at_ltD {α : Type} {l : List α} {k : Nat} (h : k < l.length) : ∃ s, l[k]? = some s := ⟨l[k], List.getElem?_eq_getElem h⟩
def cellsD (l : List Dp) : List Value := l.flatMap fun s => [.int .i64 s.sh, ilD s]
theorem cellsD_length (l : List Dp) : (cellsD l).length = l.length * 2 := by
 induction l with
 | nil => rfl
 | cons a r ih => simp [cellsD] at ih ⊢; omega
theorem cellsD_append (l r : List Dp) : cellsD (l ++ r) = cellsD l ++ cellsD r := by simp [cellsD]
theorem cellsD_at (l : List Dp) : ∀ (i : Nat) (s : Dp), l[i]? = some s → (cellsD l)[i * 2]? = some (.int .i64 s.sh) ∧ (cellsD l)[i * 2 + 1]? = some (ilD s) := by
 induction l with
 | nil => intro i s h; simp at h
 | cons a r ih =>
  intro i s h
  cases i with
  | zero =>
   simp only [List.getElem?_cons_zero, Option.some.injEq] at h
   subst h
   exact ⟨rfl, rfl⟩
  | succ i =>
   obtain ⟨h1, h2⟩ := ih i s (by simpa using h)
   have e : cellsD (a :: r) = Value.int .i64 a.sh :: ilD a :: cellsD r := rfl
   refine ⟨?_, ?_⟩
   ·rw [e, show (i + 1) * 2 = (i * 2) + 1 + 1 by omega]; simpa using h1
   ·rw [e, show (i + 1) * 2 + 1 = (i * 2 + 1) + 1 + 1 by omega]; simpa using h2
theorem cellsD_one (l : List Dp) : ∀ u ∈ cellsD l, u.oneCell' = true := by
 intro u hu
 obtain ⟨s, _, h⟩ := List.mem_flatMap.1 hu
 simp only [List.mem_cons, List.not_mem_nil, or_false] at h
 rcases h with rfl | rfl <;> rfl
theorem RowD.cells {w : World} {b o : Nat} {l : List Dp} (h : RowD w b o l) : ∀ (j : Nat) (u : Value), (cellsD l)[j]? = some u → w.cell? ((⟨b, o, none⟩ : Addr).add j) = some u := by
 intro j u hj
 have hlt : j / 2 < l.length := by
  have := (List.getElem?_eq_some_iff.1 hj).1
  rw [cellsD_length] at this
  omega
 obtain ⟨s, hs⟩ := at_ltD hlt
 obtain ⟨c1, c2⟩ := cellsD_at l (j / 2) s hs
 obtain ⟨d1, d2⟩ := h (j / 2) s hs
 rw [Go.WideShapes.add_plain]
 rcases Nat.mod_two_eq_zero_or_one j with he | he
 ·have e : j / 2 * 2 = j := by omega
  rw [e] at c1 d1
  rw [d1, ← c1, hj]
 ·have e : j / 2 * 2 + 1 = j := by omega
  rw [e] at c2
  rw [show o + j / 2 * 2 + 1 = o + j by omega] at d2
  rw [d2, ← c2, hj]
def OwnD (w : World) (base : Nat) (v : Value) (l : List Dp) : Prop := w.ownsRow base 97 2 v l.length (cellsD l)
theorem OwnD.nil (w : World) (base : Nat) : OwnD w base (.slice none 0 0) [] := World.ownsRow_nil _ _ _ _
theorem OwnD.later {W wr : World} {base : Nat} {v : Value} {l : List Dp} (h : OwnD W base v l) (hb : Below W.heap.size W wr) : OwnD wr base v l := by
 obtain ⟨h1, h2 | ⟨g, cap, cur, hv, hg, hh, r⟩⟩ := h
 ·exact ⟨h1, .inl h2⟩
 ·exact ⟨h1, .inr ⟨g, cap, cur, hv, hg, (hb.block g (lt_of_block hh)).trans hh, r⟩⟩
theorem OwnD.block {w : World} {base : Nat} {v : Value} {l : List Dp} (h : OwnD w base v l) : ∀ k, v.ownBlock = some k → base ≤ k ∧ k < w.heap.size := by
 intro k hk
 obtain ⟨h1, ⟨rfl, _⟩ | ⟨g, cap, cur, rfl, hg, hh, _⟩⟩ := h
 ·simp [Value.ownBlock] at hk
 ·simp [Value.ownBlock] at hk
  subst hk
  exact ⟨hg, lt_of_block hh⟩
theorem OwnD.row {w : World} {base : Nat} {v : Value} {l : List Dp} (h : OwnD w base v l) : ∃ a c, v = .slice a l.length c ∧ (a = none → c = 0) ∧ l.length ≤ c ∧ (l ≠ [] → ∃ g, a = some ⟨g, 0, none⟩ ∧ g < w.heap.size ∧ RowD w g 0 l) := by
 obtain ⟨h1, ⟨rfl, hl⟩ | ⟨g, cap, cur, hv, hg, hh, hn, hm, hs, hx⟩⟩ := h
 ·have := List.eq_nil_of_length_eq_zero hl
  subst this
  exact ⟨none, 0, rfl, fun _ => rfl, Nat.le_refl _, fun h => absurd rfl h⟩
 ·refine ⟨_, cap, hv, fun h => (by cases h), hn, fun _ => ⟨g, rfl, lt_of_block hh, fun i s hi => ?_⟩⟩
  have hil := (List.getElem?_eq_some_iff.1 hi).1
  obtain ⟨c1, c2⟩ := cellsD_at l i s hi
  rw [← hx] at c1 c2
  rw [List.getElem?_take_of_lt (by omega)] at c1 c2
  rw [Nat.zero_add]
  exact ⟨by simp only [World.cell?, hh]; simpa using c1, by simp only [World.cell?, hh]; simpa using c2⟩
theorem OwnD.dl {w : World} {base : Nat} {v : Value} {l : List Dp} (h : OwnD w base v l) (hi : ∀ s ∈ l, IdsAt w s) : ∃ a c, v = .slice a l.length c ∧ (a = none → c = 0) ∧ l.length ≤ c ∧ Dl w a l := by
 obtain ⟨a, c, hv, h1, h2, h3⟩ := h.row
 refine ⟨a, c, hv, h1, h2, hi, fun hne => ?_⟩
 obtain ⟨g, ha, hg, hr⟩ := h3 hne
 exact ⟨g, 0, ha, hg, hr⟩
theorem info_dp : (Tryz.prog.info? 97).map (fun i => (i.zero, i.size, i.bytes)) = some (some (.agg #[.int .i64 0, .slice none 0 0]), 2, 32) := by kernel_rfl

theorem at_ltS {l : List (Int × Int)} {k : Nat} (h : k < l.length) : ∃ x y, l[k]? = some (x, y) := ⟨l[k].1, l[k].2, List.getElem?_eq_getElem h⟩
theorem take_eqS {α : Type} {l m : List α} {k : Nat} {x : α} (h : l.take k = m.take k) (hx : l[k]? = some x) (hy : m[k]? = some x) : l.take (k + 1) = m.take (k + 1) := by
 rw [List.take_add_one, List.take_add_one, hx, hy, h]
theorem refsameS_any (a a' : Option Addr) (cap cap' : Nat) (l m : List (Int × Int)) (w : World) (hlen : l.length ≤ 1000000) (hl : SL w a l) (hm : SL w a' m) :
  Calls Tryz.prog 112 #[.slice a l.length cap, .slice a' m.length cap'] w fun e w' => e = .returned (.bool (decide (l = m))) ∧ Below w.heap.size w w' := by
 have HL := Lib.hid hl
 have HM := Lib.hid hm
 clear hl hm
 by_cases hle : l.length = m.length
 ·rw [← hle]
  have HLE := Lib.hid hle
  clear hle
  go_enter Tryz.func112, Tryz.ntmps112
  go_wp2
  go_loopw [5] (fun i wr => ∃ k : Nat, k ≤ l.length ∧ i = .int .i64 k ∧ l.take k = m.take k ∧ Below w.heap.size w wr) (fun i _ => l.length - (RowKit.intOf i).toNat)
  case atStart => exact ⟨0, Nat.zero_le _, rfl, rfl, Below.refl _ _⟩
  case round =>
   obtain ⟨k, hk, rfl, htk, hbel⟩ := hrel
   have HB := Lib.hid hbel
   have HTK := Lib.hid htk
   clear htk
   by_cases hlt : k < l.length
   ·obtain ⟨x, y, hxy⟩ := at_ltS hlt
    obtain ⟨u, v, huv⟩ := at_ltS (l := m) (k := k) (by rw [← HLE.out]; exact hlt)
    obtain ⟨b, o, rfl, hb, hl⟩ := HL.out (by rintro rfl; simp at hlt)
    obtain ⟨b', o', rfl, hb', hl'⟩ := HM.out (by rintro rfl; simp at huv)
    obtain ⟨hx, hy⟩ := hl.later hb HB.out k x y hxy
    obtain ⟨hx', hy'⟩ := hl'.later hb' HB.out k u v huv
    have hbw : b < wr.heap.size := Nat.lt_of_lt_of_le hb HB.out.size
    have hbw' : b' < wr.heap.size := Nat.lt_of_lt_of_le hb' HB.out.size
    have hk1 : (k : Int) < (l.length : Int) := by omega
    have hkm : (k : Int) < (m.length : Int) := by have := HLE.out; omega
    have HXY := Lib.hid hxy
    have HUV := Lib.hid huv
    clear hl hl' hxy huv hbel
    by_cases h1 : x = u
    ·subst h1
     by_cases h2 : y = v
     ·subst h2
      go_wp2_with fail
      refine region_aft (by kernel_rfl) (by kernel_rfl) ?_
      repeat (go_big_quiet_step (fail))
      refine wpQuiet_nil ?_
      rintro w2 ⟨z, rfl⟩
      go_wp2
      go_roundw
      case rel => exact ⟨k + 1, hlt, by go_num, take_eqS HTK.out HXY.out HUV.out, blThen HB.out z.h⟩
      case measure => simp [RowKit.intOf]; omega
     ·have hb2 : ((y == v) = false) := by simpa using h2
      have HNE : Hid (decide (l = m) = false) := decide_eq_false fun e => by
       have h := HXY.out
       rw [e, HUV.out] at h
       simp only [Option.some.injEq, Prod.mk.injEq] at h
       exact h2 h.2.symm
      go_wp2_with fail
      refine region_aft (by kernel_rfl) (by kernel_rfl) ?_
      repeat (go_big_quiet_step (fail))
      refine wpQuiet_nil ?_
      rintro w2 ⟨z, rfl⟩
      go_wp2
      go_ret
      exact ⟨by rw [HNE.out]; rfl, blThen HB.out z.h⟩
    ·have hb1 : ((x == u) = false) := by simpa using h1
     have HNE : Hid (decide (l = m) = false) := decide_eq_false fun e => by
      have h := HXY.out
      rw [e, HUV.out] at h
      simp only [Option.some.injEq, Prod.mk.injEq] at h
      exact h1 h.1.symm
     go_wp2_with fail
     refine region_aft (by kernel_rfl) (by kernel_rfl) ?_
     repeat (go_big_quiet_step (fail))
     refine wpQuiet_nil ?_
     rintro w2 ⟨z, rfl⟩
     go_wp2
     go_ret
     exact ⟨by rw [HNE.out]; rfl, blThen HB.out z.h⟩
   ·have hge : ¬ (k : Int) < (l.length : Int) := by omega
    have HEQ : Hid (decide (l = m) = true) := decide_eq_true (by
     have h := HTK.out
     rwa [List.take_of_length_le (by omega), List.take_of_length_le (by have := HLE.out; omega)] at h)
    go_wp2
    go_ret
    exact ⟨by rw [HEQ.out]; rfl, HB.out⟩
 ·have hne : ¬ (l.length : Int) = (m.length : Int) := by omega
  have HNE : Hid (decide (l = m) = false) := decide_eq_false fun e => hle (by rw [e])
  clear hle
  go_enter Tryz.func112, Tryz.ntmps112
  go_wp2
  go_ret
  exact ⟨by rw [HNE.out]; rfl, Below.refl _ _⟩
theorem risB_one (l : List (Int × Int)) : risB (l.take 1) = true := by
 cases l with
 | nil => rfl
 | cons x r => rfl
theorem risB_step {l : List (Int × Int)} {k : Nat} {x y : Int × Int} (hx : l[k]? = some x) (hy : l[k + 1]? = some y) (h : risB (l.take (k + 1)) = true) :
  (ltS x y = true → risB (l.take (k + 1 + 1)) = true) ∧ (ltS x y = false → risB l = false) := by
 constructor
 ·intro hl
  rw [risB_iff] at h ⊢
  have e : l.take (k + 1 + 1) = l.take (k + 1) ++ [y] := by rw [List.take_add_one (i := k + 1), hy]; rfl
  have e2 : l.take (k + 1) = l.take k ++ [x] := by rw [List.take_add_one, hx]; rfl
  rw [e]
  refine List.pairwise_append.2 ⟨h, List.pairwise_singleton _ _, fun z hz u hu => ?_⟩
  simp only [List.mem_singleton] at hu
  subst hu
  rw [e2] at hz h
  rcases List.mem_append.1 hz with hz | hz
  ·exact ltS_trans ((List.pairwise_append.1 h).2.2 z hz x (by simp)) hl
  ·simp only [List.mem_singleton] at hz
   subst hz
   exact hl
 ·intro hl
  cases hr : risB l
  ·rfl
  ·rw [risB_iff] at hr
   have hp := List.pairwise_iff_getElem.1 hr k (k + 1) (List.getElem?_eq_some_iff.1 hx).1 (List.getElem?_eq_some_iff.1 hy).1 (by omega)
   rw [(List.getElem?_eq_some_iff.1 hx).2, (List.getElem?_eq_some_iff.1 hy).2, hl] at hp
   cases hp
theorem reflistS_any (a : Option Addr) (cap : Nat) (l : List (Int × Int)) (w : World) (hlen : l.length ≤ 1000000) (hl : SL w a l) :
  Calls Tryz.prog 111 #[.slice a l.length cap] w fun e w' => e = .returned (.bool (risB l)) ∧ Below w.heap.size w w' := by
 have HL := Lib.hid hl
 clear hl
 go_enter Tryz.func111, Tryz.ntmps111
 go_wp2
 go_loopw [3] (fun i wr => ∃ k : Nat, i = .int .i64 ((k : Int) + 1) ∧ k ≤ l.length ∧ risB (l.take (k + 1)) = true ∧ Below w.heap.size w wr) (fun i _ => l.length + 1 - (RowKit.intOf i).toNat)
 case atStart => exact ⟨0, rfl, Nat.zero_le _, risB_one l, Below.refl _ _⟩
 case round =>
  obtain ⟨k, rfl, hk, hr, hbel⟩ := hrel
  have HB := Lib.hid hbel
  have HR := Lib.hid hr
  clear hr
  by_cases hlt : k + 1 < l.length
  ·obtain ⟨x, y, hxy⟩ := at_ltS (l := l) (k := k) (by omega)
   obtain ⟨u, v, huv⟩ := at_ltS hlt
   obtain ⟨b, o, rfl, hb, hl⟩ := HL.out (by rintro rfl; simp at hlt)
   obtain ⟨hx, hy⟩ := hl.later hb HB.out k x y hxy
   obtain ⟨hx', hy'⟩ := hl.later hb HB.out (k + 1) u v huv
   have hbw : b < wr.heap.size := Nat.lt_of_lt_of_le hb HB.out.size
   have HST := Lib.hid (risB_step hxy huv HR.out)
   have hltI : (k : Int) + 1 < (l.length : Int) := by omega
   generalize hq : ltS (x, y) (u, v) = q at *
   have HQ := Lib.hid hq
   clear hl hxy huv hbel hq
   cases q
   ·have HF : Hid (risB l = false) := HST.out.2 rfl
    go_wp2_with fail
    refine region_aft (by kernel_rfl) (by kernel_rfl) ?_
    repeat (go_big_quiet_step (first | (go_at_call 32; exact aft_grown ((less_any _ _ _ _ _).mono fun e w' h => by rw [HQ.out] at h; exact h))))
    refine wpQuiet_nil ?_
    rintro w2 ⟨z, rfl⟩
    go_wp2
    go_ret
    exact ⟨by rw [HF.out]; rfl, blThen HB.out z.h⟩
   ·go_wp2_with fail
    refine region_aft (by kernel_rfl) (by kernel_rfl) ?_
    repeat (go_big_quiet_step (first | (go_at_call 32; exact aft_grown ((less_any _ _ _ _ _).mono fun e w' h => by rw [HQ.out] at h; exact h))))
    refine wpQuiet_nil ?_
    rintro w2 ⟨z, rfl⟩
    go_wp2
    go_roundw
    case rel => exact ⟨k + 1, by go_num, by omega, by simpa using HST.out.1, blThen HB.out z.h⟩
    case measure => simp [RowKit.intOf]; omega
  ·have hge : ¬ (k : Int) + 1 < (l.length : Int) := by omega
   have HF : Hid (risB l = true) := by
    have h := HR.out
    rwa [List.take_of_length_le (by omega)] at h
   go_wp2
   go_ret
   exact ⟨by rw [HF.out]; rfl, HB.out⟩

def FewD (l : List Dp) : Prop := l.length ≤ 1000000 ∧ ∀ s ∈ l, s.ids.length ≤ 1000000
theorem refsame6_any (a a' : Option Addr) (c c' : Nat) (l m : List Dp) (w : World) (hf : FewD l) (hl : Dl w a l) (hm : Dl w a' m) :
  Calls Tryz.prog 50 #[.slice a l.length c, .slice a' m.length c'] w fun e w' => e = .returned (.bool (decide (toD l = toD m))) ∧ Below w.heap.size w w' := by
 have HL := Lib.hid hl
 have HM := Lib.hid hm
 have HF := Lib.hid hf
 have hlen := hf.1
 clear hl hm hf
 by_cases hle : l.length = m.length
 ·rw [← hle]
  have HLE := Lib.hid hle
  clear hle
  go_enter Tryz.func50, Tryz.ntmps50
  go_wp2
  go_loopw [5] (fun i wr => ∃ k : Nat, k ≤ l.length ∧ i = .int .i64 k ∧ (toD l).take k = (toD m).take k ∧ Below w.heap.size w wr) (fun i _ => l.length - (RowKit.intOf i).toNat)
  case atStart => exact ⟨0, Nat.zero_le _, rfl, rfl, Below.refl _ _⟩
  case round =>
   obtain ⟨k, hk, rfl, htk, hbel⟩ := hrel
   have HB := Lib.hid hbel
   have HTK := Lib.hid htk
   clear htk
   by_cases hlt : k < l.length
   ·obtain ⟨s, hs⟩ := at_ltD hlt
    obtain ⟨t, ht⟩ := at_ltD (l := m) (k := k) (by rw [← HLE.out]; exact hlt)
    obtain ⟨b, o, rfl, hb, hx, hy, hi⟩ := (HL.out.later HB.out).at hs
    obtain ⟨b', o', rfl, hb', hx', hy', hi'⟩ := (HM.out.later HB.out).at ht
    have hk1 : (k : Int) < (l.length : Int) := by omega
    have hkm : (k : Int) < (m.length : Int) := by have := HLE.out; omega
    have hk0 : (0 : Int) ≤ (k : Int) := by omega
    have HXY := Lib.hid (toD_at hs)
    have HUV := Lib.hid (toD_at ht)
    have HI := Lib.hid hi
    have HI' := Lib.hid hi'
    have HSN := Lib.hid (HF.out.2 s (List.mem_of_getElem? hs))
    unfold ilD at hy hy'
    clear hs ht hbel hi hi'
    by_cases h1 : s.sh = t.sh
    ·rw [← h1] at hx'
     generalize hq : decide (s.ids = t.ids) = q
     have HQ := Lib.hid hq
     clear hq
     cases q
     ·have HNE : Hid (decide (toD l = toD m) = false) := decide_eq_false fun e => by
       have h := HXY.out
       rw [e, HUV.out] at h
       simp only [Option.some.injEq, Prod.mk.injEq] at h
       exact (of_decide_eq_false HQ.out) h.2.symm
      go_wp2_with fail
      refine region_aft (by kernel_rfl) (by kernel_rfl) ?_
      repeat (go_big_quiet_step (first | (go_at_call 112; exact aft_of ((refsameS_any _ _ _ _ s.ids t.ids _ HSN.out (HI.out.1.later (Aft.h _)) (HI'.out.1.later (Aft.h _))).mono fun e w' h => by rw [HQ.out] at h; exact h))))
      refine wpQuiet_nil ?_
      rintro w2 ⟨z, rfl⟩
      go_wp2
      go_ret
      exact ⟨by rw [HNE.out]; rfl, blThen HB.out z.h⟩
     ·have HEQ := Lib.hid (of_decide_eq_true HQ.out)
      go_wp2_with fail
      refine region_aft (by kernel_rfl) (by kernel_rfl) ?_
      repeat (go_big_quiet_step (first | (go_at_call 112; exact aft_of ((refsameS_any _ _ _ _ s.ids t.ids _ HSN.out (HI.out.1.later (Aft.h _)) (HI'.out.1.later (Aft.h _))).mono fun e w' h => by rw [HQ.out] at h; exact h))))
      refine wpQuiet_nil ?_
      rintro w2 ⟨z, rfl⟩
      go_wp2
      go_roundw
      case rel => exact ⟨k + 1, hlt, by go_num, take_eqS HTK.out HXY.out (by rw [HUV.out, h1, HEQ.out]), blThen HB.out z.h⟩
      case measure => simp [RowKit.intOf]; omega
    ·have hb1 : ((s.sh == t.sh) = false) := by simpa using h1
     have hb2 : ((s.sh != t.sh) = true) := by simpa using h1
     have HNE : Hid (decide (toD l = toD m) = false) := decide_eq_false fun e => by
      have h := HXY.out
      rw [e, HUV.out] at h
      simp only [Option.some.injEq, Prod.mk.injEq] at h
      exact h1 h.1.symm
     go_wp2_with fail
     refine region_aft (by kernel_rfl) (by kernel_rfl) ?_
     repeat (go_big_quiet_step (fail))
     refine wpQuiet_nil ?_
     rintro w2 ⟨z, rfl⟩
     go_wp2
     go_ret
     exact ⟨by rw [HNE.out]; rfl, blThen HB.out z.h⟩
   ·have hge : ¬ (k : Int) < (l.length : Int) := by omega
    have HEQ : Hid (decide (toD l = toD m) = true) := decide_eq_true (by
     have h := HTK.out
     rwa [List.take_of_length_le (by rw [toD_length]; omega), List.take_of_length_le (by rw [toD_length]; have := HLE.out; omega)] at h)
    go_wp2
    go_ret
    exact ⟨by rw [HEQ.out]; rfl, HB.out⟩
 ·have hne : ¬ (l.length : Int) = (m.length : Int) := by omega
  have HNE : Hid (decide (toD l = toD m) = false) := decide_eq_false fun e => hle (by have := congrArg List.length e; rwa [toD_length, toD_length] at this)
  clear hle
  go_enter Tryz.func50, Tryz.ntmps50
  go_wp2
  go_ret
  exact ⟨by rw [HNE.out]; rfl, Below.refl _ _⟩
def RetL (w : World) (r : List (Int × Int)) (e : Ending) (w' : World) : Prop := ∃ a c, e = .returned (.slice a r.length c) ∧ SL w' a r ∧ (a = none → c = 0) ∧ r.length ≤ c ∧ Below w.heap.size w w'

theorem idsN_le {l : List Dp} {s : Dp} (h : s ∈ l) : s.ids.length ≤ idsN (toD l) := idsN_mem (x := s.d) (List.mem_map.2 ⟨s, h, rfl⟩)
def flatD (d : Dd) : List (Int × Int) := d.flatMap fun x => x.2
theorem flatD_take {l : List Dp} {k : Nat} {s : Dp} (h : l[k]? = some s) : flatD ((toD l).take (k + 1)) = flatD ((toD l).take k) ++ s.ids := by
 unfold flatD
 rw [List.take_add_one, toD_at h, List.flatMap_append]
 simp
theorem flatD_len (d : Dd) : (flatD d).length = idsN d := by
 unfold flatD idsN
 induction d with
 | nil => rfl
 | cons x r ih => simp [ih]
theorem idsN_take_le (d : Dd) (k : Nat) : idsN (d.take k) ≤ idsN d := by
 have h := idsN_append (d.take k) (d.drop k)
 rw [List.take_append_drop] at h
 omega
theorem sortL_snoc (l : List (Int × Int)) (x : Int × Int) : sortL (l ++ [x]) = addL (sortL l) x := by
 unfold sortL
 rw [List.foldl_append]
 rfl
theorem sort_step {X l : List (Int × Int)} {j : Nat} {x : Int × Int} (h : l[j]? = some x) : sortL (X ++ l.take (j + 1)) = addL (sortL (X ++ l.take j)) x := by
 rw [List.take_add_one, h, ← sortL_snoc, List.append_assoc]
 rfl
theorem refall_any (a : Option Addr) (c : Nat) (l : List Dp) (w : World) (hlen : l.length ≤ 1000000) (hn : idsN (toD l) ≤ 1000000) (hl : Dl w a l) :
  Calls Tryz.prog 37 #[.slice a l.length c] w (RetA w (allD (toD l))) := by
 have HL := Lib.hid hl
 have HNN := Lib.hid hn
 clear hl hn
 go_enter Tryz.func37, Tryz.ntmps37
 go_wp2
 go_loopw [3, 4] (fun v i wr => ∃ (k : Nat) (a' : Option Addr) (c' : Nat) (D : List (Int × Int)), k ≤ l.length ∧ i = .int .i64 k ∧ D = sortL (flatD ((toD l).take k)) ∧ v = .slice a' D.length c' ∧ SL wr a' D ∧ (a' = none → c' = 0) ∧ D.length ≤ c' ∧ Below w.heap.size w wr) (fun _ i _ => l.length - (RowKit.intOf i).toNat)
 case atStart => exact ⟨0, none, 0, [], Nat.zero_le _, rfl, rfl, rfl, SL.nil_ok _ _, fun _ => rfl, Nat.le_refl _, Below.refl _ _⟩
 case round =>
  obtain ⟨k, a', c', D, hk, rfl, hD, rfl, hs, hz, hc, hb⟩ := hrel
  have HB := Lib.hid hb
  have HD := Lib.hid hD
  have HS := Lib.hid hs
  have HZ := Lib.hid hz
  have HC := Lib.hid hc
  clear hb hD hs hz hc
  by_cases hlt : k < l.length
  ·obtain ⟨s, hs⟩ := at_ltD hlt
   obtain ⟨b, o, rfl, hbg, hx, hy, hi⟩ := HL.out.at hs
   have HE := Lib.hid (fun (W : World) (hb : Below w.heap.size w W) => (⟨cell_in hb hbg hy, Nat.lt_of_lt_of_le hbg hb.size, hi.later hb⟩ : W.cell? ⟨b, o + k * 2 + 1, none⟩ = some (ilD s) ∧ b < W.heap.size ∧ IdsAt W s))
   have hk1 : (k : Int) < (l.length : Int) := by omega
   have hk0 : (0 : Int) ≤ (k : Int) := by omega
   have hdk : decide ((k : Int) < (l.length : Int)) = true := decide_eq_true hk1
   have HFT := Lib.hid (flatD_take hs)
   have HSN : Hid (idsN ((toD l).take k) + s.ids.length ≤ 1000000) := by
    have h := idsN_take_le (toD l) (k + 1)
    rw [idsN_take (toD_at hs)] at h
    exact Nat.le_trans h HNN.out
   clear hs hx hy hi hbg
   unfold ilD at HE
   go_wp2
   go_loopw [3, 5] (fun v i wr => ∃ (j : Nat) (a' : Option Addr) (c' : Nat) (D : List (Int × Int)), j ≤ s.ids.length ∧ i = .int .i64 j ∧ D = sortL (flatD ((toD l).take k) ++ s.ids.take j) ∧ v = .slice a' D.length c' ∧ SL wr a' D ∧ (a' = none → c' = 0) ∧ D.length ≤ c' ∧ Below w.heap.size w wr) (fun _ i _ => s.ids.length - (RowKit.intOf i).toNat)
   case atStart => exact ⟨0, a', c', D, Nat.zero_le _, rfl, by rw [HD.out, List.take_zero, List.append_nil], rfl, HS.out, HZ.out, HC.out, HB.out⟩
   case round =>
    clear HB HD HS HZ HC
    obtain ⟨j, a', c', D, hj, rfl, hD, rfl, hs, hz, hc, hb⟩ := hrel
    obtain ⟨e1, hbw, hi⟩ := HE.out _ hb
    have HB := Lib.hid hb
    have HD := Lib.hid hD
    have HS := Lib.hid hs
    have HZ := Lib.hid hz
    have HC := Lib.hid hc
    have HI := Lib.hid hi
    have hs6 : s.ids.length ≤ 1000000 := by have := HSN.out; omega
    have HDL : Hid (D.length ≤ 1000000) := by
     show _ ≤ _
     rw [hD]
     refine Nat.le_trans (sortL_length _) ?_
     rw [List.length_append, flatD_len, List.length_take]
     have := HSN.out
     omega
    clear hb hD hs hz hc hi
    by_cases hjl : j < s.ids.length
    ·obtain ⟨t, n, htn⟩ := at_ltS hjl
     obtain ⟨gi, oi, hia, hgi, hlst⟩ := HI.out.1 (by intro e; rw [e] at hjl; simp at hjl)
     rw [hia] at e1
     obtain ⟨x0, x1⟩ := hlst j t n htn
     have hj1 : (j : Int) < (s.ids.length : Int) := by omega
     have hj0 : (0 : Int) ≤ (j : Int) := by omega
     have hdj : decide ((j : Int) < (s.ids.length : Int)) = true := decide_eq_true hj1
     have HST := Lib.hid (sort_step (X := flatD ((toD l).take k)) htn)
     clear hlst htn
     go_wp2_with (go_at_call 102; refine (add_any _ _ D t n _ HDL.out HS.out HZ.out HC.out).mono ?_; rintro e w2 ⟨a2, c2, rfl, h1, h2, h3, h4⟩; have H1 := Lib.hid h1; have H2 := Lib.hid h2; have H3 := Lib.hid h3; have H4 := Lib.hid h4; clear h1 h2 h3 h4)
     go_roundw
     case rel => exact ⟨j + 1, a2, c2, addL D (t, n), hjl, by go_num, by rw [HST.out, HD.out], rfl, H1.out, H2.out, H3.out, blThen HB.out H4.out⟩
     case measure => simp [RowKit.intOf]; omega
    ·have hdj : decide ((j : Int) < (s.ids.length : Int)) = false := decide_eq_false (by omega)
     have hge : ¬ (j : Int) < (s.ids.length : Int) := by omega
     have HT : Hid (D = sortL (flatD ((toD l).take (k + 1)))) := by
      show _ = _
      rw [HFT.out, HD.out, List.take_of_length_le (l := s.ids) (by omega)]
     go_wp2
     go_roundw
     case rel => exact ⟨k + 1, a', c', D, hlt, by go_num, HT.out, rfl, HS.out, HZ.out, HC.out, HB.out⟩
     case measure => simp [RowKit.intOf]; omega
  ·have hge : ¬ (k : Int) < (l.length : Int) := by omega
   have hdk : decide ((k : Int) < (l.length : Int)) = false := decide_eq_false hge
   have HT : Hid (D = allD (toD l)) := by
    show _ = _
    rw [HD.out, List.take_of_length_le (by rw [toD_length]; omega)]
    rfl
   go_wp2
   go_ret
   exact ⟨a', c', by rw [← HT.out]; rfl, by rw [← HT.out]; exact HS.out, HZ.out, by rw [← HT.out]; exact HC.out, HB.out⟩
end SD
end Go.Proofs.YtmpbpeelankihaaGreat
