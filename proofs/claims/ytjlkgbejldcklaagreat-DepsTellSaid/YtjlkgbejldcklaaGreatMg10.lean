/- The reference's Sort: the list of these, each once, rising. Conditions: a list of at most a million stamps. -/
import Derived.Deep.RegionHeld
import Derived.Test.YtjlkgbejldcklaaGreatMg09
/- The reference's Add: one stamp more, in its place, unless it is there. Conditions: a list of at most a million stamps. -/
set_option linter.unusedSimpArgs false
namespace Go.Proofs.YtjlkgbejldcklaaGreat
namespace S1
open Go.Sort (grow)
open Go.RowKit

theorem addL_at (s : Int × Int) : ∀ (l : List (Int × Int)) (k : Nat), (∀ j y, j < k → l[j]? = some y → ltS y s = true) → (∀ y, l[k]? = some y → ltS y s = false) → k ≤ l.length →
    addL l s = if l[k]? = some s then l else l.take k ++ ([s] ++ l.drop k)
  | [], k, _, _, hk => by
    obtain rfl : k = 0 := by simpa using hk
    simp [addL]
  | x :: r, 0, _, h2, _ => by
    have hx := h2 x rfl
    unfold addL
    rw [if_neg (by rw [hx]; simp)]
    by_cases hs : x = s
    · subst hs
      simp
    · rw [if_neg hs, if_neg (by simpa using hs)]
      rfl
  | x :: r, k + 1, h1, h2, hk => by
    have hx := h1 0 x (Nat.succ_pos _) rfl
    have ih := addL_at s r k (fun j y hj hy => h1 (j + 1) y (by omega) (by simpa using hy)) (fun y hy => h2 y (by simpa using hy)) (by simpa using hk)
    unfold addL
    rw [if_pos hx, ih]
    simp only [List.getElem?_cons_succ, List.take_succ_cons, List.drop_succ_cons, List.cons_append]
    split <;> rfl

/-- The same, of one operation. -/
theorem wp_append_st {w : World} {o : Oper} {a : Act} {K : Act → World → Prop} {Q : Exit → Act → World → Prop} (s x : Operand)
    (ho : o.op = .call { callee := .builtin .append, args := #[s, x], argTypes := #[24, 24] })
    (base : Nat) (v : Value) (d : List (Int × Int)) (hs : a.eval s = v) (hown : OwnL w base v d) (ad : Option Addr) (cap : Nat) (l : List (Int × Int)) (hx : a.eval x = .slice ad l.length cap) (hsl : SL w ad l) (hn : ad = none → cap = 0)
    (hlen : d.length + l.length ≤ 4000000) (hbase : base ≤ w.heap.size)
    (h : ∀ v' w', OwnL w' base v' (d ++ l) → w.grownBy w' v.ownBlock → K (a.put o.dst v') w') : o.wp Tryz.prog a w K Q := by
  obtain ⟨i0, hi, hz0, hz1, hz2⟩ := info_parts info_st
  rcases src_of hsl with rfl | ⟨ad, rfl, hc⟩
  · obtain rfl : cap = 0 := hn rfl
    obtain rfl : l = [] := by
      apply Classical.byContradiction
      intro hne
      obtain ⟨_, _, h, _⟩ := hsl hne
      cases h
    have hx' : a.eval x = .slice none 0 0 := hx
    have hrun := run_append_owned_none (P := Tryz.prog) (w := w) base 24 o.type 42 i0 2 Tryz.underlying24 hi v d.length (cellsL d) hown
    unfold Oper.wp
    simp [execOp, ho, resolve, invoke, builtin, hs, hx', hrun, Result.andThen]
    exact (h v w (by rw [List.append_nil]; exact hown) ⟨rfl, rfl, rfl, Nat.le_refl _, fun _ _ _ => rfl⟩)
  · refine wp_append_own w s x 24 ho base 42 i0 (.agg #[.int .i64 0, .int .i64 0]) 2 16 Tryz.underlying24 hi hz0 hz1 hz2 rfl (by decide) v d.length (cellsL d) hs hown ad l.length cap (cellsL l) hx (cellsL_length l) (hc w (Below.refl _ _)) (cellsL_one l) (by unfold maxLen; omega) (by omega) hbase ?_
    intro v' w' h2 h3 _
    refine h v' w' ?_ h3
    show w'.ownsRow base _ 2 v' _ _
    rw [List.length_append, cellsL_append]
    exact h2

/-- What the reference's Add returns. -/
def RetA (w : World) (l : List (Int × Int)) (e : Ending) (w' : World) : Prop := ∃ a cap, e = .returned (.slice a l.length cap) ∧ SL w' a l ∧ (a = none → cap = 0) ∧ l.length ≤ cap ∧ Below w.heap.size w w'
theorem reta_own {w w' : World} {base : Nat} {v : Value} {l r : List (Int × Int)} (he : l = r) (h : OwnL w' base v r) (hb : w.heap.size ≤ base) (hB : Below w.heap.size w w') : RetA w l (.returned v) w' := by
  subst he
  obtain ⟨a, c, h1, h2, h3, _, h4, _, h5⟩ := h.retc hb hB
  exact ⟨a, c, h1, h2, h3, h4, h5⟩
theorem sl_take {w : World} {a : Option Addr} {l : List (Int × Int)} (h : SL w a l) (k : Nat) : SL w a (l.take k) := by
  intro hne
  have hl : l ≠ [] := by rintro rfl; simp at hne
  obtain ⟨b, o, ha, hb, hlst⟩ := h hl
  refine ⟨b, o, ha, hb, fun i x y hi => hlst i x y ?_⟩
  have hik : i < k := by
    have := (List.getElem?_eq_some_iff.1 hi).1
    simp only [List.length_take] at this
    omega
  rwa [List.getElem?_take_of_lt hik] at hi
theorem sl_drop {w : World} {b o : Nat} {l : List (Int × Int)} (h : SL w (some ⟨b, o, none⟩) l) (k : Nat) : SL w (some ⟨b, o + k * 2, none⟩) (l.drop k) := by
  intro hne
  have hl : l ≠ [] := by rintro rfl; simp at hne
  obtain ⟨b', o', ha, hb, hlst⟩ := h hl
  simp only [Option.some.injEq, Addr.mk.injEq, and_true] at ha
  obtain ⟨rfl, rfl⟩ := ha
  refine ⟨b, o + k * 2, rfl, hb, fun i x y hi => ?_⟩
  rw [List.getElem?_drop] at hi
  have := hlst (k + i) x y hi
  rw [show o + k * 2 + i * 2 = o + (k + i) * 2 by omega]
  exact this
theorem own_emptyL (w : World) : OwnL (w.alloc (.cells #[] 42)) w.heap.size (.slice (some ⟨w.heap.size, 0, none⟩) 0 0) [] := own_empty w
theorem OwnL.monoA {w : World} {base B : Nat} {v : Value} {d : List (Int × Int)} (h : OwnL w B v d) (hb : base ≤ B) : OwnL w base v d := by
  obtain ⟨h1, h2 | ⟨g, cap, cur, hv, hg, hx⟩⟩ := h
  · exact ⟨h1, .inl h2⟩
  · exact ⟨h1, .inr ⟨g, cap, cur, hv, Nat.le_trans hb hg, hx⟩⟩
theorem ownlt {w : World} {base g n c : Nat} {l : List (Int × Int)} (h : OwnL w base (.slice (some ⟨g, 0, none⟩) n c) l) : g < w.heap.size := by
  obtain ⟨h1, ⟨h2, _⟩ | ⟨g', cap, cur, hv, hg, hh, _⟩⟩ := h
  · cases h2
  · simp only [Value.slice.injEq, Option.some.injEq, Addr.mk.injEq] at hv
    obtain ⟨⟨rfl, _⟩, _⟩ := hv
    exact lt_of_block hh
theorem sl_grownA {w w' : World} {v : Value} {l : List (Int × Int)} {a : Option Addr} (h : SL w a l) (hx : ∀ b o, a = some ⟨b, o, none⟩ → v.ownBlock ≠ some b) (hg : w.grownBy w' v.ownBlock) : SL w' a l := by
  intro hne
  obtain ⟨b, o, rfl, hb, hl⟩ := h hne
  refine ⟨b, o, rfl, Nat.lt_of_lt_of_le hb hg.size, fun i x y hi => ?_⟩
  have hbl := hg.block b hb (fun e => hx b o rfl e.symm)
  obtain ⟨c0, c1⟩ := hl i x y hi
  simp only [World.cell?, hbl] at *
  exact ⟨c0, c1⟩

set_option maxRecDepth 100000 in
set_option maxHeartbeats 16000000 in
theorem add_any (a : Option Addr) (cap : Nat) (l : List (Int × Int)) (t n : Int) (w : World) (hlen : l.length ≤ 1000000) (hl : SL w a l) (hn : a = none → cap = 0) (hc : l.length ≤ cap) :
    Calls Tryz.prog 126 #[.slice a l.length cap, .agg #[.int .i64 t, .int .i64 n]] w (RetA w (addL l (t, n))) := by
  have HL := Lib.hid hl
  have HLEN := Lib.hid hlen
  have HNN := Lib.hid hn
  have HCC := Lib.hid hc
  clear hl hn hc
  go_enter Tryz.func126, Tryz.ntmps126
  go_wp2
  have hB1 : Hid (Below w.heap.size w (w.alloc (Obj.cells #[Value.int IntKind.i64 t, Value.int IntKind.i64 n] 42))) := (Below.refl _ _).alloc (Nat.le_refl _) _
  have hN : Own2 (w.alloc (Obj.cells #[Value.int IntKind.i64 t, Value.int IntKind.i64 n] 42)) w.heap.size t n := own2_new _ _ _
  generalize w.alloc (Obj.cells #[Value.int IntKind.i64 t, Value.int IntKind.i64 n] 42) = W at *
  have HN := Lib.hid hN
  have hS := hN.lt
  clear hN
  go_loopw [5] (fun i wr => ∃ k : Nat, k ≤ l.length ∧ i = .int .i64 k ∧ Below W.heap.size W wr ∧ ∀ j y, j < k → l[j]? = some y → ltS y (t, n) = true) (fun i _ => l.length - (intOf i).toNat)
  case atStart => exact ⟨0, Nat.zero_le _, rfl, Below.refl _ _, fun j y h => absurd h (Nat.not_lt_zero _)⟩
  case round =>
    obtain ⟨k, hk, rfl, hbel, hpre⟩ := hrel
    have HB := Lib.hid hbel
    have HPRE := Lib.hid hpre
    have hN2 := HN.out.later hbel hS
    have hc0 := hN2.c0
    have hc1 := hN2.c1
    have hsz : w.heap.size < wr.heap.size := hN2.lt
    have HBW := Lib.hid (hB1.out.trans (hbel.mono (Nat.le_of_lt hS)))
    clear hbel hpre hN2
    by_cases hlt : k < l.length
    · obtain ⟨x, y, hxy⟩ := at_lt hlt
      obtain ⟨b, o, rfl, hb, hl⟩ := HL.out (ne_of_lt hlt)
      obtain ⟨hx, hy⟩ := hl.later hb HBW.out k x y hxy
      have hbw : b < wr.heap.size := Nat.lt_of_lt_of_le hb HBW.out.size
      have hdec : decide ((k : Int) < (l.length : Int)) = true := by simpa using hlt
      have hltI : (k : Int) < (l.length : Int) := by omega
      have HXY := Lib.hid hxy
      clear hxy hl
      cases hcx : ltS (x, y) (t, n)
      · have HLT := Lib.hid hcx
        clear hcx
        go_wp2_with fail
        refine region_aft (by kernel_rfl) (by kernel_rfl) ?_
        repeat (go_big_quiet_step (first | (go_at_call 83; exact aft_grown ((less_any _ _ _ _ _).mono fun e w' h => by rw [HLT.out] at h; exact h))))
        refine wpQuiet_nil ?_
        rintro w2 ⟨z, rfl⟩
        have z0 := z.h
        generalize z.x = w2 at z0 ⊢
        clear z
        have HB3 := Lib.hid (HB.out.trans (z0.mono HB.out.size))
        have HBW3 := Lib.hid (blThen HBW.out z0)
        have hN3 := HN.out.later HB3.out hS
        have hd0 := hN3.c0
        have hd1 := hN3.c1
        have hsz3 : w.heap.size < w2.heap.size := hN3.lt
        have hx3 := cell_in z0 hbw hx
        have hy3 := cell_in z0 hbw hy
        have hbw3 : b < w2.heap.size := Nat.lt_of_lt_of_le hbw z0.size
        have HADD : Hid (addL l (t, n) = if l[k]? = some (t, n) then l else l.take k ++ ([(t, n)] ++ l.drop k)) := addL_at (t, n) l k HPRE.out (fun y hy => by
          rw [HXY.out] at hy
          simp only [Option.some.injEq] at hy
          rw [← hy]
          exact HLT.out) hk
        clear hx hy hc0 hc1 z0 hsz hbw hN3
        by_cases heq : x = t
        · by_cases heq2 : y = n
          · subst heq heq2
            have HR : Hid (RetA w (addL l (x, y)) (.returned (.slice (some ⟨b, o, none⟩) l.length cap)) w2) := by
              show RetA _ _ _ _
              rw [HADD.out, if_pos HXY.out]
              exact ⟨_, _, rfl, HL.out.later HBW3.out, HNN.out, HCC.out, HBW3.out⟩
            go_wp2_with fail
            refine region_aft (by kernel_rfl) (by kernel_rfl) ?_
            repeat (go_big_quiet_step (fail))
            refine wpQuiet_nil ?_
            rintro w3 ⟨z, rfl⟩
            go_wp2
            go_ret
            obtain ⟨a', c', h1, h2, h3, h4, h5⟩ := HR.out
            exact ⟨a', c', h1, h2.later z.h, h3, h4, blThen h5 z.h⟩
          · have h2b : (y == n) = false := by simpa using heq2
            have HNE : Hid (¬ (x = t ∧ y = n)) := fun h => heq2 h.2
            go_wp2_with fail
            refine region_aft (by kernel_rfl) (by kernel_rfl) ?_
            repeat (go_big_quiet_step (fail))
            refine wpQuiet_nil ?_
            rintro w3 ⟨z, rfl⟩
            have z3 := z.h
            generalize z.x = w3 at z3 ⊢
            clear z
            have HB5 := Lib.hid (blThen HBW3.out z3)
            have HN5 := HN.out.later (HB3.out.trans (z3.mono HB3.out.size)) hS
            have HQ0 := Lib.hid HN5.c0
            have HQ1 := Lib.hid HN5.c1
            have HLT := Lib.hid HN5.lt
            have HSL := Lib.hid (HL.out.later HB5.out)
            have HS1 := Lib.hid (sl_take HSL.out k)
            have HS2 := Lib.hid (sl_drop HSL.out k)
            have HLK : Hid ((l.take k).length = k) := by show _ = k; simp; omega
            have HLD : Hid ((l.drop k).length = l.length - k) := by show _ = _; simp
            have HNA := HNN
            have HADD2 : Hid (addL l (t, n) = l.take k ++ ([(t, n)] ++ l.drop k)) := by
              show addL l (t, n) = _
              rw [HADD.out, HXY.out, if_neg]
              simp only [Option.some.injEq, Prod.mk.injEq]
              exact HNE.out
            have hck : ¬ cap = k := by have := HCC.out; omega
            have hkc : (k : Int) ≤ (cap : Int) := by have := HCC.out; omega
            have hkl : (k : Int) ≤ (l.length : Int) := by omega
            clear HN5 hd0 hd1 hx3 hy3 z3
            go_wp2_with fail
            refine wp_region_held_drew (S := fun w' => Below w3.heap.size w3 w') (by kernel_rfl) ⟨rfl, rfl, rfl, Nat.le_refl _, fun _ _ => rfl⟩ (fun hHeld => ?_)
            have HWS : Hid (w3.heap.size ≤ w3.drew.heap.size) := Nat.le_refl _
            generalize w3.drew = wS at *
            refine wpAnyH_take (i := 1) (oi := { dst := some 34, op := Op.move (Operand.tmp 0), type := 24, pos := _, after := #[], guard := none }) (v := ?v1x1) rfl (by kernel_rfl) (by kernel_rfl) (by kernel_rfl) (fun _ _ _ h => h) (Or.inl ⟨by rfl, ?hy1x1⟩) hHeld ?rest1x1
            case hy1x1 => (intro w' hSw; go_simp; try with_reducible rfl)
            try simp only [Act.put, List.setIfInBounds_toArray, List.set_cons_zero, List.set_cons_succ]
            refine wpAnyH_take (i := 2) (oi := { dst := some 35, op := Op.move (Operand.tmp 5), type := 3, pos := _, after := #[], guard := none }) (v := ?v2x2) rfl (by kernel_rfl) (by kernel_rfl) (by kernel_rfl) (fun _ _ _ h => h) (Or.inl ⟨by rfl, ?hy2x2⟩) hHeld ?rest2x2
            case hy2x2 => (intro w' hSw; go_simp; try with_reducible rfl)
            try simp only [Act.put, List.setIfInBounds_toArray, List.set_cons_zero, List.set_cons_succ]
            refine wpAnyH_take (i := 3) (oi := { dst := some 36, op := Op.slice 24 (Operand.tmp 34) none (some (Operand.tmp 35)) none, type := 24, pos := _, after := #[{ on := 1, ground := Ground.data }, { on := 2, ground := Ground.data }], guard := none }) (v := ?v3x3) rfl (by kernel_rfl) (by kernel_rfl) (by kernel_rfl) (fun _ _ _ h => h) (Or.inl ⟨by rfl, ?hy3x3⟩) hHeld ?rest3x3
            case hy3x3 => (intro w' hSw; go_simp; try with_reducible rfl)
            try simp only [Act.put, List.setIfInBounds_toArray, List.set_cons_zero, List.set_cons_succ]
            refine wpAnyH_take (i := 5) (oi := { dst := some 38, op := Op.load 42 (Operand.tmp 3), type := 42, pos := _, after := #[], guard := none }) (v := ?v5x4) rfl (by kernel_rfl) (by kernel_rfl) (by kernel_rfl) (fun _ _ _ h => h) (Or.inl ⟨by rfl, ?hy5x4⟩) hHeld ?rest5x4
            case hy5x4 => (intro w' hSw; have s0 := cell_in hSw HLT.out HQ0.out; have s1 := cell_in hSw HLT.out HQ1.out; go_simp; try with_reducible rfl)
            try simp only [Act.put, List.setIfInBounds_toArray, List.set_cons_zero, List.set_cons_succ]
            refine wpAnyH_take (i := 8) (oi := { dst := some 41, op := Op.move (Operand.tmp 0), type := 24, pos := _, after := #[], guard := none }) (v := ?v8x5) rfl (by kernel_rfl) (by kernel_rfl) (by kernel_rfl) (fun _ _ _ h => h) (Or.inl ⟨by rfl, ?hy8x5⟩) hHeld ?rest8x5
            case hy8x5 => (intro w' hSw; go_simp; try with_reducible rfl)
            try simp only [Act.put, List.setIfInBounds_toArray, List.set_cons_zero, List.set_cons_succ]
            refine wpAnyH_take (i := 9) (oi := { dst := some 42, op := Op.move (Operand.tmp 5), type := 3, pos := _, after := #[], guard := none }) (v := ?v9x6) rfl (by kernel_rfl) (by kernel_rfl) (by kernel_rfl) (fun _ _ _ h => h) (Or.inl ⟨by rfl, ?hy9x6⟩) hHeld ?rest9x6
            case hy9x6 => (intro w' hSw; go_simp; try with_reducible rfl)
            try simp only [Act.put, List.setIfInBounds_toArray, List.set_cons_zero, List.set_cons_succ]
            refine wpAnyH_take (i := 10) (oi := { dst := some 43, op := Op.slice 24 (Operand.tmp 41) (some (Operand.tmp 42)) none none, type := 24, pos := _, after := #[{ on := 8, ground := Ground.data }, { on := 9, ground := Ground.data }], guard := none }) (v := ?v10x7) rfl (by kernel_rfl) (by kernel_rfl) (by kernel_rfl) (fun _ _ _ h => h) (Or.inl ⟨by rfl, ?hy10x7⟩) hHeld ?rest10x7
            case hy10x7 => (intro w' hSw; go_simp; try with_reducible rfl)
            try simp only [Act.put, List.setIfInBounds_toArray, List.set_cons_zero, List.set_cons_succ]
            refine wpAnyH_ready (rs := [0, 6]) (by kernel_rfl) (by simp) ?_
            refine AllReadyH.cons (o := { dst := some 33, op := Op.buildSlice 24 0 #[], type := 24, pos := _, after := #[], guard := none }) rfl (fun K hK => ?_) (AllReadyH.cons (o := { dst := some 39, op := Op.buildSlice 24 1 #[(0, Operand.tmp 38)], type := 24, pos := _, after := #[{ on := 5, ground := Ground.data }], guard := none }) rfl (fun K hK => ?_) AllReadyH.nil)
            · go_simp
              have HE : Hid (OwnL (wS.alloc (Obj.cells #[] 42)) w3.heap.size (.slice (some ⟨wS.heap.size, 0, none⟩) 0 0) []) := (own_emptyL wS).monoA HWS.out
              refine hK.out _ _ (blAlloc hHeld _) (fun hHeldN => ?_)
              clear hK K
              clear hHeld
              have hHeld := hHeldN
              clear hHeldN
              try simp only [Act.put, List.setIfInBounds_toArray, List.set_cons_zero, List.set_cons_succ]
              generalize wS.alloc (Obj.cells #[] 42) = wA at *
              refine wpAnyH_ready (rs := [4, 6]) (by kernel_rfl) (by simp) ?_
              refine AllReadyH.cons (o := { dst := some 37, op := Op.call { callee := Callee.builtin Builtin.append, args := #[Operand.tmp 33, Operand.tmp 36], argTypes := #[24, 24] }, type := 24, pos := _, after := #[{ on := 0, ground := Ground.data }, { on := 3, ground := Ground.data }], guard := none }) rfl (fun K hK => ?_) (AllReadyH.cons (o := { dst := some 39, op := Op.buildSlice 24 1 #[(0, Operand.tmp 38)], type := 24, pos := _, after := #[{ on := 5, ground := Ground.data }], guard := none }) rfl (fun K hK => ?_) AllReadyH.nil)
              · rw [if_pos (by rfl)]
                refine wp_append_st _ _ rfl w3.heap.size _ [] rfl HE.out (some ⟨b, o, none⟩) cap (l.take k) (by rw [HLK.out]; rfl) (HS1.out.later hHeld) HNA.out (by have := HLK.out; have := HLEN.out; simp only [List.length_nil]; omega) hHeld.size ?_
                intro v4 wC hown hgrow
                have HO4 : Hid (OwnL wC w3.heap.size v4 (l.take k)) := hown
                refine hK.out _ _ (grown_below hHeld HE.out (Nat.le_refl _) hHeld.size hgrow) (fun hHeldN => ?_)
                clear hown hgrow hK K
                clear hHeld
                have hHeld := hHeldN
                clear hHeldN
                try simp only [Act.put, List.setIfInBounds_toArray, List.set_cons_zero, List.set_cons_succ]
                refine wpAnyH_ready (rs := [6]) (by kernel_rfl) (by simp) ?_
                refine AllReadyH.cons (o := { dst := some 39, op := Op.buildSlice 24 1 #[(0, Operand.tmp 38)], type := 24, pos := _, after := #[{ on := 5, ground := Ground.data }], guard := none }) rfl (fun K hK => ?_) AllReadyH.nil
                go_simp
                have HSs := Lib.hid (one_sl _ t n _ (own2_new wC t n))
                have HO4b := Lib.hid (HO4.out.later (blAlloc (Below.refl _ _) (Obj.cells #[Value.int IntKind.i64 t, Value.int IntKind.i64 n] 42)))
                refine hK.out _ _ (blAlloc hHeld _) (fun hHeldN => ?_)
                clear hK K HO4
                have HO4 := HO4b
                clear HO4b
                clear hHeld
                have hHeld := hHeldN
                clear hHeldN
                try simp only [Act.put, List.setIfInBounds_toArray, List.set_cons_zero, List.set_cons_succ]
                refine wpAnyH_ready (rs := [7]) (by kernel_rfl) (by simp) ?_
                refine AllReadyH.cons (o := { dst := some 40, op := Op.call { callee := Callee.builtin Builtin.append, args := #[Operand.tmp 37, Operand.tmp 39], argTypes := #[24, 24] }, type := 24, pos := _, after := #[{ on := 4, ground := Ground.data }, { on := 6, ground := Ground.data }, { on := 4, ground := Ground.chain }], guard := none }) rfl (fun K hK => ?_) AllReadyH.nil
                rw [if_pos (by rfl)]
                refine wp_append_st _ _ rfl w3.heap.size _ (l.take k) rfl HO4.out (some ⟨wC.heap.size, 0, none⟩) 1 [(t, n)] rfl HSs.out (fun h => (by cases h)) (by have := HLK.out; have := HLEN.out; simp only [List.length_singleton]; omega) hHeld.size ?_
                intro v7 wD hown hgrow
                have HO7 := Lib.hid hown
                refine hK.out _ _ (grown_below hHeld HO4.out (Nat.le_refl _) hHeld.size hgrow) (fun hHeldN => ?_)
                clear hown hgrow
                clear hHeld
                have hHeld := hHeldN
                clear hHeldN
                clear hK K
                try simp only [Act.put, List.setIfInBounds_toArray, List.set_cons_zero, List.set_cons_succ]
                refine wpAnyH_ready (rs := [11]) (by kernel_rfl) (by simp) ?_
                refine AllReadyH.cons (o := { dst := some 44, op := Op.call { callee := Callee.builtin Builtin.append, args := #[Operand.tmp 40, Operand.tmp 43], argTypes := #[24, 24] }, type := 24, pos := _, after := #[{ on := 7, ground := Ground.data }, { on := 10, ground := Ground.data }, { on := 7, ground := Ground.chain }], guard := none }) rfl (fun K hK => ?_) AllReadyH.nil
                rw [if_pos (by rfl)]
                refine wp_append_st _ _ rfl w3.heap.size _ (l.take k ++ [(t, n)]) rfl HO7.out (some ⟨b, o + k * 2, none⟩) (cap - k) (l.drop k) (by rw [HLD.out]; rfl) (HS2.out.later hHeld) (fun h => (by cases h)) (by have := HLK.out; have := HLD.out; have := HLEN.out; rw [List.length_append, List.length_singleton]; omega) hHeld.size ?_
                intro v11 wE hown hgrow
                have HO11 : Hid (OwnL wE w3.heap.size v11 (l.take k ++ ([(t, n)] ++ l.drop k))) := by
                  show OwnL _ _ _ _
                  rw [← List.append_assoc]
                  exact hown
                refine hK.out _ _ (grown_below hHeld HO7.out (Nat.le_refl _) hHeld.size hgrow) (fun hHeldN => ?_)
                clear hown hgrow
                clear hHeld
                have hHeld := hHeldN
                clear hHeldN
                clear hK K
                try simp only [Act.put, List.setIfInBounds_toArray, List.set_cons_zero, List.set_cons_succ]
                refine wpAnyH_take (i := 12) (oi := { dst := some 4, op := Op.assign (Operand.tmp 44), type := 24, pos := _, after := #[{ on := 11, ground := Ground.data }, { on := 11, ground := Ground.chain }, { on := 0, ground := Ground.phase }, { on := 1, ground := Ground.phase }, { on := 2, ground := Ground.phase }, { on := 3, ground := Ground.phase }, { on := 4, ground := Ground.phase }, { on := 5, ground := Ground.phase }, { on := 6, ground := Ground.phase }, { on := 7, ground := Ground.phase }, { on := 8, ground := Ground.phase }, { on := 9, ground := Ground.phase }, { on := 10, ground := Ground.phase }, { on := 11, ground := Ground.phase }], guard := none }) (v := ?v12x8) rfl (by kernel_rfl) (by kernel_rfl) (by kernel_rfl) (fun _ _ _ h => h) (Or.inl ⟨by rfl, ?hy12x8⟩) hHeld ?rest12x8
                case hy12x8 => (intro w' hSw; go_simp; try with_reducible rfl)
                try simp only [Act.put, List.setIfInBounds_toArray, List.set_cons_zero, List.set_cons_succ]
                refine wpAnyH_done (by kernel_rfl) ?_ _
                go_wp2
                go_ret
                exact reta_own HADD2.out HO11.out HB5.out.size (blThen HB5.out hHeld)
              · go_simp
                have HS0 := Lib.hid (one_sl _ t n _ (own2_new wA t n))
                have HE2 := Lib.hid (HE.out.later (blAlloc (Below.refl _ _) (Obj.cells #[Value.int IntKind.i64 t, Value.int IntKind.i64 n] 42)))
                have HX : Hid (∀ c, (Value.slice (some ⟨wS.heap.size, 0, none⟩) 0 0).ownBlock = some c → c < wA.heap.size) := fun c h => (by simp only [Value.ownBlock, Option.some.injEq] at h; rw [← h]; exact ownlt HE.out)
                refine hK.out _ _ (blAlloc hHeld _) (fun hHeldN => ?_)
                clear hK K
                clear hHeld
                have hHeld := hHeldN
                clear hHeldN
                try simp only [Act.put, List.setIfInBounds_toArray, List.set_cons_zero, List.set_cons_succ]
                refine wpAnyH_ready (rs := [4]) (by kernel_rfl) (by simp) ?_
                refine AllReadyH.cons (o := { dst := some 37, op := Op.call { callee := Callee.builtin Builtin.append, args := #[Operand.tmp 33, Operand.tmp 36], argTypes := #[24, 24] }, type := 24, pos := _, after := #[{ on := 0, ground := Ground.data }, { on := 3, ground := Ground.data }], guard := none }) rfl (fun K hK => ?_) AllReadyH.nil
                rw [if_pos (by rfl)]
                refine wp_append_st _ _ rfl w3.heap.size _ [] rfl HE2.out (some ⟨b, o, none⟩) cap (l.take k) (by rw [HLK.out]; rfl) (HS1.out.later hHeld) HNA.out (by have := HLK.out; have := HLEN.out; simp only [List.length_nil]; omega) hHeld.size ?_
                intro v4 wC hown hgrow
                have HO4 : Hid (OwnL wC w3.heap.size v4 (l.take k)) := hown
                have HSs := Lib.hid (sl_grownA HS0.out (fun b' o' h e => by
                  simp only [Option.some.injEq, Addr.mk.injEq] at h
                  exact Nat.lt_irrefl _ (Nat.lt_of_lt_of_le (HX.out _ e) (Nat.le_of_eq h.1))) hgrow)
                refine hK.out _ _ (grown_below hHeld HE2.out (Nat.le_refl _) hHeld.size hgrow) (fun hHeldN => ?_)
                clear hown hgrow hK K
                clear hHeld
                have hHeld := hHeldN
                clear hHeldN
                try simp only [Act.put, List.setIfInBounds_toArray, List.set_cons_zero, List.set_cons_succ]
                refine wpAnyH_ready (rs := [7]) (by kernel_rfl) (by simp) ?_
                refine AllReadyH.cons (o := { dst := some 40, op := Op.call { callee := Callee.builtin Builtin.append, args := #[Operand.tmp 37, Operand.tmp 39], argTypes := #[24, 24] }, type := 24, pos := _, after := #[{ on := 4, ground := Ground.data }, { on := 6, ground := Ground.data }, { on := 4, ground := Ground.chain }], guard := none }) rfl (fun K hK => ?_) AllReadyH.nil
                rw [if_pos (by rfl)]
                refine wp_append_st _ _ rfl w3.heap.size _ (l.take k) rfl HO4.out (some ⟨wA.heap.size, 0, none⟩) 1 [(t, n)] rfl HSs.out (fun h => (by cases h)) (by have := HLK.out; have := HLEN.out; simp only [List.length_singleton]; omega) hHeld.size ?_
                intro v7 wD hown hgrow
                have HO7 := Lib.hid hown
                refine hK.out _ _ (grown_below hHeld HO4.out (Nat.le_refl _) hHeld.size hgrow) (fun hHeldN => ?_)
                clear hown hgrow
                clear hHeld
                have hHeld := hHeldN
                clear hHeldN
                clear hK K
                try simp only [Act.put, List.setIfInBounds_toArray, List.set_cons_zero, List.set_cons_succ]
                refine wpAnyH_ready (rs := [11]) (by kernel_rfl) (by simp) ?_
                refine AllReadyH.cons (o := { dst := some 44, op := Op.call { callee := Callee.builtin Builtin.append, args := #[Operand.tmp 40, Operand.tmp 43], argTypes := #[24, 24] }, type := 24, pos := _, after := #[{ on := 7, ground := Ground.data }, { on := 10, ground := Ground.data }, { on := 7, ground := Ground.chain }], guard := none }) rfl (fun K hK => ?_) AllReadyH.nil
                rw [if_pos (by rfl)]
                refine wp_append_st _ _ rfl w3.heap.size _ (l.take k ++ [(t, n)]) rfl HO7.out (some ⟨b, o + k * 2, none⟩) (cap - k) (l.drop k) (by rw [HLD.out]; rfl) (HS2.out.later hHeld) (fun h => (by cases h)) (by have := HLK.out; have := HLD.out; have := HLEN.out; rw [List.length_append, List.length_singleton]; omega) hHeld.size ?_
                intro v11 wE hown hgrow
                have HO11 : Hid (OwnL wE w3.heap.size v11 (l.take k ++ ([(t, n)] ++ l.drop k))) := by
                  show OwnL _ _ _ _
                  rw [← List.append_assoc]
                  exact hown
                refine hK.out _ _ (grown_below hHeld HO7.out (Nat.le_refl _) hHeld.size hgrow) (fun hHeldN => ?_)
                clear hown hgrow
                clear hHeld
                have hHeld := hHeldN
                clear hHeldN
                clear hK K
                try simp only [Act.put, List.setIfInBounds_toArray, List.set_cons_zero, List.set_cons_succ]
                refine wpAnyH_take (i := 12) (oi := { dst := some 4, op := Op.assign (Operand.tmp 44), type := 24, pos := _, after := #[{ on := 11, ground := Ground.data }, { on := 11, ground := Ground.chain }, { on := 0, ground := Ground.phase }, { on := 1, ground := Ground.phase }, { on := 2, ground := Ground.phase }, { on := 3, ground := Ground.phase }, { on := 4, ground := Ground.phase }, { on := 5, ground := Ground.phase }, { on := 6, ground := Ground.phase }, { on := 7, ground := Ground.phase }, { on := 8, ground := Ground.phase }, { on := 9, ground := Ground.phase }, { on := 10, ground := Ground.phase }, { on := 11, ground := Ground.phase }], guard := none }) (v := ?v12x9) rfl (by kernel_rfl) (by kernel_rfl) (by kernel_rfl) (fun _ _ _ h => h) (Or.inl ⟨by rfl, ?hy12x9⟩) hHeld ?rest12x9
                case hy12x9 => (intro w' hSw; go_simp; try with_reducible rfl)
                try simp only [Act.put, List.setIfInBounds_toArray, List.set_cons_zero, List.set_cons_succ]
                refine wpAnyH_done (by kernel_rfl) ?_ _
                go_wp2
                go_ret
                exact reta_own HADD2.out HO11.out HB5.out.size (blThen HB5.out hHeld)
            · go_simp
              have HS0 : Hid (SL (wS.alloc (Obj.cells #[Value.int IntKind.i64 t, Value.int IntKind.i64 n] 42)) (some ⟨wS.heap.size, 0, none⟩) [(t, n)]) := one_sl _ t n _ (own2_new wS t n)
              have hW : wS.heap.size < (wS.alloc (Obj.cells #[Value.int IntKind.i64 t, Value.int IntKind.i64 n] 42)).heap.size := by simp
              refine hK.out _ _ (blAlloc hHeld _) (fun hHeldN => ?_)
              clear hK K
              clear hHeld
              have hHeld := hHeldN
              clear hHeldN
              try simp only [Act.put, List.setIfInBounds_toArray, List.set_cons_zero, List.set_cons_succ]
              generalize wS.alloc (Obj.cells #[Value.int IntKind.i64 t, Value.int IntKind.i64 n] 42) = wA at *
              refine wpAnyH_ready (rs := [0]) (by kernel_rfl) (by simp) ?_
              refine AllReadyH.cons (o := { dst := some 33, op := Op.buildSlice 24 0 #[], type := 24, pos := _, after := #[], guard := none }) rfl (fun K hK => ?_) AllReadyH.nil
              go_simp
              have HE : Hid (OwnL (wA.alloc (Obj.cells #[] 42)) w3.heap.size (.slice (some ⟨wA.heap.size, 0, none⟩) 0 0) []) := (own_emptyL wA).monoA (Nat.le_trans HWS.out (Nat.le_of_lt hW))
              have HS1b := Lib.hid (HS0.out.later (blAlloc (Below.refl _ _) (Obj.cells #[] 42)))
              refine hK.out _ _ (blAlloc hHeld _) (fun hHeldN => ?_)
              clear hK K
              clear hHeld
              have hHeld := hHeldN
              clear hHeldN
              try simp only [Act.put, List.setIfInBounds_toArray, List.set_cons_zero, List.set_cons_succ]
              refine wpAnyH_ready (rs := [4]) (by kernel_rfl) (by simp) ?_
              refine AllReadyH.cons (o := { dst := some 37, op := Op.call { callee := Callee.builtin Builtin.append, args := #[Operand.tmp 33, Operand.tmp 36], argTypes := #[24, 24] }, type := 24, pos := _, after := #[{ on := 0, ground := Ground.data }, { on := 3, ground := Ground.data }], guard := none }) rfl (fun K hK => ?_) AllReadyH.nil
              rw [if_pos (by rfl)]
              refine wp_append_st _ _ rfl w3.heap.size _ [] rfl HE.out (some ⟨b, o, none⟩) cap (l.take k) (by rw [HLK.out]; rfl) (HS1.out.later hHeld) HNA.out (by have := HLK.out; have := HLEN.out; simp only [List.length_nil]; omega) hHeld.size ?_
              intro v4 wC hown hgrow
              have HO4 : Hid (OwnL wC w3.heap.size v4 (l.take k)) := hown
              have HX : Hid (∀ c, (Value.slice (some ⟨wA.heap.size, 0, none⟩) 0 0).ownBlock = some c → wS.heap.size < c) := fun c h => (by simp only [Value.ownBlock, Option.some.injEq] at h; rw [← h]; exact hW)
              have HSs := Lib.hid (sl_grownA HS1b.out (fun b' o' h e => by
                simp only [Option.some.injEq, Addr.mk.injEq] at h
                exact Nat.lt_irrefl _ (Nat.lt_of_le_of_lt (Nat.le_of_eq h.1.symm) (HX.out _ e))) hgrow)
              refine hK.out _ _ (grown_below hHeld HE.out (Nat.le_refl _) hHeld.size hgrow) (fun hHeldN => ?_)
              clear hown hgrow hK K
              clear hHeld
              have hHeld := hHeldN
              clear hHeldN
              try simp only [Act.put, List.setIfInBounds_toArray, List.set_cons_zero, List.set_cons_succ]
              refine wpAnyH_ready (rs := [7]) (by kernel_rfl) (by simp) ?_
              refine AllReadyH.cons (o := { dst := some 40, op := Op.call { callee := Callee.builtin Builtin.append, args := #[Operand.tmp 37, Operand.tmp 39], argTypes := #[24, 24] }, type := 24, pos := _, after := #[{ on := 4, ground := Ground.data }, { on := 6, ground := Ground.data }, { on := 4, ground := Ground.chain }], guard := none }) rfl (fun K hK => ?_) AllReadyH.nil
              rw [if_pos (by rfl)]
              refine wp_append_st _ _ rfl w3.heap.size _ (l.take k) rfl HO4.out (some ⟨wS.heap.size, 0, none⟩) 1 [(t, n)] rfl HSs.out (fun h => (by cases h)) (by have := HLK.out; have := HLEN.out; simp only [List.length_singleton]; omega) hHeld.size ?_
              intro v7 wD hown hgrow
              have HO7 := Lib.hid hown
              refine hK.out _ _ (grown_below hHeld HO4.out (Nat.le_refl _) hHeld.size hgrow) (fun hHeldN => ?_)
              clear hown hgrow
              clear hHeld
              have hHeld := hHeldN
              clear hHeldN
              clear hK K
              try simp only [Act.put, List.setIfInBounds_toArray, List.set_cons_zero, List.set_cons_succ]
              refine wpAnyH_ready (rs := [11]) (by kernel_rfl) (by simp) ?_
              refine AllReadyH.cons (o := { dst := some 44, op := Op.call { callee := Callee.builtin Builtin.append, args := #[Operand.tmp 40, Operand.tmp 43], argTypes := #[24, 24] }, type := 24, pos := _, after := #[{ on := 7, ground := Ground.data }, { on := 10, ground := Ground.data }, { on := 7, ground := Ground.chain }], guard := none }) rfl (fun K hK => ?_) AllReadyH.nil
              rw [if_pos (by rfl)]
              refine wp_append_st _ _ rfl w3.heap.size _ (l.take k ++ [(t, n)]) rfl HO7.out (some ⟨b, o + k * 2, none⟩) (cap - k) (l.drop k) (by rw [HLD.out]; rfl) (HS2.out.later hHeld) (fun h => (by cases h)) (by have := HLK.out; have := HLD.out; have := HLEN.out; rw [List.length_append, List.length_singleton]; omega) hHeld.size ?_
              intro v11 wE hown hgrow
              have HO11 : Hid (OwnL wE w3.heap.size v11 (l.take k ++ ([(t, n)] ++ l.drop k))) := by
                show OwnL _ _ _ _
                rw [← List.append_assoc]
                exact hown
              refine hK.out _ _ (grown_below hHeld HO7.out (Nat.le_refl _) hHeld.size hgrow) (fun hHeldN => ?_)
              clear hown hgrow
              clear hHeld
              have hHeld := hHeldN
              clear hHeldN
              clear hK K
              try simp only [Act.put, List.setIfInBounds_toArray, List.set_cons_zero, List.set_cons_succ]
              refine wpAnyH_take (i := 12) (oi := { dst := some 4, op := Op.assign (Operand.tmp 44), type := 24, pos := _, after := #[{ on := 11, ground := Ground.data }, { on := 11, ground := Ground.chain }, { on := 0, ground := Ground.phase }, { on := 1, ground := Ground.phase }, { on := 2, ground := Ground.phase }, { on := 3, ground := Ground.phase }, { on := 4, ground := Ground.phase }, { on := 5, ground := Ground.phase }, { on := 6, ground := Ground.phase }, { on := 7, ground := Ground.phase }, { on := 8, ground := Ground.phase }, { on := 9, ground := Ground.phase }, { on := 10, ground := Ground.phase }, { on := 11, ground := Ground.phase }], guard := none }) (v := ?v12x10) rfl (by kernel_rfl) (by kernel_rfl) (by kernel_rfl) (fun _ _ _ h => h) (Or.inl ⟨by rfl, ?hy12x10⟩) hHeld ?rest12x10
              case hy12x10 => (intro w' hSw; go_simp; try with_reducible rfl)
              try simp only [Act.put, List.setIfInBounds_toArray, List.set_cons_zero, List.set_cons_succ]
              refine wpAnyH_done (by kernel_rfl) ?_ _
              go_wp2
              go_ret
              exact reta_own HADD2.out HO11.out HB5.out.size (blThen HB5.out hHeld)
        · have h1b : (x == t) = false := by simpa using heq
          have HNE : Hid (¬ (x = t ∧ y = n)) := fun h => heq h.1
          go_wp2_with fail
          refine region_aft (by kernel_rfl) (by kernel_rfl) ?_
          repeat (go_big_quiet_step (fail))
          refine wpQuiet_nil ?_
          rintro w3 ⟨z, rfl⟩
          have z3 := z.h
          generalize z.x = w3 at z3 ⊢
          clear z
          have HB5 := Lib.hid (blThen HBW3.out z3)
          have HN5 := HN.out.later (HB3.out.trans (z3.mono HB3.out.size)) hS
          have HQ0 := Lib.hid HN5.c0
          have HQ1 := Lib.hid HN5.c1
          have HLT := Lib.hid HN5.lt
          have HSL := Lib.hid (HL.out.later HB5.out)
          have HS1 := Lib.hid (sl_take HSL.out k)
          have HS2 := Lib.hid (sl_drop HSL.out k)
          have HLK : Hid ((l.take k).length = k) := by show _ = k; simp; omega
          have HLD : Hid ((l.drop k).length = l.length - k) := by show _ = _; simp
          have HNA := HNN
          have HADD2 : Hid (addL l (t, n) = l.take k ++ ([(t, n)] ++ l.drop k)) := by
            show addL l (t, n) = _
            rw [HADD.out, HXY.out, if_neg]
            simp only [Option.some.injEq, Prod.mk.injEq]
            exact HNE.out
          have hck : ¬ cap = k := by have := HCC.out; omega
          have hkc : (k : Int) ≤ (cap : Int) := by have := HCC.out; omega
          have hkl : (k : Int) ≤ (l.length : Int) := by omega
          clear HN5 hd0 hd1 hx3 hy3 z3
          go_wp2_with fail
          refine wp_region_held_drew (S := fun w' => Below w3.heap.size w3 w') (by kernel_rfl) ⟨rfl, rfl, rfl, Nat.le_refl _, fun _ _ => rfl⟩ (fun hHeld => ?_)
          have HWS : Hid (w3.heap.size ≤ w3.drew.heap.size) := Nat.le_refl _
          generalize w3.drew = wS at *
          refine wpAnyH_take (i := 1) (oi := { dst := some 34, op := Op.move (Operand.tmp 0), type := 24, pos := _, after := #[], guard := none }) (v := ?v1x11) rfl (by kernel_rfl) (by kernel_rfl) (by kernel_rfl) (fun _ _ _ h => h) (Or.inl ⟨by rfl, ?hy1x11⟩) hHeld ?rest1x11
          case hy1x11 => (intro w' hSw; go_simp; try with_reducible rfl)
          try simp only [Act.put, List.setIfInBounds_toArray, List.set_cons_zero, List.set_cons_succ]
          refine wpAnyH_take (i := 2) (oi := { dst := some 35, op := Op.move (Operand.tmp 5), type := 3, pos := _, after := #[], guard := none }) (v := ?v2x12) rfl (by kernel_rfl) (by kernel_rfl) (by kernel_rfl) (fun _ _ _ h => h) (Or.inl ⟨by rfl, ?hy2x12⟩) hHeld ?rest2x12
          case hy2x12 => (intro w' hSw; go_simp; try with_reducible rfl)
          try simp only [Act.put, List.setIfInBounds_toArray, List.set_cons_zero, List.set_cons_succ]
          refine wpAnyH_take (i := 3) (oi := { dst := some 36, op := Op.slice 24 (Operand.tmp 34) none (some (Operand.tmp 35)) none, type := 24, pos := _, after := #[{ on := 1, ground := Ground.data }, { on := 2, ground := Ground.data }], guard := none }) (v := ?v3x13) rfl (by kernel_rfl) (by kernel_rfl) (by kernel_rfl) (fun _ _ _ h => h) (Or.inl ⟨by rfl, ?hy3x13⟩) hHeld ?rest3x13
          case hy3x13 => (intro w' hSw; go_simp; try with_reducible rfl)
          try simp only [Act.put, List.setIfInBounds_toArray, List.set_cons_zero, List.set_cons_succ]
          refine wpAnyH_take (i := 5) (oi := { dst := some 38, op := Op.load 42 (Operand.tmp 3), type := 42, pos := _, after := #[], guard := none }) (v := ?v5x14) rfl (by kernel_rfl) (by kernel_rfl) (by kernel_rfl) (fun _ _ _ h => h) (Or.inl ⟨by rfl, ?hy5x14⟩) hHeld ?rest5x14
          case hy5x14 => (intro w' hSw; have s0 := cell_in hSw HLT.out HQ0.out; have s1 := cell_in hSw HLT.out HQ1.out; go_simp; try with_reducible rfl)
          try simp only [Act.put, List.setIfInBounds_toArray, List.set_cons_zero, List.set_cons_succ]
          refine wpAnyH_take (i := 8) (oi := { dst := some 41, op := Op.move (Operand.tmp 0), type := 24, pos := _, after := #[], guard := none }) (v := ?v8x15) rfl (by kernel_rfl) (by kernel_rfl) (by kernel_rfl) (fun _ _ _ h => h) (Or.inl ⟨by rfl, ?hy8x15⟩) hHeld ?rest8x15
          case hy8x15 => (intro w' hSw; go_simp; try with_reducible rfl)
          try simp only [Act.put, List.setIfInBounds_toArray, List.set_cons_zero, List.set_cons_succ]
          refine wpAnyH_take (i := 9) (oi := { dst := some 42, op := Op.move (Operand.tmp 5), type := 3, pos := _, after := #[], guard := none }) (v := ?v9x16) rfl (by kernel_rfl) (by kernel_rfl) (by kernel_rfl) (fun _ _ _ h => h) (Or.inl ⟨by rfl, ?hy9x16⟩) hHeld ?rest9x16
          case hy9x16 => (intro w' hSw; go_simp; try with_reducible rfl)
          try simp only [Act.put, List.setIfInBounds_toArray, List.set_cons_zero, List.set_cons_succ]
          refine wpAnyH_take (i := 10) (oi := { dst := some 43, op := Op.slice 24 (Operand.tmp 41) (some (Operand.tmp 42)) none none, type := 24, pos := _, after := #[{ on := 8, ground := Ground.data }, { on := 9, ground := Ground.data }], guard := none }) (v := ?v10x17) rfl (by kernel_rfl) (by kernel_rfl) (by kernel_rfl) (fun _ _ _ h => h) (Or.inl ⟨by rfl, ?hy10x17⟩) hHeld ?rest10x17
          case hy10x17 => (intro w' hSw; go_simp; try with_reducible rfl)
          try simp only [Act.put, List.setIfInBounds_toArray, List.set_cons_zero, List.set_cons_succ]
          refine wpAnyH_ready (rs := [0, 6]) (by kernel_rfl) (by simp) ?_
          refine AllReadyH.cons (o := { dst := some 33, op := Op.buildSlice 24 0 #[], type := 24, pos := _, after := #[], guard := none }) rfl (fun K hK => ?_) (AllReadyH.cons (o := { dst := some 39, op := Op.buildSlice 24 1 #[(0, Operand.tmp 38)], type := 24, pos := _, after := #[{ on := 5, ground := Ground.data }], guard := none }) rfl (fun K hK => ?_) AllReadyH.nil)
          · go_simp
            have HE : Hid (OwnL (wS.alloc (Obj.cells #[] 42)) w3.heap.size (.slice (some ⟨wS.heap.size, 0, none⟩) 0 0) []) := (own_emptyL wS).monoA HWS.out
            refine hK.out _ _ (blAlloc hHeld _) (fun hHeldN => ?_)
            clear hK K
            clear hHeld
            have hHeld := hHeldN
            clear hHeldN
            try simp only [Act.put, List.setIfInBounds_toArray, List.set_cons_zero, List.set_cons_succ]
            generalize wS.alloc (Obj.cells #[] 42) = wA at *
            refine wpAnyH_ready (rs := [4, 6]) (by kernel_rfl) (by simp) ?_
            refine AllReadyH.cons (o := { dst := some 37, op := Op.call { callee := Callee.builtin Builtin.append, args := #[Operand.tmp 33, Operand.tmp 36], argTypes := #[24, 24] }, type := 24, pos := _, after := #[{ on := 0, ground := Ground.data }, { on := 3, ground := Ground.data }], guard := none }) rfl (fun K hK => ?_) (AllReadyH.cons (o := { dst := some 39, op := Op.buildSlice 24 1 #[(0, Operand.tmp 38)], type := 24, pos := _, after := #[{ on := 5, ground := Ground.data }], guard := none }) rfl (fun K hK => ?_) AllReadyH.nil)
            · rw [if_pos (by rfl)]
              refine wp_append_st _ _ rfl w3.heap.size _ [] rfl HE.out (some ⟨b, o, none⟩) cap (l.take k) (by rw [HLK.out]; rfl) (HS1.out.later hHeld) HNA.out (by have := HLK.out; have := HLEN.out; simp only [List.length_nil]; omega) hHeld.size ?_
              intro v4 wC hown hgrow
              have HO4 : Hid (OwnL wC w3.heap.size v4 (l.take k)) := hown
              refine hK.out _ _ (grown_below hHeld HE.out (Nat.le_refl _) hHeld.size hgrow) (fun hHeldN => ?_)
              clear hown hgrow hK K
              clear hHeld
              have hHeld := hHeldN
              clear hHeldN
              try simp only [Act.put, List.setIfInBounds_toArray, List.set_cons_zero, List.set_cons_succ]
              refine wpAnyH_ready (rs := [6]) (by kernel_rfl) (by simp) ?_
              refine AllReadyH.cons (o := { dst := some 39, op := Op.buildSlice 24 1 #[(0, Operand.tmp 38)], type := 24, pos := _, after := #[{ on := 5, ground := Ground.data }], guard := none }) rfl (fun K hK => ?_) AllReadyH.nil
              go_simp
              have HSs := Lib.hid (one_sl _ t n _ (own2_new wC t n))
              have HO4b := Lib.hid (HO4.out.later (blAlloc (Below.refl _ _) (Obj.cells #[Value.int IntKind.i64 t, Value.int IntKind.i64 n] 42)))
              refine hK.out _ _ (blAlloc hHeld _) (fun hHeldN => ?_)
              clear hK K HO4
              have HO4 := HO4b
              clear HO4b
              clear hHeld
              have hHeld := hHeldN
              clear hHeldN
              try simp only [Act.put, List.setIfInBounds_toArray, List.set_cons_zero, List.set_cons_succ]
              refine wpAnyH_ready (rs := [7]) (by kernel_rfl) (by simp) ?_
              refine AllReadyH.cons (o := { dst := some 40, op := Op.call { callee := Callee.builtin Builtin.append, args := #[Operand.tmp 37, Operand.tmp 39], argTypes := #[24, 24] }, type := 24, pos := _, after := #[{ on := 4, ground := Ground.data }, { on := 6, ground := Ground.data }, { on := 4, ground := Ground.chain }], guard := none }) rfl (fun K hK => ?_) AllReadyH.nil
              rw [if_pos (by rfl)]
              refine wp_append_st _ _ rfl w3.heap.size _ (l.take k) rfl HO4.out (some ⟨wC.heap.size, 0, none⟩) 1 [(t, n)] rfl HSs.out (fun h => (by cases h)) (by have := HLK.out; have := HLEN.out; simp only [List.length_singleton]; omega) hHeld.size ?_
              intro v7 wD hown hgrow
              have HO7 := Lib.hid hown
              refine hK.out _ _ (grown_below hHeld HO4.out (Nat.le_refl _) hHeld.size hgrow) (fun hHeldN => ?_)
              clear hown hgrow
              clear hHeld
              have hHeld := hHeldN
              clear hHeldN
              clear hK K
              try simp only [Act.put, List.setIfInBounds_toArray, List.set_cons_zero, List.set_cons_succ]
              refine wpAnyH_ready (rs := [11]) (by kernel_rfl) (by simp) ?_
              refine AllReadyH.cons (o := { dst := some 44, op := Op.call { callee := Callee.builtin Builtin.append, args := #[Operand.tmp 40, Operand.tmp 43], argTypes := #[24, 24] }, type := 24, pos := _, after := #[{ on := 7, ground := Ground.data }, { on := 10, ground := Ground.data }, { on := 7, ground := Ground.chain }], guard := none }) rfl (fun K hK => ?_) AllReadyH.nil
              rw [if_pos (by rfl)]
              refine wp_append_st _ _ rfl w3.heap.size _ (l.take k ++ [(t, n)]) rfl HO7.out (some ⟨b, o + k * 2, none⟩) (cap - k) (l.drop k) (by rw [HLD.out]; rfl) (HS2.out.later hHeld) (fun h => (by cases h)) (by have := HLK.out; have := HLD.out; have := HLEN.out; rw [List.length_append, List.length_singleton]; omega) hHeld.size ?_
              intro v11 wE hown hgrow
              have HO11 : Hid (OwnL wE w3.heap.size v11 (l.take k ++ ([(t, n)] ++ l.drop k))) := by
                show OwnL _ _ _ _
                rw [← List.append_assoc]
                exact hown
              refine hK.out _ _ (grown_below hHeld HO7.out (Nat.le_refl _) hHeld.size hgrow) (fun hHeldN => ?_)
              clear hown hgrow
              clear hHeld
              have hHeld := hHeldN
              clear hHeldN
              clear hK K
              try simp only [Act.put, List.setIfInBounds_toArray, List.set_cons_zero, List.set_cons_succ]
              refine wpAnyH_take (i := 12) (oi := { dst := some 4, op := Op.assign (Operand.tmp 44), type := 24, pos := _, after := #[{ on := 11, ground := Ground.data }, { on := 11, ground := Ground.chain }, { on := 0, ground := Ground.phase }, { on := 1, ground := Ground.phase }, { on := 2, ground := Ground.phase }, { on := 3, ground := Ground.phase }, { on := 4, ground := Ground.phase }, { on := 5, ground := Ground.phase }, { on := 6, ground := Ground.phase }, { on := 7, ground := Ground.phase }, { on := 8, ground := Ground.phase }, { on := 9, ground := Ground.phase }, { on := 10, ground := Ground.phase }, { on := 11, ground := Ground.phase }], guard := none }) (v := ?v12x18) rfl (by kernel_rfl) (by kernel_rfl) (by kernel_rfl) (fun _ _ _ h => h) (Or.inl ⟨by rfl, ?hy12x18⟩) hHeld ?rest12x18
              case hy12x18 => (intro w' hSw; go_simp; try with_reducible rfl)
              try simp only [Act.put, List.setIfInBounds_toArray, List.set_cons_zero, List.set_cons_succ]
              refine wpAnyH_done (by kernel_rfl) ?_ _
              go_wp2
              go_ret
              exact reta_own HADD2.out HO11.out HB5.out.size (blThen HB5.out hHeld)
            · go_simp
              have HS0 := Lib.hid (one_sl _ t n _ (own2_new wA t n))
              have HE2 := Lib.hid (HE.out.later (blAlloc (Below.refl _ _) (Obj.cells #[Value.int IntKind.i64 t, Value.int IntKind.i64 n] 42)))
              have HX : Hid (∀ c, (Value.slice (some ⟨wS.heap.size, 0, none⟩) 0 0).ownBlock = some c → c < wA.heap.size) := fun c h => (by simp only [Value.ownBlock, Option.some.injEq] at h; rw [← h]; exact ownlt HE.out)
              refine hK.out _ _ (blAlloc hHeld _) (fun hHeldN => ?_)
              clear hK K
              clear hHeld
              have hHeld := hHeldN
              clear hHeldN
              try simp only [Act.put, List.setIfInBounds_toArray, List.set_cons_zero, List.set_cons_succ]
              refine wpAnyH_ready (rs := [4]) (by kernel_rfl) (by simp) ?_
              refine AllReadyH.cons (o := { dst := some 37, op := Op.call { callee := Callee.builtin Builtin.append, args := #[Operand.tmp 33, Operand.tmp 36], argTypes := #[24, 24] }, type := 24, pos := _, after := #[{ on := 0, ground := Ground.data }, { on := 3, ground := Ground.data }], guard := none }) rfl (fun K hK => ?_) AllReadyH.nil
              rw [if_pos (by rfl)]
              refine wp_append_st _ _ rfl w3.heap.size _ [] rfl HE2.out (some ⟨b, o, none⟩) cap (l.take k) (by rw [HLK.out]; rfl) (HS1.out.later hHeld) HNA.out (by have := HLK.out; have := HLEN.out; simp only [List.length_nil]; omega) hHeld.size ?_
              intro v4 wC hown hgrow
              have HO4 : Hid (OwnL wC w3.heap.size v4 (l.take k)) := hown
              have HSs := Lib.hid (sl_grownA HS0.out (fun b' o' h e => by
                simp only [Option.some.injEq, Addr.mk.injEq] at h
                exact Nat.lt_irrefl _ (Nat.lt_of_lt_of_le (HX.out _ e) (Nat.le_of_eq h.1))) hgrow)
              refine hK.out _ _ (grown_below hHeld HE2.out (Nat.le_refl _) hHeld.size hgrow) (fun hHeldN => ?_)
              clear hown hgrow hK K
              clear hHeld
              have hHeld := hHeldN
              clear hHeldN
              try simp only [Act.put, List.setIfInBounds_toArray, List.set_cons_zero, List.set_cons_succ]
              refine wpAnyH_ready (rs := [7]) (by kernel_rfl) (by simp) ?_
              refine AllReadyH.cons (o := { dst := some 40, op := Op.call { callee := Callee.builtin Builtin.append, args := #[Operand.tmp 37, Operand.tmp 39], argTypes := #[24, 24] }, type := 24, pos := _, after := #[{ on := 4, ground := Ground.data }, { on := 6, ground := Ground.data }, { on := 4, ground := Ground.chain }], guard := none }) rfl (fun K hK => ?_) AllReadyH.nil
              rw [if_pos (by rfl)]
              refine wp_append_st _ _ rfl w3.heap.size _ (l.take k) rfl HO4.out (some ⟨wA.heap.size, 0, none⟩) 1 [(t, n)] rfl HSs.out (fun h => (by cases h)) (by have := HLK.out; have := HLEN.out; simp only [List.length_singleton]; omega) hHeld.size ?_
              intro v7 wD hown hgrow
              have HO7 := Lib.hid hown
              refine hK.out _ _ (grown_below hHeld HO4.out (Nat.le_refl _) hHeld.size hgrow) (fun hHeldN => ?_)
              clear hown hgrow
              clear hHeld
              have hHeld := hHeldN
              clear hHeldN
              clear hK K
              try simp only [Act.put, List.setIfInBounds_toArray, List.set_cons_zero, List.set_cons_succ]
              refine wpAnyH_ready (rs := [11]) (by kernel_rfl) (by simp) ?_
              refine AllReadyH.cons (o := { dst := some 44, op := Op.call { callee := Callee.builtin Builtin.append, args := #[Operand.tmp 40, Operand.tmp 43], argTypes := #[24, 24] }, type := 24, pos := _, after := #[{ on := 7, ground := Ground.data }, { on := 10, ground := Ground.data }, { on := 7, ground := Ground.chain }], guard := none }) rfl (fun K hK => ?_) AllReadyH.nil
              rw [if_pos (by rfl)]
              refine wp_append_st _ _ rfl w3.heap.size _ (l.take k ++ [(t, n)]) rfl HO7.out (some ⟨b, o + k * 2, none⟩) (cap - k) (l.drop k) (by rw [HLD.out]; rfl) (HS2.out.later hHeld) (fun h => (by cases h)) (by have := HLK.out; have := HLD.out; have := HLEN.out; rw [List.length_append, List.length_singleton]; omega) hHeld.size ?_
              intro v11 wE hown hgrow
              have HO11 : Hid (OwnL wE w3.heap.size v11 (l.take k ++ ([(t, n)] ++ l.drop k))) := by
                show OwnL _ _ _ _
                rw [← List.append_assoc]
                exact hown
              refine hK.out _ _ (grown_below hHeld HO7.out (Nat.le_refl _) hHeld.size hgrow) (fun hHeldN => ?_)
              clear hown hgrow
              clear hHeld
              have hHeld := hHeldN
              clear hHeldN
              clear hK K
              try simp only [Act.put, List.setIfInBounds_toArray, List.set_cons_zero, List.set_cons_succ]
              refine wpAnyH_take (i := 12) (oi := { dst := some 4, op := Op.assign (Operand.tmp 44), type := 24, pos := _, after := #[{ on := 11, ground := Ground.data }, { on := 11, ground := Ground.chain }, { on := 0, ground := Ground.phase }, { on := 1, ground := Ground.phase }, { on := 2, ground := Ground.phase }, { on := 3, ground := Ground.phase }, { on := 4, ground := Ground.phase }, { on := 5, ground := Ground.phase }, { on := 6, ground := Ground.phase }, { on := 7, ground := Ground.phase }, { on := 8, ground := Ground.phase }, { on := 9, ground := Ground.phase }, { on := 10, ground := Ground.phase }, { on := 11, ground := Ground.phase }], guard := none }) (v := ?v12x19) rfl (by kernel_rfl) (by kernel_rfl) (by kernel_rfl) (fun _ _ _ h => h) (Or.inl ⟨by rfl, ?hy12x19⟩) hHeld ?rest12x19
              case hy12x19 => (intro w' hSw; go_simp; try with_reducible rfl)
              try simp only [Act.put, List.setIfInBounds_toArray, List.set_cons_zero, List.set_cons_succ]
              refine wpAnyH_done (by kernel_rfl) ?_ _
              go_wp2
              go_ret
              exact reta_own HADD2.out HO11.out HB5.out.size (blThen HB5.out hHeld)
          · go_simp
            have HS0 : Hid (SL (wS.alloc (Obj.cells #[Value.int IntKind.i64 t, Value.int IntKind.i64 n] 42)) (some ⟨wS.heap.size, 0, none⟩) [(t, n)]) := one_sl _ t n _ (own2_new wS t n)
            have hW : wS.heap.size < (wS.alloc (Obj.cells #[Value.int IntKind.i64 t, Value.int IntKind.i64 n] 42)).heap.size := by simp
            refine hK.out _ _ (blAlloc hHeld _) (fun hHeldN => ?_)
            clear hK K
            clear hHeld
            have hHeld := hHeldN
            clear hHeldN
            try simp only [Act.put, List.setIfInBounds_toArray, List.set_cons_zero, List.set_cons_succ]
            generalize wS.alloc (Obj.cells #[Value.int IntKind.i64 t, Value.int IntKind.i64 n] 42) = wA at *
            refine wpAnyH_ready (rs := [0]) (by kernel_rfl) (by simp) ?_
            refine AllReadyH.cons (o := { dst := some 33, op := Op.buildSlice 24 0 #[], type := 24, pos := _, after := #[], guard := none }) rfl (fun K hK => ?_) AllReadyH.nil
            go_simp
            have HE : Hid (OwnL (wA.alloc (Obj.cells #[] 42)) w3.heap.size (.slice (some ⟨wA.heap.size, 0, none⟩) 0 0) []) := (own_emptyL wA).monoA (Nat.le_trans HWS.out (Nat.le_of_lt hW))
            have HS1b := Lib.hid (HS0.out.later (blAlloc (Below.refl _ _) (Obj.cells #[] 42)))
            refine hK.out _ _ (blAlloc hHeld _) (fun hHeldN => ?_)
            clear hK K
            clear hHeld
            have hHeld := hHeldN
            clear hHeldN
            try simp only [Act.put, List.setIfInBounds_toArray, List.set_cons_zero, List.set_cons_succ]
            refine wpAnyH_ready (rs := [4]) (by kernel_rfl) (by simp) ?_
            refine AllReadyH.cons (o := { dst := some 37, op := Op.call { callee := Callee.builtin Builtin.append, args := #[Operand.tmp 33, Operand.tmp 36], argTypes := #[24, 24] }, type := 24, pos := _, after := #[{ on := 0, ground := Ground.data }, { on := 3, ground := Ground.data }], guard := none }) rfl (fun K hK => ?_) AllReadyH.nil
            rw [if_pos (by rfl)]
            refine wp_append_st _ _ rfl w3.heap.size _ [] rfl HE.out (some ⟨b, o, none⟩) cap (l.take k) (by rw [HLK.out]; rfl) (HS1.out.later hHeld) HNA.out (by have := HLK.out; have := HLEN.out; simp only [List.length_nil]; omega) hHeld.size ?_
            intro v4 wC hown hgrow
            have HO4 : Hid (OwnL wC w3.heap.size v4 (l.take k)) := hown
            have HX : Hid (∀ c, (Value.slice (some ⟨wA.heap.size, 0, none⟩) 0 0).ownBlock = some c → wS.heap.size < c) := fun c h => (by simp only [Value.ownBlock, Option.some.injEq] at h; rw [← h]; exact hW)
            have HSs := Lib.hid (sl_grownA HS1b.out (fun b' o' h e => by
              simp only [Option.some.injEq, Addr.mk.injEq] at h
              exact Nat.lt_irrefl _ (Nat.lt_of_le_of_lt (Nat.le_of_eq h.1.symm) (HX.out _ e))) hgrow)
            refine hK.out _ _ (grown_below hHeld HE.out (Nat.le_refl _) hHeld.size hgrow) (fun hHeldN => ?_)
            clear hown hgrow hK K
            clear hHeld
            have hHeld := hHeldN
            clear hHeldN
            try simp only [Act.put, List.setIfInBounds_toArray, List.set_cons_zero, List.set_cons_succ]
            refine wpAnyH_ready (rs := [7]) (by kernel_rfl) (by simp) ?_
            refine AllReadyH.cons (o := { dst := some 40, op := Op.call { callee := Callee.builtin Builtin.append, args := #[Operand.tmp 37, Operand.tmp 39], argTypes := #[24, 24] }, type := 24, pos := _, after := #[{ on := 4, ground := Ground.data }, { on := 6, ground := Ground.data }, { on := 4, ground := Ground.chain }], guard := none }) rfl (fun K hK => ?_) AllReadyH.nil
            rw [if_pos (by rfl)]
            refine wp_append_st _ _ rfl w3.heap.size _ (l.take k) rfl HO4.out (some ⟨wS.heap.size, 0, none⟩) 1 [(t, n)] rfl HSs.out (fun h => (by cases h)) (by have := HLK.out; have := HLEN.out; simp only [List.length_singleton]; omega) hHeld.size ?_
            intro v7 wD hown hgrow
            have HO7 := Lib.hid hown
            refine hK.out _ _ (grown_below hHeld HO4.out (Nat.le_refl _) hHeld.size hgrow) (fun hHeldN => ?_)
            clear hown hgrow
            clear hHeld
            have hHeld := hHeldN
            clear hHeldN
            clear hK K
            try simp only [Act.put, List.setIfInBounds_toArray, List.set_cons_zero, List.set_cons_succ]
            refine wpAnyH_ready (rs := [11]) (by kernel_rfl) (by simp) ?_
            refine AllReadyH.cons (o := { dst := some 44, op := Op.call { callee := Callee.builtin Builtin.append, args := #[Operand.tmp 40, Operand.tmp 43], argTypes := #[24, 24] }, type := 24, pos := _, after := #[{ on := 7, ground := Ground.data }, { on := 10, ground := Ground.data }, { on := 7, ground := Ground.chain }], guard := none }) rfl (fun K hK => ?_) AllReadyH.nil
            rw [if_pos (by rfl)]
            refine wp_append_st _ _ rfl w3.heap.size _ (l.take k ++ [(t, n)]) rfl HO7.out (some ⟨b, o + k * 2, none⟩) (cap - k) (l.drop k) (by rw [HLD.out]; rfl) (HS2.out.later hHeld) (fun h => (by cases h)) (by have := HLK.out; have := HLD.out; have := HLEN.out; rw [List.length_append, List.length_singleton]; omega) hHeld.size ?_
            intro v11 wE hown hgrow
            have HO11 : Hid (OwnL wE w3.heap.size v11 (l.take k ++ ([(t, n)] ++ l.drop k))) := by
              show OwnL _ _ _ _
              rw [← List.append_assoc]
              exact hown
            refine hK.out _ _ (grown_below hHeld HO7.out (Nat.le_refl _) hHeld.size hgrow) (fun hHeldN => ?_)
            clear hown hgrow
            clear hHeld
            have hHeld := hHeldN
            clear hHeldN
            clear hK K
            try simp only [Act.put, List.setIfInBounds_toArray, List.set_cons_zero, List.set_cons_succ]
            refine wpAnyH_take (i := 12) (oi := { dst := some 4, op := Op.assign (Operand.tmp 44), type := 24, pos := _, after := #[{ on := 11, ground := Ground.data }, { on := 11, ground := Ground.chain }, { on := 0, ground := Ground.phase }, { on := 1, ground := Ground.phase }, { on := 2, ground := Ground.phase }, { on := 3, ground := Ground.phase }, { on := 4, ground := Ground.phase }, { on := 5, ground := Ground.phase }, { on := 6, ground := Ground.phase }, { on := 7, ground := Ground.phase }, { on := 8, ground := Ground.phase }, { on := 9, ground := Ground.phase }, { on := 10, ground := Ground.phase }, { on := 11, ground := Ground.phase }], guard := none }) (v := ?v12x20) rfl (by kernel_rfl) (by kernel_rfl) (by kernel_rfl) (fun _ _ _ h => h) (Or.inl ⟨by rfl, ?hy12x20⟩) hHeld ?rest12x20
            case hy12x20 => (intro w' hSw; go_simp; try with_reducible rfl)
            try simp only [Act.put, List.setIfInBounds_toArray, List.set_cons_zero, List.set_cons_succ]
            refine wpAnyH_done (by kernel_rfl) ?_ _
            go_wp2
            go_ret
            exact reta_own HADD2.out HO11.out HB5.out.size (blThen HB5.out hHeld)
      · have HLT := Lib.hid hcx
        clear hcx
        go_wp2_with fail
        refine region_aft (by kernel_rfl) (by kernel_rfl) ?_
        repeat (go_big_quiet_step (first | (go_at_call 83; exact aft_grown ((less_any _ _ _ _ _).mono fun e w' h => by rw [HLT.out] at h; exact h))))
        refine wpQuiet_nil ?_
        rintro w2 ⟨z, rfl⟩
        go_wp2
        go_roundw
        case rel => exact ⟨k + 1, hlt, by go_num, HB.out.trans (z.h.mono HB.out.size), fun j u hj hu => by
          rcases Nat.lt_or_ge j k with h | h
          · exact HPRE.out j u h hu
          · obtain rfl : j = k := by omega
            rw [HXY.out] at hu
            simp only [Option.some.injEq] at hu
            rw [← hu]
            exact HLT.out⟩
        case measure => simp [intOf]; omega
    · have hge : ¬ (k : Int) < (l.length : Int) := by omega
      have hdec : decide ((k : Int) < (l.length : Int)) = false := by simpa using hge
      go_wp2_with fail
      refine region_aft (by kernel_rfl) (by kernel_rfl) ?_
      repeat (go_big_quiet_step (fail))
      refine wpQuiet_nil ?_
      rintro w2 ⟨z, rfl⟩
      have z0 := z.h
      generalize z.x = w2 at z0 ⊢
      clear z
      go_wp2_with fail
      refine region_aft (by kernel_rfl) (by kernel_rfl) ?_
      repeat (go_big_quiet_step (fail))
      refine wpQuiet_nil ?_
      rintro w3 ⟨z, rfl⟩
      have z3 := z.h
      generalize z.x = w3 at z3 ⊢
      clear z
      have HB4 := Lib.hid ((HB.out.trans (z0.mono HB.out.size)).trans (z3.mono (Nat.le_trans HB.out.size z0.size)))
      have HB5 := Lib.hid (blThen (blThen HBW.out z0) z3)
      have HN5 := HN.out.later HB4.out hS
      have HQ0 := Lib.hid HN5.c0
      have HQ1 := Lib.hid HN5.c1
      have HLT := Lib.hid HN5.lt
      have HSL := Lib.hid (HL.out.later HB5.out)
      have HLK : Hid ((l.take k).length = k) := by show _ = k; simp; omega
      have HADD2 : Hid (addL l (t, n) = l.take k ++ ([(t, n)] ++ l.drop k)) := by
        show addL l (t, n) = _
        rw [addL_at (t, n) l k HPRE.out (fun y hy => absurd (List.getElem?_eq_some_iff.1 hy).1 hlt) hk, if_neg]
        rw [List.getElem?_eq_none (by omega)]
        simp
      have hkc : (k : Int) ≤ (cap : Int) := by have := HCC.out; omega
      have hkl : (k : Int) ≤ (l.length : Int) := by omega
      have HDR : Hid (l.drop k = []) := List.drop_eq_nil_of_le (by omega)
      have HLD : Hid ((l.drop k).length = l.length - k) := by show _ = _; simp
      clear HN5 z3 z0 hc0 hc1
      cases a with
      | none =>
        obtain rfl : l = [] := by
          apply Classical.byContradiction
          intro hne
          obtain ⟨_, _, h, _⟩ := HL.out hne
          cases h
        obtain rfl : k = 0 := by simpa using hk
        obtain rfl : cap = 0 := HNN.out rfl
        have HS1 : Hid (SL w3 none (([] : List (Int × Int)).take 0)) := SL.nil_ok _ _
        have HS2 : Hid (SL w3 none (([] : List (Int × Int)).drop 0)) := SL.nil_ok _ _
        go_wp2_with fail
        refine wp_region_held_drew (S := fun w' => Below w3.heap.size w3 w') (by kernel_rfl) ⟨rfl, rfl, rfl, Nat.le_refl _, fun _ _ => rfl⟩ (fun hHeld => ?_)
        have HWS : Hid (w3.heap.size ≤ w3.drew.heap.size) := Nat.le_refl _
        generalize w3.drew = wS at *
        refine wpAnyH_take (i := 1) (oi := { dst := some 34, op := Op.move (Operand.tmp 0), type := 24, pos := _, after := #[], guard := none }) (v := ?v1x21) rfl (by kernel_rfl) (by kernel_rfl) (by kernel_rfl) (fun _ _ _ h => h) (Or.inl ⟨by rfl, ?hy1x21⟩) hHeld ?rest1x21
        case hy1x21 => (intro w' hSw; go_simp; try with_reducible rfl)
        try simp only [Act.put, List.setIfInBounds_toArray, List.set_cons_zero, List.set_cons_succ]
        refine wpAnyH_take (i := 2) (oi := { dst := some 35, op := Op.move (Operand.tmp 5), type := 3, pos := _, after := #[], guard := none }) (v := ?v2x22) rfl (by kernel_rfl) (by kernel_rfl) (by kernel_rfl) (fun _ _ _ h => h) (Or.inl ⟨by rfl, ?hy2x22⟩) hHeld ?rest2x22
        case hy2x22 => (intro w' hSw; go_simp; try with_reducible rfl)
        try simp only [Act.put, List.setIfInBounds_toArray, List.set_cons_zero, List.set_cons_succ]
        refine wpAnyH_take (i := 3) (oi := { dst := some 36, op := Op.slice 24 (Operand.tmp 34) none (some (Operand.tmp 35)) none, type := 24, pos := _, after := #[{ on := 1, ground := Ground.data }, { on := 2, ground := Ground.data }], guard := none }) (v := ?v3x23) rfl (by kernel_rfl) (by kernel_rfl) (by kernel_rfl) (fun _ _ _ h => h) (Or.inl ⟨by rfl, ?hy3x23⟩) hHeld ?rest3x23
        case hy3x23 => (intro w' hSw; go_simp; try with_reducible rfl)
        try simp only [Act.put, List.setIfInBounds_toArray, List.set_cons_zero, List.set_cons_succ]
        refine wpAnyH_take (i := 5) (oi := { dst := some 38, op := Op.load 42 (Operand.tmp 3), type := 42, pos := _, after := #[], guard := none }) (v := ?v5x24) rfl (by kernel_rfl) (by kernel_rfl) (by kernel_rfl) (fun _ _ _ h => h) (Or.inl ⟨by rfl, ?hy5x24⟩) hHeld ?rest5x24
        case hy5x24 => (intro w' hSw; have s0 := cell_in hSw HLT.out HQ0.out; have s1 := cell_in hSw HLT.out HQ1.out; go_simp; try with_reducible rfl)
        try simp only [Act.put, List.setIfInBounds_toArray, List.set_cons_zero, List.set_cons_succ]
        refine wpAnyH_take (i := 8) (oi := { dst := some 41, op := Op.move (Operand.tmp 0), type := 24, pos := _, after := #[], guard := none }) (v := ?v8x25) rfl (by kernel_rfl) (by kernel_rfl) (by kernel_rfl) (fun _ _ _ h => h) (Or.inl ⟨by rfl, ?hy8x25⟩) hHeld ?rest8x25
        case hy8x25 => (intro w' hSw; go_simp; try with_reducible rfl)
        try simp only [Act.put, List.setIfInBounds_toArray, List.set_cons_zero, List.set_cons_succ]
        refine wpAnyH_take (i := 9) (oi := { dst := some 42, op := Op.move (Operand.tmp 5), type := 3, pos := _, after := #[], guard := none }) (v := ?v9x26) rfl (by kernel_rfl) (by kernel_rfl) (by kernel_rfl) (fun _ _ _ h => h) (Or.inl ⟨by rfl, ?hy9x26⟩) hHeld ?rest9x26
        case hy9x26 => (intro w' hSw; go_simp; try with_reducible rfl)
        try simp only [Act.put, List.setIfInBounds_toArray, List.set_cons_zero, List.set_cons_succ]
        refine wpAnyH_take (i := 10) (oi := { dst := some 43, op := Op.slice 24 (Operand.tmp 41) (some (Operand.tmp 42)) none none, type := 24, pos := _, after := #[{ on := 8, ground := Ground.data }, { on := 9, ground := Ground.data }], guard := none }) (v := ?v10x27) rfl (by kernel_rfl) (by kernel_rfl) (by kernel_rfl) (fun _ _ _ h => h) (Or.inl ⟨by rfl, ?hy10x27⟩) hHeld ?rest10x27
        case hy10x27 => (intro w' hSw; go_simp; try with_reducible rfl)
        try simp only [Act.put, List.setIfInBounds_toArray, List.set_cons_zero, List.set_cons_succ]
        refine wpAnyH_ready (rs := [0, 6]) (by kernel_rfl) (by simp) ?_
        refine AllReadyH.cons (o := { dst := some 33, op := Op.buildSlice 24 0 #[], type := 24, pos := _, after := #[], guard := none }) rfl (fun K hK => ?_) (AllReadyH.cons (o := { dst := some 39, op := Op.buildSlice 24 1 #[(0, Operand.tmp 38)], type := 24, pos := _, after := #[{ on := 5, ground := Ground.data }], guard := none }) rfl (fun K hK => ?_) AllReadyH.nil)
        · go_simp
          have HE : Hid (OwnL (wS.alloc (Obj.cells #[] 42)) w3.heap.size (.slice (some ⟨wS.heap.size, 0, none⟩) 0 0) []) := (own_emptyL wS).monoA HWS.out
          refine hK.out _ _ (blAlloc hHeld _) (fun hHeldN => ?_)
          clear hK K
          clear hHeld
          have hHeld := hHeldN
          clear hHeldN
          try simp only [Act.put, List.setIfInBounds_toArray, List.set_cons_zero, List.set_cons_succ]
          generalize wS.alloc (Obj.cells #[] 42) = wA at *
          refine wpAnyH_ready (rs := [4, 6]) (by kernel_rfl) (by simp) ?_
          refine AllReadyH.cons (o := { dst := some 37, op := Op.call { callee := Callee.builtin Builtin.append, args := #[Operand.tmp 33, Operand.tmp 36], argTypes := #[24, 24] }, type := 24, pos := _, after := #[{ on := 0, ground := Ground.data }, { on := 3, ground := Ground.data }], guard := none }) rfl (fun K hK => ?_) (AllReadyH.cons (o := { dst := some 39, op := Op.buildSlice 24 1 #[(0, Operand.tmp 38)], type := 24, pos := _, after := #[{ on := 5, ground := Ground.data }], guard := none }) rfl (fun K hK => ?_) AllReadyH.nil)
          · rw [if_pos (by rfl)]
            refine wp_append_st _ _ rfl w3.heap.size _ [] rfl HE.out none 0 (([] : List (Int × Int)).take 0) (by rw [HLK.out]; rfl) (HS1.out.later hHeld) (fun _ => rfl) (by have := HLK.out; have := HLEN.out; simp only [List.length_nil]; omega) hHeld.size ?_
            intro v4 wC hown hgrow
            have HO4 : Hid (OwnL wC w3.heap.size v4 (([] : List (Int × Int)).take 0)) := hown
            refine hK.out _ _ (grown_below hHeld HE.out (Nat.le_refl _) hHeld.size hgrow) (fun hHeldN => ?_)
            clear hown hgrow hK K
            clear hHeld
            have hHeld := hHeldN
            clear hHeldN
            try simp only [Act.put, List.setIfInBounds_toArray, List.set_cons_zero, List.set_cons_succ]
            refine wpAnyH_ready (rs := [6]) (by kernel_rfl) (by simp) ?_
            refine AllReadyH.cons (o := { dst := some 39, op := Op.buildSlice 24 1 #[(0, Operand.tmp 38)], type := 24, pos := _, after := #[{ on := 5, ground := Ground.data }], guard := none }) rfl (fun K hK => ?_) AllReadyH.nil
            go_simp
            have HSs := Lib.hid (one_sl _ t n _ (own2_new wC t n))
            have HO4b := Lib.hid (HO4.out.later (blAlloc (Below.refl _ _) (Obj.cells #[Value.int IntKind.i64 t, Value.int IntKind.i64 n] 42)))
            refine hK.out _ _ (blAlloc hHeld _) (fun hHeldN => ?_)
            clear hK K HO4
            have HO4 := HO4b
            clear HO4b
            clear hHeld
            have hHeld := hHeldN
            clear hHeldN
            try simp only [Act.put, List.setIfInBounds_toArray, List.set_cons_zero, List.set_cons_succ]
            refine wpAnyH_ready (rs := [7]) (by kernel_rfl) (by simp) ?_
            refine AllReadyH.cons (o := { dst := some 40, op := Op.call { callee := Callee.builtin Builtin.append, args := #[Operand.tmp 37, Operand.tmp 39], argTypes := #[24, 24] }, type := 24, pos := _, after := #[{ on := 4, ground := Ground.data }, { on := 6, ground := Ground.data }, { on := 4, ground := Ground.chain }], guard := none }) rfl (fun K hK => ?_) AllReadyH.nil
            rw [if_pos (by rfl)]
            refine wp_append_st _ _ rfl w3.heap.size _ (([] : List (Int × Int)).take 0) rfl HO4.out (some ⟨wC.heap.size, 0, none⟩) 1 [(t, n)] rfl HSs.out (fun h => (by cases h)) (by have := HLK.out; have := HLEN.out; simp only [List.length_singleton]; omega) hHeld.size ?_
            intro v7 wD hown hgrow
            have HO7 := Lib.hid hown
            refine hK.out _ _ (grown_below hHeld HO4.out (Nat.le_refl _) hHeld.size hgrow) (fun hHeldN => ?_)
            clear hown hgrow
            clear hHeld
            have hHeld := hHeldN
            clear hHeldN
            clear hK K
            try simp only [Act.put, List.setIfInBounds_toArray, List.set_cons_zero, List.set_cons_succ]
            refine wpAnyH_ready (rs := [11]) (by kernel_rfl) (by simp) ?_
            refine AllReadyH.cons (o := { dst := some 44, op := Op.call { callee := Callee.builtin Builtin.append, args := #[Operand.tmp 40, Operand.tmp 43], argTypes := #[24, 24] }, type := 24, pos := _, after := #[{ on := 7, ground := Ground.data }, { on := 10, ground := Ground.data }, { on := 7, ground := Ground.chain }], guard := none }) rfl (fun K hK => ?_) AllReadyH.nil
            rw [if_pos (by rfl)]
            refine wp_append_st _ _ rfl w3.heap.size _ (([] : List (Int × Int)).take 0 ++ [(t, n)]) rfl HO7.out none 0 (([] : List (Int × Int)).drop 0) (by rw [HLD.out]; rfl) (HS2.out.later hHeld) (fun _ => rfl) (by have := HLK.out; have := HLD.out; have := HLEN.out; rw [List.length_append, List.length_singleton]; omega) hHeld.size ?_
            intro v11 wE hown hgrow
            have HO11 : Hid (OwnL wE w3.heap.size v11 (([] : List (Int × Int)).take 0 ++ ([(t, n)] ++ ([] : List (Int × Int)).drop 0))) := by
              show OwnL _ _ _ _
              rw [← List.append_assoc]
              exact hown
            refine hK.out _ _ (grown_below hHeld HO7.out (Nat.le_refl _) hHeld.size hgrow) (fun hHeldN => ?_)
            clear hown hgrow
            clear hHeld
            have hHeld := hHeldN
            clear hHeldN
            clear hK K
            try simp only [Act.put, List.setIfInBounds_toArray, List.set_cons_zero, List.set_cons_succ]
            refine wpAnyH_take (i := 12) (oi := { dst := some 4, op := Op.assign (Operand.tmp 44), type := 24, pos := _, after := #[{ on := 11, ground := Ground.data }, { on := 11, ground := Ground.chain }, { on := 0, ground := Ground.phase }, { on := 1, ground := Ground.phase }, { on := 2, ground := Ground.phase }, { on := 3, ground := Ground.phase }, { on := 4, ground := Ground.phase }, { on := 5, ground := Ground.phase }, { on := 6, ground := Ground.phase }, { on := 7, ground := Ground.phase }, { on := 8, ground := Ground.phase }, { on := 9, ground := Ground.phase }, { on := 10, ground := Ground.phase }, { on := 11, ground := Ground.phase }], guard := none }) (v := ?v12x28) rfl (by kernel_rfl) (by kernel_rfl) (by kernel_rfl) (fun _ _ _ h => h) (Or.inl ⟨by rfl, ?hy12x28⟩) hHeld ?rest12x28
            case hy12x28 => (intro w' hSw; go_simp; try with_reducible rfl)
            try simp only [Act.put, List.setIfInBounds_toArray, List.set_cons_zero, List.set_cons_succ]
            refine wpAnyH_done (by kernel_rfl) ?_ _
            go_wp2
            go_ret
            exact reta_own HADD2.out HO11.out HB5.out.size (blThen HB5.out hHeld)
          · go_simp
            have HS0 := Lib.hid (one_sl _ t n _ (own2_new wA t n))
            have HE2 := Lib.hid (HE.out.later (blAlloc (Below.refl _ _) (Obj.cells #[Value.int IntKind.i64 t, Value.int IntKind.i64 n] 42)))
            have HX : Hid (∀ c, (Value.slice (some ⟨wS.heap.size, 0, none⟩) 0 0).ownBlock = some c → c < wA.heap.size) := fun c h => (by simp only [Value.ownBlock, Option.some.injEq] at h; rw [← h]; exact ownlt HE.out)
            refine hK.out _ _ (blAlloc hHeld _) (fun hHeldN => ?_)
            clear hK K
            clear hHeld
            have hHeld := hHeldN
            clear hHeldN
            try simp only [Act.put, List.setIfInBounds_toArray, List.set_cons_zero, List.set_cons_succ]
            refine wpAnyH_ready (rs := [4]) (by kernel_rfl) (by simp) ?_
            refine AllReadyH.cons (o := { dst := some 37, op := Op.call { callee := Callee.builtin Builtin.append, args := #[Operand.tmp 33, Operand.tmp 36], argTypes := #[24, 24] }, type := 24, pos := _, after := #[{ on := 0, ground := Ground.data }, { on := 3, ground := Ground.data }], guard := none }) rfl (fun K hK => ?_) AllReadyH.nil
            rw [if_pos (by rfl)]
            refine wp_append_st _ _ rfl w3.heap.size _ [] rfl HE2.out none 0 (([] : List (Int × Int)).take 0) (by rw [HLK.out]; rfl) (HS1.out.later hHeld) (fun _ => rfl) (by have := HLK.out; have := HLEN.out; simp only [List.length_nil]; omega) hHeld.size ?_
            intro v4 wC hown hgrow
            have HO4 : Hid (OwnL wC w3.heap.size v4 (([] : List (Int × Int)).take 0)) := hown
            have HSs := Lib.hid (sl_grownA HS0.out (fun b' o' h e => by
              simp only [Option.some.injEq, Addr.mk.injEq] at h
              exact Nat.lt_irrefl _ (Nat.lt_of_lt_of_le (HX.out _ e) (Nat.le_of_eq h.1))) hgrow)
            refine hK.out _ _ (grown_below hHeld HE2.out (Nat.le_refl _) hHeld.size hgrow) (fun hHeldN => ?_)
            clear hown hgrow hK K
            clear hHeld
            have hHeld := hHeldN
            clear hHeldN
            try simp only [Act.put, List.setIfInBounds_toArray, List.set_cons_zero, List.set_cons_succ]
            refine wpAnyH_ready (rs := [7]) (by kernel_rfl) (by simp) ?_
            refine AllReadyH.cons (o := { dst := some 40, op := Op.call { callee := Callee.builtin Builtin.append, args := #[Operand.tmp 37, Operand.tmp 39], argTypes := #[24, 24] }, type := 24, pos := _, after := #[{ on := 4, ground := Ground.data }, { on := 6, ground := Ground.data }, { on := 4, ground := Ground.chain }], guard := none }) rfl (fun K hK => ?_) AllReadyH.nil
            rw [if_pos (by rfl)]
            refine wp_append_st _ _ rfl w3.heap.size _ (([] : List (Int × Int)).take 0) rfl HO4.out (some ⟨wA.heap.size, 0, none⟩) 1 [(t, n)] rfl HSs.out (fun h => (by cases h)) (by have := HLK.out; have := HLEN.out; simp only [List.length_singleton]; omega) hHeld.size ?_
            intro v7 wD hown hgrow
            have HO7 := Lib.hid hown
            refine hK.out _ _ (grown_below hHeld HO4.out (Nat.le_refl _) hHeld.size hgrow) (fun hHeldN => ?_)
            clear hown hgrow
            clear hHeld
            have hHeld := hHeldN
            clear hHeldN
            clear hK K
            try simp only [Act.put, List.setIfInBounds_toArray, List.set_cons_zero, List.set_cons_succ]
            refine wpAnyH_ready (rs := [11]) (by kernel_rfl) (by simp) ?_
            refine AllReadyH.cons (o := { dst := some 44, op := Op.call { callee := Callee.builtin Builtin.append, args := #[Operand.tmp 40, Operand.tmp 43], argTypes := #[24, 24] }, type := 24, pos := _, after := #[{ on := 7, ground := Ground.data }, { on := 10, ground := Ground.data }, { on := 7, ground := Ground.chain }], guard := none }) rfl (fun K hK => ?_) AllReadyH.nil
            rw [if_pos (by rfl)]
            refine wp_append_st _ _ rfl w3.heap.size _ (([] : List (Int × Int)).take 0 ++ [(t, n)]) rfl HO7.out none 0 (([] : List (Int × Int)).drop 0) (by rw [HLD.out]; rfl) (HS2.out.later hHeld) (fun _ => rfl) (by have := HLK.out; have := HLD.out; have := HLEN.out; rw [List.length_append, List.length_singleton]; omega) hHeld.size ?_
            intro v11 wE hown hgrow
            have HO11 : Hid (OwnL wE w3.heap.size v11 (([] : List (Int × Int)).take 0 ++ ([(t, n)] ++ ([] : List (Int × Int)).drop 0))) := by
              show OwnL _ _ _ _
              rw [← List.append_assoc]
              exact hown
            refine hK.out _ _ (grown_below hHeld HO7.out (Nat.le_refl _) hHeld.size hgrow) (fun hHeldN => ?_)
            clear hown hgrow
            clear hHeld
            have hHeld := hHeldN
            clear hHeldN
            clear hK K
            try simp only [Act.put, List.setIfInBounds_toArray, List.set_cons_zero, List.set_cons_succ]
            refine wpAnyH_take (i := 12) (oi := { dst := some 4, op := Op.assign (Operand.tmp 44), type := 24, pos := _, after := #[{ on := 11, ground := Ground.data }, { on := 11, ground := Ground.chain }, { on := 0, ground := Ground.phase }, { on := 1, ground := Ground.phase }, { on := 2, ground := Ground.phase }, { on := 3, ground := Ground.phase }, { on := 4, ground := Ground.phase }, { on := 5, ground := Ground.phase }, { on := 6, ground := Ground.phase }, { on := 7, ground := Ground.phase }, { on := 8, ground := Ground.phase }, { on := 9, ground := Ground.phase }, { on := 10, ground := Ground.phase }, { on := 11, ground := Ground.phase }], guard := none }) (v := ?v12x29) rfl (by kernel_rfl) (by kernel_rfl) (by kernel_rfl) (fun _ _ _ h => h) (Or.inl ⟨by rfl, ?hy12x29⟩) hHeld ?rest12x29
            case hy12x29 => (intro w' hSw; go_simp; try with_reducible rfl)
            try simp only [Act.put, List.setIfInBounds_toArray, List.set_cons_zero, List.set_cons_succ]
            refine wpAnyH_done (by kernel_rfl) ?_ _
            go_wp2
            go_ret
            exact reta_own HADD2.out HO11.out HB5.out.size (blThen HB5.out hHeld)
        · go_simp
          have HS0 : Hid (SL (wS.alloc (Obj.cells #[Value.int IntKind.i64 t, Value.int IntKind.i64 n] 42)) (some ⟨wS.heap.size, 0, none⟩) [(t, n)]) := one_sl _ t n _ (own2_new wS t n)
          have hW : wS.heap.size < (wS.alloc (Obj.cells #[Value.int IntKind.i64 t, Value.int IntKind.i64 n] 42)).heap.size := by simp
          refine hK.out _ _ (blAlloc hHeld _) (fun hHeldN => ?_)
          clear hK K
          clear hHeld
          have hHeld := hHeldN
          clear hHeldN
          try simp only [Act.put, List.setIfInBounds_toArray, List.set_cons_zero, List.set_cons_succ]
          generalize wS.alloc (Obj.cells #[Value.int IntKind.i64 t, Value.int IntKind.i64 n] 42) = wA at *
          refine wpAnyH_ready (rs := [0]) (by kernel_rfl) (by simp) ?_
          refine AllReadyH.cons (o := { dst := some 33, op := Op.buildSlice 24 0 #[], type := 24, pos := _, after := #[], guard := none }) rfl (fun K hK => ?_) AllReadyH.nil
          go_simp
          have HE : Hid (OwnL (wA.alloc (Obj.cells #[] 42)) w3.heap.size (.slice (some ⟨wA.heap.size, 0, none⟩) 0 0) []) := (own_emptyL wA).monoA (Nat.le_trans HWS.out (Nat.le_of_lt hW))
          have HS1b := Lib.hid (HS0.out.later (blAlloc (Below.refl _ _) (Obj.cells #[] 42)))
          refine hK.out _ _ (blAlloc hHeld _) (fun hHeldN => ?_)
          clear hK K
          clear hHeld
          have hHeld := hHeldN
          clear hHeldN
          try simp only [Act.put, List.setIfInBounds_toArray, List.set_cons_zero, List.set_cons_succ]
          refine wpAnyH_ready (rs := [4]) (by kernel_rfl) (by simp) ?_
          refine AllReadyH.cons (o := { dst := some 37, op := Op.call { callee := Callee.builtin Builtin.append, args := #[Operand.tmp 33, Operand.tmp 36], argTypes := #[24, 24] }, type := 24, pos := _, after := #[{ on := 0, ground := Ground.data }, { on := 3, ground := Ground.data }], guard := none }) rfl (fun K hK => ?_) AllReadyH.nil
          rw [if_pos (by rfl)]
          refine wp_append_st _ _ rfl w3.heap.size _ [] rfl HE.out none 0 (([] : List (Int × Int)).take 0) (by rw [HLK.out]; rfl) (HS1.out.later hHeld) (fun _ => rfl) (by have := HLK.out; have := HLEN.out; simp only [List.length_nil]; omega) hHeld.size ?_
          intro v4 wC hown hgrow
          have HO4 : Hid (OwnL wC w3.heap.size v4 (([] : List (Int × Int)).take 0)) := hown
          have HX : Hid (∀ c, (Value.slice (some ⟨wA.heap.size, 0, none⟩) 0 0).ownBlock = some c → wS.heap.size < c) := fun c h => (by simp only [Value.ownBlock, Option.some.injEq] at h; rw [← h]; exact hW)
          have HSs := Lib.hid (sl_grownA HS1b.out (fun b' o' h e => by
            simp only [Option.some.injEq, Addr.mk.injEq] at h
            exact Nat.lt_irrefl _ (Nat.lt_of_le_of_lt (Nat.le_of_eq h.1.symm) (HX.out _ e))) hgrow)
          refine hK.out _ _ (grown_below hHeld HE.out (Nat.le_refl _) hHeld.size hgrow) (fun hHeldN => ?_)
          clear hown hgrow hK K
          clear hHeld
          have hHeld := hHeldN
          clear hHeldN
          try simp only [Act.put, List.setIfInBounds_toArray, List.set_cons_zero, List.set_cons_succ]
          refine wpAnyH_ready (rs := [7]) (by kernel_rfl) (by simp) ?_
          refine AllReadyH.cons (o := { dst := some 40, op := Op.call { callee := Callee.builtin Builtin.append, args := #[Operand.tmp 37, Operand.tmp 39], argTypes := #[24, 24] }, type := 24, pos := _, after := #[{ on := 4, ground := Ground.data }, { on := 6, ground := Ground.data }, { on := 4, ground := Ground.chain }], guard := none }) rfl (fun K hK => ?_) AllReadyH.nil
          rw [if_pos (by rfl)]
          refine wp_append_st _ _ rfl w3.heap.size _ (([] : List (Int × Int)).take 0) rfl HO4.out (some ⟨wS.heap.size, 0, none⟩) 1 [(t, n)] rfl HSs.out (fun h => (by cases h)) (by have := HLK.out; have := HLEN.out; simp only [List.length_singleton]; omega) hHeld.size ?_
          intro v7 wD hown hgrow
          have HO7 := Lib.hid hown
          refine hK.out _ _ (grown_below hHeld HO4.out (Nat.le_refl _) hHeld.size hgrow) (fun hHeldN => ?_)
          clear hown hgrow
          clear hHeld
          have hHeld := hHeldN
          clear hHeldN
          clear hK K
          try simp only [Act.put, List.setIfInBounds_toArray, List.set_cons_zero, List.set_cons_succ]
          refine wpAnyH_ready (rs := [11]) (by kernel_rfl) (by simp) ?_
          refine AllReadyH.cons (o := { dst := some 44, op := Op.call { callee := Callee.builtin Builtin.append, args := #[Operand.tmp 40, Operand.tmp 43], argTypes := #[24, 24] }, type := 24, pos := _, after := #[{ on := 7, ground := Ground.data }, { on := 10, ground := Ground.data }, { on := 7, ground := Ground.chain }], guard := none }) rfl (fun K hK => ?_) AllReadyH.nil
          rw [if_pos (by rfl)]
          refine wp_append_st _ _ rfl w3.heap.size _ (([] : List (Int × Int)).take 0 ++ [(t, n)]) rfl HO7.out none 0 (([] : List (Int × Int)).drop 0) (by rw [HLD.out]; rfl) (HS2.out.later hHeld) (fun _ => rfl) (by have := HLK.out; have := HLD.out; have := HLEN.out; rw [List.length_append, List.length_singleton]; omega) hHeld.size ?_
          intro v11 wE hown hgrow
          have HO11 : Hid (OwnL wE w3.heap.size v11 (([] : List (Int × Int)).take 0 ++ ([(t, n)] ++ ([] : List (Int × Int)).drop 0))) := by
            show OwnL _ _ _ _
            rw [← List.append_assoc]
            exact hown
          refine hK.out _ _ (grown_below hHeld HO7.out (Nat.le_refl _) hHeld.size hgrow) (fun hHeldN => ?_)
          clear hown hgrow
          clear hHeld
          have hHeld := hHeldN
          clear hHeldN
          clear hK K
          try simp only [Act.put, List.setIfInBounds_toArray, List.set_cons_zero, List.set_cons_succ]
          refine wpAnyH_take (i := 12) (oi := { dst := some 4, op := Op.assign (Operand.tmp 44), type := 24, pos := _, after := #[{ on := 11, ground := Ground.data }, { on := 11, ground := Ground.chain }, { on := 0, ground := Ground.phase }, { on := 1, ground := Ground.phase }, { on := 2, ground := Ground.phase }, { on := 3, ground := Ground.phase }, { on := 4, ground := Ground.phase }, { on := 5, ground := Ground.phase }, { on := 6, ground := Ground.phase }, { on := 7, ground := Ground.phase }, { on := 8, ground := Ground.phase }, { on := 9, ground := Ground.phase }, { on := 10, ground := Ground.phase }, { on := 11, ground := Ground.phase }], guard := none }) (v := ?v12x30) rfl (by kernel_rfl) (by kernel_rfl) (by kernel_rfl) (fun _ _ _ h => h) (Or.inl ⟨by rfl, ?hy12x30⟩) hHeld ?rest12x30
          case hy12x30 => (intro w' hSw; go_simp; try with_reducible rfl)
          try simp only [Act.put, List.setIfInBounds_toArray, List.set_cons_zero, List.set_cons_succ]
          refine wpAnyH_done (by kernel_rfl) ?_ _
          go_wp2
          go_ret
          exact reta_own HADD2.out HO11.out HB5.out.size (blThen HB5.out hHeld)
      | some ad =>
        have HNA := HNN
        have HS1 := Lib.hid (sl_take HSL.out k)
        by_cases hck : cap = k
        · have HS2 : Hid (SL w3 (some ad) (l.drop k)) := by rw [HDR.out]; exact SL.nil_ok _ _
          subst hck
          go_wp2_with fail
          refine wp_region_held_drew (S := fun w' => Below w3.heap.size w3 w') (by kernel_rfl) ⟨rfl, rfl, rfl, Nat.le_refl _, fun _ _ => rfl⟩ (fun hHeld => ?_)
          have HWS : Hid (w3.heap.size ≤ w3.drew.heap.size) := Nat.le_refl _
          generalize w3.drew = wS at *
          refine wpAnyH_take (i := 1) (oi := { dst := some 34, op := Op.move (Operand.tmp 0), type := 24, pos := _, after := #[], guard := none }) (v := ?v1x31) rfl (by kernel_rfl) (by kernel_rfl) (by kernel_rfl) (fun _ _ _ h => h) (Or.inl ⟨by rfl, ?hy1x31⟩) hHeld ?rest1x31
          case hy1x31 => (intro w' hSw; go_simp; try with_reducible rfl)
          try simp only [Act.put, List.setIfInBounds_toArray, List.set_cons_zero, List.set_cons_succ]
          refine wpAnyH_take (i := 2) (oi := { dst := some 35, op := Op.move (Operand.tmp 5), type := 3, pos := _, after := #[], guard := none }) (v := ?v2x32) rfl (by kernel_rfl) (by kernel_rfl) (by kernel_rfl) (fun _ _ _ h => h) (Or.inl ⟨by rfl, ?hy2x32⟩) hHeld ?rest2x32
          case hy2x32 => (intro w' hSw; go_simp; try with_reducible rfl)
          try simp only [Act.put, List.setIfInBounds_toArray, List.set_cons_zero, List.set_cons_succ]
          refine wpAnyH_take (i := 3) (oi := { dst := some 36, op := Op.slice 24 (Operand.tmp 34) none (some (Operand.tmp 35)) none, type := 24, pos := _, after := #[{ on := 1, ground := Ground.data }, { on := 2, ground := Ground.data }], guard := none }) (v := ?v3x33) rfl (by kernel_rfl) (by kernel_rfl) (by kernel_rfl) (fun _ _ _ h => h) (Or.inl ⟨by rfl, ?hy3x33⟩) hHeld ?rest3x33
          case hy3x33 => (intro w' hSw; go_simp; try with_reducible rfl)
          try simp only [Act.put, List.setIfInBounds_toArray, List.set_cons_zero, List.set_cons_succ]
          refine wpAnyH_take (i := 5) (oi := { dst := some 38, op := Op.load 42 (Operand.tmp 3), type := 42, pos := _, after := #[], guard := none }) (v := ?v5x34) rfl (by kernel_rfl) (by kernel_rfl) (by kernel_rfl) (fun _ _ _ h => h) (Or.inl ⟨by rfl, ?hy5x34⟩) hHeld ?rest5x34
          case hy5x34 => (intro w' hSw; have s0 := cell_in hSw HLT.out HQ0.out; have s1 := cell_in hSw HLT.out HQ1.out; go_simp; try with_reducible rfl)
          try simp only [Act.put, List.setIfInBounds_toArray, List.set_cons_zero, List.set_cons_succ]
          refine wpAnyH_take (i := 8) (oi := { dst := some 41, op := Op.move (Operand.tmp 0), type := 24, pos := _, after := #[], guard := none }) (v := ?v8x35) rfl (by kernel_rfl) (by kernel_rfl) (by kernel_rfl) (fun _ _ _ h => h) (Or.inl ⟨by rfl, ?hy8x35⟩) hHeld ?rest8x35
          case hy8x35 => (intro w' hSw; go_simp; try with_reducible rfl)
          try simp only [Act.put, List.setIfInBounds_toArray, List.set_cons_zero, List.set_cons_succ]
          refine wpAnyH_take (i := 9) (oi := { dst := some 42, op := Op.move (Operand.tmp 5), type := 3, pos := _, after := #[], guard := none }) (v := ?v9x36) rfl (by kernel_rfl) (by kernel_rfl) (by kernel_rfl) (fun _ _ _ h => h) (Or.inl ⟨by rfl, ?hy9x36⟩) hHeld ?rest9x36
          case hy9x36 => (intro w' hSw; go_simp; try with_reducible rfl)
          try simp only [Act.put, List.setIfInBounds_toArray, List.set_cons_zero, List.set_cons_succ]
          refine wpAnyH_take (i := 10) (oi := { dst := some 43, op := Op.slice 24 (Operand.tmp 41) (some (Operand.tmp 42)) none none, type := 24, pos := _, after := #[{ on := 8, ground := Ground.data }, { on := 9, ground := Ground.data }], guard := none }) (v := ?v10x37) rfl (by kernel_rfl) (by kernel_rfl) (by kernel_rfl) (fun _ _ _ h => h) (Or.inl ⟨by rfl, ?hy10x37⟩) hHeld ?rest10x37
          case hy10x37 => (intro w' hSw; go_simp; try with_reducible rfl)
          try simp only [Act.put, List.setIfInBounds_toArray, List.set_cons_zero, List.set_cons_succ]
          refine wpAnyH_ready (rs := [0, 6]) (by kernel_rfl) (by simp) ?_
          refine AllReadyH.cons (o := { dst := some 33, op := Op.buildSlice 24 0 #[], type := 24, pos := _, after := #[], guard := none }) rfl (fun K hK => ?_) (AllReadyH.cons (o := { dst := some 39, op := Op.buildSlice 24 1 #[(0, Operand.tmp 38)], type := 24, pos := _, after := #[{ on := 5, ground := Ground.data }], guard := none }) rfl (fun K hK => ?_) AllReadyH.nil)
          · go_simp
            have HE : Hid (OwnL (wS.alloc (Obj.cells #[] 42)) w3.heap.size (.slice (some ⟨wS.heap.size, 0, none⟩) 0 0) []) := (own_emptyL wS).monoA HWS.out
            refine hK.out _ _ (blAlloc hHeld _) (fun hHeldN => ?_)
            clear hK K
            clear hHeld
            have hHeld := hHeldN
            clear hHeldN
            try simp only [Act.put, List.setIfInBounds_toArray, List.set_cons_zero, List.set_cons_succ]
            generalize wS.alloc (Obj.cells #[] 42) = wA at *
            refine wpAnyH_ready (rs := [4, 6]) (by kernel_rfl) (by simp) ?_
            refine AllReadyH.cons (o := { dst := some 37, op := Op.call { callee := Callee.builtin Builtin.append, args := #[Operand.tmp 33, Operand.tmp 36], argTypes := #[24, 24] }, type := 24, pos := _, after := #[{ on := 0, ground := Ground.data }, { on := 3, ground := Ground.data }], guard := none }) rfl (fun K hK => ?_) (AllReadyH.cons (o := { dst := some 39, op := Op.buildSlice 24 1 #[(0, Operand.tmp 38)], type := 24, pos := _, after := #[{ on := 5, ground := Ground.data }], guard := none }) rfl (fun K hK => ?_) AllReadyH.nil)
            · rw [if_pos (by rfl)]
              refine wp_append_st _ _ rfl w3.heap.size _ [] rfl HE.out (some ad) cap (l.take cap) (by rw [HLK.out]; rfl) (HS1.out.later hHeld) HNA.out (by have := HLK.out; have := HLEN.out; simp only [List.length_nil]; omega) hHeld.size ?_
              intro v4 wC hown hgrow
              have HO4 : Hid (OwnL wC w3.heap.size v4 (l.take cap)) := hown
              refine hK.out _ _ (grown_below hHeld HE.out (Nat.le_refl _) hHeld.size hgrow) (fun hHeldN => ?_)
              clear hown hgrow hK K
              clear hHeld
              have hHeld := hHeldN
              clear hHeldN
              try simp only [Act.put, List.setIfInBounds_toArray, List.set_cons_zero, List.set_cons_succ]
              refine wpAnyH_ready (rs := [6]) (by kernel_rfl) (by simp) ?_
              refine AllReadyH.cons (o := { dst := some 39, op := Op.buildSlice 24 1 #[(0, Operand.tmp 38)], type := 24, pos := _, after := #[{ on := 5, ground := Ground.data }], guard := none }) rfl (fun K hK => ?_) AllReadyH.nil
              go_simp
              have HSs := Lib.hid (one_sl _ t n _ (own2_new wC t n))
              have HO4b := Lib.hid (HO4.out.later (blAlloc (Below.refl _ _) (Obj.cells #[Value.int IntKind.i64 t, Value.int IntKind.i64 n] 42)))
              refine hK.out _ _ (blAlloc hHeld _) (fun hHeldN => ?_)
              clear hK K HO4
              have HO4 := HO4b
              clear HO4b
              clear hHeld
              have hHeld := hHeldN
              clear hHeldN
              try simp only [Act.put, List.setIfInBounds_toArray, List.set_cons_zero, List.set_cons_succ]
              refine wpAnyH_ready (rs := [7]) (by kernel_rfl) (by simp) ?_
              refine AllReadyH.cons (o := { dst := some 40, op := Op.call { callee := Callee.builtin Builtin.append, args := #[Operand.tmp 37, Operand.tmp 39], argTypes := #[24, 24] }, type := 24, pos := _, after := #[{ on := 4, ground := Ground.data }, { on := 6, ground := Ground.data }, { on := 4, ground := Ground.chain }], guard := none }) rfl (fun K hK => ?_) AllReadyH.nil
              rw [if_pos (by rfl)]
              refine wp_append_st _ _ rfl w3.heap.size _ (l.take cap) rfl HO4.out (some ⟨wC.heap.size, 0, none⟩) 1 [(t, n)] rfl HSs.out (fun h => (by cases h)) (by have := HLK.out; have := HLEN.out; simp only [List.length_singleton]; omega) hHeld.size ?_
              intro v7 wD hown hgrow
              have HO7 := Lib.hid hown
              refine hK.out _ _ (grown_below hHeld HO4.out (Nat.le_refl _) hHeld.size hgrow) (fun hHeldN => ?_)
              clear hown hgrow
              clear hHeld
              have hHeld := hHeldN
              clear hHeldN
              clear hK K
              try simp only [Act.put, List.setIfInBounds_toArray, List.set_cons_zero, List.set_cons_succ]
              refine wpAnyH_ready (rs := [11]) (by kernel_rfl) (by simp) ?_
              refine AllReadyH.cons (o := { dst := some 44, op := Op.call { callee := Callee.builtin Builtin.append, args := #[Operand.tmp 40, Operand.tmp 43], argTypes := #[24, 24] }, type := 24, pos := _, after := #[{ on := 7, ground := Ground.data }, { on := 10, ground := Ground.data }, { on := 7, ground := Ground.chain }], guard := none }) rfl (fun K hK => ?_) AllReadyH.nil
              rw [if_pos (by rfl)]
              refine wp_append_st _ _ rfl w3.heap.size _ (l.take cap ++ [(t, n)]) rfl HO7.out (some ad) 0 (l.drop cap) (by rw [HLD.out]; rfl) (HS2.out.later hHeld) (fun h => (by cases h)) (by have := HLK.out; have := HLD.out; have := HLEN.out; rw [List.length_append, List.length_singleton]; omega) hHeld.size ?_
              intro v11 wE hown hgrow
              have HO11 : Hid (OwnL wE w3.heap.size v11 (l.take cap ++ ([(t, n)] ++ l.drop cap))) := by
                show OwnL _ _ _ _
                rw [← List.append_assoc]
                exact hown
              refine hK.out _ _ (grown_below hHeld HO7.out (Nat.le_refl _) hHeld.size hgrow) (fun hHeldN => ?_)
              clear hown hgrow
              clear hHeld
              have hHeld := hHeldN
              clear hHeldN
              clear hK K
              try simp only [Act.put, List.setIfInBounds_toArray, List.set_cons_zero, List.set_cons_succ]
              refine wpAnyH_take (i := 12) (oi := { dst := some 4, op := Op.assign (Operand.tmp 44), type := 24, pos := _, after := #[{ on := 11, ground := Ground.data }, { on := 11, ground := Ground.chain }, { on := 0, ground := Ground.phase }, { on := 1, ground := Ground.phase }, { on := 2, ground := Ground.phase }, { on := 3, ground := Ground.phase }, { on := 4, ground := Ground.phase }, { on := 5, ground := Ground.phase }, { on := 6, ground := Ground.phase }, { on := 7, ground := Ground.phase }, { on := 8, ground := Ground.phase }, { on := 9, ground := Ground.phase }, { on := 10, ground := Ground.phase }, { on := 11, ground := Ground.phase }], guard := none }) (v := ?v12x38) rfl (by kernel_rfl) (by kernel_rfl) (by kernel_rfl) (fun _ _ _ h => h) (Or.inl ⟨by rfl, ?hy12x38⟩) hHeld ?rest12x38
              case hy12x38 => (intro w' hSw; go_simp; try with_reducible rfl)
              try simp only [Act.put, List.setIfInBounds_toArray, List.set_cons_zero, List.set_cons_succ]
              refine wpAnyH_done (by kernel_rfl) ?_ _
              go_wp2
              go_ret
              exact reta_own HADD2.out HO11.out HB5.out.size (blThen HB5.out hHeld)
            · go_simp
              have HS0 := Lib.hid (one_sl _ t n _ (own2_new wA t n))
              have HE2 := Lib.hid (HE.out.later (blAlloc (Below.refl _ _) (Obj.cells #[Value.int IntKind.i64 t, Value.int IntKind.i64 n] 42)))
              have HX : Hid (∀ c, (Value.slice (some ⟨wS.heap.size, 0, none⟩) 0 0).ownBlock = some c → c < wA.heap.size) := fun c h => (by simp only [Value.ownBlock, Option.some.injEq] at h; rw [← h]; exact ownlt HE.out)
              refine hK.out _ _ (blAlloc hHeld _) (fun hHeldN => ?_)
              clear hK K
              clear hHeld
              have hHeld := hHeldN
              clear hHeldN
              try simp only [Act.put, List.setIfInBounds_toArray, List.set_cons_zero, List.set_cons_succ]
              refine wpAnyH_ready (rs := [4]) (by kernel_rfl) (by simp) ?_
              refine AllReadyH.cons (o := { dst := some 37, op := Op.call { callee := Callee.builtin Builtin.append, args := #[Operand.tmp 33, Operand.tmp 36], argTypes := #[24, 24] }, type := 24, pos := _, after := #[{ on := 0, ground := Ground.data }, { on := 3, ground := Ground.data }], guard := none }) rfl (fun K hK => ?_) AllReadyH.nil
              rw [if_pos (by rfl)]
              refine wp_append_st _ _ rfl w3.heap.size _ [] rfl HE2.out (some ad) cap (l.take cap) (by rw [HLK.out]; rfl) (HS1.out.later hHeld) HNA.out (by have := HLK.out; have := HLEN.out; simp only [List.length_nil]; omega) hHeld.size ?_
              intro v4 wC hown hgrow
              have HO4 : Hid (OwnL wC w3.heap.size v4 (l.take cap)) := hown
              have HSs := Lib.hid (sl_grownA HS0.out (fun b' o' h e => by
                simp only [Option.some.injEq, Addr.mk.injEq] at h
                exact Nat.lt_irrefl _ (Nat.lt_of_lt_of_le (HX.out _ e) (Nat.le_of_eq h.1))) hgrow)
              refine hK.out _ _ (grown_below hHeld HE2.out (Nat.le_refl _) hHeld.size hgrow) (fun hHeldN => ?_)
              clear hown hgrow hK K
              clear hHeld
              have hHeld := hHeldN
              clear hHeldN
              try simp only [Act.put, List.setIfInBounds_toArray, List.set_cons_zero, List.set_cons_succ]
              refine wpAnyH_ready (rs := [7]) (by kernel_rfl) (by simp) ?_
              refine AllReadyH.cons (o := { dst := some 40, op := Op.call { callee := Callee.builtin Builtin.append, args := #[Operand.tmp 37, Operand.tmp 39], argTypes := #[24, 24] }, type := 24, pos := _, after := #[{ on := 4, ground := Ground.data }, { on := 6, ground := Ground.data }, { on := 4, ground := Ground.chain }], guard := none }) rfl (fun K hK => ?_) AllReadyH.nil
              rw [if_pos (by rfl)]
              refine wp_append_st _ _ rfl w3.heap.size _ (l.take cap) rfl HO4.out (some ⟨wA.heap.size, 0, none⟩) 1 [(t, n)] rfl HSs.out (fun h => (by cases h)) (by have := HLK.out; have := HLEN.out; simp only [List.length_singleton]; omega) hHeld.size ?_
              intro v7 wD hown hgrow
              have HO7 := Lib.hid hown
              refine hK.out _ _ (grown_below hHeld HO4.out (Nat.le_refl _) hHeld.size hgrow) (fun hHeldN => ?_)
              clear hown hgrow
              clear hHeld
              have hHeld := hHeldN
              clear hHeldN
              clear hK K
              try simp only [Act.put, List.setIfInBounds_toArray, List.set_cons_zero, List.set_cons_succ]
              refine wpAnyH_ready (rs := [11]) (by kernel_rfl) (by simp) ?_
              refine AllReadyH.cons (o := { dst := some 44, op := Op.call { callee := Callee.builtin Builtin.append, args := #[Operand.tmp 40, Operand.tmp 43], argTypes := #[24, 24] }, type := 24, pos := _, after := #[{ on := 7, ground := Ground.data }, { on := 10, ground := Ground.data }, { on := 7, ground := Ground.chain }], guard := none }) rfl (fun K hK => ?_) AllReadyH.nil
              rw [if_pos (by rfl)]
              refine wp_append_st _ _ rfl w3.heap.size _ (l.take cap ++ [(t, n)]) rfl HO7.out (some ad) 0 (l.drop cap) (by rw [HLD.out]; rfl) (HS2.out.later hHeld) (fun h => (by cases h)) (by have := HLK.out; have := HLD.out; have := HLEN.out; rw [List.length_append, List.length_singleton]; omega) hHeld.size ?_
              intro v11 wE hown hgrow
              have HO11 : Hid (OwnL wE w3.heap.size v11 (l.take cap ++ ([(t, n)] ++ l.drop cap))) := by
                show OwnL _ _ _ _
                rw [← List.append_assoc]
                exact hown
              refine hK.out _ _ (grown_below hHeld HO7.out (Nat.le_refl _) hHeld.size hgrow) (fun hHeldN => ?_)
              clear hown hgrow
              clear hHeld
              have hHeld := hHeldN
              clear hHeldN
              clear hK K
              try simp only [Act.put, List.setIfInBounds_toArray, List.set_cons_zero, List.set_cons_succ]
              refine wpAnyH_take (i := 12) (oi := { dst := some 4, op := Op.assign (Operand.tmp 44), type := 24, pos := _, after := #[{ on := 11, ground := Ground.data }, { on := 11, ground := Ground.chain }, { on := 0, ground := Ground.phase }, { on := 1, ground := Ground.phase }, { on := 2, ground := Ground.phase }, { on := 3, ground := Ground.phase }, { on := 4, ground := Ground.phase }, { on := 5, ground := Ground.phase }, { on := 6, ground := Ground.phase }, { on := 7, ground := Ground.phase }, { on := 8, ground := Ground.phase }, { on := 9, ground := Ground.phase }, { on := 10, ground := Ground.phase }, { on := 11, ground := Ground.phase }], guard := none }) (v := ?v12x39) rfl (by kernel_rfl) (by kernel_rfl) (by kernel_rfl) (fun _ _ _ h => h) (Or.inl ⟨by rfl, ?hy12x39⟩) hHeld ?rest12x39
              case hy12x39 => (intro w' hSw; go_simp; try with_reducible rfl)
              try simp only [Act.put, List.setIfInBounds_toArray, List.set_cons_zero, List.set_cons_succ]
              refine wpAnyH_done (by kernel_rfl) ?_ _
              go_wp2
              go_ret
              exact reta_own HADD2.out HO11.out HB5.out.size (blThen HB5.out hHeld)
          · go_simp
            have HS0 : Hid (SL (wS.alloc (Obj.cells #[Value.int IntKind.i64 t, Value.int IntKind.i64 n] 42)) (some ⟨wS.heap.size, 0, none⟩) [(t, n)]) := one_sl _ t n _ (own2_new wS t n)
            have hW : wS.heap.size < (wS.alloc (Obj.cells #[Value.int IntKind.i64 t, Value.int IntKind.i64 n] 42)).heap.size := by simp
            refine hK.out _ _ (blAlloc hHeld _) (fun hHeldN => ?_)
            clear hK K
            clear hHeld
            have hHeld := hHeldN
            clear hHeldN
            try simp only [Act.put, List.setIfInBounds_toArray, List.set_cons_zero, List.set_cons_succ]
            generalize wS.alloc (Obj.cells #[Value.int IntKind.i64 t, Value.int IntKind.i64 n] 42) = wA at *
            refine wpAnyH_ready (rs := [0]) (by kernel_rfl) (by simp) ?_
            refine AllReadyH.cons (o := { dst := some 33, op := Op.buildSlice 24 0 #[], type := 24, pos := _, after := #[], guard := none }) rfl (fun K hK => ?_) AllReadyH.nil
            go_simp
            have HE : Hid (OwnL (wA.alloc (Obj.cells #[] 42)) w3.heap.size (.slice (some ⟨wA.heap.size, 0, none⟩) 0 0) []) := (own_emptyL wA).monoA (Nat.le_trans HWS.out (Nat.le_of_lt hW))
            have HS1b := Lib.hid (HS0.out.later (blAlloc (Below.refl _ _) (Obj.cells #[] 42)))
            refine hK.out _ _ (blAlloc hHeld _) (fun hHeldN => ?_)
            clear hK K
            clear hHeld
            have hHeld := hHeldN
            clear hHeldN
            try simp only [Act.put, List.setIfInBounds_toArray, List.set_cons_zero, List.set_cons_succ]
            refine wpAnyH_ready (rs := [4]) (by kernel_rfl) (by simp) ?_
            refine AllReadyH.cons (o := { dst := some 37, op := Op.call { callee := Callee.builtin Builtin.append, args := #[Operand.tmp 33, Operand.tmp 36], argTypes := #[24, 24] }, type := 24, pos := _, after := #[{ on := 0, ground := Ground.data }, { on := 3, ground := Ground.data }], guard := none }) rfl (fun K hK => ?_) AllReadyH.nil
            rw [if_pos (by rfl)]
            refine wp_append_st _ _ rfl w3.heap.size _ [] rfl HE.out (some ad) cap (l.take cap) (by rw [HLK.out]; rfl) (HS1.out.later hHeld) HNA.out (by have := HLK.out; have := HLEN.out; simp only [List.length_nil]; omega) hHeld.size ?_
            intro v4 wC hown hgrow
            have HO4 : Hid (OwnL wC w3.heap.size v4 (l.take cap)) := hown
            have HX : Hid (∀ c, (Value.slice (some ⟨wA.heap.size, 0, none⟩) 0 0).ownBlock = some c → wS.heap.size < c) := fun c h => (by simp only [Value.ownBlock, Option.some.injEq] at h; rw [← h]; exact hW)
            have HSs := Lib.hid (sl_grownA HS1b.out (fun b' o' h e => by
              simp only [Option.some.injEq, Addr.mk.injEq] at h
              exact Nat.lt_irrefl _ (Nat.lt_of_le_of_lt (Nat.le_of_eq h.1.symm) (HX.out _ e))) hgrow)
            refine hK.out _ _ (grown_below hHeld HE.out (Nat.le_refl _) hHeld.size hgrow) (fun hHeldN => ?_)
            clear hown hgrow hK K
            clear hHeld
            have hHeld := hHeldN
            clear hHeldN
            try simp only [Act.put, List.setIfInBounds_toArray, List.set_cons_zero, List.set_cons_succ]
            refine wpAnyH_ready (rs := [7]) (by kernel_rfl) (by simp) ?_
            refine AllReadyH.cons (o := { dst := some 40, op := Op.call { callee := Callee.builtin Builtin.append, args := #[Operand.tmp 37, Operand.tmp 39], argTypes := #[24, 24] }, type := 24, pos := _, after := #[{ on := 4, ground := Ground.data }, { on := 6, ground := Ground.data }, { on := 4, ground := Ground.chain }], guard := none }) rfl (fun K hK => ?_) AllReadyH.nil
            rw [if_pos (by rfl)]
            refine wp_append_st _ _ rfl w3.heap.size _ (l.take cap) rfl HO4.out (some ⟨wS.heap.size, 0, none⟩) 1 [(t, n)] rfl HSs.out (fun h => (by cases h)) (by have := HLK.out; have := HLEN.out; simp only [List.length_singleton]; omega) hHeld.size ?_
            intro v7 wD hown hgrow
            have HO7 := Lib.hid hown
            refine hK.out _ _ (grown_below hHeld HO4.out (Nat.le_refl _) hHeld.size hgrow) (fun hHeldN => ?_)
            clear hown hgrow
            clear hHeld
            have hHeld := hHeldN
            clear hHeldN
            clear hK K
            try simp only [Act.put, List.setIfInBounds_toArray, List.set_cons_zero, List.set_cons_succ]
            refine wpAnyH_ready (rs := [11]) (by kernel_rfl) (by simp) ?_
            refine AllReadyH.cons (o := { dst := some 44, op := Op.call { callee := Callee.builtin Builtin.append, args := #[Operand.tmp 40, Operand.tmp 43], argTypes := #[24, 24] }, type := 24, pos := _, after := #[{ on := 7, ground := Ground.data }, { on := 10, ground := Ground.data }, { on := 7, ground := Ground.chain }], guard := none }) rfl (fun K hK => ?_) AllReadyH.nil
            rw [if_pos (by rfl)]
            refine wp_append_st _ _ rfl w3.heap.size _ (l.take cap ++ [(t, n)]) rfl HO7.out (some ad) 0 (l.drop cap) (by rw [HLD.out]; rfl) (HS2.out.later hHeld) (fun h => (by cases h)) (by have := HLK.out; have := HLD.out; have := HLEN.out; rw [List.length_append, List.length_singleton]; omega) hHeld.size ?_
            intro v11 wE hown hgrow
            have HO11 : Hid (OwnL wE w3.heap.size v11 (l.take cap ++ ([(t, n)] ++ l.drop cap))) := by
              show OwnL _ _ _ _
              rw [← List.append_assoc]
              exact hown
            refine hK.out _ _ (grown_below hHeld HO7.out (Nat.le_refl _) hHeld.size hgrow) (fun hHeldN => ?_)
            clear hown hgrow
            clear hHeld
            have hHeld := hHeldN
            clear hHeldN
            clear hK K
            try simp only [Act.put, List.setIfInBounds_toArray, List.set_cons_zero, List.set_cons_succ]
            refine wpAnyH_take (i := 12) (oi := { dst := some 4, op := Op.assign (Operand.tmp 44), type := 24, pos := _, after := #[{ on := 11, ground := Ground.data }, { on := 11, ground := Ground.chain }, { on := 0, ground := Ground.phase }, { on := 1, ground := Ground.phase }, { on := 2, ground := Ground.phase }, { on := 3, ground := Ground.phase }, { on := 4, ground := Ground.phase }, { on := 5, ground := Ground.phase }, { on := 6, ground := Ground.phase }, { on := 7, ground := Ground.phase }, { on := 8, ground := Ground.phase }, { on := 9, ground := Ground.phase }, { on := 10, ground := Ground.phase }, { on := 11, ground := Ground.phase }], guard := none }) (v := ?v12x40) rfl (by kernel_rfl) (by kernel_rfl) (by kernel_rfl) (fun _ _ _ h => h) (Or.inl ⟨by rfl, ?hy12x40⟩) hHeld ?rest12x40
            case hy12x40 => (intro w' hSw; go_simp; try with_reducible rfl)
            try simp only [Act.put, List.setIfInBounds_toArray, List.set_cons_zero, List.set_cons_succ]
            refine wpAnyH_done (by kernel_rfl) ?_ _
            go_wp2
            go_ret
            exact reta_own HADD2.out HO11.out HB5.out.size (blThen HB5.out hHeld)
        · have HS2 : Hid (SL w3 (some (ad.add (k * 2))) (l.drop k)) := by rw [HDR.out]; exact SL.nil_ok _ _
          go_wp2_with fail
          refine wp_region_held_drew (S := fun w' => Below w3.heap.size w3 w') (by kernel_rfl) ⟨rfl, rfl, rfl, Nat.le_refl _, fun _ _ => rfl⟩ (fun hHeld => ?_)
          have HWS : Hid (w3.heap.size ≤ w3.drew.heap.size) := Nat.le_refl _
          generalize w3.drew = wS at *
          refine wpAnyH_take (i := 1) (oi := { dst := some 34, op := Op.move (Operand.tmp 0), type := 24, pos := _, after := #[], guard := none }) (v := ?v1x41) rfl (by kernel_rfl) (by kernel_rfl) (by kernel_rfl) (fun _ _ _ h => h) (Or.inl ⟨by rfl, ?hy1x41⟩) hHeld ?rest1x41
          case hy1x41 => (intro w' hSw; go_simp; try with_reducible rfl)
          try simp only [Act.put, List.setIfInBounds_toArray, List.set_cons_zero, List.set_cons_succ]
          refine wpAnyH_take (i := 2) (oi := { dst := some 35, op := Op.move (Operand.tmp 5), type := 3, pos := _, after := #[], guard := none }) (v := ?v2x42) rfl (by kernel_rfl) (by kernel_rfl) (by kernel_rfl) (fun _ _ _ h => h) (Or.inl ⟨by rfl, ?hy2x42⟩) hHeld ?rest2x42
          case hy2x42 => (intro w' hSw; go_simp; try with_reducible rfl)
          try simp only [Act.put, List.setIfInBounds_toArray, List.set_cons_zero, List.set_cons_succ]
          refine wpAnyH_take (i := 3) (oi := { dst := some 36, op := Op.slice 24 (Operand.tmp 34) none (some (Operand.tmp 35)) none, type := 24, pos := _, after := #[{ on := 1, ground := Ground.data }, { on := 2, ground := Ground.data }], guard := none }) (v := ?v3x43) rfl (by kernel_rfl) (by kernel_rfl) (by kernel_rfl) (fun _ _ _ h => h) (Or.inl ⟨by rfl, ?hy3x43⟩) hHeld ?rest3x43
          case hy3x43 => (intro w' hSw; go_simp; try with_reducible rfl)
          try simp only [Act.put, List.setIfInBounds_toArray, List.set_cons_zero, List.set_cons_succ]
          refine wpAnyH_take (i := 5) (oi := { dst := some 38, op := Op.load 42 (Operand.tmp 3), type := 42, pos := _, after := #[], guard := none }) (v := ?v5x44) rfl (by kernel_rfl) (by kernel_rfl) (by kernel_rfl) (fun _ _ _ h => h) (Or.inl ⟨by rfl, ?hy5x44⟩) hHeld ?rest5x44
          case hy5x44 => (intro w' hSw; have s0 := cell_in hSw HLT.out HQ0.out; have s1 := cell_in hSw HLT.out HQ1.out; go_simp; try with_reducible rfl)
          try simp only [Act.put, List.setIfInBounds_toArray, List.set_cons_zero, List.set_cons_succ]
          refine wpAnyH_take (i := 8) (oi := { dst := some 41, op := Op.move (Operand.tmp 0), type := 24, pos := _, after := #[], guard := none }) (v := ?v8x45) rfl (by kernel_rfl) (by kernel_rfl) (by kernel_rfl) (fun _ _ _ h => h) (Or.inl ⟨by rfl, ?hy8x45⟩) hHeld ?rest8x45
          case hy8x45 => (intro w' hSw; go_simp; try with_reducible rfl)
          try simp only [Act.put, List.setIfInBounds_toArray, List.set_cons_zero, List.set_cons_succ]
          refine wpAnyH_take (i := 9) (oi := { dst := some 42, op := Op.move (Operand.tmp 5), type := 3, pos := _, after := #[], guard := none }) (v := ?v9x46) rfl (by kernel_rfl) (by kernel_rfl) (by kernel_rfl) (fun _ _ _ h => h) (Or.inl ⟨by rfl, ?hy9x46⟩) hHeld ?rest9x46
          case hy9x46 => (intro w' hSw; go_simp; try with_reducible rfl)
          try simp only [Act.put, List.setIfInBounds_toArray, List.set_cons_zero, List.set_cons_succ]
          refine wpAnyH_take (i := 10) (oi := { dst := some 43, op := Op.slice 24 (Operand.tmp 41) (some (Operand.tmp 42)) none none, type := 24, pos := _, after := #[{ on := 8, ground := Ground.data }, { on := 9, ground := Ground.data }], guard := none }) (v := ?v10x47) rfl (by kernel_rfl) (by kernel_rfl) (by kernel_rfl) (fun _ _ _ h => h) (Or.inl ⟨by rfl, ?hy10x47⟩) hHeld ?rest10x47
          case hy10x47 => (intro w' hSw; go_simp; try with_reducible rfl)
          try simp only [Act.put, List.setIfInBounds_toArray, List.set_cons_zero, List.set_cons_succ]
          refine wpAnyH_ready (rs := [0, 6]) (by kernel_rfl) (by simp) ?_
          refine AllReadyH.cons (o := { dst := some 33, op := Op.buildSlice 24 0 #[], type := 24, pos := _, after := #[], guard := none }) rfl (fun K hK => ?_) (AllReadyH.cons (o := { dst := some 39, op := Op.buildSlice 24 1 #[(0, Operand.tmp 38)], type := 24, pos := _, after := #[{ on := 5, ground := Ground.data }], guard := none }) rfl (fun K hK => ?_) AllReadyH.nil)
          · go_simp
            have HE : Hid (OwnL (wS.alloc (Obj.cells #[] 42)) w3.heap.size (.slice (some ⟨wS.heap.size, 0, none⟩) 0 0) []) := (own_emptyL wS).monoA HWS.out
            refine hK.out _ _ (blAlloc hHeld _) (fun hHeldN => ?_)
            clear hK K
            clear hHeld
            have hHeld := hHeldN
            clear hHeldN
            try simp only [Act.put, List.setIfInBounds_toArray, List.set_cons_zero, List.set_cons_succ]
            generalize wS.alloc (Obj.cells #[] 42) = wA at *
            refine wpAnyH_ready (rs := [4, 6]) (by kernel_rfl) (by simp) ?_
            refine AllReadyH.cons (o := { dst := some 37, op := Op.call { callee := Callee.builtin Builtin.append, args := #[Operand.tmp 33, Operand.tmp 36], argTypes := #[24, 24] }, type := 24, pos := _, after := #[{ on := 0, ground := Ground.data }, { on := 3, ground := Ground.data }], guard := none }) rfl (fun K hK => ?_) (AllReadyH.cons (o := { dst := some 39, op := Op.buildSlice 24 1 #[(0, Operand.tmp 38)], type := 24, pos := _, after := #[{ on := 5, ground := Ground.data }], guard := none }) rfl (fun K hK => ?_) AllReadyH.nil)
            · rw [if_pos (by rfl)]
              refine wp_append_st _ _ rfl w3.heap.size _ [] rfl HE.out (some ad) cap (l.take k) (by rw [HLK.out]; rfl) (HS1.out.later hHeld) HNA.out (by have := HLK.out; have := HLEN.out; simp only [List.length_nil]; omega) hHeld.size ?_
              intro v4 wC hown hgrow
              have HO4 : Hid (OwnL wC w3.heap.size v4 (l.take k)) := hown
              refine hK.out _ _ (grown_below hHeld HE.out (Nat.le_refl _) hHeld.size hgrow) (fun hHeldN => ?_)
              clear hown hgrow hK K
              clear hHeld
              have hHeld := hHeldN
              clear hHeldN
              try simp only [Act.put, List.setIfInBounds_toArray, List.set_cons_zero, List.set_cons_succ]
              refine wpAnyH_ready (rs := [6]) (by kernel_rfl) (by simp) ?_
              refine AllReadyH.cons (o := { dst := some 39, op := Op.buildSlice 24 1 #[(0, Operand.tmp 38)], type := 24, pos := _, after := #[{ on := 5, ground := Ground.data }], guard := none }) rfl (fun K hK => ?_) AllReadyH.nil
              go_simp
              have HSs := Lib.hid (one_sl _ t n _ (own2_new wC t n))
              have HO4b := Lib.hid (HO4.out.later (blAlloc (Below.refl _ _) (Obj.cells #[Value.int IntKind.i64 t, Value.int IntKind.i64 n] 42)))
              refine hK.out _ _ (blAlloc hHeld _) (fun hHeldN => ?_)
              clear hK K HO4
              have HO4 := HO4b
              clear HO4b
              clear hHeld
              have hHeld := hHeldN
              clear hHeldN
              try simp only [Act.put, List.setIfInBounds_toArray, List.set_cons_zero, List.set_cons_succ]
              refine wpAnyH_ready (rs := [7]) (by kernel_rfl) (by simp) ?_
              refine AllReadyH.cons (o := { dst := some 40, op := Op.call { callee := Callee.builtin Builtin.append, args := #[Operand.tmp 37, Operand.tmp 39], argTypes := #[24, 24] }, type := 24, pos := _, after := #[{ on := 4, ground := Ground.data }, { on := 6, ground := Ground.data }, { on := 4, ground := Ground.chain }], guard := none }) rfl (fun K hK => ?_) AllReadyH.nil
              rw [if_pos (by rfl)]
              refine wp_append_st _ _ rfl w3.heap.size _ (l.take k) rfl HO4.out (some ⟨wC.heap.size, 0, none⟩) 1 [(t, n)] rfl HSs.out (fun h => (by cases h)) (by have := HLK.out; have := HLEN.out; simp only [List.length_singleton]; omega) hHeld.size ?_
              intro v7 wD hown hgrow
              have HO7 := Lib.hid hown
              refine hK.out _ _ (grown_below hHeld HO4.out (Nat.le_refl _) hHeld.size hgrow) (fun hHeldN => ?_)
              clear hown hgrow
              clear hHeld
              have hHeld := hHeldN
              clear hHeldN
              clear hK K
              try simp only [Act.put, List.setIfInBounds_toArray, List.set_cons_zero, List.set_cons_succ]
              refine wpAnyH_ready (rs := [11]) (by kernel_rfl) (by simp) ?_
              refine AllReadyH.cons (o := { dst := some 44, op := Op.call { callee := Callee.builtin Builtin.append, args := #[Operand.tmp 40, Operand.tmp 43], argTypes := #[24, 24] }, type := 24, pos := _, after := #[{ on := 7, ground := Ground.data }, { on := 10, ground := Ground.data }, { on := 7, ground := Ground.chain }], guard := none }) rfl (fun K hK => ?_) AllReadyH.nil
              rw [if_pos (by rfl)]
              refine wp_append_st _ _ rfl w3.heap.size _ (l.take k ++ [(t, n)]) rfl HO7.out (some (ad.add (k * 2))) (cap - k) (l.drop k) (by rw [HLD.out]; rfl) (HS2.out.later hHeld) (fun h => (by cases h)) (by have := HLK.out; have := HLD.out; have := HLEN.out; rw [List.length_append, List.length_singleton]; omega) hHeld.size ?_
              intro v11 wE hown hgrow
              have HO11 : Hid (OwnL wE w3.heap.size v11 (l.take k ++ ([(t, n)] ++ l.drop k))) := by
                show OwnL _ _ _ _
                rw [← List.append_assoc]
                exact hown
              refine hK.out _ _ (grown_below hHeld HO7.out (Nat.le_refl _) hHeld.size hgrow) (fun hHeldN => ?_)
              clear hown hgrow
              clear hHeld
              have hHeld := hHeldN
              clear hHeldN
              clear hK K
              try simp only [Act.put, List.setIfInBounds_toArray, List.set_cons_zero, List.set_cons_succ]
              refine wpAnyH_take (i := 12) (oi := { dst := some 4, op := Op.assign (Operand.tmp 44), type := 24, pos := _, after := #[{ on := 11, ground := Ground.data }, { on := 11, ground := Ground.chain }, { on := 0, ground := Ground.phase }, { on := 1, ground := Ground.phase }, { on := 2, ground := Ground.phase }, { on := 3, ground := Ground.phase }, { on := 4, ground := Ground.phase }, { on := 5, ground := Ground.phase }, { on := 6, ground := Ground.phase }, { on := 7, ground := Ground.phase }, { on := 8, ground := Ground.phase }, { on := 9, ground := Ground.phase }, { on := 10, ground := Ground.phase }, { on := 11, ground := Ground.phase }], guard := none }) (v := ?v12x48) rfl (by kernel_rfl) (by kernel_rfl) (by kernel_rfl) (fun _ _ _ h => h) (Or.inl ⟨by rfl, ?hy12x48⟩) hHeld ?rest12x48
              case hy12x48 => (intro w' hSw; go_simp; try with_reducible rfl)
              try simp only [Act.put, List.setIfInBounds_toArray, List.set_cons_zero, List.set_cons_succ]
              refine wpAnyH_done (by kernel_rfl) ?_ _
              go_wp2
              go_ret
              exact reta_own HADD2.out HO11.out HB5.out.size (blThen HB5.out hHeld)
            · go_simp
              have HS0 := Lib.hid (one_sl _ t n _ (own2_new wA t n))
              have HE2 := Lib.hid (HE.out.later (blAlloc (Below.refl _ _) (Obj.cells #[Value.int IntKind.i64 t, Value.int IntKind.i64 n] 42)))
              have HX : Hid (∀ c, (Value.slice (some ⟨wS.heap.size, 0, none⟩) 0 0).ownBlock = some c → c < wA.heap.size) := fun c h => (by simp only [Value.ownBlock, Option.some.injEq] at h; rw [← h]; exact ownlt HE.out)
              refine hK.out _ _ (blAlloc hHeld _) (fun hHeldN => ?_)
              clear hK K
              clear hHeld
              have hHeld := hHeldN
              clear hHeldN
              try simp only [Act.put, List.setIfInBounds_toArray, List.set_cons_zero, List.set_cons_succ]
              refine wpAnyH_ready (rs := [4]) (by kernel_rfl) (by simp) ?_
              refine AllReadyH.cons (o := { dst := some 37, op := Op.call { callee := Callee.builtin Builtin.append, args := #[Operand.tmp 33, Operand.tmp 36], argTypes := #[24, 24] }, type := 24, pos := _, after := #[{ on := 0, ground := Ground.data }, { on := 3, ground := Ground.data }], guard := none }) rfl (fun K hK => ?_) AllReadyH.nil
              rw [if_pos (by rfl)]
              refine wp_append_st _ _ rfl w3.heap.size _ [] rfl HE2.out (some ad) cap (l.take k) (by rw [HLK.out]; rfl) (HS1.out.later hHeld) HNA.out (by have := HLK.out; have := HLEN.out; simp only [List.length_nil]; omega) hHeld.size ?_
              intro v4 wC hown hgrow
              have HO4 : Hid (OwnL wC w3.heap.size v4 (l.take k)) := hown
              have HSs := Lib.hid (sl_grownA HS0.out (fun b' o' h e => by
                simp only [Option.some.injEq, Addr.mk.injEq] at h
                exact Nat.lt_irrefl _ (Nat.lt_of_lt_of_le (HX.out _ e) (Nat.le_of_eq h.1))) hgrow)
              refine hK.out _ _ (grown_below hHeld HE2.out (Nat.le_refl _) hHeld.size hgrow) (fun hHeldN => ?_)
              clear hown hgrow hK K
              clear hHeld
              have hHeld := hHeldN
              clear hHeldN
              try simp only [Act.put, List.setIfInBounds_toArray, List.set_cons_zero, List.set_cons_succ]
              refine wpAnyH_ready (rs := [7]) (by kernel_rfl) (by simp) ?_
              refine AllReadyH.cons (o := { dst := some 40, op := Op.call { callee := Callee.builtin Builtin.append, args := #[Operand.tmp 37, Operand.tmp 39], argTypes := #[24, 24] }, type := 24, pos := _, after := #[{ on := 4, ground := Ground.data }, { on := 6, ground := Ground.data }, { on := 4, ground := Ground.chain }], guard := none }) rfl (fun K hK => ?_) AllReadyH.nil
              rw [if_pos (by rfl)]
              refine wp_append_st _ _ rfl w3.heap.size _ (l.take k) rfl HO4.out (some ⟨wA.heap.size, 0, none⟩) 1 [(t, n)] rfl HSs.out (fun h => (by cases h)) (by have := HLK.out; have := HLEN.out; simp only [List.length_singleton]; omega) hHeld.size ?_
              intro v7 wD hown hgrow
              have HO7 := Lib.hid hown
              refine hK.out _ _ (grown_below hHeld HO4.out (Nat.le_refl _) hHeld.size hgrow) (fun hHeldN => ?_)
              clear hown hgrow
              clear hHeld
              have hHeld := hHeldN
              clear hHeldN
              clear hK K
              try simp only [Act.put, List.setIfInBounds_toArray, List.set_cons_zero, List.set_cons_succ]
              refine wpAnyH_ready (rs := [11]) (by kernel_rfl) (by simp) ?_
              refine AllReadyH.cons (o := { dst := some 44, op := Op.call { callee := Callee.builtin Builtin.append, args := #[Operand.tmp 40, Operand.tmp 43], argTypes := #[24, 24] }, type := 24, pos := _, after := #[{ on := 7, ground := Ground.data }, { on := 10, ground := Ground.data }, { on := 7, ground := Ground.chain }], guard := none }) rfl (fun K hK => ?_) AllReadyH.nil
              rw [if_pos (by rfl)]
              refine wp_append_st _ _ rfl w3.heap.size _ (l.take k ++ [(t, n)]) rfl HO7.out (some (ad.add (k * 2))) (cap - k) (l.drop k) (by rw [HLD.out]; rfl) (HS2.out.later hHeld) (fun h => (by cases h)) (by have := HLK.out; have := HLD.out; have := HLEN.out; rw [List.length_append, List.length_singleton]; omega) hHeld.size ?_
              intro v11 wE hown hgrow
              have HO11 : Hid (OwnL wE w3.heap.size v11 (l.take k ++ ([(t, n)] ++ l.drop k))) := by
                show OwnL _ _ _ _
                rw [← List.append_assoc]
                exact hown
              refine hK.out _ _ (grown_below hHeld HO7.out (Nat.le_refl _) hHeld.size hgrow) (fun hHeldN => ?_)
              clear hown hgrow
              clear hHeld
              have hHeld := hHeldN
              clear hHeldN
              clear hK K
              try simp only [Act.put, List.setIfInBounds_toArray, List.set_cons_zero, List.set_cons_succ]
              refine wpAnyH_take (i := 12) (oi := { dst := some 4, op := Op.assign (Operand.tmp 44), type := 24, pos := _, after := #[{ on := 11, ground := Ground.data }, { on := 11, ground := Ground.chain }, { on := 0, ground := Ground.phase }, { on := 1, ground := Ground.phase }, { on := 2, ground := Ground.phase }, { on := 3, ground := Ground.phase }, { on := 4, ground := Ground.phase }, { on := 5, ground := Ground.phase }, { on := 6, ground := Ground.phase }, { on := 7, ground := Ground.phase }, { on := 8, ground := Ground.phase }, { on := 9, ground := Ground.phase }, { on := 10, ground := Ground.phase }, { on := 11, ground := Ground.phase }], guard := none }) (v := ?v12x49) rfl (by kernel_rfl) (by kernel_rfl) (by kernel_rfl) (fun _ _ _ h => h) (Or.inl ⟨by rfl, ?hy12x49⟩) hHeld ?rest12x49
              case hy12x49 => (intro w' hSw; go_simp; try with_reducible rfl)
              try simp only [Act.put, List.setIfInBounds_toArray, List.set_cons_zero, List.set_cons_succ]
              refine wpAnyH_done (by kernel_rfl) ?_ _
              go_wp2
              go_ret
              exact reta_own HADD2.out HO11.out HB5.out.size (blThen HB5.out hHeld)
          · go_simp
            have HS0 : Hid (SL (wS.alloc (Obj.cells #[Value.int IntKind.i64 t, Value.int IntKind.i64 n] 42)) (some ⟨wS.heap.size, 0, none⟩) [(t, n)]) := one_sl _ t n _ (own2_new wS t n)
            have hW : wS.heap.size < (wS.alloc (Obj.cells #[Value.int IntKind.i64 t, Value.int IntKind.i64 n] 42)).heap.size := by simp
            refine hK.out _ _ (blAlloc hHeld _) (fun hHeldN => ?_)
            clear hK K
            clear hHeld
            have hHeld := hHeldN
            clear hHeldN
            try simp only [Act.put, List.setIfInBounds_toArray, List.set_cons_zero, List.set_cons_succ]
            generalize wS.alloc (Obj.cells #[Value.int IntKind.i64 t, Value.int IntKind.i64 n] 42) = wA at *
            refine wpAnyH_ready (rs := [0]) (by kernel_rfl) (by simp) ?_
            refine AllReadyH.cons (o := { dst := some 33, op := Op.buildSlice 24 0 #[], type := 24, pos := _, after := #[], guard := none }) rfl (fun K hK => ?_) AllReadyH.nil
            go_simp
            have HE : Hid (OwnL (wA.alloc (Obj.cells #[] 42)) w3.heap.size (.slice (some ⟨wA.heap.size, 0, none⟩) 0 0) []) := (own_emptyL wA).monoA (Nat.le_trans HWS.out (Nat.le_of_lt hW))
            have HS1b := Lib.hid (HS0.out.later (blAlloc (Below.refl _ _) (Obj.cells #[] 42)))
            refine hK.out _ _ (blAlloc hHeld _) (fun hHeldN => ?_)
            clear hK K
            clear hHeld
            have hHeld := hHeldN
            clear hHeldN
            try simp only [Act.put, List.setIfInBounds_toArray, List.set_cons_zero, List.set_cons_succ]
            refine wpAnyH_ready (rs := [4]) (by kernel_rfl) (by simp) ?_
            refine AllReadyH.cons (o := { dst := some 37, op := Op.call { callee := Callee.builtin Builtin.append, args := #[Operand.tmp 33, Operand.tmp 36], argTypes := #[24, 24] }, type := 24, pos := _, after := #[{ on := 0, ground := Ground.data }, { on := 3, ground := Ground.data }], guard := none }) rfl (fun K hK => ?_) AllReadyH.nil
            rw [if_pos (by rfl)]
            refine wp_append_st _ _ rfl w3.heap.size _ [] rfl HE.out (some ad) cap (l.take k) (by rw [HLK.out]; rfl) (HS1.out.later hHeld) HNA.out (by have := HLK.out; have := HLEN.out; simp only [List.length_nil]; omega) hHeld.size ?_
            intro v4 wC hown hgrow
            have HO4 : Hid (OwnL wC w3.heap.size v4 (l.take k)) := hown
            have HX : Hid (∀ c, (Value.slice (some ⟨wA.heap.size, 0, none⟩) 0 0).ownBlock = some c → wS.heap.size < c) := fun c h => (by simp only [Value.ownBlock, Option.some.injEq] at h; rw [← h]; exact hW)
            have HSs := Lib.hid (sl_grownA HS1b.out (fun b' o' h e => by
              simp only [Option.some.injEq, Addr.mk.injEq] at h
              exact Nat.lt_irrefl _ (Nat.lt_of_le_of_lt (Nat.le_of_eq h.1.symm) (HX.out _ e))) hgrow)
            refine hK.out _ _ (grown_below hHeld HE.out (Nat.le_refl _) hHeld.size hgrow) (fun hHeldN => ?_)
            clear hown hgrow hK K
            clear hHeld
            have hHeld := hHeldN
            clear hHeldN
            try simp only [Act.put, List.setIfInBounds_toArray, List.set_cons_zero, List.set_cons_succ]
            refine wpAnyH_ready (rs := [7]) (by kernel_rfl) (by simp) ?_
            refine AllReadyH.cons (o := { dst := some 40, op := Op.call { callee := Callee.builtin Builtin.append, args := #[Operand.tmp 37, Operand.tmp 39], argTypes := #[24, 24] }, type := 24, pos := _, after := #[{ on := 4, ground := Ground.data }, { on := 6, ground := Ground.data }, { on := 4, ground := Ground.chain }], guard := none }) rfl (fun K hK => ?_) AllReadyH.nil
            rw [if_pos (by rfl)]
            refine wp_append_st _ _ rfl w3.heap.size _ (l.take k) rfl HO4.out (some ⟨wS.heap.size, 0, none⟩) 1 [(t, n)] rfl HSs.out (fun h => (by cases h)) (by have := HLK.out; have := HLEN.out; simp only [List.length_singleton]; omega) hHeld.size ?_
            intro v7 wD hown hgrow
            have HO7 := Lib.hid hown
            refine hK.out _ _ (grown_below hHeld HO4.out (Nat.le_refl _) hHeld.size hgrow) (fun hHeldN => ?_)
            clear hown hgrow
            clear hHeld
            have hHeld := hHeldN
            clear hHeldN
            clear hK K
            try simp only [Act.put, List.setIfInBounds_toArray, List.set_cons_zero, List.set_cons_succ]
            refine wpAnyH_ready (rs := [11]) (by kernel_rfl) (by simp) ?_
            refine AllReadyH.cons (o := { dst := some 44, op := Op.call { callee := Callee.builtin Builtin.append, args := #[Operand.tmp 40, Operand.tmp 43], argTypes := #[24, 24] }, type := 24, pos := _, after := #[{ on := 7, ground := Ground.data }, { on := 10, ground := Ground.data }, { on := 7, ground := Ground.chain }], guard := none }) rfl (fun K hK => ?_) AllReadyH.nil
            rw [if_pos (by rfl)]
            refine wp_append_st _ _ rfl w3.heap.size _ (l.take k ++ [(t, n)]) rfl HO7.out (some (ad.add (k * 2))) (cap - k) (l.drop k) (by rw [HLD.out]; rfl) (HS2.out.later hHeld) (fun h => (by cases h)) (by have := HLK.out; have := HLD.out; have := HLEN.out; rw [List.length_append, List.length_singleton]; omega) hHeld.size ?_
            intro v11 wE hown hgrow
            have HO11 : Hid (OwnL wE w3.heap.size v11 (l.take k ++ ([(t, n)] ++ l.drop k))) := by
              show OwnL _ _ _ _
              rw [← List.append_assoc]
              exact hown
            refine hK.out _ _ (grown_below hHeld HO7.out (Nat.le_refl _) hHeld.size hgrow) (fun hHeldN => ?_)
            clear hown hgrow
            clear hHeld
            have hHeld := hHeldN
            clear hHeldN
            clear hK K
            try simp only [Act.put, List.setIfInBounds_toArray, List.set_cons_zero, List.set_cons_succ]
            refine wpAnyH_take (i := 12) (oi := { dst := some 4, op := Op.assign (Operand.tmp 44), type := 24, pos := _, after := #[{ on := 11, ground := Ground.data }, { on := 11, ground := Ground.chain }, { on := 0, ground := Ground.phase }, { on := 1, ground := Ground.phase }, { on := 2, ground := Ground.phase }, { on := 3, ground := Ground.phase }, { on := 4, ground := Ground.phase }, { on := 5, ground := Ground.phase }, { on := 6, ground := Ground.phase }, { on := 7, ground := Ground.phase }, { on := 8, ground := Ground.phase }, { on := 9, ground := Ground.phase }, { on := 10, ground := Ground.phase }, { on := 11, ground := Ground.phase }], guard := none }) (v := ?v12x50) rfl (by kernel_rfl) (by kernel_rfl) (by kernel_rfl) (fun _ _ _ h => h) (Or.inl ⟨by rfl, ?hy12x50⟩) hHeld ?rest12x50
            case hy12x50 => (intro w' hSw; go_simp; try with_reducible rfl)
            try simp only [Act.put, List.setIfInBounds_toArray, List.set_cons_zero, List.set_cons_succ]
            refine wpAnyH_done (by kernel_rfl) ?_ _
            go_wp2
            go_ret
            exact reta_own HADD2.out HO11.out HB5.out.size (blThen HB5.out hHeld)

end S1
end Go.Proofs.YtjlkgbejldcklaaGreat

/- The reference's Sort: the list of these, each once, rising. Conditions: a list of at most a million stamps. -/
namespace Go.Proofs.YtjlkgbejldcklaaGreat
namespace S1
open Go.Sort (grow)
open Go.RowKit

theorem fold_take (l : List (Int × Int)) (k : Nat) (x : Int × Int) (h : l[k]? = some x) : (l.take (k + 1)).foldl addL [] = addL ((l.take k).foldl addL []) x := by
  rw [List.take_add_one, h, List.foldl_append]
  rfl
theorem fold_len (l : List (Int × Int)) (k : Nat) : ((l.take k).foldl addL []).length ≤ l.length := by
  refine Nat.le_trans (sortL_length (l.take k)) ?_
  simp
  omega

set_option maxRecDepth 100000 in
set_option maxHeartbeats 1000000 in
theorem refsort_any (a : Option Addr) (cap : Nat) (l : List (Int × Int)) (w : World) (hlen : l.length ≤ 1000000) (hl : SL w a l) :
    Calls Tryz.prog 113 #[.slice a l.length cap] w (RetA w (sortL l)) := by
  have HL := Lib.hid hl
  have HLEN := Lib.hid hlen
  clear hl
  go_enter Tryz.func113, Tryz.ntmps113
  go_wp2
  go_loopw [4, 3] (fun i v wr => ∃ (k : Nat) (d : List (Int × Int)) (a' : Option Addr) (c' : Nat), k ≤ l.length ∧ i = .int .i64 k ∧ d = (l.take k).foldl addL [] ∧ v = .slice a' d.length c' ∧ SL wr a' d ∧ (a' = none → c' = 0) ∧ d.length ≤ c' ∧ Below w.heap.size w wr) (fun i _ _ => l.length - (intOf i).toNat)
  case atStart => exact ⟨0, [], none, 0, Nat.zero_le _, rfl, rfl, rfl, SL.nil_ok _ _, fun _ => rfl, Nat.le_refl _, Below.refl _ _⟩
  case round =>
    obtain ⟨k, d, a', c', hk, rfl, hd, rfl, hsl, hn, hc, hbel⟩ := hrel
    have HB := Lib.hid hbel
    have HS := Lib.hid hsl
    have HN := Lib.hid hn
    have HC := Lib.hid hc
    have HD := Lib.hid hd
    clear hbel hsl hn hc hd
    by_cases hlt : k < l.length
    · obtain ⟨x, y, hxy⟩ := at_lt hlt
      obtain ⟨b, o, rfl, hb, hl⟩ := HL.out (ne_of_lt hlt)
      obtain ⟨hx, hy⟩ := hl.later hb HB.out k x y hxy
      have hbw : b < wr.heap.size := Nat.lt_of_lt_of_le hb HB.out.size
      have HFT : Hid ((l.take (k + 1)).foldl addL [] = addL d (x, y)) := by
        show _ = _
        rw [fold_take l k _ hxy, HD.out]
      have HDL : Hid (d.length ≤ 1000000) := by
        show d.length ≤ _
        rw [HD.out]
        exact Nat.le_trans (fold_len l k) HLEN.out
      clear hxy hl
      go_wp2_with fail
      refine (add_any a' c' d x y _ HDL.out HS.out HN.out HC.out).mono ?_
      rintro e w2 ⟨a2, c2, rfl, hs2, hn2, hc2, hb2⟩
      have HB2 := Lib.hid (blThen HB.out hb2)
      have HS2 := Lib.hid hs2
      have HN2 := Lib.hid hn2
      have HC2 := Lib.hid hc2
      clear hb2 hs2 hn2 hc2
      go_wp2
      go_roundw
      case rel => exact ⟨k + 1, addL d (x, y), a2, c2, hlt, by go_num, HFT.out.symm, rfl, HS2.out, HN2.out, HC2.out, HB2.out⟩
      case measure => simp [intOf]; omega
    · have hfin : Hid (d = sortL l) := by
        show d = sortL l
        rw [HD.out, List.take_of_length_le (by omega)]
        rfl
      go_wp2
      go_ret
      rw [← hfin.out]
      exact ⟨_, _, rfl, HS.out, HN.out, HC.out, HB.out⟩

end S1
end Go.Proofs.YtjlkgbejldcklaaGreat
