/- The reference's Add: stamps put to a shard of dependencies. Conditions: lists of at most a million. -/
import Derived.Deep.RegionHeld
import Derived.WalkSpells
import Derived.Test.YtjlkgbejldcklaaGreatMg36
import Derived.Test.YtjlkgbejldcklaaGreatMg10
import Derived.Test.YtjlkgbejldcklaaGreatMg34
/- The reference's Add: stamps put to a shard of dependencies. Conditions: lists of at most a million. -/
set_option linter.unusedVariables false
set_option linter.unusedSimpArgs false
namespace Go.Proofs.YtjlkgbejldcklaaGreat
open S1
namespace SD
open Go.RowKit

theorem own_emptyD (w : World) : OwnD (w.alloc (.cells #[] 26)) w.heap.size (.slice (some ⟨w.heap.size, 0, none⟩) 0 0) [] := by
  refine ⟨rfl, .inr ⟨w.heap.size, 0, #[], rfl, Nat.le_refl _, ?_, Nat.le_refl _, Nat.zero_le _, rfl, rfl⟩⟩
  show (w.heap.push _)[w.heap.size]? = _
  simp
theorem OwnD.monoA {w : World} {base B : Nat} {v : Value} {d : List Dp} (h : OwnD w B v d) (hb : base ≤ B) : OwnD w base v d := by
  obtain ⟨h1, h2 | ⟨g, cap, cur, hv, hg, hx⟩⟩ := h
  · exact ⟨h1, .inl h2⟩
  · exact ⟨h1, .inr ⟨g, cap, cur, hv, Nat.le_trans hb hg, hx⟩⟩
/-- These Deps lie at this place. -/
def SrcD (w : World) (ad : Option Addr) (cap : Nat) (m : List Dp) : Prop := (m ≠ [] → ∃ g o, ad = some ⟨g, o, none⟩ ∧ g < w.heap.size ∧ RowD w g o m) ∧ (ad = none → cap = 0)
theorem SrcD.later {w w' : World} {ad : Option Addr} {cap : Nat} {m : List Dp} (h : SrcD w ad cap m) (hb : Below w.heap.size w w') : SrcD w' ad cap m := by
  refine ⟨fun hne => ?_, h.2⟩
  obtain ⟨g, o, ha, hg, hr⟩ := h.1 hne
  exact ⟨g, o, ha, Nat.lt_of_lt_of_le hg hb.size, hr.later hg hb⟩
theorem SrcD.grown {w w' : World} {ad : Option Addr} {cap : Nat} {m : List Dp} {v : Value} (h : SrcD w ad cap m) (hx : ∀ b o, ad = some ⟨b, o, none⟩ → v.ownBlock ≠ some b) (hg : w.grownBy w' v.ownBlock) : SrcD w' ad cap m := by
  refine ⟨fun hne => ?_, h.2⟩
  obtain ⟨g, o, rfl, hlt, hr⟩ := h.1 hne
  have hbl := hg.block g hlt (fun e => hx g o rfl e.symm)
  refine ⟨g, o, rfl, Nat.lt_of_lt_of_le hlt hg.size, fun i s hi => ?_⟩
  obtain ⟨c0, c1⟩ := hr i s hi
  simp only [World.cell?, hbl] at *
  exact ⟨c0, c1⟩
theorem newD (w : World) (m : Dp) (n : Nat) : SrcD (w.alloc (.cells #[.int .i64 m.sh, ilD m] 26)) (some ⟨w.heap.size, 0, none⟩) n [m] :=
  ⟨fun _ => ⟨_, _, rfl, by simp, one_newD w m _ rfl⟩, fun h => by cases h⟩
theorem srcD_row {w : World} {g o n : Nat} {m : List Dp} (hg : g < w.heap.size) (h : RowD w g o m) : SrcD w (some ⟨g, o, none⟩) n m := ⟨fun _ => ⟨_, _, rfl, hg, h⟩, fun h => by cases h⟩
theorem srcD_nil (w : World) {ad : Option Addr} {n : Nat} (h : ad = none → n = 0) : SrcD w ad n [] := ⟨fun h => absurd rfl h, h⟩
/-- append of Deps, of one operation. -/
theorem wp_append_dp {w : World} {o : Oper} {a : Act} {K : Act → World → Prop} {Q : Exit → Act → World → Prop} (s x : Operand)
    (ho : o.op = .call { callee := .builtin .append, args := #[s, x], argTypes := #[22, 22] })
    (base : Nat) (v : Value) (d : List Dp) (hs : a.eval s = v) (hown : OwnD w base v d) (ad : Option Addr) (n cap : Nat) (l : List Dp) (hx : a.eval x = .slice ad n cap) (hn : n = l.length) (hsl : SrcD w ad cap l)
    (hlen : d.length + l.length ≤ 4000000) (hbase : base ≤ w.heap.size)
    (h : ∀ v' w', OwnD w' base v' (d ++ l) → w.grownBy w' v.ownBlock → K (a.put o.dst v') w') : o.wp Tryz.prog a w K Q := by
  subst hn
  obtain ⟨i0, hi, hz0, hz1, hz2⟩ := info_parts info_dp
  cases ad with
  | none =>
    obtain rfl : cap = 0 := hsl.2 rfl
    obtain rfl : l = [] := by
      apply Classical.byContradiction
      intro hne
      obtain ⟨_, _, h, _⟩ := hsl.1 hne
      cases h
    have hx' : a.eval x = .slice none 0 0 := hx
    have hrun := run_append_owned_none (P := Tryz.prog) (w := w) base 22 o.type 26 i0 2 Tryz.underlying22 hi v d.length (cellsD d) hown
    unfold Oper.wp
    simp [execOp, ho, resolve, invoke, builtin, hs, hx', hrun, Result.andThen]
    exact (h v w (by rw [List.append_nil]; exact hown) ⟨rfl, rfl, rfl, Nat.le_refl _, fun _ _ _ => rfl⟩)
  | some ad =>
    have hc : ∀ (j : Nat) (u : Value), (cellsD l)[j]? = some u → w.cell? (ad.add j) = some u := by
      intro j u hj
      have hne : l ≠ [] := by rintro rfl; simp [cellsD] at hj
      obtain ⟨g, o', ha, _, hrow⟩ := hsl.1 hne
      simp only [Option.some.injEq] at ha
      subst ha
      exact hrow.cells j u hj
    refine wp_append_own w s x 22 ho base 26 i0 (.agg #[.int .i64 0, .slice none 0 0]) 2 32 Tryz.underlying22 hi hz0 hz1 hz2 rfl (by decide) v d.length (cellsD d) hs hown ad l.length cap (cellsD l) hx (cellsD_length l) hc (cellsD_one l) (by unfold maxLen; omega) (by omega) hbase ?_
    intro v' w' h2 h3 _
    refine h v' w' ?_ h3
    show w'.ownsRow base _ 2 v' _ _
    rw [List.length_append, cellsD_append]
    exact h2
/-- What Add gives, at its end. -/
theorem retD_own {w w' : World} {base : Nat} {v : Value} {r : Dd} {l : List Dp} (he : r = toD l) (h : OwnD w' base v l) (hi : ∀ s ∈ l, IdsAt w' s) (hB : Below w.heap.size w w') : RetD w r (.returned v) w' := by
  subst he
  obtain ⟨a, c, h1, h2, h3, h4⟩ := h.dl hi
  exact ⟨a, c, l, by rw [h1], rfl, h4, h2, h3, hB⟩
/-- A stamp's list does not lie in a Dep's block: it stays where the Dep is set. -/
theorem sl_setbx {w : World} {b : Nat} {sh : Int} {v u : Value} {a : Option Addr} {l : List (Int × Int)} (hb : Bx w b sh v) (hv : ∀ i, v ≠ .int .i64 i) (h : SL w a l) : SL (w.setCell ⟨b, 1, none⟩ u) a l := by
  intro hne
  obtain ⟨g, o, ha, hg, hl⟩ := h hne
  have hgb : g ≠ b := by
    rintro rfl
    cases l with
    | nil => exact hne rfl
    | cons x r =>
      obtain ⟨c0, c1⟩ := hl 0 x.1 x.2 rfl
      unfold Bx at hb
      simp only [World.cell?, hb] at c1
      rcases o with _ | o
      · simp at c1
        exact hv _ c1
      · simp at c1
  refine ⟨g, o, ha, by simpa using hg, fun i x y hi => ?_⟩
  obtain ⟨c0, c1⟩ := hl i x y hi
  have hbl : (w.setCell ⟨b, 1, none⟩ u).heap[g]? = w.heap[g]? := Below.heap_setCell _ _ _ _ hgb
  simp only [World.cell?, hbl] at *
  exact ⟨c0, c1⟩


set_option maxRecDepth 100000 in
set_option maxHeartbeats 16000000 in
theorem radd_any (g o c : Nat) (l : List Dp) (s : Int) (ax : Option Addr) (cx : Nat) (X : List (Int × Int)) (w : World) (hlen : l.length ≤ 1000000) (hids : ∀ x ∈ l, x.ids.length + X.length ≤ 1000000) (hxl : X.length ≤ 1000000) (hc : l.length ≤ c) (hl : Dl w (some ⟨g, o, none⟩) l) (hg : g < w.heap.size) (hrow : RowD w g o l) (hx : SL w ax X) (hxn : ax = none → cx = 0) :
    Calls Tryz.prog 27 #[.slice (some ⟨g, o, none⟩) l.length c, .int .i64 s, .slice ax X.length cx] w (RetD w (addD (toD l) s X)) := by
  have HL := Lib.hid hl
  have HR := Lib.hid hrow
  have HIDS := Lib.hid hids
  have HX := Lib.hid hx
  have HNA := Lib.hid hxn
  have HG := Lib.hid hg
  have HXL := Lib.hid hxl
  have HCC := Lib.hid hc
  clear hl hrow hids hx hxn
  go_enter Tryz.func27, Tryz.ntmps27
  go_wp2_with fail
  go_loopw [7] (fun i wr => ∃ k : Nat, k ≤ l.length ∧ i = .int .i64 k ∧ (∀ y ∈ (toD l).take k, y.1 < s) ∧ Below w.heap.size w wr) (fun i _ => l.length - (intOf i).toNat)
  case atStart => exact ⟨0, Nat.zero_le _, rfl, fun y h => (by simp at h), Below.refl _ _⟩
  case round =>
    obtain ⟨k, hk, rfl, hpre, hbel⟩ := hrel
    have HB := Lib.hid hbel
    have HPRE := Lib.hid hpre
    have HGW : Hid (g < wr.heap.size) := Nat.lt_of_lt_of_le hg hbel.size
    have hgw : g < wr.heap.size := HGW.out
    have HRW := Lib.hid (HR.out.later hg hbel)
    clear hpre hbel hg
    by_cases hlt : k < l.length
    · obtain ⟨x, hxk⟩ := at_ltD hlt
      have HXK := Lib.hid hxk
      obtain ⟨e0, e1⟩ := HRW.out k x hxk
      unfold ilD at e1
      have hk1 : (k : Int) < (l.length : Int) := by omega
      have hdk : decide ((k : Int) < (l.length : Int)) = true := decide_eq_true hk1
      have hck : ¬ c = k := by have := HCC.out; omega
      have hkc : (k : Int) ≤ (c : Int) := by have := HCC.out; omega
      have hkl : (k : Int) ≤ (l.length : Int) := by omega
      clear hxk
      by_cases hxs : x.sh < s
      · have hdx : decide (x.sh < s) = true := decide_eq_true hxs
        have HLTK := Lib.hid (less_take (toD_at HXK.out) HPRE.out hxs)
        go_wp2_with fail
        go_roundw
        case rel => exact ⟨k + 1, hlt, by go_num, HLTK.out, HB.out⟩
        case measure => simp [intOf]; omega
      · have hdx : decide (x.sh < s) = false := decide_eq_false hxs
        obtain ⟨-, hA2, hA3⟩ := addD_at (d := toD l) (s := s) X (by rw [toD_length]; exact hk) HPRE.out
        by_cases hxe : x.sh = s
        · have HADD : Hid (addD (toD l) s X = (toD l).take k ++ (s, sortL (x.ids ++ X)) :: (toD l).drop (k + 1)) := hA2 _ (toD_at HXK.out) hxe
          have hbx : (x.sh == s) = true := by simpa using hxe
          have hde : decide (x.sh = s) = true := by simpa using hxe
          have HXE := Lib.hid hxe
          clear hA2 hA3 hxe
          by_cases hcq : c = k + 1
          · subst hcq
            have hkc1 : (k : Int) ≤ (k : Int) + 1 := by omega
            have HBX : Hid (Bx (wr.alloc (.cells #[.int .i64 s, .slice x.ia x.ids.length x.ic] 26)) wr.heap.size s (.slice x.ia x.ids.length x.ic)) := by
              show (wr.heap.push _)[wr.heap.size]? = _
              simp
            have HB1 : Hid (Below w.heap.size w (wr.alloc (.cells #[.int .i64 s, .slice x.ia x.ids.length x.ic] 26))) := blAlloc HB.out _
            have HWB : Hid (w.heap.size ≤ wr.heap.size) := HB.out.size
            have HSA : Hid (SL (wr.alloc (.cells #[.int .i64 s, .slice x.ia x.ids.length x.ic] 26)) ax X) := HX.out.later HB1.out
            have HXI := Lib.hid (HL.out.1 x (List.mem_of_getElem? HXK.out))
            have HSX : Hid (SL (wr.alloc (.cells #[.int .i64 s, .slice x.ia x.ids.length x.ic] 26)) x.ia x.ids) := HXI.out.1.later HB1.out
            have HNX : Hid (x.ia = none → x.ic = 0) := HXI.out.2.1
            have HLN : Hid (x.ids.length + X.length ≤ 1000000) := HIDS.out x (List.mem_of_getElem? HXK.out)
            have HE9 : Hid (OwnL ((wr.alloc (.cells #[.int .i64 s, .slice x.ia x.ids.length x.ic] 26)).alloc (.cells #[] 42)) (wr.alloc (.cells #[.int .i64 s, .slice x.ia x.ids.length x.ic] 26)).heap.size (.slice (some ⟨wr.heap.size + 1, 0, none⟩) 0 0) []) := by
              have h := own_emptyL (wr.alloc (.cells #[.int .i64 s, .slice x.ia x.ids.length x.ic] 26))
              have e : (wr.alloc (.cells #[.int .i64 s, .slice x.ia x.ids.length x.ic] 26)).heap.size = wr.heap.size + 1 := by simp
              show OwnL _ _ _ _
              rw [e] at h ⊢
              exact h
            have HLZ : Hid (([] : List (Int × Int)).length + (x.ids).length ≤ 4000000) := by have := HLN.out; show _ ≤ _; simp only [List.length_nil]; omega
            have HLY : Hid ((x.ids).length + X.length ≤ 4000000) := by have := HLN.out; show _ ≤ _; omega
            have HLX : Hid ((x.ids ++ X).length ≤ 1000000) := by have := HLN.out; show _ ≤ _; rw [List.length_append]; omega
            go_wp2_with (first
              | (go_at_call 113; go_must (refine (refsort_any ga gc (Y) w5 HLX.out HGS.out).mono ?_; rintro e w6 ⟨sa, sc, rfl, h1, h2, h3, h5⟩; have HSR := Lib.hid h1; have HSN := Lib.hid h2; have HSC := Lib.hid h3; have HB6 : Hid (Below W1.heap.size W1 w6) := blThen HB5.out h5; have HBX6 := Lib.hid (HBX.out.later HB6.out HBX.out.lt); have q1 := HBX6.out.c1; have q2 := HBX6.out.f 1; have q3 := HBX6.out.lt; clear h1 h2 h3 h5))
              | (at_builtin; (refine append_st rfl (.tmp 56) (.tmp 57) rfl W1.heap.size _ (x.ids) rfl H4.out ax cx X rfl (HSA.out.later HB4.out) HNA.out HLY.out HB4.out.size ?_; intro v5 w5 h1 h2; have H5 := Lib.hid h1; have HB5 : Hid (Below W1.heap.size W1 w5) := grown_below HB4.out H4.out (Nat.le_refl _) HB4.out.size h2; obtain ⟨ga, gc, rfl, gs, -⟩ := h1.sl; have HGS := Lib.hid gs; clear h1 h2 gs; generalize x.ids ++ X = Y at *))
              | (at_builtin; (refine append_st rfl (.tmp 53) (.tmp 55) rfl (wr.alloc (.cells #[.int .i64 s, .slice x.ia x.ids.length x.ic] 26)).heap.size (.slice (some ⟨wr.heap.size + 1, 0, none⟩) 0 0) [] rfl HE9.out x.ia x.ic (x.ids) rfl (HSX.out.later (blAlloc (Below.refl _ _) _)) HNX.out HLZ.out (by simp) ?_; intro v4 w4 h1 h2; have H4 := Lib.hid h1; have HB4 : Hid (Below (wr.alloc (.cells #[.int .i64 s, .slice x.ia x.ids.length x.ic] 26)).heap.size (wr.alloc (.cells #[.int .i64 s, .slice x.ia x.ids.length x.ic] 26)) w4) := grown_below (blAlloc (Below.refl _ _) _) HE9.out (Nat.le_refl _) (by simp) h2; clear h1 h2; generalize wr.alloc (.cells #[.int .i64 s, .slice x.ia x.ids.length x.ic] 26) = W1 at *)))
            have HSR1 : Hid (SL w6 sa (sortL Y)) := HSR.out
            have HSN1 : Hid (sa = none → sc = 0) := HSN.out
            have HSC1 : Hid ((sortL Y).length ≤ sc) := HSC.out
            have HBX7 := Lib.hid (bx_set HBX6.out (.slice sa (sortL Y).length sc))
            have HB7 : Hid (Below w.heap.size w (w6.setCell ⟨wr.heap.size, 1, none⟩ (.slice sa (sortL Y).length sc))) := blSet (HB1.out.trans (HB6.out.mono HB1.out.size)) HWB.out _
            have HM : Hid (IdsAt (w6.setCell ⟨wr.heap.size, 1, none⟩ (.slice sa (sortL Y).length sc)) ⟨s, sa, sc, sortL Y⟩) := ⟨sl_setbx HBX6.out (fun i h => by cases h) HSR1.out, HSN1.out, HSC1.out⟩
            clear q1 q2 q3
            generalize w6.setCell ⟨wr.heap.size, 1, none⟩ (.slice sa (sortL Y).length sc) = w7 at *
            clear HSR HSC HSR1 HSC1 HBX6 HGS H5 HB5 H4 HB4 HE9
            generalize hIX : sortL Y = IX at *
            have HIX := Lib.hid hIX
            clear hIX
            have HLT := Lib.hid HBX7.out.lt
            have HQ0 := Lib.hid HBX7.out.c0
            have HQ1 := Lib.hid HBX7.out.c1
            go_wp2_with fail
            have HLK : Hid (k = (l.take k).length) := by show _ = _; rw [List.length_take]; omega
            have HLD : Hid (0 = (l.drop (k + 1)).length) := by have := HCC.out; show _ = _; rw [List.length_drop]; omega
            have HG7 : Hid (g < w7.heap.size) := Nat.lt_of_lt_of_le HG.out HB7.out.size
            have HR7 := Lib.hid (HR.out.later HG.out HB7.out)
            have HS1 : Hid (SrcD w7 (some ⟨g, o, none⟩) (k + 1) (l.take k)) := srcD_row HG7.out (rowD_take HR7.out _)
            have HLB : Hid ((l.drop (k + 1)).length ≤ 1000000 ∧ (l.take k).length ≤ 1000000) := by show _ ∧ _; rw [List.length_drop, List.length_take]; omega
            have HLE0 : Hid (([] : List Dp).length + (l.take k).length ≤ 4000000) := by have := HLB.out; show _ ≤ _; simp only [List.length_nil]; omega
            have HLE1 : Hid ((l.take k).length + [(⟨s, sa, sc, IX⟩ : Dp)].length ≤ 4000000) := by have := HLB.out; show _ ≤ _; simp only [List.length_singleton]; omega
            have HLE2 : Hid ((l.take k ++ [(⟨s, sa, sc, IX⟩ : Dp)]).length + (l.drop (k + 1)).length ≤ 4000000) := by have := HLB.out; show _ ≤ _; rw [List.length_append, List.length_singleton]; omega
            have HADD2 : Hid (addD (toD l) s X = toD (l.take k ++ [(⟨s, sa, sc, IX⟩ : Dp)] ++ l.drop (k + 1))) := by
              show _ = _
              rw [HADD.out, toD_append, toD_append, toD_take, toD_drop, List.append_assoc, ← HIX.out]
              rfl
            have HMEM : Hid (∀ y ∈ l.take k ++ [(⟨s, sa, sc, IX⟩ : Dp)] ++ l.drop (k + 1), IdsAt w7 y) := by
              intro y hy
              rw [List.mem_append, List.mem_append] at hy
              rcases hy with (hy | hy) | hy
              · exact (HL.out.1 y (List.mem_of_mem_take hy)).later HB7.out
              · rw [List.mem_singleton] at hy
                subst hy
                exact HM.out
              · exact (HL.out.1 y (List.mem_of_mem_drop hy)).later HB7.out
            have HS2 : Hid (SrcD w7 (some ⟨g, o, none⟩) 0 (l.drop (k + 1))) := by
              show SrcD _ _ _ _
              rw [show l.drop (k + 1) = [] from List.drop_of_length_le (by have := HCC.out; omega)]
              exact srcD_nil _ (fun h => by cases h)
            clear e0 e1 hxs
            refine wp_region_held_drew (S := fun w' => Below w7.heap.size w7 w') (by kernel_rfl) ⟨rfl, rfl, rfl, Nat.le_refl _, fun _ _ => rfl⟩ (fun hHeld => ?_)
            have HWS : Hid (w7.heap.size ≤ w7.drew.heap.size) := Nat.le_refl _
            generalize w7.drew = wS at *
            refine wpAnyH_take (i := 1) (oi := { dst := some 62, op := Op.move (Operand.tmp 0), type := 22, pos := "ref.go:51", after := #[], guard := none }) (v := ?v1x1) rfl (by kernel_rfl) (by kernel_rfl) (by kernel_rfl) (fun _ _ _ h => h) (Or.inl ⟨by rfl, ?hy1x1⟩) hHeld ?rest1x1
            case hy1x1 => (intro w' hSw; go_simp; try with_reducible rfl)
            try simp only [Act.put, List.setIfInBounds_toArray, List.set_cons_zero, List.set_cons_succ]
            refine wpAnyH_take (i := 2) (oi := { dst := some 63, op := Op.move (Operand.tmp 7), type := 3, pos := "ref.go:51", after := #[], guard := none }) (v := ?v2x2) rfl (by kernel_rfl) (by kernel_rfl) (by kernel_rfl) (fun _ _ _ h => h) (Or.inl ⟨by rfl, ?hy2x2⟩) hHeld ?rest2x2
            case hy2x2 => (intro w' hSw; go_simp; try with_reducible rfl)
            try simp only [Act.put, List.setIfInBounds_toArray, List.set_cons_zero, List.set_cons_succ]
            refine wpAnyH_take (i := 3) (oi := { dst := some 64, op := Op.slice 22 (Operand.tmp 62) none (some (Operand.tmp 63)) none, type := 22, pos := "ref.go:51", after := #[{ on := 1, ground := Ground.data }, { on := 2, ground := Ground.data }], guard := none }) (v := ?v3x3) rfl (by kernel_rfl) (by kernel_rfl) (by kernel_rfl) (fun _ _ _ h => h) (Or.inl ⟨by rfl, ?hy3x3⟩) hHeld ?rest3x3
            case hy3x3 => (intro w' hSw; go_simp; try with_reducible rfl)
            try simp only [Act.put, List.setIfInBounds_toArray, List.set_cons_zero, List.set_cons_succ]
            refine wpAnyH_take (i := 5) (oi := { dst := some 66, op := Op.load 26 (Operand.tmp 8), type := 26, pos := "ref.go:51", after := #[], guard := none }) (v := ?v5x4) rfl (by kernel_rfl) (by kernel_rfl) (by kernel_rfl) (fun _ _ _ h => h) (Or.inl ⟨by rfl, ?hy5x4⟩) hHeld ?rest5x4
            case hy5x4 => (intro w' hSw; have s0 := cell_in hSw HLT.out HQ0.out; have s1 := cell_in hSw HLT.out HQ1.out; go_simp; try with_reducible rfl)
            try simp only [Act.put, List.setIfInBounds_toArray, List.set_cons_zero, List.set_cons_succ]
            refine wpAnyH_take (i := 8) (oi := { dst := some 69, op := Op.move (Operand.tmp 9), type := 22, pos := "ref.go:51", after := #[], guard := none }) (v := ?v8x5) rfl (by kernel_rfl) (by kernel_rfl) (by kernel_rfl) (fun _ _ _ h => h) (Or.inl ⟨by rfl, ?hy8x5⟩) hHeld ?rest8x5
            case hy8x5 => (intro w' hSw; go_simp; try with_reducible rfl)
            try simp only [Act.put, List.setIfInBounds_toArray, List.set_cons_zero, List.set_cons_succ]
            refine wpAnyH_ready (rs := [0, 6]) (by kernel_rfl) (by simp) ?_
            refine AllReadyH.cons (o := { dst := some 61, op := Op.buildSlice 22 0 #[], type := 22, pos := "ref.go:51", after := #[], guard := none }) rfl (fun K hK => ?_) (AllReadyH.cons (o := { dst := some 67, op := Op.buildSlice 22 1 #[(0, Operand.tmp 66)], type := 22, pos := "ref.go:51", after := #[{ on := 5, ground := Ground.data }], guard := none }) rfl (fun K hK => ?_) AllReadyH.nil)
            · go_simp
              have HE : Hid (OwnD (wS.alloc (Obj.cells #[] 26)) w7.heap.size (.slice (some ⟨wS.heap.size, 0, none⟩) 0 0) []) := (own_emptyD wS).monoA HWS.out
              refine hK.out _ _ (blAlloc hHeld _) (fun hHeldN => ?_)
              clear hK K
              clear hHeld
              have hHeld := hHeldN
              clear hHeldN
              try simp only [Act.put, List.setIfInBounds_toArray, List.set_cons_zero, List.set_cons_succ]
              generalize wS.alloc (Obj.cells #[] 26) = wA at *
              refine wpAnyH_ready (rs := [4, 6]) (by kernel_rfl) (by simp) ?_
              refine AllReadyH.cons (o := { dst := some 65, op := Op.call { callee := Callee.builtin Builtin.append, args := #[Operand.tmp 61, Operand.tmp 64], argTypes := #[22, 22] }, type := 22, pos := "ref.go:51", after := #[{ on := 0, ground := Ground.data }, { on := 3, ground := Ground.data }], guard := none }) rfl (fun K hK => ?_) (AllReadyH.cons (o := { dst := some 67, op := Op.buildSlice 22 1 #[(0, Operand.tmp 66)], type := 22, pos := "ref.go:51", after := #[{ on := 5, ground := Ground.data }], guard := none }) rfl (fun K hK => ?_) AllReadyH.nil)
              · rw [if_pos (by rfl)]
                refine wp_append_dp _ _ rfl w7.heap.size _ [] rfl HE.out (some ⟨g, o, none⟩) (k) (k + 1) (l.take k) rfl HLK.out (HS1.out.later hHeld) HLE0.out hHeld.size ?_
                intro v4 wC hown hgrow
                have HO4 : Hid (OwnD wC w7.heap.size v4 (l.take k)) := hown
                refine hK.out _ _ (grown_belowD hHeld HE.out (Nat.le_refl _) hHeld.size hgrow) (fun hHeldN => ?_)
                clear hown hgrow hK K
                clear hHeld
                have hHeld := hHeldN
                clear hHeldN
                try simp only [Act.put, List.setIfInBounds_toArray, List.set_cons_zero, List.set_cons_succ]
                refine wpAnyH_ready (rs := [6]) (by kernel_rfl) (by simp) ?_
                refine AllReadyH.cons (o := { dst := some 67, op := Op.buildSlice 22 1 #[(0, Operand.tmp 66)], type := 22, pos := "ref.go:51", after := #[{ on := 5, ground := Ground.data }], guard := none }) rfl (fun K hK => ?_) AllReadyH.nil
                go_simp
                have HSs : Hid (SrcD (wC.alloc (Obj.cells #[Value.int IntKind.i64 s, Value.slice sa IX.length sc] 26)) (some ⟨wC.heap.size, 0, none⟩) 1 [(⟨s, sa, sc, IX⟩ : Dp)]) := newD wC (⟨s, sa, sc, IX⟩ : Dp) 1
                have HO4b := Lib.hid (HO4.out.later (blAlloc (Below.refl _ _) (Obj.cells #[Value.int IntKind.i64 s, Value.slice sa IX.length sc] 26)))
                refine hK.out _ _ (blAlloc hHeld _) (fun hHeldN => ?_)
                clear hK K HO4
                have HO4 := HO4b
                clear HO4b
                clear hHeld
                have hHeld := hHeldN
                clear hHeldN
                try simp only [Act.put, List.setIfInBounds_toArray, List.set_cons_zero, List.set_cons_succ]
                refine wpAnyH_ready (rs := [7]) (by kernel_rfl) (by simp) ?_
                refine AllReadyH.cons (o := { dst := some 68, op := Op.call { callee := Callee.builtin Builtin.append, args := #[Operand.tmp 65, Operand.tmp 67], argTypes := #[22, 22] }, type := 22, pos := "ref.go:51", after := #[{ on := 4, ground := Ground.data }, { on := 6, ground := Ground.data }, { on := 4, ground := Ground.chain }], guard := none }) rfl (fun K hK => ?_) AllReadyH.nil
                rw [if_pos (by rfl)]
                refine wp_append_dp _ _ rfl w7.heap.size _ (l.take k) rfl HO4.out (some ⟨wC.heap.size, 0, none⟩) 1 1 [(⟨s, sa, sc, IX⟩ : Dp)] rfl rfl HSs.out HLE1.out hHeld.size ?_
                intro v7 wD hown hgrow
                have HO7 := Lib.hid hown
                refine hK.out _ _ (grown_belowD hHeld HO4.out (Nat.le_refl _) hHeld.size hgrow) (fun hHeldN => ?_)
                clear hown hgrow
                clear hHeld
                have hHeld := hHeldN
                clear hHeldN
                clear hK K
                try simp only [Act.put, List.setIfInBounds_toArray, List.set_cons_zero, List.set_cons_succ]
                refine wpAnyH_ready (rs := [9]) (by kernel_rfl) (by simp) ?_
                refine AllReadyH.cons (o := { dst := some 70, op := Op.call { callee := Callee.builtin Builtin.append, args := #[Operand.tmp 68, Operand.tmp 69], argTypes := #[22, 22] }, type := 22, pos := "ref.go:51", after := #[{ on := 7, ground := Ground.data }, { on := 8, ground := Ground.data }, { on := 7, ground := Ground.chain }], guard := none }) rfl (fun K hK => ?_) AllReadyH.nil
                rw [if_pos (by rfl)]
                refine wp_append_dp _ _ rfl w7.heap.size _ (l.take k ++ [(⟨s, sa, sc, IX⟩ : Dp)]) rfl HO7.out (some ⟨g, o, none⟩) (0) (0) (l.drop (k + 1)) rfl HLD.out (HS2.out.later hHeld) HLE2.out hHeld.size ?_
                intro v11 wE hown hgrow
                have HO11 := Lib.hid hown
                refine hK.out _ _ (grown_belowD hHeld HO7.out (Nat.le_refl _) hHeld.size hgrow) (fun hHeldN => ?_)
                clear hown hgrow
                clear hHeld
                have hHeld := hHeldN
                clear hHeldN
                clear hK K
                try simp only [Act.put, List.setIfInBounds_toArray, List.set_cons_zero, List.set_cons_succ]
                refine wpAnyH_take (i := 10) (oi := { dst := some 6, op := Op.assign (Operand.tmp 70), type := 22, pos := "ref.go:51", after := #[{ on := 9, ground := Ground.data }, { on := 9, ground := Ground.chain }, { on := 0, ground := Ground.phase }, { on := 1, ground := Ground.phase }, { on := 2, ground := Ground.phase }, { on := 3, ground := Ground.phase }, { on := 4, ground := Ground.phase }, { on := 5, ground := Ground.phase }, { on := 6, ground := Ground.phase }, { on := 7, ground := Ground.phase }, { on := 8, ground := Ground.phase }, { on := 9, ground := Ground.phase }], guard := none }) (v := ?v10x6) rfl (by kernel_rfl) (by kernel_rfl) (by kernel_rfl) (fun _ _ _ h => h) (Or.inl ⟨by rfl, ?hy10x6⟩) hHeld ?rest10x6
                case hy10x6 => (intro w' hSw; go_simp; try with_reducible rfl)
                try simp only [Act.put, List.setIfInBounds_toArray, List.set_cons_zero, List.set_cons_succ]
                refine wpAnyH_done (by kernel_rfl) ?_ _
                go_wp2
                go_ret
                exact retD_own HADD2.out HO11.out (fun y hy => (HMEM.out y hy).later hHeld) (blThen HB7.out hHeld)
              · go_simp
                have HS0 : Hid (SrcD (wA.alloc (Obj.cells #[Value.int IntKind.i64 s, Value.slice sa IX.length sc] 26)) (some ⟨wA.heap.size, 0, none⟩) 1 [(⟨s, sa, sc, IX⟩ : Dp)]) := newD wA (⟨s, sa, sc, IX⟩ : Dp) 1
                have HE2 := Lib.hid (HE.out.later (blAlloc (Below.refl _ _) (Obj.cells #[Value.int IntKind.i64 s, Value.slice sa IX.length sc] 26)))
                have HX9 : Hid (∀ c, (Value.slice (some ⟨wS.heap.size, 0, none⟩) 0 0).ownBlock = some c → c < wA.heap.size) := fun c h => (HE.out.block c h).2
                refine hK.out _ _ (blAlloc hHeld _) (fun hHeldN => ?_)
                clear hK K
                clear hHeld
                have hHeld := hHeldN
                clear hHeldN
                try simp only [Act.put, List.setIfInBounds_toArray, List.set_cons_zero, List.set_cons_succ]
                refine wpAnyH_ready (rs := [4]) (by kernel_rfl) (by simp) ?_
                refine AllReadyH.cons (o := { dst := some 65, op := Op.call { callee := Callee.builtin Builtin.append, args := #[Operand.tmp 61, Operand.tmp 64], argTypes := #[22, 22] }, type := 22, pos := "ref.go:51", after := #[{ on := 0, ground := Ground.data }, { on := 3, ground := Ground.data }], guard := none }) rfl (fun K hK => ?_) AllReadyH.nil
                rw [if_pos (by rfl)]
                refine wp_append_dp _ _ rfl w7.heap.size _ [] rfl HE2.out (some ⟨g, o, none⟩) (k) (k + 1) (l.take k) rfl HLK.out (HS1.out.later hHeld) HLE0.out hHeld.size ?_
                intro v4 wC hown hgrow
                have HO4 : Hid (OwnD wC w7.heap.size v4 (l.take k)) := hown
                have HSs := Lib.hid (HS0.out.grown (fun b' o' h e => by
                  simp only [Option.some.injEq, Addr.mk.injEq] at h
                  exact Nat.lt_irrefl _ (Nat.lt_of_lt_of_le (HX9.out _ e) (Nat.le_of_eq h.1))) hgrow)
                refine hK.out _ _ (grown_belowD hHeld HE2.out (Nat.le_refl _) hHeld.size hgrow) (fun hHeldN => ?_)
                clear hown hgrow hK K
                clear hHeld
                have hHeld := hHeldN
                clear hHeldN
                try simp only [Act.put, List.setIfInBounds_toArray, List.set_cons_zero, List.set_cons_succ]
                refine wpAnyH_ready (rs := [7]) (by kernel_rfl) (by simp) ?_
                refine AllReadyH.cons (o := { dst := some 68, op := Op.call { callee := Callee.builtin Builtin.append, args := #[Operand.tmp 65, Operand.tmp 67], argTypes := #[22, 22] }, type := 22, pos := "ref.go:51", after := #[{ on := 4, ground := Ground.data }, { on := 6, ground := Ground.data }, { on := 4, ground := Ground.chain }], guard := none }) rfl (fun K hK => ?_) AllReadyH.nil
                rw [if_pos (by rfl)]
                refine wp_append_dp _ _ rfl w7.heap.size _ (l.take k) rfl HO4.out (some ⟨wA.heap.size, 0, none⟩) 1 1 [(⟨s, sa, sc, IX⟩ : Dp)] rfl rfl HSs.out HLE1.out hHeld.size ?_
                intro v7 wD hown hgrow
                have HO7 := Lib.hid hown
                refine hK.out _ _ (grown_belowD hHeld HO4.out (Nat.le_refl _) hHeld.size hgrow) (fun hHeldN => ?_)
                clear hown hgrow
                clear hHeld
                have hHeld := hHeldN
                clear hHeldN
                clear hK K
                try simp only [Act.put, List.setIfInBounds_toArray, List.set_cons_zero, List.set_cons_succ]
                refine wpAnyH_ready (rs := [9]) (by kernel_rfl) (by simp) ?_
                refine AllReadyH.cons (o := { dst := some 70, op := Op.call { callee := Callee.builtin Builtin.append, args := #[Operand.tmp 68, Operand.tmp 69], argTypes := #[22, 22] }, type := 22, pos := "ref.go:51", after := #[{ on := 7, ground := Ground.data }, { on := 8, ground := Ground.data }, { on := 7, ground := Ground.chain }], guard := none }) rfl (fun K hK => ?_) AllReadyH.nil
                rw [if_pos (by rfl)]
                refine wp_append_dp _ _ rfl w7.heap.size _ (l.take k ++ [(⟨s, sa, sc, IX⟩ : Dp)]) rfl HO7.out (some ⟨g, o, none⟩) (0) (0) (l.drop (k + 1)) rfl HLD.out (HS2.out.later hHeld) HLE2.out hHeld.size ?_
                intro v11 wE hown hgrow
                have HO11 := Lib.hid hown
                refine hK.out _ _ (grown_belowD hHeld HO7.out (Nat.le_refl _) hHeld.size hgrow) (fun hHeldN => ?_)
                clear hown hgrow
                clear hHeld
                have hHeld := hHeldN
                clear hHeldN
                clear hK K
                try simp only [Act.put, List.setIfInBounds_toArray, List.set_cons_zero, List.set_cons_succ]
                refine wpAnyH_take (i := 10) (oi := { dst := some 6, op := Op.assign (Operand.tmp 70), type := 22, pos := "ref.go:51", after := #[{ on := 9, ground := Ground.data }, { on := 9, ground := Ground.chain }, { on := 0, ground := Ground.phase }, { on := 1, ground := Ground.phase }, { on := 2, ground := Ground.phase }, { on := 3, ground := Ground.phase }, { on := 4, ground := Ground.phase }, { on := 5, ground := Ground.phase }, { on := 6, ground := Ground.phase }, { on := 7, ground := Ground.phase }, { on := 8, ground := Ground.phase }, { on := 9, ground := Ground.phase }], guard := none }) (v := ?v10x7) rfl (by kernel_rfl) (by kernel_rfl) (by kernel_rfl) (fun _ _ _ h => h) (Or.inl ⟨by rfl, ?hy10x7⟩) hHeld ?rest10x7
                case hy10x7 => (intro w' hSw; go_simp; try with_reducible rfl)
                try simp only [Act.put, List.setIfInBounds_toArray, List.set_cons_zero, List.set_cons_succ]
                refine wpAnyH_done (by kernel_rfl) ?_ _
                go_wp2
                go_ret
                exact retD_own HADD2.out HO11.out (fun y hy => (HMEM.out y hy).later hHeld) (blThen HB7.out hHeld)
            · go_simp
              have HS0 : Hid (SrcD (wS.alloc (Obj.cells #[Value.int IntKind.i64 s, Value.slice sa IX.length sc] 26)) (some ⟨wS.heap.size, 0, none⟩) 1 [(⟨s, sa, sc, IX⟩ : Dp)]) := newD wS (⟨s, sa, sc, IX⟩ : Dp) 1
              have hW : wS.heap.size < (wS.alloc (Obj.cells #[Value.int IntKind.i64 s, Value.slice sa IX.length sc] 26)).heap.size := by simp
              refine hK.out _ _ (blAlloc hHeld _) (fun hHeldN => ?_)
              clear hK K
              clear hHeld
              have hHeld := hHeldN
              clear hHeldN
              try simp only [Act.put, List.setIfInBounds_toArray, List.set_cons_zero, List.set_cons_succ]
              generalize wS.alloc (Obj.cells #[Value.int IntKind.i64 s, Value.slice sa IX.length sc] 26) = wA at *
              refine wpAnyH_ready (rs := [0]) (by kernel_rfl) (by simp) ?_
              refine AllReadyH.cons (o := { dst := some 61, op := Op.buildSlice 22 0 #[], type := 22, pos := "ref.go:51", after := #[], guard := none }) rfl (fun K hK => ?_) AllReadyH.nil
              go_simp
              have HE : Hid (OwnD (wA.alloc (Obj.cells #[] 26)) w7.heap.size (.slice (some ⟨wA.heap.size, 0, none⟩) 0 0) []) := (own_emptyD wA).monoA (Nat.le_trans HWS.out (Nat.le_of_lt hW))
              have HS1b := Lib.hid (HS0.out.later (blAlloc (Below.refl _ _) (Obj.cells #[] 26)))
              refine hK.out _ _ (blAlloc hHeld _) (fun hHeldN => ?_)
              clear hK K
              clear hHeld
              have hHeld := hHeldN
              clear hHeldN
              try simp only [Act.put, List.setIfInBounds_toArray, List.set_cons_zero, List.set_cons_succ]
              refine wpAnyH_ready (rs := [4]) (by kernel_rfl) (by simp) ?_
              refine AllReadyH.cons (o := { dst := some 65, op := Op.call { callee := Callee.builtin Builtin.append, args := #[Operand.tmp 61, Operand.tmp 64], argTypes := #[22, 22] }, type := 22, pos := "ref.go:51", after := #[{ on := 0, ground := Ground.data }, { on := 3, ground := Ground.data }], guard := none }) rfl (fun K hK => ?_) AllReadyH.nil
              rw [if_pos (by rfl)]
              refine wp_append_dp _ _ rfl w7.heap.size _ [] rfl HE.out (some ⟨g, o, none⟩) (k) (k + 1) (l.take k) rfl HLK.out (HS1.out.later hHeld) HLE0.out hHeld.size ?_
              intro v4 wC hown hgrow
              have HO4 : Hid (OwnD wC w7.heap.size v4 (l.take k)) := hown
              have HX9 : Hid (∀ c, (Value.slice (some ⟨wA.heap.size, 0, none⟩) 0 0).ownBlock = some c → wS.heap.size < c) := fun c h => (by simp only [Value.ownBlock, Option.some.injEq] at h; rw [← h]; exact hW)
              have HSs := Lib.hid (HS1b.out.grown (fun b' o' h e => by
                simp only [Option.some.injEq, Addr.mk.injEq] at h
                exact Nat.lt_irrefl _ (Nat.lt_of_le_of_lt (Nat.le_of_eq h.1.symm) (HX9.out _ e))) hgrow)
              refine hK.out _ _ (grown_belowD hHeld HE.out (Nat.le_refl _) hHeld.size hgrow) (fun hHeldN => ?_)
              clear hown hgrow hK K
              clear hHeld
              have hHeld := hHeldN
              clear hHeldN
              try simp only [Act.put, List.setIfInBounds_toArray, List.set_cons_zero, List.set_cons_succ]
              refine wpAnyH_ready (rs := [7]) (by kernel_rfl) (by simp) ?_
              refine AllReadyH.cons (o := { dst := some 68, op := Op.call { callee := Callee.builtin Builtin.append, args := #[Operand.tmp 65, Operand.tmp 67], argTypes := #[22, 22] }, type := 22, pos := "ref.go:51", after := #[{ on := 4, ground := Ground.data }, { on := 6, ground := Ground.data }, { on := 4, ground := Ground.chain }], guard := none }) rfl (fun K hK => ?_) AllReadyH.nil
              rw [if_pos (by rfl)]
              refine wp_append_dp _ _ rfl w7.heap.size _ (l.take k) rfl HO4.out (some ⟨wS.heap.size, 0, none⟩) 1 1 [(⟨s, sa, sc, IX⟩ : Dp)] rfl rfl HSs.out HLE1.out hHeld.size ?_
              intro v7 wD hown hgrow
              have HO7 := Lib.hid hown
              refine hK.out _ _ (grown_belowD hHeld HO4.out (Nat.le_refl _) hHeld.size hgrow) (fun hHeldN => ?_)
              clear hown hgrow
              clear hHeld
              have hHeld := hHeldN
              clear hHeldN
              clear hK K
              try simp only [Act.put, List.setIfInBounds_toArray, List.set_cons_zero, List.set_cons_succ]
              refine wpAnyH_ready (rs := [9]) (by kernel_rfl) (by simp) ?_
              refine AllReadyH.cons (o := { dst := some 70, op := Op.call { callee := Callee.builtin Builtin.append, args := #[Operand.tmp 68, Operand.tmp 69], argTypes := #[22, 22] }, type := 22, pos := "ref.go:51", after := #[{ on := 7, ground := Ground.data }, { on := 8, ground := Ground.data }, { on := 7, ground := Ground.chain }], guard := none }) rfl (fun K hK => ?_) AllReadyH.nil
              rw [if_pos (by rfl)]
              refine wp_append_dp _ _ rfl w7.heap.size _ (l.take k ++ [(⟨s, sa, sc, IX⟩ : Dp)]) rfl HO7.out (some ⟨g, o, none⟩) (0) (0) (l.drop (k + 1)) rfl HLD.out (HS2.out.later hHeld) HLE2.out hHeld.size ?_
              intro v11 wE hown hgrow
              have HO11 := Lib.hid hown
              refine hK.out _ _ (grown_belowD hHeld HO7.out (Nat.le_refl _) hHeld.size hgrow) (fun hHeldN => ?_)
              clear hown hgrow
              clear hHeld
              have hHeld := hHeldN
              clear hHeldN
              clear hK K
              try simp only [Act.put, List.setIfInBounds_toArray, List.set_cons_zero, List.set_cons_succ]
              refine wpAnyH_take (i := 10) (oi := { dst := some 6, op := Op.assign (Operand.tmp 70), type := 22, pos := "ref.go:51", after := #[{ on := 9, ground := Ground.data }, { on := 9, ground := Ground.chain }, { on := 0, ground := Ground.phase }, { on := 1, ground := Ground.phase }, { on := 2, ground := Ground.phase }, { on := 3, ground := Ground.phase }, { on := 4, ground := Ground.phase }, { on := 5, ground := Ground.phase }, { on := 6, ground := Ground.phase }, { on := 7, ground := Ground.phase }, { on := 8, ground := Ground.phase }, { on := 9, ground := Ground.phase }], guard := none }) (v := ?v10x8) rfl (by kernel_rfl) (by kernel_rfl) (by kernel_rfl) (fun _ _ _ h => h) (Or.inl ⟨by rfl, ?hy10x8⟩) hHeld ?rest10x8
              case hy10x8 => (intro w' hSw; go_simp; try with_reducible rfl)
              try simp only [Act.put, List.setIfInBounds_toArray, List.set_cons_zero, List.set_cons_succ]
              refine wpAnyH_done (by kernel_rfl) ?_ _
              go_wp2
              go_ret
              exact retD_own HADD2.out HO11.out (fun y hy => (HMEM.out y hy).later hHeld) (blThen HB7.out hHeld)
          · have HBX : Hid (Bx (wr.alloc (.cells #[.int .i64 s, .slice x.ia x.ids.length x.ic] 26)) wr.heap.size s (.slice x.ia x.ids.length x.ic)) := by
              show (wr.heap.push _)[wr.heap.size]? = _
              simp
            have HB1 : Hid (Below w.heap.size w (wr.alloc (.cells #[.int .i64 s, .slice x.ia x.ids.length x.ic] 26))) := blAlloc HB.out _
            have HWB : Hid (w.heap.size ≤ wr.heap.size) := HB.out.size
            have HSA : Hid (SL (wr.alloc (.cells #[.int .i64 s, .slice x.ia x.ids.length x.ic] 26)) ax X) := HX.out.later HB1.out
            have HXI := Lib.hid (HL.out.1 x (List.mem_of_getElem? HXK.out))
            have HSX : Hid (SL (wr.alloc (.cells #[.int .i64 s, .slice x.ia x.ids.length x.ic] 26)) x.ia x.ids) := HXI.out.1.later HB1.out
            have HNX : Hid (x.ia = none → x.ic = 0) := HXI.out.2.1
            have HLN : Hid (x.ids.length + X.length ≤ 1000000) := HIDS.out x (List.mem_of_getElem? HXK.out)
            have HE9 : Hid (OwnL ((wr.alloc (.cells #[.int .i64 s, .slice x.ia x.ids.length x.ic] 26)).alloc (.cells #[] 42)) (wr.alloc (.cells #[.int .i64 s, .slice x.ia x.ids.length x.ic] 26)).heap.size (.slice (some ⟨wr.heap.size + 1, 0, none⟩) 0 0) []) := by
              have h := own_emptyL (wr.alloc (.cells #[.int .i64 s, .slice x.ia x.ids.length x.ic] 26))
              have e : (wr.alloc (.cells #[.int .i64 s, .slice x.ia x.ids.length x.ic] 26)).heap.size = wr.heap.size + 1 := by simp
              show OwnL _ _ _ _
              rw [e] at h ⊢
              exact h
            have HLZ : Hid (([] : List (Int × Int)).length + (x.ids).length ≤ 4000000) := by have := HLN.out; show _ ≤ _; simp only [List.length_nil]; omega
            have HLY : Hid ((x.ids).length + X.length ≤ 4000000) := by have := HLN.out; show _ ≤ _; omega
            have HLX : Hid ((x.ids ++ X).length ≤ 1000000) := by have := HLN.out; show _ ≤ _; rw [List.length_append]; omega
            go_wp2_with (first
              | (go_at_call 113; go_must (refine (refsort_any ga gc (Y) w5 HLX.out HGS.out).mono ?_; rintro e w6 ⟨sa, sc, rfl, h1, h2, h3, h5⟩; have HSR := Lib.hid h1; have HSN := Lib.hid h2; have HSC := Lib.hid h3; have HB6 : Hid (Below W1.heap.size W1 w6) := blThen HB5.out h5; have HBX6 := Lib.hid (HBX.out.later HB6.out HBX.out.lt); have q1 := HBX6.out.c1; have q2 := HBX6.out.f 1; have q3 := HBX6.out.lt; clear h1 h2 h3 h5))
              | (at_builtin; (refine append_st rfl (.tmp 56) (.tmp 57) rfl W1.heap.size _ (x.ids) rfl H4.out ax cx X rfl (HSA.out.later HB4.out) HNA.out HLY.out HB4.out.size ?_; intro v5 w5 h1 h2; have H5 := Lib.hid h1; have HB5 : Hid (Below W1.heap.size W1 w5) := grown_below HB4.out H4.out (Nat.le_refl _) HB4.out.size h2; obtain ⟨ga, gc, rfl, gs, -⟩ := h1.sl; have HGS := Lib.hid gs; clear h1 h2 gs; generalize x.ids ++ X = Y at *))
              | (at_builtin; (refine append_st rfl (.tmp 53) (.tmp 55) rfl (wr.alloc (.cells #[.int .i64 s, .slice x.ia x.ids.length x.ic] 26)).heap.size (.slice (some ⟨wr.heap.size + 1, 0, none⟩) 0 0) [] rfl HE9.out x.ia x.ic (x.ids) rfl (HSX.out.later (blAlloc (Below.refl _ _) _)) HNX.out HLZ.out (by simp) ?_; intro v4 w4 h1 h2; have H4 := Lib.hid h1; have HB4 : Hid (Below (wr.alloc (.cells #[.int .i64 s, .slice x.ia x.ids.length x.ic] 26)).heap.size (wr.alloc (.cells #[.int .i64 s, .slice x.ia x.ids.length x.ic] 26)) w4) := grown_below (blAlloc (Below.refl _ _) _) HE9.out (Nat.le_refl _) (by simp) h2; clear h1 h2; generalize wr.alloc (.cells #[.int .i64 s, .slice x.ia x.ids.length x.ic] 26) = W1 at *)))
            have HSR1 : Hid (SL w6 sa (sortL Y)) := HSR.out
            have HSN1 : Hid (sa = none → sc = 0) := HSN.out
            have HSC1 : Hid ((sortL Y).length ≤ sc) := HSC.out
            have HBX7 := Lib.hid (bx_set HBX6.out (.slice sa (sortL Y).length sc))
            have HB7 : Hid (Below w.heap.size w (w6.setCell ⟨wr.heap.size, 1, none⟩ (.slice sa (sortL Y).length sc))) := blSet (HB1.out.trans (HB6.out.mono HB1.out.size)) HWB.out _
            have HM : Hid (IdsAt (w6.setCell ⟨wr.heap.size, 1, none⟩ (.slice sa (sortL Y).length sc)) ⟨s, sa, sc, sortL Y⟩) := ⟨sl_setbx HBX6.out (fun i h => by cases h) HSR1.out, HSN1.out, HSC1.out⟩
            clear q1 q2 q3
            generalize w6.setCell ⟨wr.heap.size, 1, none⟩ (.slice sa (sortL Y).length sc) = w7 at *
            clear HSR HSC HSR1 HSC1 HBX6 HGS H5 HB5 H4 HB4 HE9
            generalize hIX : sortL Y = IX at *
            have HIX := Lib.hid hIX
            clear hIX
            have HLT := Lib.hid HBX7.out.lt
            have HQ0 := Lib.hid HBX7.out.c0
            have HQ1 := Lib.hid HBX7.out.c1
            go_wp2_with fail
            have HLK : Hid (k = (l.take k).length) := by show _ = _; rw [List.length_take]; omega
            have HLD : Hid (l.length - (k + 1) = (l.drop (k + 1)).length) := by have := HCC.out; show _ = _; rw [List.length_drop]
            have HG7 : Hid (g < w7.heap.size) := Nat.lt_of_lt_of_le HG.out HB7.out.size
            have HR7 := Lib.hid (HR.out.later HG.out HB7.out)
            have HS1 : Hid (SrcD w7 (some ⟨g, o, none⟩) (c) (l.take k)) := srcD_row HG7.out (rowD_take HR7.out _)
            have HLB : Hid ((l.drop (k + 1)).length ≤ 1000000 ∧ (l.take k).length ≤ 1000000) := by show _ ∧ _; rw [List.length_drop, List.length_take]; omega
            have HLE0 : Hid (([] : List Dp).length + (l.take k).length ≤ 4000000) := by have := HLB.out; show _ ≤ _; simp only [List.length_nil]; omega
            have HLE1 : Hid ((l.take k).length + [(⟨s, sa, sc, IX⟩ : Dp)].length ≤ 4000000) := by have := HLB.out; show _ ≤ _; simp only [List.length_singleton]; omega
            have HLE2 : Hid ((l.take k ++ [(⟨s, sa, sc, IX⟩ : Dp)]).length + (l.drop (k + 1)).length ≤ 4000000) := by have := HLB.out; show _ ≤ _; rw [List.length_append, List.length_singleton]; omega
            have HADD2 : Hid (addD (toD l) s X = toD (l.take k ++ [(⟨s, sa, sc, IX⟩ : Dp)] ++ l.drop (k + 1))) := by
              show _ = _
              rw [HADD.out, toD_append, toD_append, toD_take, toD_drop, List.append_assoc, ← HIX.out]
              rfl
            have HMEM : Hid (∀ y ∈ l.take k ++ [(⟨s, sa, sc, IX⟩ : Dp)] ++ l.drop (k + 1), IdsAt w7 y) := by
              intro y hy
              rw [List.mem_append, List.mem_append] at hy
              rcases hy with (hy | hy) | hy
              · exact (HL.out.1 y (List.mem_of_mem_take hy)).later HB7.out
              · rw [List.mem_singleton] at hy
                subst hy
                exact HM.out
              · exact (HL.out.1 y (List.mem_of_mem_drop hy)).later HB7.out
            have HS2 : Hid (SrcD w7 (some ⟨g, o + (k + 1) * 2, none⟩) (c - (k + 1)) (l.drop (k + 1))) := srcD_row HG7.out (rowD_drop HR7.out _)
            clear e0 e1 hxs
            refine wp_region_held_drew (S := fun w' => Below w7.heap.size w7 w') (by kernel_rfl) ⟨rfl, rfl, rfl, Nat.le_refl _, fun _ _ => rfl⟩ (fun hHeld => ?_)
            have HWS : Hid (w7.heap.size ≤ w7.drew.heap.size) := Nat.le_refl _
            generalize w7.drew = wS at *
            refine wpAnyH_take (i := 1) (oi := { dst := some 62, op := Op.move (Operand.tmp 0), type := 22, pos := "ref.go:51", after := #[], guard := none }) (v := ?v1x9) rfl (by kernel_rfl) (by kernel_rfl) (by kernel_rfl) (fun _ _ _ h => h) (Or.inl ⟨by rfl, ?hy1x9⟩) hHeld ?rest1x9
            case hy1x9 => (intro w' hSw; go_simp; try with_reducible rfl)
            try simp only [Act.put, List.setIfInBounds_toArray, List.set_cons_zero, List.set_cons_succ]
            refine wpAnyH_take (i := 2) (oi := { dst := some 63, op := Op.move (Operand.tmp 7), type := 3, pos := "ref.go:51", after := #[], guard := none }) (v := ?v2x10) rfl (by kernel_rfl) (by kernel_rfl) (by kernel_rfl) (fun _ _ _ h => h) (Or.inl ⟨by rfl, ?hy2x10⟩) hHeld ?rest2x10
            case hy2x10 => (intro w' hSw; go_simp; try with_reducible rfl)
            try simp only [Act.put, List.setIfInBounds_toArray, List.set_cons_zero, List.set_cons_succ]
            refine wpAnyH_take (i := 3) (oi := { dst := some 64, op := Op.slice 22 (Operand.tmp 62) none (some (Operand.tmp 63)) none, type := 22, pos := "ref.go:51", after := #[{ on := 1, ground := Ground.data }, { on := 2, ground := Ground.data }], guard := none }) (v := ?v3x11) rfl (by kernel_rfl) (by kernel_rfl) (by kernel_rfl) (fun _ _ _ h => h) (Or.inl ⟨by rfl, ?hy3x11⟩) hHeld ?rest3x11
            case hy3x11 => (intro w' hSw; go_simp; try with_reducible rfl)
            try simp only [Act.put, List.setIfInBounds_toArray, List.set_cons_zero, List.set_cons_succ]
            refine wpAnyH_take (i := 5) (oi := { dst := some 66, op := Op.load 26 (Operand.tmp 8), type := 26, pos := "ref.go:51", after := #[], guard := none }) (v := ?v5x12) rfl (by kernel_rfl) (by kernel_rfl) (by kernel_rfl) (fun _ _ _ h => h) (Or.inl ⟨by rfl, ?hy5x12⟩) hHeld ?rest5x12
            case hy5x12 => (intro w' hSw; have s0 := cell_in hSw HLT.out HQ0.out; have s1 := cell_in hSw HLT.out HQ1.out; go_simp; try with_reducible rfl)
            try simp only [Act.put, List.setIfInBounds_toArray, List.set_cons_zero, List.set_cons_succ]
            refine wpAnyH_take (i := 8) (oi := { dst := some 69, op := Op.move (Operand.tmp 9), type := 22, pos := "ref.go:51", after := #[], guard := none }) (v := ?v8x13) rfl (by kernel_rfl) (by kernel_rfl) (by kernel_rfl) (fun _ _ _ h => h) (Or.inl ⟨by rfl, ?hy8x13⟩) hHeld ?rest8x13
            case hy8x13 => (intro w' hSw; go_simp; try with_reducible rfl)
            try simp only [Act.put, List.setIfInBounds_toArray, List.set_cons_zero, List.set_cons_succ]
            refine wpAnyH_ready (rs := [0, 6]) (by kernel_rfl) (by simp) ?_
            refine AllReadyH.cons (o := { dst := some 61, op := Op.buildSlice 22 0 #[], type := 22, pos := "ref.go:51", after := #[], guard := none }) rfl (fun K hK => ?_) (AllReadyH.cons (o := { dst := some 67, op := Op.buildSlice 22 1 #[(0, Operand.tmp 66)], type := 22, pos := "ref.go:51", after := #[{ on := 5, ground := Ground.data }], guard := none }) rfl (fun K hK => ?_) AllReadyH.nil)
            · go_simp
              have HE : Hid (OwnD (wS.alloc (Obj.cells #[] 26)) w7.heap.size (.slice (some ⟨wS.heap.size, 0, none⟩) 0 0) []) := (own_emptyD wS).monoA HWS.out
              refine hK.out _ _ (blAlloc hHeld _) (fun hHeldN => ?_)
              clear hK K
              clear hHeld
              have hHeld := hHeldN
              clear hHeldN
              try simp only [Act.put, List.setIfInBounds_toArray, List.set_cons_zero, List.set_cons_succ]
              generalize wS.alloc (Obj.cells #[] 26) = wA at *
              refine wpAnyH_ready (rs := [4, 6]) (by kernel_rfl) (by simp) ?_
              refine AllReadyH.cons (o := { dst := some 65, op := Op.call { callee := Callee.builtin Builtin.append, args := #[Operand.tmp 61, Operand.tmp 64], argTypes := #[22, 22] }, type := 22, pos := "ref.go:51", after := #[{ on := 0, ground := Ground.data }, { on := 3, ground := Ground.data }], guard := none }) rfl (fun K hK => ?_) (AllReadyH.cons (o := { dst := some 67, op := Op.buildSlice 22 1 #[(0, Operand.tmp 66)], type := 22, pos := "ref.go:51", after := #[{ on := 5, ground := Ground.data }], guard := none }) rfl (fun K hK => ?_) AllReadyH.nil)
              · rw [if_pos (by rfl)]
                refine wp_append_dp _ _ rfl w7.heap.size _ [] rfl HE.out (some ⟨g, o, none⟩) (k) (c) (l.take k) rfl HLK.out (HS1.out.later hHeld) HLE0.out hHeld.size ?_
                intro v4 wC hown hgrow
                have HO4 : Hid (OwnD wC w7.heap.size v4 (l.take k)) := hown
                refine hK.out _ _ (grown_belowD hHeld HE.out (Nat.le_refl _) hHeld.size hgrow) (fun hHeldN => ?_)
                clear hown hgrow hK K
                clear hHeld
                have hHeld := hHeldN
                clear hHeldN
                try simp only [Act.put, List.setIfInBounds_toArray, List.set_cons_zero, List.set_cons_succ]
                refine wpAnyH_ready (rs := [6]) (by kernel_rfl) (by simp) ?_
                refine AllReadyH.cons (o := { dst := some 67, op := Op.buildSlice 22 1 #[(0, Operand.tmp 66)], type := 22, pos := "ref.go:51", after := #[{ on := 5, ground := Ground.data }], guard := none }) rfl (fun K hK => ?_) AllReadyH.nil
                go_simp
                have HSs : Hid (SrcD (wC.alloc (Obj.cells #[Value.int IntKind.i64 s, Value.slice sa IX.length sc] 26)) (some ⟨wC.heap.size, 0, none⟩) 1 [(⟨s, sa, sc, IX⟩ : Dp)]) := newD wC (⟨s, sa, sc, IX⟩ : Dp) 1
                have HO4b := Lib.hid (HO4.out.later (blAlloc (Below.refl _ _) (Obj.cells #[Value.int IntKind.i64 s, Value.slice sa IX.length sc] 26)))
                refine hK.out _ _ (blAlloc hHeld _) (fun hHeldN => ?_)
                clear hK K HO4
                have HO4 := HO4b
                clear HO4b
                clear hHeld
                have hHeld := hHeldN
                clear hHeldN
                try simp only [Act.put, List.setIfInBounds_toArray, List.set_cons_zero, List.set_cons_succ]
                refine wpAnyH_ready (rs := [7]) (by kernel_rfl) (by simp) ?_
                refine AllReadyH.cons (o := { dst := some 68, op := Op.call { callee := Callee.builtin Builtin.append, args := #[Operand.tmp 65, Operand.tmp 67], argTypes := #[22, 22] }, type := 22, pos := "ref.go:51", after := #[{ on := 4, ground := Ground.data }, { on := 6, ground := Ground.data }, { on := 4, ground := Ground.chain }], guard := none }) rfl (fun K hK => ?_) AllReadyH.nil
                rw [if_pos (by rfl)]
                refine wp_append_dp _ _ rfl w7.heap.size _ (l.take k) rfl HO4.out (some ⟨wC.heap.size, 0, none⟩) 1 1 [(⟨s, sa, sc, IX⟩ : Dp)] rfl rfl HSs.out HLE1.out hHeld.size ?_
                intro v7 wD hown hgrow
                have HO7 := Lib.hid hown
                refine hK.out _ _ (grown_belowD hHeld HO4.out (Nat.le_refl _) hHeld.size hgrow) (fun hHeldN => ?_)
                clear hown hgrow
                clear hHeld
                have hHeld := hHeldN
                clear hHeldN
                clear hK K
                try simp only [Act.put, List.setIfInBounds_toArray, List.set_cons_zero, List.set_cons_succ]
                refine wpAnyH_ready (rs := [9]) (by kernel_rfl) (by simp) ?_
                refine AllReadyH.cons (o := { dst := some 70, op := Op.call { callee := Callee.builtin Builtin.append, args := #[Operand.tmp 68, Operand.tmp 69], argTypes := #[22, 22] }, type := 22, pos := "ref.go:51", after := #[{ on := 7, ground := Ground.data }, { on := 8, ground := Ground.data }, { on := 7, ground := Ground.chain }], guard := none }) rfl (fun K hK => ?_) AllReadyH.nil
                rw [if_pos (by rfl)]
                refine wp_append_dp _ _ rfl w7.heap.size _ (l.take k ++ [(⟨s, sa, sc, IX⟩ : Dp)]) rfl HO7.out (some ⟨g, o + (k + 1) * 2, none⟩) (l.length - (k + 1)) (c - (k + 1)) (l.drop (k + 1)) rfl HLD.out (HS2.out.later hHeld) HLE2.out hHeld.size ?_
                intro v11 wE hown hgrow
                have HO11 := Lib.hid hown
                refine hK.out _ _ (grown_belowD hHeld HO7.out (Nat.le_refl _) hHeld.size hgrow) (fun hHeldN => ?_)
                clear hown hgrow
                clear hHeld
                have hHeld := hHeldN
                clear hHeldN
                clear hK K
                try simp only [Act.put, List.setIfInBounds_toArray, List.set_cons_zero, List.set_cons_succ]
                refine wpAnyH_take (i := 10) (oi := { dst := some 6, op := Op.assign (Operand.tmp 70), type := 22, pos := "ref.go:51", after := #[{ on := 9, ground := Ground.data }, { on := 9, ground := Ground.chain }, { on := 0, ground := Ground.phase }, { on := 1, ground := Ground.phase }, { on := 2, ground := Ground.phase }, { on := 3, ground := Ground.phase }, { on := 4, ground := Ground.phase }, { on := 5, ground := Ground.phase }, { on := 6, ground := Ground.phase }, { on := 7, ground := Ground.phase }, { on := 8, ground := Ground.phase }, { on := 9, ground := Ground.phase }], guard := none }) (v := ?v10x14) rfl (by kernel_rfl) (by kernel_rfl) (by kernel_rfl) (fun _ _ _ h => h) (Or.inl ⟨by rfl, ?hy10x14⟩) hHeld ?rest10x14
                case hy10x14 => (intro w' hSw; go_simp; try with_reducible rfl)
                try simp only [Act.put, List.setIfInBounds_toArray, List.set_cons_zero, List.set_cons_succ]
                refine wpAnyH_done (by kernel_rfl) ?_ _
                go_wp2
                go_ret
                exact retD_own HADD2.out HO11.out (fun y hy => (HMEM.out y hy).later hHeld) (blThen HB7.out hHeld)
              · go_simp
                have HS0 : Hid (SrcD (wA.alloc (Obj.cells #[Value.int IntKind.i64 s, Value.slice sa IX.length sc] 26)) (some ⟨wA.heap.size, 0, none⟩) 1 [(⟨s, sa, sc, IX⟩ : Dp)]) := newD wA (⟨s, sa, sc, IX⟩ : Dp) 1
                have HE2 := Lib.hid (HE.out.later (blAlloc (Below.refl _ _) (Obj.cells #[Value.int IntKind.i64 s, Value.slice sa IX.length sc] 26)))
                have HX9 : Hid (∀ c, (Value.slice (some ⟨wS.heap.size, 0, none⟩) 0 0).ownBlock = some c → c < wA.heap.size) := fun c h => (HE.out.block c h).2
                refine hK.out _ _ (blAlloc hHeld _) (fun hHeldN => ?_)
                clear hK K
                clear hHeld
                have hHeld := hHeldN
                clear hHeldN
                try simp only [Act.put, List.setIfInBounds_toArray, List.set_cons_zero, List.set_cons_succ]
                refine wpAnyH_ready (rs := [4]) (by kernel_rfl) (by simp) ?_
                refine AllReadyH.cons (o := { dst := some 65, op := Op.call { callee := Callee.builtin Builtin.append, args := #[Operand.tmp 61, Operand.tmp 64], argTypes := #[22, 22] }, type := 22, pos := "ref.go:51", after := #[{ on := 0, ground := Ground.data }, { on := 3, ground := Ground.data }], guard := none }) rfl (fun K hK => ?_) AllReadyH.nil
                rw [if_pos (by rfl)]
                refine wp_append_dp _ _ rfl w7.heap.size _ [] rfl HE2.out (some ⟨g, o, none⟩) (k) (c) (l.take k) rfl HLK.out (HS1.out.later hHeld) HLE0.out hHeld.size ?_
                intro v4 wC hown hgrow
                have HO4 : Hid (OwnD wC w7.heap.size v4 (l.take k)) := hown
                have HSs := Lib.hid (HS0.out.grown (fun b' o' h e => by
                  simp only [Option.some.injEq, Addr.mk.injEq] at h
                  exact Nat.lt_irrefl _ (Nat.lt_of_lt_of_le (HX9.out _ e) (Nat.le_of_eq h.1))) hgrow)
                refine hK.out _ _ (grown_belowD hHeld HE2.out (Nat.le_refl _) hHeld.size hgrow) (fun hHeldN => ?_)
                clear hown hgrow hK K
                clear hHeld
                have hHeld := hHeldN
                clear hHeldN
                try simp only [Act.put, List.setIfInBounds_toArray, List.set_cons_zero, List.set_cons_succ]
                refine wpAnyH_ready (rs := [7]) (by kernel_rfl) (by simp) ?_
                refine AllReadyH.cons (o := { dst := some 68, op := Op.call { callee := Callee.builtin Builtin.append, args := #[Operand.tmp 65, Operand.tmp 67], argTypes := #[22, 22] }, type := 22, pos := "ref.go:51", after := #[{ on := 4, ground := Ground.data }, { on := 6, ground := Ground.data }, { on := 4, ground := Ground.chain }], guard := none }) rfl (fun K hK => ?_) AllReadyH.nil
                rw [if_pos (by rfl)]
                refine wp_append_dp _ _ rfl w7.heap.size _ (l.take k) rfl HO4.out (some ⟨wA.heap.size, 0, none⟩) 1 1 [(⟨s, sa, sc, IX⟩ : Dp)] rfl rfl HSs.out HLE1.out hHeld.size ?_
                intro v7 wD hown hgrow
                have HO7 := Lib.hid hown
                refine hK.out _ _ (grown_belowD hHeld HO4.out (Nat.le_refl _) hHeld.size hgrow) (fun hHeldN => ?_)
                clear hown hgrow
                clear hHeld
                have hHeld := hHeldN
                clear hHeldN
                clear hK K
                try simp only [Act.put, List.setIfInBounds_toArray, List.set_cons_zero, List.set_cons_succ]
                refine wpAnyH_ready (rs := [9]) (by kernel_rfl) (by simp) ?_
                refine AllReadyH.cons (o := { dst := some 70, op := Op.call { callee := Callee.builtin Builtin.append, args := #[Operand.tmp 68, Operand.tmp 69], argTypes := #[22, 22] }, type := 22, pos := "ref.go:51", after := #[{ on := 7, ground := Ground.data }, { on := 8, ground := Ground.data }, { on := 7, ground := Ground.chain }], guard := none }) rfl (fun K hK => ?_) AllReadyH.nil
                rw [if_pos (by rfl)]
                refine wp_append_dp _ _ rfl w7.heap.size _ (l.take k ++ [(⟨s, sa, sc, IX⟩ : Dp)]) rfl HO7.out (some ⟨g, o + (k + 1) * 2, none⟩) (l.length - (k + 1)) (c - (k + 1)) (l.drop (k + 1)) rfl HLD.out (HS2.out.later hHeld) HLE2.out hHeld.size ?_
                intro v11 wE hown hgrow
                have HO11 := Lib.hid hown
                refine hK.out _ _ (grown_belowD hHeld HO7.out (Nat.le_refl _) hHeld.size hgrow) (fun hHeldN => ?_)
                clear hown hgrow
                clear hHeld
                have hHeld := hHeldN
                clear hHeldN
                clear hK K
                try simp only [Act.put, List.setIfInBounds_toArray, List.set_cons_zero, List.set_cons_succ]
                refine wpAnyH_take (i := 10) (oi := { dst := some 6, op := Op.assign (Operand.tmp 70), type := 22, pos := "ref.go:51", after := #[{ on := 9, ground := Ground.data }, { on := 9, ground := Ground.chain }, { on := 0, ground := Ground.phase }, { on := 1, ground := Ground.phase }, { on := 2, ground := Ground.phase }, { on := 3, ground := Ground.phase }, { on := 4, ground := Ground.phase }, { on := 5, ground := Ground.phase }, { on := 6, ground := Ground.phase }, { on := 7, ground := Ground.phase }, { on := 8, ground := Ground.phase }, { on := 9, ground := Ground.phase }], guard := none }) (v := ?v10x15) rfl (by kernel_rfl) (by kernel_rfl) (by kernel_rfl) (fun _ _ _ h => h) (Or.inl ⟨by rfl, ?hy10x15⟩) hHeld ?rest10x15
                case hy10x15 => (intro w' hSw; go_simp; try with_reducible rfl)
                try simp only [Act.put, List.setIfInBounds_toArray, List.set_cons_zero, List.set_cons_succ]
                refine wpAnyH_done (by kernel_rfl) ?_ _
                go_wp2
                go_ret
                exact retD_own HADD2.out HO11.out (fun y hy => (HMEM.out y hy).later hHeld) (blThen HB7.out hHeld)
            · go_simp
              have HS0 : Hid (SrcD (wS.alloc (Obj.cells #[Value.int IntKind.i64 s, Value.slice sa IX.length sc] 26)) (some ⟨wS.heap.size, 0, none⟩) 1 [(⟨s, sa, sc, IX⟩ : Dp)]) := newD wS (⟨s, sa, sc, IX⟩ : Dp) 1
              have hW : wS.heap.size < (wS.alloc (Obj.cells #[Value.int IntKind.i64 s, Value.slice sa IX.length sc] 26)).heap.size := by simp
              refine hK.out _ _ (blAlloc hHeld _) (fun hHeldN => ?_)
              clear hK K
              clear hHeld
              have hHeld := hHeldN
              clear hHeldN
              try simp only [Act.put, List.setIfInBounds_toArray, List.set_cons_zero, List.set_cons_succ]
              generalize wS.alloc (Obj.cells #[Value.int IntKind.i64 s, Value.slice sa IX.length sc] 26) = wA at *
              refine wpAnyH_ready (rs := [0]) (by kernel_rfl) (by simp) ?_
              refine AllReadyH.cons (o := { dst := some 61, op := Op.buildSlice 22 0 #[], type := 22, pos := "ref.go:51", after := #[], guard := none }) rfl (fun K hK => ?_) AllReadyH.nil
              go_simp
              have HE : Hid (OwnD (wA.alloc (Obj.cells #[] 26)) w7.heap.size (.slice (some ⟨wA.heap.size, 0, none⟩) 0 0) []) := (own_emptyD wA).monoA (Nat.le_trans HWS.out (Nat.le_of_lt hW))
              have HS1b := Lib.hid (HS0.out.later (blAlloc (Below.refl _ _) (Obj.cells #[] 26)))
              refine hK.out _ _ (blAlloc hHeld _) (fun hHeldN => ?_)
              clear hK K
              clear hHeld
              have hHeld := hHeldN
              clear hHeldN
              try simp only [Act.put, List.setIfInBounds_toArray, List.set_cons_zero, List.set_cons_succ]
              refine wpAnyH_ready (rs := [4]) (by kernel_rfl) (by simp) ?_
              refine AllReadyH.cons (o := { dst := some 65, op := Op.call { callee := Callee.builtin Builtin.append, args := #[Operand.tmp 61, Operand.tmp 64], argTypes := #[22, 22] }, type := 22, pos := "ref.go:51", after := #[{ on := 0, ground := Ground.data }, { on := 3, ground := Ground.data }], guard := none }) rfl (fun K hK => ?_) AllReadyH.nil
              rw [if_pos (by rfl)]
              refine wp_append_dp _ _ rfl w7.heap.size _ [] rfl HE.out (some ⟨g, o, none⟩) (k) (c) (l.take k) rfl HLK.out (HS1.out.later hHeld) HLE0.out hHeld.size ?_
              intro v4 wC hown hgrow
              have HO4 : Hid (OwnD wC w7.heap.size v4 (l.take k)) := hown
              have HX9 : Hid (∀ c, (Value.slice (some ⟨wA.heap.size, 0, none⟩) 0 0).ownBlock = some c → wS.heap.size < c) := fun c h => (by simp only [Value.ownBlock, Option.some.injEq] at h; rw [← h]; exact hW)
              have HSs := Lib.hid (HS1b.out.grown (fun b' o' h e => by
                simp only [Option.some.injEq, Addr.mk.injEq] at h
                exact Nat.lt_irrefl _ (Nat.lt_of_le_of_lt (Nat.le_of_eq h.1.symm) (HX9.out _ e))) hgrow)
              refine hK.out _ _ (grown_belowD hHeld HE.out (Nat.le_refl _) hHeld.size hgrow) (fun hHeldN => ?_)
              clear hown hgrow hK K
              clear hHeld
              have hHeld := hHeldN
              clear hHeldN
              try simp only [Act.put, List.setIfInBounds_toArray, List.set_cons_zero, List.set_cons_succ]
              refine wpAnyH_ready (rs := [7]) (by kernel_rfl) (by simp) ?_
              refine AllReadyH.cons (o := { dst := some 68, op := Op.call { callee := Callee.builtin Builtin.append, args := #[Operand.tmp 65, Operand.tmp 67], argTypes := #[22, 22] }, type := 22, pos := "ref.go:51", after := #[{ on := 4, ground := Ground.data }, { on := 6, ground := Ground.data }, { on := 4, ground := Ground.chain }], guard := none }) rfl (fun K hK => ?_) AllReadyH.nil
              rw [if_pos (by rfl)]
              refine wp_append_dp _ _ rfl w7.heap.size _ (l.take k) rfl HO4.out (some ⟨wS.heap.size, 0, none⟩) 1 1 [(⟨s, sa, sc, IX⟩ : Dp)] rfl rfl HSs.out HLE1.out hHeld.size ?_
              intro v7 wD hown hgrow
              have HO7 := Lib.hid hown
              refine hK.out _ _ (grown_belowD hHeld HO4.out (Nat.le_refl _) hHeld.size hgrow) (fun hHeldN => ?_)
              clear hown hgrow
              clear hHeld
              have hHeld := hHeldN
              clear hHeldN
              clear hK K
              try simp only [Act.put, List.setIfInBounds_toArray, List.set_cons_zero, List.set_cons_succ]
              refine wpAnyH_ready (rs := [9]) (by kernel_rfl) (by simp) ?_
              refine AllReadyH.cons (o := { dst := some 70, op := Op.call { callee := Callee.builtin Builtin.append, args := #[Operand.tmp 68, Operand.tmp 69], argTypes := #[22, 22] }, type := 22, pos := "ref.go:51", after := #[{ on := 7, ground := Ground.data }, { on := 8, ground := Ground.data }, { on := 7, ground := Ground.chain }], guard := none }) rfl (fun K hK => ?_) AllReadyH.nil
              rw [if_pos (by rfl)]
              refine wp_append_dp _ _ rfl w7.heap.size _ (l.take k ++ [(⟨s, sa, sc, IX⟩ : Dp)]) rfl HO7.out (some ⟨g, o + (k + 1) * 2, none⟩) (l.length - (k + 1)) (c - (k + 1)) (l.drop (k + 1)) rfl HLD.out (HS2.out.later hHeld) HLE2.out hHeld.size ?_
              intro v11 wE hown hgrow
              have HO11 := Lib.hid hown
              refine hK.out _ _ (grown_belowD hHeld HO7.out (Nat.le_refl _) hHeld.size hgrow) (fun hHeldN => ?_)
              clear hown hgrow
              clear hHeld
              have hHeld := hHeldN
              clear hHeldN
              clear hK K
              try simp only [Act.put, List.setIfInBounds_toArray, List.set_cons_zero, List.set_cons_succ]
              refine wpAnyH_take (i := 10) (oi := { dst := some 6, op := Op.assign (Operand.tmp 70), type := 22, pos := "ref.go:51", after := #[{ on := 9, ground := Ground.data }, { on := 9, ground := Ground.chain }, { on := 0, ground := Ground.phase }, { on := 1, ground := Ground.phase }, { on := 2, ground := Ground.phase }, { on := 3, ground := Ground.phase }, { on := 4, ground := Ground.phase }, { on := 5, ground := Ground.phase }, { on := 6, ground := Ground.phase }, { on := 7, ground := Ground.phase }, { on := 8, ground := Ground.phase }, { on := 9, ground := Ground.phase }], guard := none }) (v := ?v10x16) rfl (by kernel_rfl) (by kernel_rfl) (by kernel_rfl) (fun _ _ _ h => h) (Or.inl ⟨by rfl, ?hy10x16⟩) hHeld ?rest10x16
              case hy10x16 => (intro w' hSw; go_simp; try with_reducible rfl)
              try simp only [Act.put, List.setIfInBounds_toArray, List.set_cons_zero, List.set_cons_succ]
              refine wpAnyH_done (by kernel_rfl) ?_ _
              go_wp2
              go_ret
              exact retD_own HADD2.out HO11.out (fun y hy => (HMEM.out y hy).later hHeld) (blThen HB7.out hHeld)
        · have HADD := Lib.hid (hA3 _ (toD_at HXK.out) (by show s < x.sh; omega))
          have hbx : (x.sh == s) = false := by simpa using hxe
          have hde : decide (x.sh = s) = false := by simpa using hxe
          have HSA := Lib.hid (HX.out.later HB.out)
          clear hA2 hA3
          have HBX : Hid (Bx (wr.alloc (.cells #[.int .i64 s, .slice none 0 0] 26)) wr.heap.size s (.slice none 0 0)) := by
            show (wr.heap.push _)[wr.heap.size]? = _
            simp
          have HB1 : Hid (Below w.heap.size w (wr.alloc (.cells #[.int .i64 s, .slice none 0 0] 26))) := blAlloc HB.out _
          have HWB : Hid (w.heap.size ≤ wr.heap.size) := HB.out.size
          have HSA : Hid (SL (wr.alloc (.cells #[.int .i64 s, .slice none 0 0] 26)) ax X) := HX.out.later HB1.out
          have HSX : Hid (SL (wr.alloc (.cells #[.int .i64 s, .slice none 0 0] 26)) none []) := SL.nil_ok _ _
          have HNX : Hid ((none : Option Addr) = none → 0 = 0) := fun _ => rfl
          have HLN : Hid (([] : List (Int × Int)).length + X.length ≤ 1000000) := by have := HXL.out; show _ ≤ _; simpa using this
          have HE9 : Hid (OwnL ((wr.alloc (.cells #[.int .i64 s, .slice none 0 0] 26)).alloc (.cells #[] 42)) (wr.alloc (.cells #[.int .i64 s, .slice none 0 0] 26)).heap.size (.slice (some ⟨wr.heap.size + 1, 0, none⟩) 0 0) []) := by
            have h := own_emptyL (wr.alloc (.cells #[.int .i64 s, .slice none 0 0] 26))
            have e : (wr.alloc (.cells #[.int .i64 s, .slice none 0 0] 26)).heap.size = wr.heap.size + 1 := by simp
            show OwnL _ _ _ _
            rw [e] at h ⊢
            exact h
          have HLZ : Hid (([] : List (Int × Int)).length + (([] : List (Int × Int))).length ≤ 4000000) := by have := HLN.out; show _ ≤ _; simp only [List.length_nil]; omega
          have HLY : Hid ((([] : List (Int × Int))).length + X.length ≤ 4000000) := by have := HLN.out; show _ ≤ _; omega
          have HLX : Hid ((([] : List (Int × Int)) ++ X).length ≤ 1000000) := by have := HLN.out; show _ ≤ _; rw [List.length_append]; omega
          go_wp2_with (first
            | (go_at_call 113; go_must (refine (refsort_any ga gc ((([] : List (Int × Int))) ++ X) w5 HLX.out HGS.out).mono ?_; rintro e w6 ⟨sa, sc, rfl, h1, h2, h3, h5⟩; have HSR := Lib.hid h1; have HSN := Lib.hid h2; have HSC := Lib.hid h3; have HB6 : Hid (Below W1.heap.size W1 w6) := blThen HB5.out h5; have HBX6 := Lib.hid (HBX.out.later HB6.out HBX.out.lt); have q1 := HBX6.out.c1; have q2 := HBX6.out.f 1; have q3 := HBX6.out.lt; clear h1 h2 h3 h5))
            | (at_builtin; (refine append_st rfl (.tmp 56) (.tmp 57) rfl W1.heap.size _ (([] : List (Int × Int))) rfl H4.out ax cx X rfl (HSA.out.later HB4.out) HNA.out HLY.out HB4.out.size ?_; intro v5 w5 h1 h2; have H5 := Lib.hid h1; have HB5 : Hid (Below W1.heap.size W1 w5) := grown_below HB4.out H4.out (Nat.le_refl _) HB4.out.size h2; obtain ⟨ga, gc, rfl, gs, -⟩ := h1.sl; have HGS := Lib.hid gs; clear h1 h2 gs))
            | (at_builtin; (refine append_st rfl (.tmp 53) (.tmp 55) rfl (wr.alloc (.cells #[.int .i64 s, .slice none 0 0] 26)).heap.size (.slice (some ⟨wr.heap.size + 1, 0, none⟩) 0 0) [] rfl HE9.out none 0 (([] : List (Int × Int))) rfl (HSX.out.later (blAlloc (Below.refl _ _) _)) HNX.out HLZ.out (by simp) ?_; intro v4 w4 h1 h2; have H4 := Lib.hid h1; have HB4 : Hid (Below (wr.alloc (.cells #[.int .i64 s, .slice none 0 0] 26)).heap.size (wr.alloc (.cells #[.int .i64 s, .slice none 0 0] 26)) w4) := grown_below (blAlloc (Below.refl _ _) _) HE9.out (Nat.le_refl _) (by simp) h2; clear h1 h2; generalize wr.alloc (.cells #[.int .i64 s, .slice none 0 0] 26) = W1 at *)))
          have HSR1 : Hid (SL w6 sa (sortL X)) := HSR.out
          have HSN1 : Hid (sa = none → sc = 0) := HSN.out
          have HSC1 : Hid ((sortL X).length ≤ sc) := HSC.out
          have HBX7 := Lib.hid (bx_set HBX6.out (.slice sa (sortL X).length sc))
          have HB7 : Hid (Below w.heap.size w (w6.setCell ⟨wr.heap.size, 1, none⟩ (.slice sa (sortL X).length sc))) := blSet (HB1.out.trans (HB6.out.mono HB1.out.size)) HWB.out _
          have HM : Hid (IdsAt (w6.setCell ⟨wr.heap.size, 1, none⟩ (.slice sa (sortL X).length sc)) ⟨s, sa, sc, sortL X⟩) := ⟨sl_setbx HBX6.out (fun i h => by cases h) HSR1.out, HSN1.out, HSC1.out⟩
          clear q1 q2 q3
          generalize w6.setCell ⟨wr.heap.size, 1, none⟩ (.slice sa (sortL X).length sc) = w7 at *
          clear HSR HSC HSR1 HSC1 HBX6 HGS H5 HB5 H4 HB4 HE9
          generalize hIX : sortL X = IX at *
          have HIX := Lib.hid hIX
          clear hIX
          have HLT := Lib.hid HBX7.out.lt
          have HQ0 := Lib.hid HBX7.out.c0
          have HQ1 := Lib.hid HBX7.out.c1
          go_wp2_with fail
          have HG7 : Hid (g < w7.heap.size) := Nat.lt_of_lt_of_le HG.out HB7.out.size
          have HR7 := Lib.hid (HR.out.later HG.out HB7.out)
          have HS1 : Hid (SrcD w7 (some ⟨g, o, none⟩) (c) (l.take k)) := srcD_row HG7.out (rowD_take HR7.out _)
          have HLB : Hid ((l.drop k).length ≤ 1000000 ∧ (l.take k).length ≤ 1000000) := by show _ ∧ _; rw [List.length_drop, List.length_take]; omega
          have HLE0 : Hid (([] : List Dp).length + (l.take k).length ≤ 4000000) := by have := HLB.out; show _ ≤ _; simp only [List.length_nil]; omega
          have HLE1 : Hid ((l.take k).length + [(⟨s, sa, sc, IX⟩ : Dp)].length ≤ 4000000) := by have := HLB.out; show _ ≤ _; simp only [List.length_singleton]; omega
          have HLE2 : Hid ((l.take k ++ [(⟨s, sa, sc, IX⟩ : Dp)]).length + (l.drop k).length ≤ 4000000) := by have := HLB.out; show _ ≤ _; rw [List.length_append, List.length_singleton]; omega
          have HADD2 : Hid (addD (toD l) s X = toD (l.take k ++ [(⟨s, sa, sc, IX⟩ : Dp)] ++ l.drop k)) := by
            show _ = _
            rw [HADD.out, toD_append, toD_append, toD_take, toD_drop, List.append_assoc, ← HIX.out]
            rfl
          have HMEM : Hid (∀ y ∈ l.take k ++ [(⟨s, sa, sc, IX⟩ : Dp)] ++ l.drop k, IdsAt w7 y) := by
            intro y hy
            rw [List.mem_append, List.mem_append] at hy
            rcases hy with (hy | hy) | hy
            · exact (HL.out.1 y (List.mem_of_mem_take hy)).later HB7.out
            · rw [List.mem_singleton] at hy
              subst hy
              exact HM.out
            · exact (HL.out.1 y (List.mem_of_mem_drop hy)).later HB7.out
          have HLK : Hid (k = (l.take k).length) := by show _ = _; rw [List.length_take]; omega
          have HLD : Hid (l.length - k = (l.drop k).length) := by show _ = _; rw [List.length_drop]
          have HS2 : Hid (SrcD w7 (some ⟨g, o + k * 2, none⟩) (c - k) (l.drop k)) := srcD_row HG7.out (rowD_drop HR7.out k)
          clear e0 e1 hxs
          refine wp_region_held_drew (S := fun w' => Below w7.heap.size w7 w') (by kernel_rfl) ⟨rfl, rfl, rfl, Nat.le_refl _, fun _ _ => rfl⟩ (fun hHeld => ?_)
          have HWS : Hid (w7.heap.size ≤ w7.drew.heap.size) := Nat.le_refl _
          generalize w7.drew = wS at *
          refine wpAnyH_take (i := 1) (oi := { dst := some 62, op := Op.move (Operand.tmp 0), type := 22, pos := "ref.go:51", after := #[], guard := none }) (v := ?v1x17) rfl (by kernel_rfl) (by kernel_rfl) (by kernel_rfl) (fun _ _ _ h => h) (Or.inl ⟨by rfl, ?hy1x17⟩) hHeld ?rest1x17
          case hy1x17 => (intro w' hSw; go_simp; try with_reducible rfl)
          try simp only [Act.put, List.setIfInBounds_toArray, List.set_cons_zero, List.set_cons_succ]
          refine wpAnyH_take (i := 2) (oi := { dst := some 63, op := Op.move (Operand.tmp 7), type := 3, pos := "ref.go:51", after := #[], guard := none }) (v := ?v2x18) rfl (by kernel_rfl) (by kernel_rfl) (by kernel_rfl) (fun _ _ _ h => h) (Or.inl ⟨by rfl, ?hy2x18⟩) hHeld ?rest2x18
          case hy2x18 => (intro w' hSw; go_simp; try with_reducible rfl)
          try simp only [Act.put, List.setIfInBounds_toArray, List.set_cons_zero, List.set_cons_succ]
          refine wpAnyH_take (i := 3) (oi := { dst := some 64, op := Op.slice 22 (Operand.tmp 62) none (some (Operand.tmp 63)) none, type := 22, pos := "ref.go:51", after := #[{ on := 1, ground := Ground.data }, { on := 2, ground := Ground.data }], guard := none }) (v := ?v3x19) rfl (by kernel_rfl) (by kernel_rfl) (by kernel_rfl) (fun _ _ _ h => h) (Or.inl ⟨by rfl, ?hy3x19⟩) hHeld ?rest3x19
          case hy3x19 => (intro w' hSw; go_simp; try with_reducible rfl)
          try simp only [Act.put, List.setIfInBounds_toArray, List.set_cons_zero, List.set_cons_succ]
          refine wpAnyH_take (i := 5) (oi := { dst := some 66, op := Op.load 26 (Operand.tmp 8), type := 26, pos := "ref.go:51", after := #[], guard := none }) (v := ?v5x20) rfl (by kernel_rfl) (by kernel_rfl) (by kernel_rfl) (fun _ _ _ h => h) (Or.inl ⟨by rfl, ?hy5x20⟩) hHeld ?rest5x20
          case hy5x20 => (intro w' hSw; have s0 := cell_in hSw HLT.out HQ0.out; have s1 := cell_in hSw HLT.out HQ1.out; go_simp; try with_reducible rfl)
          try simp only [Act.put, List.setIfInBounds_toArray, List.set_cons_zero, List.set_cons_succ]
          refine wpAnyH_take (i := 8) (oi := { dst := some 69, op := Op.move (Operand.tmp 9), type := 22, pos := "ref.go:51", after := #[], guard := none }) (v := ?v8x21) rfl (by kernel_rfl) (by kernel_rfl) (by kernel_rfl) (fun _ _ _ h => h) (Or.inl ⟨by rfl, ?hy8x21⟩) hHeld ?rest8x21
          case hy8x21 => (intro w' hSw; go_simp; try with_reducible rfl)
          try simp only [Act.put, List.setIfInBounds_toArray, List.set_cons_zero, List.set_cons_succ]
          refine wpAnyH_ready (rs := [0, 6]) (by kernel_rfl) (by simp) ?_
          refine AllReadyH.cons (o := { dst := some 61, op := Op.buildSlice 22 0 #[], type := 22, pos := "ref.go:51", after := #[], guard := none }) rfl (fun K hK => ?_) (AllReadyH.cons (o := { dst := some 67, op := Op.buildSlice 22 1 #[(0, Operand.tmp 66)], type := 22, pos := "ref.go:51", after := #[{ on := 5, ground := Ground.data }], guard := none }) rfl (fun K hK => ?_) AllReadyH.nil)
          · go_simp
            have HE : Hid (OwnD (wS.alloc (Obj.cells #[] 26)) w7.heap.size (.slice (some ⟨wS.heap.size, 0, none⟩) 0 0) []) := (own_emptyD wS).monoA HWS.out
            refine hK.out _ _ (blAlloc hHeld _) (fun hHeldN => ?_)
            clear hK K
            clear hHeld
            have hHeld := hHeldN
            clear hHeldN
            try simp only [Act.put, List.setIfInBounds_toArray, List.set_cons_zero, List.set_cons_succ]
            generalize wS.alloc (Obj.cells #[] 26) = wA at *
            refine wpAnyH_ready (rs := [4, 6]) (by kernel_rfl) (by simp) ?_
            refine AllReadyH.cons (o := { dst := some 65, op := Op.call { callee := Callee.builtin Builtin.append, args := #[Operand.tmp 61, Operand.tmp 64], argTypes := #[22, 22] }, type := 22, pos := "ref.go:51", after := #[{ on := 0, ground := Ground.data }, { on := 3, ground := Ground.data }], guard := none }) rfl (fun K hK => ?_) (AllReadyH.cons (o := { dst := some 67, op := Op.buildSlice 22 1 #[(0, Operand.tmp 66)], type := 22, pos := "ref.go:51", after := #[{ on := 5, ground := Ground.data }], guard := none }) rfl (fun K hK => ?_) AllReadyH.nil)
            · rw [if_pos (by rfl)]
              refine wp_append_dp _ _ rfl w7.heap.size _ [] rfl HE.out (some ⟨g, o, none⟩) (k) (c) (l.take k) rfl HLK.out (HS1.out.later hHeld) HLE0.out hHeld.size ?_
              intro v4 wC hown hgrow
              have HO4 : Hid (OwnD wC w7.heap.size v4 (l.take k)) := hown
              refine hK.out _ _ (grown_belowD hHeld HE.out (Nat.le_refl _) hHeld.size hgrow) (fun hHeldN => ?_)
              clear hown hgrow hK K
              clear hHeld
              have hHeld := hHeldN
              clear hHeldN
              try simp only [Act.put, List.setIfInBounds_toArray, List.set_cons_zero, List.set_cons_succ]
              refine wpAnyH_ready (rs := [6]) (by kernel_rfl) (by simp) ?_
              refine AllReadyH.cons (o := { dst := some 67, op := Op.buildSlice 22 1 #[(0, Operand.tmp 66)], type := 22, pos := "ref.go:51", after := #[{ on := 5, ground := Ground.data }], guard := none }) rfl (fun K hK => ?_) AllReadyH.nil
              go_simp
              have HSs : Hid (SrcD (wC.alloc (Obj.cells #[Value.int IntKind.i64 s, Value.slice sa IX.length sc] 26)) (some ⟨wC.heap.size, 0, none⟩) 1 [(⟨s, sa, sc, IX⟩ : Dp)]) := newD wC (⟨s, sa, sc, IX⟩ : Dp) 1
              have HO4b := Lib.hid (HO4.out.later (blAlloc (Below.refl _ _) (Obj.cells #[Value.int IntKind.i64 s, Value.slice sa IX.length sc] 26)))
              refine hK.out _ _ (blAlloc hHeld _) (fun hHeldN => ?_)
              clear hK K HO4
              have HO4 := HO4b
              clear HO4b
              clear hHeld
              have hHeld := hHeldN
              clear hHeldN
              try simp only [Act.put, List.setIfInBounds_toArray, List.set_cons_zero, List.set_cons_succ]
              refine wpAnyH_ready (rs := [7]) (by kernel_rfl) (by simp) ?_
              refine AllReadyH.cons (o := { dst := some 68, op := Op.call { callee := Callee.builtin Builtin.append, args := #[Operand.tmp 65, Operand.tmp 67], argTypes := #[22, 22] }, type := 22, pos := "ref.go:51", after := #[{ on := 4, ground := Ground.data }, { on := 6, ground := Ground.data }, { on := 4, ground := Ground.chain }], guard := none }) rfl (fun K hK => ?_) AllReadyH.nil
              rw [if_pos (by rfl)]
              refine wp_append_dp _ _ rfl w7.heap.size _ (l.take k) rfl HO4.out (some ⟨wC.heap.size, 0, none⟩) 1 1 [(⟨s, sa, sc, IX⟩ : Dp)] rfl rfl HSs.out HLE1.out hHeld.size ?_
              intro v7 wD hown hgrow
              have HO7 := Lib.hid hown
              refine hK.out _ _ (grown_belowD hHeld HO4.out (Nat.le_refl _) hHeld.size hgrow) (fun hHeldN => ?_)
              clear hown hgrow
              clear hHeld
              have hHeld := hHeldN
              clear hHeldN
              clear hK K
              try simp only [Act.put, List.setIfInBounds_toArray, List.set_cons_zero, List.set_cons_succ]
              refine wpAnyH_ready (rs := [9]) (by kernel_rfl) (by simp) ?_
              refine AllReadyH.cons (o := { dst := some 70, op := Op.call { callee := Callee.builtin Builtin.append, args := #[Operand.tmp 68, Operand.tmp 69], argTypes := #[22, 22] }, type := 22, pos := "ref.go:51", after := #[{ on := 7, ground := Ground.data }, { on := 8, ground := Ground.data }, { on := 7, ground := Ground.chain }], guard := none }) rfl (fun K hK => ?_) AllReadyH.nil
              rw [if_pos (by rfl)]
              refine wp_append_dp _ _ rfl w7.heap.size _ (l.take k ++ [(⟨s, sa, sc, IX⟩ : Dp)]) rfl HO7.out (some ⟨g, o + k * 2, none⟩) (l.length - k) (c - k) (l.drop k) rfl HLD.out (HS2.out.later hHeld) HLE2.out hHeld.size ?_
              intro v11 wE hown hgrow
              have HO11 := Lib.hid hown
              refine hK.out _ _ (grown_belowD hHeld HO7.out (Nat.le_refl _) hHeld.size hgrow) (fun hHeldN => ?_)
              clear hown hgrow
              clear hHeld
              have hHeld := hHeldN
              clear hHeldN
              clear hK K
              try simp only [Act.put, List.setIfInBounds_toArray, List.set_cons_zero, List.set_cons_succ]
              refine wpAnyH_take (i := 10) (oi := { dst := some 6, op := Op.assign (Operand.tmp 70), type := 22, pos := "ref.go:51", after := #[{ on := 9, ground := Ground.data }, { on := 9, ground := Ground.chain }, { on := 0, ground := Ground.phase }, { on := 1, ground := Ground.phase }, { on := 2, ground := Ground.phase }, { on := 3, ground := Ground.phase }, { on := 4, ground := Ground.phase }, { on := 5, ground := Ground.phase }, { on := 6, ground := Ground.phase }, { on := 7, ground := Ground.phase }, { on := 8, ground := Ground.phase }, { on := 9, ground := Ground.phase }], guard := none }) (v := ?v10x22) rfl (by kernel_rfl) (by kernel_rfl) (by kernel_rfl) (fun _ _ _ h => h) (Or.inl ⟨by rfl, ?hy10x22⟩) hHeld ?rest10x22
              case hy10x22 => (intro w' hSw; go_simp; try with_reducible rfl)
              try simp only [Act.put, List.setIfInBounds_toArray, List.set_cons_zero, List.set_cons_succ]
              refine wpAnyH_done (by kernel_rfl) ?_ _
              go_wp2
              go_ret
              exact retD_own HADD2.out HO11.out (fun y hy => (HMEM.out y hy).later hHeld) (blThen HB7.out hHeld)
            · go_simp
              have HS0 : Hid (SrcD (wA.alloc (Obj.cells #[Value.int IntKind.i64 s, Value.slice sa IX.length sc] 26)) (some ⟨wA.heap.size, 0, none⟩) 1 [(⟨s, sa, sc, IX⟩ : Dp)]) := newD wA (⟨s, sa, sc, IX⟩ : Dp) 1
              have HE2 := Lib.hid (HE.out.later (blAlloc (Below.refl _ _) (Obj.cells #[Value.int IntKind.i64 s, Value.slice sa IX.length sc] 26)))
              have HX9 : Hid (∀ c, (Value.slice (some ⟨wS.heap.size, 0, none⟩) 0 0).ownBlock = some c → c < wA.heap.size) := fun c h => (HE.out.block c h).2
              refine hK.out _ _ (blAlloc hHeld _) (fun hHeldN => ?_)
              clear hK K
              clear hHeld
              have hHeld := hHeldN
              clear hHeldN
              try simp only [Act.put, List.setIfInBounds_toArray, List.set_cons_zero, List.set_cons_succ]
              refine wpAnyH_ready (rs := [4]) (by kernel_rfl) (by simp) ?_
              refine AllReadyH.cons (o := { dst := some 65, op := Op.call { callee := Callee.builtin Builtin.append, args := #[Operand.tmp 61, Operand.tmp 64], argTypes := #[22, 22] }, type := 22, pos := "ref.go:51", after := #[{ on := 0, ground := Ground.data }, { on := 3, ground := Ground.data }], guard := none }) rfl (fun K hK => ?_) AllReadyH.nil
              rw [if_pos (by rfl)]
              refine wp_append_dp _ _ rfl w7.heap.size _ [] rfl HE2.out (some ⟨g, o, none⟩) (k) (c) (l.take k) rfl HLK.out (HS1.out.later hHeld) HLE0.out hHeld.size ?_
              intro v4 wC hown hgrow
              have HO4 : Hid (OwnD wC w7.heap.size v4 (l.take k)) := hown
              have HSs := Lib.hid (HS0.out.grown (fun b' o' h e => by
                simp only [Option.some.injEq, Addr.mk.injEq] at h
                exact Nat.lt_irrefl _ (Nat.lt_of_lt_of_le (HX9.out _ e) (Nat.le_of_eq h.1))) hgrow)
              refine hK.out _ _ (grown_belowD hHeld HE2.out (Nat.le_refl _) hHeld.size hgrow) (fun hHeldN => ?_)
              clear hown hgrow hK K
              clear hHeld
              have hHeld := hHeldN
              clear hHeldN
              try simp only [Act.put, List.setIfInBounds_toArray, List.set_cons_zero, List.set_cons_succ]
              refine wpAnyH_ready (rs := [7]) (by kernel_rfl) (by simp) ?_
              refine AllReadyH.cons (o := { dst := some 68, op := Op.call { callee := Callee.builtin Builtin.append, args := #[Operand.tmp 65, Operand.tmp 67], argTypes := #[22, 22] }, type := 22, pos := "ref.go:51", after := #[{ on := 4, ground := Ground.data }, { on := 6, ground := Ground.data }, { on := 4, ground := Ground.chain }], guard := none }) rfl (fun K hK => ?_) AllReadyH.nil
              rw [if_pos (by rfl)]
              refine wp_append_dp _ _ rfl w7.heap.size _ (l.take k) rfl HO4.out (some ⟨wA.heap.size, 0, none⟩) 1 1 [(⟨s, sa, sc, IX⟩ : Dp)] rfl rfl HSs.out HLE1.out hHeld.size ?_
              intro v7 wD hown hgrow
              have HO7 := Lib.hid hown
              refine hK.out _ _ (grown_belowD hHeld HO4.out (Nat.le_refl _) hHeld.size hgrow) (fun hHeldN => ?_)
              clear hown hgrow
              clear hHeld
              have hHeld := hHeldN
              clear hHeldN
              clear hK K
              try simp only [Act.put, List.setIfInBounds_toArray, List.set_cons_zero, List.set_cons_succ]
              refine wpAnyH_ready (rs := [9]) (by kernel_rfl) (by simp) ?_
              refine AllReadyH.cons (o := { dst := some 70, op := Op.call { callee := Callee.builtin Builtin.append, args := #[Operand.tmp 68, Operand.tmp 69], argTypes := #[22, 22] }, type := 22, pos := "ref.go:51", after := #[{ on := 7, ground := Ground.data }, { on := 8, ground := Ground.data }, { on := 7, ground := Ground.chain }], guard := none }) rfl (fun K hK => ?_) AllReadyH.nil
              rw [if_pos (by rfl)]
              refine wp_append_dp _ _ rfl w7.heap.size _ (l.take k ++ [(⟨s, sa, sc, IX⟩ : Dp)]) rfl HO7.out (some ⟨g, o + k * 2, none⟩) (l.length - k) (c - k) (l.drop k) rfl HLD.out (HS2.out.later hHeld) HLE2.out hHeld.size ?_
              intro v11 wE hown hgrow
              have HO11 := Lib.hid hown
              refine hK.out _ _ (grown_belowD hHeld HO7.out (Nat.le_refl _) hHeld.size hgrow) (fun hHeldN => ?_)
              clear hown hgrow
              clear hHeld
              have hHeld := hHeldN
              clear hHeldN
              clear hK K
              try simp only [Act.put, List.setIfInBounds_toArray, List.set_cons_zero, List.set_cons_succ]
              refine wpAnyH_take (i := 10) (oi := { dst := some 6, op := Op.assign (Operand.tmp 70), type := 22, pos := "ref.go:51", after := #[{ on := 9, ground := Ground.data }, { on := 9, ground := Ground.chain }, { on := 0, ground := Ground.phase }, { on := 1, ground := Ground.phase }, { on := 2, ground := Ground.phase }, { on := 3, ground := Ground.phase }, { on := 4, ground := Ground.phase }, { on := 5, ground := Ground.phase }, { on := 6, ground := Ground.phase }, { on := 7, ground := Ground.phase }, { on := 8, ground := Ground.phase }, { on := 9, ground := Ground.phase }], guard := none }) (v := ?v10x23) rfl (by kernel_rfl) (by kernel_rfl) (by kernel_rfl) (fun _ _ _ h => h) (Or.inl ⟨by rfl, ?hy10x23⟩) hHeld ?rest10x23
              case hy10x23 => (intro w' hSw; go_simp; try with_reducible rfl)
              try simp only [Act.put, List.setIfInBounds_toArray, List.set_cons_zero, List.set_cons_succ]
              refine wpAnyH_done (by kernel_rfl) ?_ _
              go_wp2
              go_ret
              exact retD_own HADD2.out HO11.out (fun y hy => (HMEM.out y hy).later hHeld) (blThen HB7.out hHeld)
          · go_simp
            have HS0 : Hid (SrcD (wS.alloc (Obj.cells #[Value.int IntKind.i64 s, Value.slice sa IX.length sc] 26)) (some ⟨wS.heap.size, 0, none⟩) 1 [(⟨s, sa, sc, IX⟩ : Dp)]) := newD wS (⟨s, sa, sc, IX⟩ : Dp) 1
            have hW : wS.heap.size < (wS.alloc (Obj.cells #[Value.int IntKind.i64 s, Value.slice sa IX.length sc] 26)).heap.size := by simp
            refine hK.out _ _ (blAlloc hHeld _) (fun hHeldN => ?_)
            clear hK K
            clear hHeld
            have hHeld := hHeldN
            clear hHeldN
            try simp only [Act.put, List.setIfInBounds_toArray, List.set_cons_zero, List.set_cons_succ]
            generalize wS.alloc (Obj.cells #[Value.int IntKind.i64 s, Value.slice sa IX.length sc] 26) = wA at *
            refine wpAnyH_ready (rs := [0]) (by kernel_rfl) (by simp) ?_
            refine AllReadyH.cons (o := { dst := some 61, op := Op.buildSlice 22 0 #[], type := 22, pos := "ref.go:51", after := #[], guard := none }) rfl (fun K hK => ?_) AllReadyH.nil
            go_simp
            have HE : Hid (OwnD (wA.alloc (Obj.cells #[] 26)) w7.heap.size (.slice (some ⟨wA.heap.size, 0, none⟩) 0 0) []) := (own_emptyD wA).monoA (Nat.le_trans HWS.out (Nat.le_of_lt hW))
            have HS1b := Lib.hid (HS0.out.later (blAlloc (Below.refl _ _) (Obj.cells #[] 26)))
            refine hK.out _ _ (blAlloc hHeld _) (fun hHeldN => ?_)
            clear hK K
            clear hHeld
            have hHeld := hHeldN
            clear hHeldN
            try simp only [Act.put, List.setIfInBounds_toArray, List.set_cons_zero, List.set_cons_succ]
            refine wpAnyH_ready (rs := [4]) (by kernel_rfl) (by simp) ?_
            refine AllReadyH.cons (o := { dst := some 65, op := Op.call { callee := Callee.builtin Builtin.append, args := #[Operand.tmp 61, Operand.tmp 64], argTypes := #[22, 22] }, type := 22, pos := "ref.go:51", after := #[{ on := 0, ground := Ground.data }, { on := 3, ground := Ground.data }], guard := none }) rfl (fun K hK => ?_) AllReadyH.nil
            rw [if_pos (by rfl)]
            refine wp_append_dp _ _ rfl w7.heap.size _ [] rfl HE.out (some ⟨g, o, none⟩) (k) (c) (l.take k) rfl HLK.out (HS1.out.later hHeld) HLE0.out hHeld.size ?_
            intro v4 wC hown hgrow
            have HO4 : Hid (OwnD wC w7.heap.size v4 (l.take k)) := hown
            have HX9 : Hid (∀ c, (Value.slice (some ⟨wA.heap.size, 0, none⟩) 0 0).ownBlock = some c → wS.heap.size < c) := fun c h => (by simp only [Value.ownBlock, Option.some.injEq] at h; rw [← h]; exact hW)
            have HSs := Lib.hid (HS1b.out.grown (fun b' o' h e => by
              simp only [Option.some.injEq, Addr.mk.injEq] at h
              exact Nat.lt_irrefl _ (Nat.lt_of_le_of_lt (Nat.le_of_eq h.1.symm) (HX9.out _ e))) hgrow)
            refine hK.out _ _ (grown_belowD hHeld HE.out (Nat.le_refl _) hHeld.size hgrow) (fun hHeldN => ?_)
            clear hown hgrow hK K
            clear hHeld
            have hHeld := hHeldN
            clear hHeldN
            try simp only [Act.put, List.setIfInBounds_toArray, List.set_cons_zero, List.set_cons_succ]
            refine wpAnyH_ready (rs := [7]) (by kernel_rfl) (by simp) ?_
            refine AllReadyH.cons (o := { dst := some 68, op := Op.call { callee := Callee.builtin Builtin.append, args := #[Operand.tmp 65, Operand.tmp 67], argTypes := #[22, 22] }, type := 22, pos := "ref.go:51", after := #[{ on := 4, ground := Ground.data }, { on := 6, ground := Ground.data }, { on := 4, ground := Ground.chain }], guard := none }) rfl (fun K hK => ?_) AllReadyH.nil
            rw [if_pos (by rfl)]
            refine wp_append_dp _ _ rfl w7.heap.size _ (l.take k) rfl HO4.out (some ⟨wS.heap.size, 0, none⟩) 1 1 [(⟨s, sa, sc, IX⟩ : Dp)] rfl rfl HSs.out HLE1.out hHeld.size ?_
            intro v7 wD hown hgrow
            have HO7 := Lib.hid hown
            refine hK.out _ _ (grown_belowD hHeld HO4.out (Nat.le_refl _) hHeld.size hgrow) (fun hHeldN => ?_)
            clear hown hgrow
            clear hHeld
            have hHeld := hHeldN
            clear hHeldN
            clear hK K
            try simp only [Act.put, List.setIfInBounds_toArray, List.set_cons_zero, List.set_cons_succ]
            refine wpAnyH_ready (rs := [9]) (by kernel_rfl) (by simp) ?_
            refine AllReadyH.cons (o := { dst := some 70, op := Op.call { callee := Callee.builtin Builtin.append, args := #[Operand.tmp 68, Operand.tmp 69], argTypes := #[22, 22] }, type := 22, pos := "ref.go:51", after := #[{ on := 7, ground := Ground.data }, { on := 8, ground := Ground.data }, { on := 7, ground := Ground.chain }], guard := none }) rfl (fun K hK => ?_) AllReadyH.nil
            rw [if_pos (by rfl)]
            refine wp_append_dp _ _ rfl w7.heap.size _ (l.take k ++ [(⟨s, sa, sc, IX⟩ : Dp)]) rfl HO7.out (some ⟨g, o + k * 2, none⟩) (l.length - k) (c - k) (l.drop k) rfl HLD.out (HS2.out.later hHeld) HLE2.out hHeld.size ?_
            intro v11 wE hown hgrow
            have HO11 := Lib.hid hown
            refine hK.out _ _ (grown_belowD hHeld HO7.out (Nat.le_refl _) hHeld.size hgrow) (fun hHeldN => ?_)
            clear hown hgrow
            clear hHeld
            have hHeld := hHeldN
            clear hHeldN
            clear hK K
            try simp only [Act.put, List.setIfInBounds_toArray, List.set_cons_zero, List.set_cons_succ]
            refine wpAnyH_take (i := 10) (oi := { dst := some 6, op := Op.assign (Operand.tmp 70), type := 22, pos := "ref.go:51", after := #[{ on := 9, ground := Ground.data }, { on := 9, ground := Ground.chain }, { on := 0, ground := Ground.phase }, { on := 1, ground := Ground.phase }, { on := 2, ground := Ground.phase }, { on := 3, ground := Ground.phase }, { on := 4, ground := Ground.phase }, { on := 5, ground := Ground.phase }, { on := 6, ground := Ground.phase }, { on := 7, ground := Ground.phase }, { on := 8, ground := Ground.phase }, { on := 9, ground := Ground.phase }], guard := none }) (v := ?v10x24) rfl (by kernel_rfl) (by kernel_rfl) (by kernel_rfl) (fun _ _ _ h => h) (Or.inl ⟨by rfl, ?hy10x24⟩) hHeld ?rest10x24
            case hy10x24 => (intro w' hSw; go_simp; try with_reducible rfl)
            try simp only [Act.put, List.setIfInBounds_toArray, List.set_cons_zero, List.set_cons_succ]
            refine wpAnyH_done (by kernel_rfl) ?_ _
            go_wp2
            go_ret
            exact retD_own HADD2.out HO11.out (fun y hy => (HMEM.out y hy).later hHeld) (blThen HB7.out hHeld)
    · have hge : ¬ (k : Int) < (l.length : Int) := by omega
      have hdk : decide ((k : Int) < (l.length : Int)) = false := decide_eq_false hge
      obtain rfl : k = l.length := by omega
      obtain ⟨hA1, -, -⟩ := addD_at (d := toD l) (s := s) X (by rw [toD_length]; exact hk) HPRE.out
      have HADD := Lib.hid (hA1 (toD_length l))
      have hkc : (l.length : Int) ≤ (c : Int) := by have := HCC.out; omega
      clear hA1
      by_cases hcq : c = l.length
      · subst hcq
        have HBX : Hid (Bx (wr.alloc (.cells #[.int .i64 s, .slice none 0 0] 26)) wr.heap.size s (.slice none 0 0)) := by
          show (wr.heap.push _)[wr.heap.size]? = _
          simp
        have HB1 : Hid (Below w.heap.size w (wr.alloc (.cells #[.int .i64 s, .slice none 0 0] 26))) := blAlloc HB.out _
        have HWB : Hid (w.heap.size ≤ wr.heap.size) := HB.out.size
        have HSA : Hid (SL (wr.alloc (.cells #[.int .i64 s, .slice none 0 0] 26)) ax X) := HX.out.later HB1.out
        have HSX : Hid (SL (wr.alloc (.cells #[.int .i64 s, .slice none 0 0] 26)) none []) := SL.nil_ok _ _
        have HNX : Hid ((none : Option Addr) = none → 0 = 0) := fun _ => rfl
        have HLN : Hid (([] : List (Int × Int)).length + X.length ≤ 1000000) := by have := HXL.out; show _ ≤ _; simpa using this
        have HE9 : Hid (OwnL ((wr.alloc (.cells #[.int .i64 s, .slice none 0 0] 26)).alloc (.cells #[] 42)) (wr.alloc (.cells #[.int .i64 s, .slice none 0 0] 26)).heap.size (.slice (some ⟨wr.heap.size + 1, 0, none⟩) 0 0) []) := by
          have h := own_emptyL (wr.alloc (.cells #[.int .i64 s, .slice none 0 0] 26))
          have e : (wr.alloc (.cells #[.int .i64 s, .slice none 0 0] 26)).heap.size = wr.heap.size + 1 := by simp
          show OwnL _ _ _ _
          rw [e] at h ⊢
          exact h
        have HLZ : Hid (([] : List (Int × Int)).length + (([] : List (Int × Int))).length ≤ 4000000) := by have := HLN.out; show _ ≤ _; simp only [List.length_nil]; omega
        have HLY : Hid ((([] : List (Int × Int))).length + X.length ≤ 4000000) := by have := HLN.out; show _ ≤ _; omega
        have HLX : Hid ((([] : List (Int × Int)) ++ X).length ≤ 1000000) := by have := HLN.out; show _ ≤ _; rw [List.length_append]; omega
        go_wp2_with (first
          | (go_at_call 113; go_must (refine (refsort_any ga gc ((([] : List (Int × Int))) ++ X) w5 HLX.out HGS.out).mono ?_; rintro e w6 ⟨sa, sc, rfl, h1, h2, h3, h5⟩; have HSR := Lib.hid h1; have HSN := Lib.hid h2; have HSC := Lib.hid h3; have HB6 : Hid (Below W1.heap.size W1 w6) := blThen HB5.out h5; have HBX6 := Lib.hid (HBX.out.later HB6.out HBX.out.lt); have q1 := HBX6.out.c1; have q2 := HBX6.out.f 1; have q3 := HBX6.out.lt; clear h1 h2 h3 h5))
          | (at_builtin; (refine append_st rfl (.tmp 56) (.tmp 57) rfl W1.heap.size _ (([] : List (Int × Int))) rfl H4.out ax cx X rfl (HSA.out.later HB4.out) HNA.out HLY.out HB4.out.size ?_; intro v5 w5 h1 h2; have H5 := Lib.hid h1; have HB5 : Hid (Below W1.heap.size W1 w5) := grown_below HB4.out H4.out (Nat.le_refl _) HB4.out.size h2; obtain ⟨ga, gc, rfl, gs, -⟩ := h1.sl; have HGS := Lib.hid gs; clear h1 h2 gs))
          | (at_builtin; (refine append_st rfl (.tmp 53) (.tmp 55) rfl (wr.alloc (.cells #[.int .i64 s, .slice none 0 0] 26)).heap.size (.slice (some ⟨wr.heap.size + 1, 0, none⟩) 0 0) [] rfl HE9.out none 0 (([] : List (Int × Int))) rfl (HSX.out.later (blAlloc (Below.refl _ _) _)) HNX.out HLZ.out (by simp) ?_; intro v4 w4 h1 h2; have H4 := Lib.hid h1; have HB4 : Hid (Below (wr.alloc (.cells #[.int .i64 s, .slice none 0 0] 26)).heap.size (wr.alloc (.cells #[.int .i64 s, .slice none 0 0] 26)) w4) := grown_below (blAlloc (Below.refl _ _) _) HE9.out (Nat.le_refl _) (by simp) h2; clear h1 h2; generalize wr.alloc (.cells #[.int .i64 s, .slice none 0 0] 26) = W1 at *)))
        have HSR1 : Hid (SL w6 sa (sortL X)) := HSR.out
        have HSN1 : Hid (sa = none → sc = 0) := HSN.out
        have HSC1 : Hid ((sortL X).length ≤ sc) := HSC.out
        have HBX7 := Lib.hid (bx_set HBX6.out (.slice sa (sortL X).length sc))
        have HB7 : Hid (Below w.heap.size w (w6.setCell ⟨wr.heap.size, 1, none⟩ (.slice sa (sortL X).length sc))) := blSet (HB1.out.trans (HB6.out.mono HB1.out.size)) HWB.out _
        have HM : Hid (IdsAt (w6.setCell ⟨wr.heap.size, 1, none⟩ (.slice sa (sortL X).length sc)) ⟨s, sa, sc, sortL X⟩) := ⟨sl_setbx HBX6.out (fun i h => by cases h) HSR1.out, HSN1.out, HSC1.out⟩
        clear q1 q2 q3
        generalize w6.setCell ⟨wr.heap.size, 1, none⟩ (.slice sa (sortL X).length sc) = w7 at *
        clear HSR HSC HSR1 HSC1 HBX6 HGS H5 HB5 H4 HB4 HE9
        generalize hIX : sortL X = IX at *
        have HIX := Lib.hid hIX
        clear hIX
        have HLT := Lib.hid HBX7.out.lt
        have HQ0 := Lib.hid HBX7.out.c0
        have HQ1 := Lib.hid HBX7.out.c1
        go_wp2_with fail
        have HLK : Hid (l.length = (l.take l.length).length) := by show _ = _; rw [List.length_take]; omega
        have HLD : Hid (0 = (l.drop l.length).length) := by show _ = _; rw [List.length_drop]; omega
        have HG7 : Hid (g < w7.heap.size) := Nat.lt_of_lt_of_le HG.out HB7.out.size
        have HR7 := Lib.hid (HR.out.later HG.out HB7.out)
        have HS1 : Hid (SrcD w7 (some ⟨g, o, none⟩) (l.length) (l.take l.length)) := srcD_row HG7.out (rowD_take HR7.out _)
        have HLB : Hid ((l.drop l.length).length ≤ 1000000 ∧ (l.take l.length).length ≤ 1000000) := by show _ ∧ _; rw [List.length_drop, List.length_take]; omega
        have HLE0 : Hid (([] : List Dp).length + (l.take l.length).length ≤ 4000000) := by have := HLB.out; show _ ≤ _; simp only [List.length_nil]; omega
        have HLE1 : Hid ((l.take l.length).length + [(⟨s, sa, sc, IX⟩ : Dp)].length ≤ 4000000) := by have := HLB.out; show _ ≤ _; simp only [List.length_singleton]; omega
        have HLE2 : Hid ((l.take l.length ++ [(⟨s, sa, sc, IX⟩ : Dp)]).length + (l.drop l.length).length ≤ 4000000) := by have := HLB.out; show _ ≤ _; rw [List.length_append, List.length_singleton]; omega
        have HADD2 : Hid (addD (toD l) s X = toD (l.take l.length ++ [(⟨s, sa, sc, IX⟩ : Dp)] ++ l.drop l.length)) := by
          show _ = _
          rw [HADD.out, toD_append, toD_append, toD_take, toD_drop, List.append_assoc, ← HIX.out]
          rfl
        have HMEM : Hid (∀ y ∈ l.take l.length ++ [(⟨s, sa, sc, IX⟩ : Dp)] ++ l.drop l.length, IdsAt w7 y) := by
          intro y hy
          rw [List.mem_append, List.mem_append] at hy
          rcases hy with (hy | hy) | hy
          · exact (HL.out.1 y (List.mem_of_mem_take hy)).later HB7.out
          · rw [List.mem_singleton] at hy
            subst hy
            exact HM.out
          · exact (HL.out.1 y (List.mem_of_mem_drop hy)).later HB7.out
        have HS2 : Hid (SrcD w7 (some ⟨g, o, none⟩) 0 (l.drop l.length)) := by
          show SrcD _ _ _ _
          rw [show l.drop l.length = [] from List.drop_of_length_le (by have := HCC.out; omega)]
          exact srcD_nil _ (fun h => by cases h)
        refine wp_region_held_drew (S := fun w' => Below w7.heap.size w7 w') (by kernel_rfl) ⟨rfl, rfl, rfl, Nat.le_refl _, fun _ _ => rfl⟩ (fun hHeld => ?_)
        have HWS : Hid (w7.heap.size ≤ w7.drew.heap.size) := Nat.le_refl _
        generalize w7.drew = wS at *
        refine wpAnyH_take (i := 1) (oi := { dst := some 62, op := Op.move (Operand.tmp 0), type := 22, pos := "ref.go:51", after := #[], guard := none }) (v := ?v1x25) rfl (by kernel_rfl) (by kernel_rfl) (by kernel_rfl) (fun _ _ _ h => h) (Or.inl ⟨by rfl, ?hy1x25⟩) hHeld ?rest1x25
        case hy1x25 => (intro w' hSw; go_simp; try with_reducible rfl)
        try simp only [Act.put, List.setIfInBounds_toArray, List.set_cons_zero, List.set_cons_succ]
        refine wpAnyH_take (i := 2) (oi := { dst := some 63, op := Op.move (Operand.tmp 7), type := 3, pos := "ref.go:51", after := #[], guard := none }) (v := ?v2x26) rfl (by kernel_rfl) (by kernel_rfl) (by kernel_rfl) (fun _ _ _ h => h) (Or.inl ⟨by rfl, ?hy2x26⟩) hHeld ?rest2x26
        case hy2x26 => (intro w' hSw; go_simp; try with_reducible rfl)
        try simp only [Act.put, List.setIfInBounds_toArray, List.set_cons_zero, List.set_cons_succ]
        refine wpAnyH_take (i := 3) (oi := { dst := some 64, op := Op.slice 22 (Operand.tmp 62) none (some (Operand.tmp 63)) none, type := 22, pos := "ref.go:51", after := #[{ on := 1, ground := Ground.data }, { on := 2, ground := Ground.data }], guard := none }) (v := ?v3x27) rfl (by kernel_rfl) (by kernel_rfl) (by kernel_rfl) (fun _ _ _ h => h) (Or.inl ⟨by rfl, ?hy3x27⟩) hHeld ?rest3x27
        case hy3x27 => (intro w' hSw; go_simp; try with_reducible rfl)
        try simp only [Act.put, List.setIfInBounds_toArray, List.set_cons_zero, List.set_cons_succ]
        refine wpAnyH_take (i := 5) (oi := { dst := some 66, op := Op.load 26 (Operand.tmp 8), type := 26, pos := "ref.go:51", after := #[], guard := none }) (v := ?v5x28) rfl (by kernel_rfl) (by kernel_rfl) (by kernel_rfl) (fun _ _ _ h => h) (Or.inl ⟨by rfl, ?hy5x28⟩) hHeld ?rest5x28
        case hy5x28 => (intro w' hSw; have s0 := cell_in hSw HLT.out HQ0.out; have s1 := cell_in hSw HLT.out HQ1.out; go_simp; try with_reducible rfl)
        try simp only [Act.put, List.setIfInBounds_toArray, List.set_cons_zero, List.set_cons_succ]
        refine wpAnyH_take (i := 8) (oi := { dst := some 69, op := Op.move (Operand.tmp 9), type := 22, pos := "ref.go:51", after := #[], guard := none }) (v := ?v8x29) rfl (by kernel_rfl) (by kernel_rfl) (by kernel_rfl) (fun _ _ _ h => h) (Or.inl ⟨by rfl, ?hy8x29⟩) hHeld ?rest8x29
        case hy8x29 => (intro w' hSw; go_simp; try with_reducible rfl)
        try simp only [Act.put, List.setIfInBounds_toArray, List.set_cons_zero, List.set_cons_succ]
        refine wpAnyH_ready (rs := [0, 6]) (by kernel_rfl) (by simp) ?_
        refine AllReadyH.cons (o := { dst := some 61, op := Op.buildSlice 22 0 #[], type := 22, pos := "ref.go:51", after := #[], guard := none }) rfl (fun K hK => ?_) (AllReadyH.cons (o := { dst := some 67, op := Op.buildSlice 22 1 #[(0, Operand.tmp 66)], type := 22, pos := "ref.go:51", after := #[{ on := 5, ground := Ground.data }], guard := none }) rfl (fun K hK => ?_) AllReadyH.nil)
        · go_simp
          have HE : Hid (OwnD (wS.alloc (Obj.cells #[] 26)) w7.heap.size (.slice (some ⟨wS.heap.size, 0, none⟩) 0 0) []) := (own_emptyD wS).monoA HWS.out
          refine hK.out _ _ (blAlloc hHeld _) (fun hHeldN => ?_)
          clear hK K
          clear hHeld
          have hHeld := hHeldN
          clear hHeldN
          try simp only [Act.put, List.setIfInBounds_toArray, List.set_cons_zero, List.set_cons_succ]
          generalize wS.alloc (Obj.cells #[] 26) = wA at *
          refine wpAnyH_ready (rs := [4, 6]) (by kernel_rfl) (by simp) ?_
          refine AllReadyH.cons (o := { dst := some 65, op := Op.call { callee := Callee.builtin Builtin.append, args := #[Operand.tmp 61, Operand.tmp 64], argTypes := #[22, 22] }, type := 22, pos := "ref.go:51", after := #[{ on := 0, ground := Ground.data }, { on := 3, ground := Ground.data }], guard := none }) rfl (fun K hK => ?_) (AllReadyH.cons (o := { dst := some 67, op := Op.buildSlice 22 1 #[(0, Operand.tmp 66)], type := 22, pos := "ref.go:51", after := #[{ on := 5, ground := Ground.data }], guard := none }) rfl (fun K hK => ?_) AllReadyH.nil)
          · rw [if_pos (by rfl)]
            refine wp_append_dp _ _ rfl w7.heap.size _ [] rfl HE.out (some ⟨g, o, none⟩) (l.length) (l.length) (l.take l.length) rfl HLK.out (HS1.out.later hHeld) HLE0.out hHeld.size ?_
            intro v4 wC hown hgrow
            have HO4 : Hid (OwnD wC w7.heap.size v4 (l.take l.length)) := hown
            refine hK.out _ _ (grown_belowD hHeld HE.out (Nat.le_refl _) hHeld.size hgrow) (fun hHeldN => ?_)
            clear hown hgrow hK K
            clear hHeld
            have hHeld := hHeldN
            clear hHeldN
            try simp only [Act.put, List.setIfInBounds_toArray, List.set_cons_zero, List.set_cons_succ]
            refine wpAnyH_ready (rs := [6]) (by kernel_rfl) (by simp) ?_
            refine AllReadyH.cons (o := { dst := some 67, op := Op.buildSlice 22 1 #[(0, Operand.tmp 66)], type := 22, pos := "ref.go:51", after := #[{ on := 5, ground := Ground.data }], guard := none }) rfl (fun K hK => ?_) AllReadyH.nil
            go_simp
            have HSs : Hid (SrcD (wC.alloc (Obj.cells #[Value.int IntKind.i64 s, Value.slice sa IX.length sc] 26)) (some ⟨wC.heap.size, 0, none⟩) 1 [(⟨s, sa, sc, IX⟩ : Dp)]) := newD wC (⟨s, sa, sc, IX⟩ : Dp) 1
            have HO4b := Lib.hid (HO4.out.later (blAlloc (Below.refl _ _) (Obj.cells #[Value.int IntKind.i64 s, Value.slice sa IX.length sc] 26)))
            refine hK.out _ _ (blAlloc hHeld _) (fun hHeldN => ?_)
            clear hK K HO4
            have HO4 := HO4b
            clear HO4b
            clear hHeld
            have hHeld := hHeldN
            clear hHeldN
            try simp only [Act.put, List.setIfInBounds_toArray, List.set_cons_zero, List.set_cons_succ]
            refine wpAnyH_ready (rs := [7]) (by kernel_rfl) (by simp) ?_
            refine AllReadyH.cons (o := { dst := some 68, op := Op.call { callee := Callee.builtin Builtin.append, args := #[Operand.tmp 65, Operand.tmp 67], argTypes := #[22, 22] }, type := 22, pos := "ref.go:51", after := #[{ on := 4, ground := Ground.data }, { on := 6, ground := Ground.data }, { on := 4, ground := Ground.chain }], guard := none }) rfl (fun K hK => ?_) AllReadyH.nil
            rw [if_pos (by rfl)]
            refine wp_append_dp _ _ rfl w7.heap.size _ (l.take l.length) rfl HO4.out (some ⟨wC.heap.size, 0, none⟩) 1 1 [(⟨s, sa, sc, IX⟩ : Dp)] rfl rfl HSs.out HLE1.out hHeld.size ?_
            intro v7 wD hown hgrow
            have HO7 := Lib.hid hown
            refine hK.out _ _ (grown_belowD hHeld HO4.out (Nat.le_refl _) hHeld.size hgrow) (fun hHeldN => ?_)
            clear hown hgrow
            clear hHeld
            have hHeld := hHeldN
            clear hHeldN
            clear hK K
            try simp only [Act.put, List.setIfInBounds_toArray, List.set_cons_zero, List.set_cons_succ]
            refine wpAnyH_ready (rs := [9]) (by kernel_rfl) (by simp) ?_
            refine AllReadyH.cons (o := { dst := some 70, op := Op.call { callee := Callee.builtin Builtin.append, args := #[Operand.tmp 68, Operand.tmp 69], argTypes := #[22, 22] }, type := 22, pos := "ref.go:51", after := #[{ on := 7, ground := Ground.data }, { on := 8, ground := Ground.data }, { on := 7, ground := Ground.chain }], guard := none }) rfl (fun K hK => ?_) AllReadyH.nil
            rw [if_pos (by rfl)]
            refine wp_append_dp _ _ rfl w7.heap.size _ (l.take l.length ++ [(⟨s, sa, sc, IX⟩ : Dp)]) rfl HO7.out (some ⟨g, o, none⟩) (0) (0) (l.drop l.length) rfl HLD.out (HS2.out.later hHeld) HLE2.out hHeld.size ?_
            intro v11 wE hown hgrow
            have HO11 := Lib.hid hown
            refine hK.out _ _ (grown_belowD hHeld HO7.out (Nat.le_refl _) hHeld.size hgrow) (fun hHeldN => ?_)
            clear hown hgrow
            clear hHeld
            have hHeld := hHeldN
            clear hHeldN
            clear hK K
            try simp only [Act.put, List.setIfInBounds_toArray, List.set_cons_zero, List.set_cons_succ]
            refine wpAnyH_take (i := 10) (oi := { dst := some 6, op := Op.assign (Operand.tmp 70), type := 22, pos := "ref.go:51", after := #[{ on := 9, ground := Ground.data }, { on := 9, ground := Ground.chain }, { on := 0, ground := Ground.phase }, { on := 1, ground := Ground.phase }, { on := 2, ground := Ground.phase }, { on := 3, ground := Ground.phase }, { on := 4, ground := Ground.phase }, { on := 5, ground := Ground.phase }, { on := 6, ground := Ground.phase }, { on := 7, ground := Ground.phase }, { on := 8, ground := Ground.phase }, { on := 9, ground := Ground.phase }], guard := none }) (v := ?v10x30) rfl (by kernel_rfl) (by kernel_rfl) (by kernel_rfl) (fun _ _ _ h => h) (Or.inl ⟨by rfl, ?hy10x30⟩) hHeld ?rest10x30
            case hy10x30 => (intro w' hSw; go_simp; try with_reducible rfl)
            try simp only [Act.put, List.setIfInBounds_toArray, List.set_cons_zero, List.set_cons_succ]
            refine wpAnyH_done (by kernel_rfl) ?_ _
            go_wp2
            go_ret
            exact retD_own HADD2.out HO11.out (fun y hy => (HMEM.out y hy).later hHeld) (blThen HB7.out hHeld)
          · go_simp
            have HS0 : Hid (SrcD (wA.alloc (Obj.cells #[Value.int IntKind.i64 s, Value.slice sa IX.length sc] 26)) (some ⟨wA.heap.size, 0, none⟩) 1 [(⟨s, sa, sc, IX⟩ : Dp)]) := newD wA (⟨s, sa, sc, IX⟩ : Dp) 1
            have HE2 := Lib.hid (HE.out.later (blAlloc (Below.refl _ _) (Obj.cells #[Value.int IntKind.i64 s, Value.slice sa IX.length sc] 26)))
            have HX9 : Hid (∀ c, (Value.slice (some ⟨wS.heap.size, 0, none⟩) 0 0).ownBlock = some c → c < wA.heap.size) := fun c h => (HE.out.block c h).2
            refine hK.out _ _ (blAlloc hHeld _) (fun hHeldN => ?_)
            clear hK K
            clear hHeld
            have hHeld := hHeldN
            clear hHeldN
            try simp only [Act.put, List.setIfInBounds_toArray, List.set_cons_zero, List.set_cons_succ]
            refine wpAnyH_ready (rs := [4]) (by kernel_rfl) (by simp) ?_
            refine AllReadyH.cons (o := { dst := some 65, op := Op.call { callee := Callee.builtin Builtin.append, args := #[Operand.tmp 61, Operand.tmp 64], argTypes := #[22, 22] }, type := 22, pos := "ref.go:51", after := #[{ on := 0, ground := Ground.data }, { on := 3, ground := Ground.data }], guard := none }) rfl (fun K hK => ?_) AllReadyH.nil
            rw [if_pos (by rfl)]
            refine wp_append_dp _ _ rfl w7.heap.size _ [] rfl HE2.out (some ⟨g, o, none⟩) (l.length) (l.length) (l.take l.length) rfl HLK.out (HS1.out.later hHeld) HLE0.out hHeld.size ?_
            intro v4 wC hown hgrow
            have HO4 : Hid (OwnD wC w7.heap.size v4 (l.take l.length)) := hown
            have HSs := Lib.hid (HS0.out.grown (fun b' o' h e => by
              simp only [Option.some.injEq, Addr.mk.injEq] at h
              exact Nat.lt_irrefl _ (Nat.lt_of_lt_of_le (HX9.out _ e) (Nat.le_of_eq h.1))) hgrow)
            refine hK.out _ _ (grown_belowD hHeld HE2.out (Nat.le_refl _) hHeld.size hgrow) (fun hHeldN => ?_)
            clear hown hgrow hK K
            clear hHeld
            have hHeld := hHeldN
            clear hHeldN
            try simp only [Act.put, List.setIfInBounds_toArray, List.set_cons_zero, List.set_cons_succ]
            refine wpAnyH_ready (rs := [7]) (by kernel_rfl) (by simp) ?_
            refine AllReadyH.cons (o := { dst := some 68, op := Op.call { callee := Callee.builtin Builtin.append, args := #[Operand.tmp 65, Operand.tmp 67], argTypes := #[22, 22] }, type := 22, pos := "ref.go:51", after := #[{ on := 4, ground := Ground.data }, { on := 6, ground := Ground.data }, { on := 4, ground := Ground.chain }], guard := none }) rfl (fun K hK => ?_) AllReadyH.nil
            rw [if_pos (by rfl)]
            refine wp_append_dp _ _ rfl w7.heap.size _ (l.take l.length) rfl HO4.out (some ⟨wA.heap.size, 0, none⟩) 1 1 [(⟨s, sa, sc, IX⟩ : Dp)] rfl rfl HSs.out HLE1.out hHeld.size ?_
            intro v7 wD hown hgrow
            have HO7 := Lib.hid hown
            refine hK.out _ _ (grown_belowD hHeld HO4.out (Nat.le_refl _) hHeld.size hgrow) (fun hHeldN => ?_)
            clear hown hgrow
            clear hHeld
            have hHeld := hHeldN
            clear hHeldN
            clear hK K
            try simp only [Act.put, List.setIfInBounds_toArray, List.set_cons_zero, List.set_cons_succ]
            refine wpAnyH_ready (rs := [9]) (by kernel_rfl) (by simp) ?_
            refine AllReadyH.cons (o := { dst := some 70, op := Op.call { callee := Callee.builtin Builtin.append, args := #[Operand.tmp 68, Operand.tmp 69], argTypes := #[22, 22] }, type := 22, pos := "ref.go:51", after := #[{ on := 7, ground := Ground.data }, { on := 8, ground := Ground.data }, { on := 7, ground := Ground.chain }], guard := none }) rfl (fun K hK => ?_) AllReadyH.nil
            rw [if_pos (by rfl)]
            refine wp_append_dp _ _ rfl w7.heap.size _ (l.take l.length ++ [(⟨s, sa, sc, IX⟩ : Dp)]) rfl HO7.out (some ⟨g, o, none⟩) (0) (0) (l.drop l.length) rfl HLD.out (HS2.out.later hHeld) HLE2.out hHeld.size ?_
            intro v11 wE hown hgrow
            have HO11 := Lib.hid hown
            refine hK.out _ _ (grown_belowD hHeld HO7.out (Nat.le_refl _) hHeld.size hgrow) (fun hHeldN => ?_)
            clear hown hgrow
            clear hHeld
            have hHeld := hHeldN
            clear hHeldN
            clear hK K
            try simp only [Act.put, List.setIfInBounds_toArray, List.set_cons_zero, List.set_cons_succ]
            refine wpAnyH_take (i := 10) (oi := { dst := some 6, op := Op.assign (Operand.tmp 70), type := 22, pos := "ref.go:51", after := #[{ on := 9, ground := Ground.data }, { on := 9, ground := Ground.chain }, { on := 0, ground := Ground.phase }, { on := 1, ground := Ground.phase }, { on := 2, ground := Ground.phase }, { on := 3, ground := Ground.phase }, { on := 4, ground := Ground.phase }, { on := 5, ground := Ground.phase }, { on := 6, ground := Ground.phase }, { on := 7, ground := Ground.phase }, { on := 8, ground := Ground.phase }, { on := 9, ground := Ground.phase }], guard := none }) (v := ?v10x31) rfl (by kernel_rfl) (by kernel_rfl) (by kernel_rfl) (fun _ _ _ h => h) (Or.inl ⟨by rfl, ?hy10x31⟩) hHeld ?rest10x31
            case hy10x31 => (intro w' hSw; go_simp; try with_reducible rfl)
            try simp only [Act.put, List.setIfInBounds_toArray, List.set_cons_zero, List.set_cons_succ]
            refine wpAnyH_done (by kernel_rfl) ?_ _
            go_wp2
            go_ret
            exact retD_own HADD2.out HO11.out (fun y hy => (HMEM.out y hy).later hHeld) (blThen HB7.out hHeld)
        · go_simp
          have HS0 : Hid (SrcD (wS.alloc (Obj.cells #[Value.int IntKind.i64 s, Value.slice sa IX.length sc] 26)) (some ⟨wS.heap.size, 0, none⟩) 1 [(⟨s, sa, sc, IX⟩ : Dp)]) := newD wS (⟨s, sa, sc, IX⟩ : Dp) 1
          have hW : wS.heap.size < (wS.alloc (Obj.cells #[Value.int IntKind.i64 s, Value.slice sa IX.length sc] 26)).heap.size := by simp
          refine hK.out _ _ (blAlloc hHeld _) (fun hHeldN => ?_)
          clear hK K
          clear hHeld
          have hHeld := hHeldN
          clear hHeldN
          try simp only [Act.put, List.setIfInBounds_toArray, List.set_cons_zero, List.set_cons_succ]
          generalize wS.alloc (Obj.cells #[Value.int IntKind.i64 s, Value.slice sa IX.length sc] 26) = wA at *
          refine wpAnyH_ready (rs := [0]) (by kernel_rfl) (by simp) ?_
          refine AllReadyH.cons (o := { dst := some 61, op := Op.buildSlice 22 0 #[], type := 22, pos := "ref.go:51", after := #[], guard := none }) rfl (fun K hK => ?_) AllReadyH.nil
          go_simp
          have HE : Hid (OwnD (wA.alloc (Obj.cells #[] 26)) w7.heap.size (.slice (some ⟨wA.heap.size, 0, none⟩) 0 0) []) := (own_emptyD wA).monoA (Nat.le_trans HWS.out (Nat.le_of_lt hW))
          have HS1b := Lib.hid (HS0.out.later (blAlloc (Below.refl _ _) (Obj.cells #[] 26)))
          refine hK.out _ _ (blAlloc hHeld _) (fun hHeldN => ?_)
          clear hK K
          clear hHeld
          have hHeld := hHeldN
          clear hHeldN
          try simp only [Act.put, List.setIfInBounds_toArray, List.set_cons_zero, List.set_cons_succ]
          refine wpAnyH_ready (rs := [4]) (by kernel_rfl) (by simp) ?_
          refine AllReadyH.cons (o := { dst := some 65, op := Op.call { callee := Callee.builtin Builtin.append, args := #[Operand.tmp 61, Operand.tmp 64], argTypes := #[22, 22] }, type := 22, pos := "ref.go:51", after := #[{ on := 0, ground := Ground.data }, { on := 3, ground := Ground.data }], guard := none }) rfl (fun K hK => ?_) AllReadyH.nil
          rw [if_pos (by rfl)]
          refine wp_append_dp _ _ rfl w7.heap.size _ [] rfl HE.out (some ⟨g, o, none⟩) (l.length) (l.length) (l.take l.length) rfl HLK.out (HS1.out.later hHeld) HLE0.out hHeld.size ?_
          intro v4 wC hown hgrow
          have HO4 : Hid (OwnD wC w7.heap.size v4 (l.take l.length)) := hown
          have HX9 : Hid (∀ c, (Value.slice (some ⟨wA.heap.size, 0, none⟩) 0 0).ownBlock = some c → wS.heap.size < c) := fun c h => (by simp only [Value.ownBlock, Option.some.injEq] at h; rw [← h]; exact hW)
          have HSs := Lib.hid (HS1b.out.grown (fun b' o' h e => by
            simp only [Option.some.injEq, Addr.mk.injEq] at h
            exact Nat.lt_irrefl _ (Nat.lt_of_le_of_lt (Nat.le_of_eq h.1.symm) (HX9.out _ e))) hgrow)
          refine hK.out _ _ (grown_belowD hHeld HE.out (Nat.le_refl _) hHeld.size hgrow) (fun hHeldN => ?_)
          clear hown hgrow hK K
          clear hHeld
          have hHeld := hHeldN
          clear hHeldN
          try simp only [Act.put, List.setIfInBounds_toArray, List.set_cons_zero, List.set_cons_succ]
          refine wpAnyH_ready (rs := [7]) (by kernel_rfl) (by simp) ?_
          refine AllReadyH.cons (o := { dst := some 68, op := Op.call { callee := Callee.builtin Builtin.append, args := #[Operand.tmp 65, Operand.tmp 67], argTypes := #[22, 22] }, type := 22, pos := "ref.go:51", after := #[{ on := 4, ground := Ground.data }, { on := 6, ground := Ground.data }, { on := 4, ground := Ground.chain }], guard := none }) rfl (fun K hK => ?_) AllReadyH.nil
          rw [if_pos (by rfl)]
          refine wp_append_dp _ _ rfl w7.heap.size _ (l.take l.length) rfl HO4.out (some ⟨wS.heap.size, 0, none⟩) 1 1 [(⟨s, sa, sc, IX⟩ : Dp)] rfl rfl HSs.out HLE1.out hHeld.size ?_
          intro v7 wD hown hgrow
          have HO7 := Lib.hid hown
          refine hK.out _ _ (grown_belowD hHeld HO4.out (Nat.le_refl _) hHeld.size hgrow) (fun hHeldN => ?_)
          clear hown hgrow
          clear hHeld
          have hHeld := hHeldN
          clear hHeldN
          clear hK K
          try simp only [Act.put, List.setIfInBounds_toArray, List.set_cons_zero, List.set_cons_succ]
          refine wpAnyH_ready (rs := [9]) (by kernel_rfl) (by simp) ?_
          refine AllReadyH.cons (o := { dst := some 70, op := Op.call { callee := Callee.builtin Builtin.append, args := #[Operand.tmp 68, Operand.tmp 69], argTypes := #[22, 22] }, type := 22, pos := "ref.go:51", after := #[{ on := 7, ground := Ground.data }, { on := 8, ground := Ground.data }, { on := 7, ground := Ground.chain }], guard := none }) rfl (fun K hK => ?_) AllReadyH.nil
          rw [if_pos (by rfl)]
          refine wp_append_dp _ _ rfl w7.heap.size _ (l.take l.length ++ [(⟨s, sa, sc, IX⟩ : Dp)]) rfl HO7.out (some ⟨g, o, none⟩) (0) (0) (l.drop l.length) rfl HLD.out (HS2.out.later hHeld) HLE2.out hHeld.size ?_
          intro v11 wE hown hgrow
          have HO11 := Lib.hid hown
          refine hK.out _ _ (grown_belowD hHeld HO7.out (Nat.le_refl _) hHeld.size hgrow) (fun hHeldN => ?_)
          clear hown hgrow
          clear hHeld
          have hHeld := hHeldN
          clear hHeldN
          clear hK K
          try simp only [Act.put, List.setIfInBounds_toArray, List.set_cons_zero, List.set_cons_succ]
          refine wpAnyH_take (i := 10) (oi := { dst := some 6, op := Op.assign (Operand.tmp 70), type := 22, pos := "ref.go:51", after := #[{ on := 9, ground := Ground.data }, { on := 9, ground := Ground.chain }, { on := 0, ground := Ground.phase }, { on := 1, ground := Ground.phase }, { on := 2, ground := Ground.phase }, { on := 3, ground := Ground.phase }, { on := 4, ground := Ground.phase }, { on := 5, ground := Ground.phase }, { on := 6, ground := Ground.phase }, { on := 7, ground := Ground.phase }, { on := 8, ground := Ground.phase }, { on := 9, ground := Ground.phase }], guard := none }) (v := ?v10x32) rfl (by kernel_rfl) (by kernel_rfl) (by kernel_rfl) (fun _ _ _ h => h) (Or.inl ⟨by rfl, ?hy10x32⟩) hHeld ?rest10x32
          case hy10x32 => (intro w' hSw; go_simp; try with_reducible rfl)
          try simp only [Act.put, List.setIfInBounds_toArray, List.set_cons_zero, List.set_cons_succ]
          refine wpAnyH_done (by kernel_rfl) ?_ _
          go_wp2
          go_ret
          exact retD_own HADD2.out HO11.out (fun y hy => (HMEM.out y hy).later hHeld) (blThen HB7.out hHeld)
      · have HBX : Hid (Bx (wr.alloc (.cells #[.int .i64 s, .slice none 0 0] 26)) wr.heap.size s (.slice none 0 0)) := by
          show (wr.heap.push _)[wr.heap.size]? = _
          simp
        have HB1 : Hid (Below w.heap.size w (wr.alloc (.cells #[.int .i64 s, .slice none 0 0] 26))) := blAlloc HB.out _
        have HWB : Hid (w.heap.size ≤ wr.heap.size) := HB.out.size
        have HSA : Hid (SL (wr.alloc (.cells #[.int .i64 s, .slice none 0 0] 26)) ax X) := HX.out.later HB1.out
        have HSX : Hid (SL (wr.alloc (.cells #[.int .i64 s, .slice none 0 0] 26)) none []) := SL.nil_ok _ _
        have HNX : Hid ((none : Option Addr) = none → 0 = 0) := fun _ => rfl
        have HLN : Hid (([] : List (Int × Int)).length + X.length ≤ 1000000) := by have := HXL.out; show _ ≤ _; simpa using this
        have HE9 : Hid (OwnL ((wr.alloc (.cells #[.int .i64 s, .slice none 0 0] 26)).alloc (.cells #[] 42)) (wr.alloc (.cells #[.int .i64 s, .slice none 0 0] 26)).heap.size (.slice (some ⟨wr.heap.size + 1, 0, none⟩) 0 0) []) := by
          have h := own_emptyL (wr.alloc (.cells #[.int .i64 s, .slice none 0 0] 26))
          have e : (wr.alloc (.cells #[.int .i64 s, .slice none 0 0] 26)).heap.size = wr.heap.size + 1 := by simp
          show OwnL _ _ _ _
          rw [e] at h ⊢
          exact h
        have HLZ : Hid (([] : List (Int × Int)).length + (([] : List (Int × Int))).length ≤ 4000000) := by have := HLN.out; show _ ≤ _; simp only [List.length_nil]; omega
        have HLY : Hid ((([] : List (Int × Int))).length + X.length ≤ 4000000) := by have := HLN.out; show _ ≤ _; omega
        have HLX : Hid ((([] : List (Int × Int)) ++ X).length ≤ 1000000) := by have := HLN.out; show _ ≤ _; rw [List.length_append]; omega
        go_wp2_with (first
          | (go_at_call 113; go_must (refine (refsort_any ga gc ((([] : List (Int × Int))) ++ X) w5 HLX.out HGS.out).mono ?_; rintro e w6 ⟨sa, sc, rfl, h1, h2, h3, h5⟩; have HSR := Lib.hid h1; have HSN := Lib.hid h2; have HSC := Lib.hid h3; have HB6 : Hid (Below W1.heap.size W1 w6) := blThen HB5.out h5; have HBX6 := Lib.hid (HBX.out.later HB6.out HBX.out.lt); have q1 := HBX6.out.c1; have q2 := HBX6.out.f 1; have q3 := HBX6.out.lt; clear h1 h2 h3 h5))
          | (at_builtin; (refine append_st rfl (.tmp 56) (.tmp 57) rfl W1.heap.size _ (([] : List (Int × Int))) rfl H4.out ax cx X rfl (HSA.out.later HB4.out) HNA.out HLY.out HB4.out.size ?_; intro v5 w5 h1 h2; have H5 := Lib.hid h1; have HB5 : Hid (Below W1.heap.size W1 w5) := grown_below HB4.out H4.out (Nat.le_refl _) HB4.out.size h2; obtain ⟨ga, gc, rfl, gs, -⟩ := h1.sl; have HGS := Lib.hid gs; clear h1 h2 gs))
          | (at_builtin; (refine append_st rfl (.tmp 53) (.tmp 55) rfl (wr.alloc (.cells #[.int .i64 s, .slice none 0 0] 26)).heap.size (.slice (some ⟨wr.heap.size + 1, 0, none⟩) 0 0) [] rfl HE9.out none 0 (([] : List (Int × Int))) rfl (HSX.out.later (blAlloc (Below.refl _ _) _)) HNX.out HLZ.out (by simp) ?_; intro v4 w4 h1 h2; have H4 := Lib.hid h1; have HB4 : Hid (Below (wr.alloc (.cells #[.int .i64 s, .slice none 0 0] 26)).heap.size (wr.alloc (.cells #[.int .i64 s, .slice none 0 0] 26)) w4) := grown_below (blAlloc (Below.refl _ _) _) HE9.out (Nat.le_refl _) (by simp) h2; clear h1 h2; generalize wr.alloc (.cells #[.int .i64 s, .slice none 0 0] 26) = W1 at *)))
        have HSR1 : Hid (SL w6 sa (sortL X)) := HSR.out
        have HSN1 : Hid (sa = none → sc = 0) := HSN.out
        have HSC1 : Hid ((sortL X).length ≤ sc) := HSC.out
        have HBX7 := Lib.hid (bx_set HBX6.out (.slice sa (sortL X).length sc))
        have HB7 : Hid (Below w.heap.size w (w6.setCell ⟨wr.heap.size, 1, none⟩ (.slice sa (sortL X).length sc))) := blSet (HB1.out.trans (HB6.out.mono HB1.out.size)) HWB.out _
        have HM : Hid (IdsAt (w6.setCell ⟨wr.heap.size, 1, none⟩ (.slice sa (sortL X).length sc)) ⟨s, sa, sc, sortL X⟩) := ⟨sl_setbx HBX6.out (fun i h => by cases h) HSR1.out, HSN1.out, HSC1.out⟩
        clear q1 q2 q3
        generalize w6.setCell ⟨wr.heap.size, 1, none⟩ (.slice sa (sortL X).length sc) = w7 at *
        clear HSR HSC HSR1 HSC1 HBX6 HGS H5 HB5 H4 HB4 HE9
        generalize hIX : sortL X = IX at *
        have HIX := Lib.hid hIX
        clear hIX
        have HLT := Lib.hid HBX7.out.lt
        have HQ0 := Lib.hid HBX7.out.c0
        have HQ1 := Lib.hid HBX7.out.c1
        go_wp2_with fail
        have HLK : Hid (l.length = (l.take l.length).length) := by show _ = _; rw [List.length_take]; omega
        have HLD : Hid (0 = (l.drop l.length).length) := by show _ = _; rw [List.length_drop]; omega
        have HG7 : Hid (g < w7.heap.size) := Nat.lt_of_lt_of_le HG.out HB7.out.size
        have HR7 := Lib.hid (HR.out.later HG.out HB7.out)
        have HS1 : Hid (SrcD w7 (some ⟨g, o, none⟩) (c) (l.take l.length)) := srcD_row HG7.out (rowD_take HR7.out _)
        have HLB : Hid ((l.drop l.length).length ≤ 1000000 ∧ (l.take l.length).length ≤ 1000000) := by show _ ∧ _; rw [List.length_drop, List.length_take]; omega
        have HLE0 : Hid (([] : List Dp).length + (l.take l.length).length ≤ 4000000) := by have := HLB.out; show _ ≤ _; simp only [List.length_nil]; omega
        have HLE1 : Hid ((l.take l.length).length + [(⟨s, sa, sc, IX⟩ : Dp)].length ≤ 4000000) := by have := HLB.out; show _ ≤ _; simp only [List.length_singleton]; omega
        have HLE2 : Hid ((l.take l.length ++ [(⟨s, sa, sc, IX⟩ : Dp)]).length + (l.drop l.length).length ≤ 4000000) := by have := HLB.out; show _ ≤ _; rw [List.length_append, List.length_singleton]; omega
        have HADD2 : Hid (addD (toD l) s X = toD (l.take l.length ++ [(⟨s, sa, sc, IX⟩ : Dp)] ++ l.drop l.length)) := by
          show _ = _
          rw [HADD.out, toD_append, toD_append, toD_take, toD_drop, List.append_assoc, ← HIX.out]
          rfl
        have HMEM : Hid (∀ y ∈ l.take l.length ++ [(⟨s, sa, sc, IX⟩ : Dp)] ++ l.drop l.length, IdsAt w7 y) := by
          intro y hy
          rw [List.mem_append, List.mem_append] at hy
          rcases hy with (hy | hy) | hy
          · exact (HL.out.1 y (List.mem_of_mem_take hy)).later HB7.out
          · rw [List.mem_singleton] at hy
            subst hy
            exact HM.out
          · exact (HL.out.1 y (List.mem_of_mem_drop hy)).later HB7.out
        have HS2 : Hid (SrcD w7 (some ⟨g, o + l.length * 2, none⟩) (c - l.length) (l.drop l.length)) := srcD_row HG7.out (rowD_drop HR7.out _)
        refine wp_region_held_drew (S := fun w' => Below w7.heap.size w7 w') (by kernel_rfl) ⟨rfl, rfl, rfl, Nat.le_refl _, fun _ _ => rfl⟩ (fun hHeld => ?_)
        have HWS : Hid (w7.heap.size ≤ w7.drew.heap.size) := Nat.le_refl _
        generalize w7.drew = wS at *
        refine wpAnyH_take (i := 1) (oi := { dst := some 62, op := Op.move (Operand.tmp 0), type := 22, pos := "ref.go:51", after := #[], guard := none }) (v := ?v1x33) rfl (by kernel_rfl) (by kernel_rfl) (by kernel_rfl) (fun _ _ _ h => h) (Or.inl ⟨by rfl, ?hy1x33⟩) hHeld ?rest1x33
        case hy1x33 => (intro w' hSw; go_simp; try with_reducible rfl)
        try simp only [Act.put, List.setIfInBounds_toArray, List.set_cons_zero, List.set_cons_succ]
        refine wpAnyH_take (i := 2) (oi := { dst := some 63, op := Op.move (Operand.tmp 7), type := 3, pos := "ref.go:51", after := #[], guard := none }) (v := ?v2x34) rfl (by kernel_rfl) (by kernel_rfl) (by kernel_rfl) (fun _ _ _ h => h) (Or.inl ⟨by rfl, ?hy2x34⟩) hHeld ?rest2x34
        case hy2x34 => (intro w' hSw; go_simp; try with_reducible rfl)
        try simp only [Act.put, List.setIfInBounds_toArray, List.set_cons_zero, List.set_cons_succ]
        refine wpAnyH_take (i := 3) (oi := { dst := some 64, op := Op.slice 22 (Operand.tmp 62) none (some (Operand.tmp 63)) none, type := 22, pos := "ref.go:51", after := #[{ on := 1, ground := Ground.data }, { on := 2, ground := Ground.data }], guard := none }) (v := ?v3x35) rfl (by kernel_rfl) (by kernel_rfl) (by kernel_rfl) (fun _ _ _ h => h) (Or.inl ⟨by rfl, ?hy3x35⟩) hHeld ?rest3x35
        case hy3x35 => (intro w' hSw; go_simp; try with_reducible rfl)
        try simp only [Act.put, List.setIfInBounds_toArray, List.set_cons_zero, List.set_cons_succ]
        refine wpAnyH_take (i := 5) (oi := { dst := some 66, op := Op.load 26 (Operand.tmp 8), type := 26, pos := "ref.go:51", after := #[], guard := none }) (v := ?v5x36) rfl (by kernel_rfl) (by kernel_rfl) (by kernel_rfl) (fun _ _ _ h => h) (Or.inl ⟨by rfl, ?hy5x36⟩) hHeld ?rest5x36
        case hy5x36 => (intro w' hSw; have s0 := cell_in hSw HLT.out HQ0.out; have s1 := cell_in hSw HLT.out HQ1.out; go_simp; try with_reducible rfl)
        try simp only [Act.put, List.setIfInBounds_toArray, List.set_cons_zero, List.set_cons_succ]
        refine wpAnyH_take (i := 8) (oi := { dst := some 69, op := Op.move (Operand.tmp 9), type := 22, pos := "ref.go:51", after := #[], guard := none }) (v := ?v8x37) rfl (by kernel_rfl) (by kernel_rfl) (by kernel_rfl) (fun _ _ _ h => h) (Or.inl ⟨by rfl, ?hy8x37⟩) hHeld ?rest8x37
        case hy8x37 => (intro w' hSw; go_simp; try with_reducible rfl)
        try simp only [Act.put, List.setIfInBounds_toArray, List.set_cons_zero, List.set_cons_succ]
        refine wpAnyH_ready (rs := [0, 6]) (by kernel_rfl) (by simp) ?_
        refine AllReadyH.cons (o := { dst := some 61, op := Op.buildSlice 22 0 #[], type := 22, pos := "ref.go:51", after := #[], guard := none }) rfl (fun K hK => ?_) (AllReadyH.cons (o := { dst := some 67, op := Op.buildSlice 22 1 #[(0, Operand.tmp 66)], type := 22, pos := "ref.go:51", after := #[{ on := 5, ground := Ground.data }], guard := none }) rfl (fun K hK => ?_) AllReadyH.nil)
        · go_simp
          have HE : Hid (OwnD (wS.alloc (Obj.cells #[] 26)) w7.heap.size (.slice (some ⟨wS.heap.size, 0, none⟩) 0 0) []) := (own_emptyD wS).monoA HWS.out
          refine hK.out _ _ (blAlloc hHeld _) (fun hHeldN => ?_)
          clear hK K
          clear hHeld
          have hHeld := hHeldN
          clear hHeldN
          try simp only [Act.put, List.setIfInBounds_toArray, List.set_cons_zero, List.set_cons_succ]
          generalize wS.alloc (Obj.cells #[] 26) = wA at *
          refine wpAnyH_ready (rs := [4, 6]) (by kernel_rfl) (by simp) ?_
          refine AllReadyH.cons (o := { dst := some 65, op := Op.call { callee := Callee.builtin Builtin.append, args := #[Operand.tmp 61, Operand.tmp 64], argTypes := #[22, 22] }, type := 22, pos := "ref.go:51", after := #[{ on := 0, ground := Ground.data }, { on := 3, ground := Ground.data }], guard := none }) rfl (fun K hK => ?_) (AllReadyH.cons (o := { dst := some 67, op := Op.buildSlice 22 1 #[(0, Operand.tmp 66)], type := 22, pos := "ref.go:51", after := #[{ on := 5, ground := Ground.data }], guard := none }) rfl (fun K hK => ?_) AllReadyH.nil)
          · rw [if_pos (by rfl)]
            refine wp_append_dp _ _ rfl w7.heap.size _ [] rfl HE.out (some ⟨g, o, none⟩) (l.length) (c) (l.take l.length) rfl HLK.out (HS1.out.later hHeld) HLE0.out hHeld.size ?_
            intro v4 wC hown hgrow
            have HO4 : Hid (OwnD wC w7.heap.size v4 (l.take l.length)) := hown
            refine hK.out _ _ (grown_belowD hHeld HE.out (Nat.le_refl _) hHeld.size hgrow) (fun hHeldN => ?_)
            clear hown hgrow hK K
            clear hHeld
            have hHeld := hHeldN
            clear hHeldN
            try simp only [Act.put, List.setIfInBounds_toArray, List.set_cons_zero, List.set_cons_succ]
            refine wpAnyH_ready (rs := [6]) (by kernel_rfl) (by simp) ?_
            refine AllReadyH.cons (o := { dst := some 67, op := Op.buildSlice 22 1 #[(0, Operand.tmp 66)], type := 22, pos := "ref.go:51", after := #[{ on := 5, ground := Ground.data }], guard := none }) rfl (fun K hK => ?_) AllReadyH.nil
            go_simp
            have HSs : Hid (SrcD (wC.alloc (Obj.cells #[Value.int IntKind.i64 s, Value.slice sa IX.length sc] 26)) (some ⟨wC.heap.size, 0, none⟩) 1 [(⟨s, sa, sc, IX⟩ : Dp)]) := newD wC (⟨s, sa, sc, IX⟩ : Dp) 1
            have HO4b := Lib.hid (HO4.out.later (blAlloc (Below.refl _ _) (Obj.cells #[Value.int IntKind.i64 s, Value.slice sa IX.length sc] 26)))
            refine hK.out _ _ (blAlloc hHeld _) (fun hHeldN => ?_)
            clear hK K HO4
            have HO4 := HO4b
            clear HO4b
            clear hHeld
            have hHeld := hHeldN
            clear hHeldN
            try simp only [Act.put, List.setIfInBounds_toArray, List.set_cons_zero, List.set_cons_succ]
            refine wpAnyH_ready (rs := [7]) (by kernel_rfl) (by simp) ?_
            refine AllReadyH.cons (o := { dst := some 68, op := Op.call { callee := Callee.builtin Builtin.append, args := #[Operand.tmp 65, Operand.tmp 67], argTypes := #[22, 22] }, type := 22, pos := "ref.go:51", after := #[{ on := 4, ground := Ground.data }, { on := 6, ground := Ground.data }, { on := 4, ground := Ground.chain }], guard := none }) rfl (fun K hK => ?_) AllReadyH.nil
            rw [if_pos (by rfl)]
            refine wp_append_dp _ _ rfl w7.heap.size _ (l.take l.length) rfl HO4.out (some ⟨wC.heap.size, 0, none⟩) 1 1 [(⟨s, sa, sc, IX⟩ : Dp)] rfl rfl HSs.out HLE1.out hHeld.size ?_
            intro v7 wD hown hgrow
            have HO7 := Lib.hid hown
            refine hK.out _ _ (grown_belowD hHeld HO4.out (Nat.le_refl _) hHeld.size hgrow) (fun hHeldN => ?_)
            clear hown hgrow
            clear hHeld
            have hHeld := hHeldN
            clear hHeldN
            clear hK K
            try simp only [Act.put, List.setIfInBounds_toArray, List.set_cons_zero, List.set_cons_succ]
            refine wpAnyH_ready (rs := [9]) (by kernel_rfl) (by simp) ?_
            refine AllReadyH.cons (o := { dst := some 70, op := Op.call { callee := Callee.builtin Builtin.append, args := #[Operand.tmp 68, Operand.tmp 69], argTypes := #[22, 22] }, type := 22, pos := "ref.go:51", after := #[{ on := 7, ground := Ground.data }, { on := 8, ground := Ground.data }, { on := 7, ground := Ground.chain }], guard := none }) rfl (fun K hK => ?_) AllReadyH.nil
            rw [if_pos (by rfl)]
            refine wp_append_dp _ _ rfl w7.heap.size _ (l.take l.length ++ [(⟨s, sa, sc, IX⟩ : Dp)]) rfl HO7.out (some ⟨g, o + l.length * 2, none⟩) (0) (c - l.length) (l.drop l.length) rfl HLD.out (HS2.out.later hHeld) HLE2.out hHeld.size ?_
            intro v11 wE hown hgrow
            have HO11 := Lib.hid hown
            refine hK.out _ _ (grown_belowD hHeld HO7.out (Nat.le_refl _) hHeld.size hgrow) (fun hHeldN => ?_)
            clear hown hgrow
            clear hHeld
            have hHeld := hHeldN
            clear hHeldN
            clear hK K
            try simp only [Act.put, List.setIfInBounds_toArray, List.set_cons_zero, List.set_cons_succ]
            refine wpAnyH_take (i := 10) (oi := { dst := some 6, op := Op.assign (Operand.tmp 70), type := 22, pos := "ref.go:51", after := #[{ on := 9, ground := Ground.data }, { on := 9, ground := Ground.chain }, { on := 0, ground := Ground.phase }, { on := 1, ground := Ground.phase }, { on := 2, ground := Ground.phase }, { on := 3, ground := Ground.phase }, { on := 4, ground := Ground.phase }, { on := 5, ground := Ground.phase }, { on := 6, ground := Ground.phase }, { on := 7, ground := Ground.phase }, { on := 8, ground := Ground.phase }, { on := 9, ground := Ground.phase }], guard := none }) (v := ?v10x38) rfl (by kernel_rfl) (by kernel_rfl) (by kernel_rfl) (fun _ _ _ h => h) (Or.inl ⟨by rfl, ?hy10x38⟩) hHeld ?rest10x38
            case hy10x38 => (intro w' hSw; go_simp; try with_reducible rfl)
            try simp only [Act.put, List.setIfInBounds_toArray, List.set_cons_zero, List.set_cons_succ]
            refine wpAnyH_done (by kernel_rfl) ?_ _
            go_wp2
            go_ret
            exact retD_own HADD2.out HO11.out (fun y hy => (HMEM.out y hy).later hHeld) (blThen HB7.out hHeld)
          · go_simp
            have HS0 : Hid (SrcD (wA.alloc (Obj.cells #[Value.int IntKind.i64 s, Value.slice sa IX.length sc] 26)) (some ⟨wA.heap.size, 0, none⟩) 1 [(⟨s, sa, sc, IX⟩ : Dp)]) := newD wA (⟨s, sa, sc, IX⟩ : Dp) 1
            have HE2 := Lib.hid (HE.out.later (blAlloc (Below.refl _ _) (Obj.cells #[Value.int IntKind.i64 s, Value.slice sa IX.length sc] 26)))
            have HX9 : Hid (∀ c, (Value.slice (some ⟨wS.heap.size, 0, none⟩) 0 0).ownBlock = some c → c < wA.heap.size) := fun c h => (HE.out.block c h).2
            refine hK.out _ _ (blAlloc hHeld _) (fun hHeldN => ?_)
            clear hK K
            clear hHeld
            have hHeld := hHeldN
            clear hHeldN
            try simp only [Act.put, List.setIfInBounds_toArray, List.set_cons_zero, List.set_cons_succ]
            refine wpAnyH_ready (rs := [4]) (by kernel_rfl) (by simp) ?_
            refine AllReadyH.cons (o := { dst := some 65, op := Op.call { callee := Callee.builtin Builtin.append, args := #[Operand.tmp 61, Operand.tmp 64], argTypes := #[22, 22] }, type := 22, pos := "ref.go:51", after := #[{ on := 0, ground := Ground.data }, { on := 3, ground := Ground.data }], guard := none }) rfl (fun K hK => ?_) AllReadyH.nil
            rw [if_pos (by rfl)]
            refine wp_append_dp _ _ rfl w7.heap.size _ [] rfl HE2.out (some ⟨g, o, none⟩) (l.length) (c) (l.take l.length) rfl HLK.out (HS1.out.later hHeld) HLE0.out hHeld.size ?_
            intro v4 wC hown hgrow
            have HO4 : Hid (OwnD wC w7.heap.size v4 (l.take l.length)) := hown
            have HSs := Lib.hid (HS0.out.grown (fun b' o' h e => by
              simp only [Option.some.injEq, Addr.mk.injEq] at h
              exact Nat.lt_irrefl _ (Nat.lt_of_lt_of_le (HX9.out _ e) (Nat.le_of_eq h.1))) hgrow)
            refine hK.out _ _ (grown_belowD hHeld HE2.out (Nat.le_refl _) hHeld.size hgrow) (fun hHeldN => ?_)
            clear hown hgrow hK K
            clear hHeld
            have hHeld := hHeldN
            clear hHeldN
            try simp only [Act.put, List.setIfInBounds_toArray, List.set_cons_zero, List.set_cons_succ]
            refine wpAnyH_ready (rs := [7]) (by kernel_rfl) (by simp) ?_
            refine AllReadyH.cons (o := { dst := some 68, op := Op.call { callee := Callee.builtin Builtin.append, args := #[Operand.tmp 65, Operand.tmp 67], argTypes := #[22, 22] }, type := 22, pos := "ref.go:51", after := #[{ on := 4, ground := Ground.data }, { on := 6, ground := Ground.data }, { on := 4, ground := Ground.chain }], guard := none }) rfl (fun K hK => ?_) AllReadyH.nil
            rw [if_pos (by rfl)]
            refine wp_append_dp _ _ rfl w7.heap.size _ (l.take l.length) rfl HO4.out (some ⟨wA.heap.size, 0, none⟩) 1 1 [(⟨s, sa, sc, IX⟩ : Dp)] rfl rfl HSs.out HLE1.out hHeld.size ?_
            intro v7 wD hown hgrow
            have HO7 := Lib.hid hown
            refine hK.out _ _ (grown_belowD hHeld HO4.out (Nat.le_refl _) hHeld.size hgrow) (fun hHeldN => ?_)
            clear hown hgrow
            clear hHeld
            have hHeld := hHeldN
            clear hHeldN
            clear hK K
            try simp only [Act.put, List.setIfInBounds_toArray, List.set_cons_zero, List.set_cons_succ]
            refine wpAnyH_ready (rs := [9]) (by kernel_rfl) (by simp) ?_
            refine AllReadyH.cons (o := { dst := some 70, op := Op.call { callee := Callee.builtin Builtin.append, args := #[Operand.tmp 68, Operand.tmp 69], argTypes := #[22, 22] }, type := 22, pos := "ref.go:51", after := #[{ on := 7, ground := Ground.data }, { on := 8, ground := Ground.data }, { on := 7, ground := Ground.chain }], guard := none }) rfl (fun K hK => ?_) AllReadyH.nil
            rw [if_pos (by rfl)]
            refine wp_append_dp _ _ rfl w7.heap.size _ (l.take l.length ++ [(⟨s, sa, sc, IX⟩ : Dp)]) rfl HO7.out (some ⟨g, o + l.length * 2, none⟩) (0) (c - l.length) (l.drop l.length) rfl HLD.out (HS2.out.later hHeld) HLE2.out hHeld.size ?_
            intro v11 wE hown hgrow
            have HO11 := Lib.hid hown
            refine hK.out _ _ (grown_belowD hHeld HO7.out (Nat.le_refl _) hHeld.size hgrow) (fun hHeldN => ?_)
            clear hown hgrow
            clear hHeld
            have hHeld := hHeldN
            clear hHeldN
            clear hK K
            try simp only [Act.put, List.setIfInBounds_toArray, List.set_cons_zero, List.set_cons_succ]
            refine wpAnyH_take (i := 10) (oi := { dst := some 6, op := Op.assign (Operand.tmp 70), type := 22, pos := "ref.go:51", after := #[{ on := 9, ground := Ground.data }, { on := 9, ground := Ground.chain }, { on := 0, ground := Ground.phase }, { on := 1, ground := Ground.phase }, { on := 2, ground := Ground.phase }, { on := 3, ground := Ground.phase }, { on := 4, ground := Ground.phase }, { on := 5, ground := Ground.phase }, { on := 6, ground := Ground.phase }, { on := 7, ground := Ground.phase }, { on := 8, ground := Ground.phase }, { on := 9, ground := Ground.phase }], guard := none }) (v := ?v10x39) rfl (by kernel_rfl) (by kernel_rfl) (by kernel_rfl) (fun _ _ _ h => h) (Or.inl ⟨by rfl, ?hy10x39⟩) hHeld ?rest10x39
            case hy10x39 => (intro w' hSw; go_simp; try with_reducible rfl)
            try simp only [Act.put, List.setIfInBounds_toArray, List.set_cons_zero, List.set_cons_succ]
            refine wpAnyH_done (by kernel_rfl) ?_ _
            go_wp2
            go_ret
            exact retD_own HADD2.out HO11.out (fun y hy => (HMEM.out y hy).later hHeld) (blThen HB7.out hHeld)
        · go_simp
          have HS0 : Hid (SrcD (wS.alloc (Obj.cells #[Value.int IntKind.i64 s, Value.slice sa IX.length sc] 26)) (some ⟨wS.heap.size, 0, none⟩) 1 [(⟨s, sa, sc, IX⟩ : Dp)]) := newD wS (⟨s, sa, sc, IX⟩ : Dp) 1
          have hW : wS.heap.size < (wS.alloc (Obj.cells #[Value.int IntKind.i64 s, Value.slice sa IX.length sc] 26)).heap.size := by simp
          refine hK.out _ _ (blAlloc hHeld _) (fun hHeldN => ?_)
          clear hK K
          clear hHeld
          have hHeld := hHeldN
          clear hHeldN
          try simp only [Act.put, List.setIfInBounds_toArray, List.set_cons_zero, List.set_cons_succ]
          generalize wS.alloc (Obj.cells #[Value.int IntKind.i64 s, Value.slice sa IX.length sc] 26) = wA at *
          refine wpAnyH_ready (rs := [0]) (by kernel_rfl) (by simp) ?_
          refine AllReadyH.cons (o := { dst := some 61, op := Op.buildSlice 22 0 #[], type := 22, pos := "ref.go:51", after := #[], guard := none }) rfl (fun K hK => ?_) AllReadyH.nil
          go_simp
          have HE : Hid (OwnD (wA.alloc (Obj.cells #[] 26)) w7.heap.size (.slice (some ⟨wA.heap.size, 0, none⟩) 0 0) []) := (own_emptyD wA).monoA (Nat.le_trans HWS.out (Nat.le_of_lt hW))
          have HS1b := Lib.hid (HS0.out.later (blAlloc (Below.refl _ _) (Obj.cells #[] 26)))
          refine hK.out _ _ (blAlloc hHeld _) (fun hHeldN => ?_)
          clear hK K
          clear hHeld
          have hHeld := hHeldN
          clear hHeldN
          try simp only [Act.put, List.setIfInBounds_toArray, List.set_cons_zero, List.set_cons_succ]
          refine wpAnyH_ready (rs := [4]) (by kernel_rfl) (by simp) ?_
          refine AllReadyH.cons (o := { dst := some 65, op := Op.call { callee := Callee.builtin Builtin.append, args := #[Operand.tmp 61, Operand.tmp 64], argTypes := #[22, 22] }, type := 22, pos := "ref.go:51", after := #[{ on := 0, ground := Ground.data }, { on := 3, ground := Ground.data }], guard := none }) rfl (fun K hK => ?_) AllReadyH.nil
          rw [if_pos (by rfl)]
          refine wp_append_dp _ _ rfl w7.heap.size _ [] rfl HE.out (some ⟨g, o, none⟩) (l.length) (c) (l.take l.length) rfl HLK.out (HS1.out.later hHeld) HLE0.out hHeld.size ?_
          intro v4 wC hown hgrow
          have HO4 : Hid (OwnD wC w7.heap.size v4 (l.take l.length)) := hown
          have HX9 : Hid (∀ c, (Value.slice (some ⟨wA.heap.size, 0, none⟩) 0 0).ownBlock = some c → wS.heap.size < c) := fun c h => (by simp only [Value.ownBlock, Option.some.injEq] at h; rw [← h]; exact hW)
          have HSs := Lib.hid (HS1b.out.grown (fun b' o' h e => by
            simp only [Option.some.injEq, Addr.mk.injEq] at h
            exact Nat.lt_irrefl _ (Nat.lt_of_le_of_lt (Nat.le_of_eq h.1.symm) (HX9.out _ e))) hgrow)
          refine hK.out _ _ (grown_belowD hHeld HE.out (Nat.le_refl _) hHeld.size hgrow) (fun hHeldN => ?_)
          clear hown hgrow hK K
          clear hHeld
          have hHeld := hHeldN
          clear hHeldN
          try simp only [Act.put, List.setIfInBounds_toArray, List.set_cons_zero, List.set_cons_succ]
          refine wpAnyH_ready (rs := [7]) (by kernel_rfl) (by simp) ?_
          refine AllReadyH.cons (o := { dst := some 68, op := Op.call { callee := Callee.builtin Builtin.append, args := #[Operand.tmp 65, Operand.tmp 67], argTypes := #[22, 22] }, type := 22, pos := "ref.go:51", after := #[{ on := 4, ground := Ground.data }, { on := 6, ground := Ground.data }, { on := 4, ground := Ground.chain }], guard := none }) rfl (fun K hK => ?_) AllReadyH.nil
          rw [if_pos (by rfl)]
          refine wp_append_dp _ _ rfl w7.heap.size _ (l.take l.length) rfl HO4.out (some ⟨wS.heap.size, 0, none⟩) 1 1 [(⟨s, sa, sc, IX⟩ : Dp)] rfl rfl HSs.out HLE1.out hHeld.size ?_
          intro v7 wD hown hgrow
          have HO7 := Lib.hid hown
          refine hK.out _ _ (grown_belowD hHeld HO4.out (Nat.le_refl _) hHeld.size hgrow) (fun hHeldN => ?_)
          clear hown hgrow
          clear hHeld
          have hHeld := hHeldN
          clear hHeldN
          clear hK K
          try simp only [Act.put, List.setIfInBounds_toArray, List.set_cons_zero, List.set_cons_succ]
          refine wpAnyH_ready (rs := [9]) (by kernel_rfl) (by simp) ?_
          refine AllReadyH.cons (o := { dst := some 70, op := Op.call { callee := Callee.builtin Builtin.append, args := #[Operand.tmp 68, Operand.tmp 69], argTypes := #[22, 22] }, type := 22, pos := "ref.go:51", after := #[{ on := 7, ground := Ground.data }, { on := 8, ground := Ground.data }, { on := 7, ground := Ground.chain }], guard := none }) rfl (fun K hK => ?_) AllReadyH.nil
          rw [if_pos (by rfl)]
          refine wp_append_dp _ _ rfl w7.heap.size _ (l.take l.length ++ [(⟨s, sa, sc, IX⟩ : Dp)]) rfl HO7.out (some ⟨g, o + l.length * 2, none⟩) (0) (c - l.length) (l.drop l.length) rfl HLD.out (HS2.out.later hHeld) HLE2.out hHeld.size ?_
          intro v11 wE hown hgrow
          have HO11 := Lib.hid hown
          refine hK.out _ _ (grown_belowD hHeld HO7.out (Nat.le_refl _) hHeld.size hgrow) (fun hHeldN => ?_)
          clear hown hgrow
          clear hHeld
          have hHeld := hHeldN
          clear hHeldN
          clear hK K
          try simp only [Act.put, List.setIfInBounds_toArray, List.set_cons_zero, List.set_cons_succ]
          refine wpAnyH_take (i := 10) (oi := { dst := some 6, op := Op.assign (Operand.tmp 70), type := 22, pos := "ref.go:51", after := #[{ on := 9, ground := Ground.data }, { on := 9, ground := Ground.chain }, { on := 0, ground := Ground.phase }, { on := 1, ground := Ground.phase }, { on := 2, ground := Ground.phase }, { on := 3, ground := Ground.phase }, { on := 4, ground := Ground.phase }, { on := 5, ground := Ground.phase }, { on := 6, ground := Ground.phase }, { on := 7, ground := Ground.phase }, { on := 8, ground := Ground.phase }, { on := 9, ground := Ground.phase }], guard := none }) (v := ?v10x40) rfl (by kernel_rfl) (by kernel_rfl) (by kernel_rfl) (fun _ _ _ h => h) (Or.inl ⟨by rfl, ?hy10x40⟩) hHeld ?rest10x40
          case hy10x40 => (intro w' hSw; go_simp; try with_reducible rfl)
          try simp only [Act.put, List.setIfInBounds_toArray, List.set_cons_zero, List.set_cons_succ]
          refine wpAnyH_done (by kernel_rfl) ?_ _
          go_wp2
          go_ret
          exact retD_own HADD2.out HO11.out (fun y hy => (HMEM.out y hy).later hHeld) (blThen HB7.out hHeld)

set_option maxRecDepth 100000 in
set_option maxHeartbeats 16000000 in
theorem radd_nil (s : Int) (ax : Option Addr) (cx : Nat) (X : List (Int × Int)) (w : World) (hxl : X.length ≤ 1000000) (hx : SL w ax X) (hxn : ax = none → cx = 0) :
    Calls Tryz.prog 27 #[.slice none 0 0, .int .i64 s, .slice ax X.length cx] w (RetD w (addD [] s X)) := by
  have HX := Lib.hid hx
  have HNA := Lib.hid hxn
  have HXL := Lib.hid hxl
  clear hx hxn
  go_enter Tryz.func27, Tryz.ntmps27
  go_wp2_with fail
  go_loopw [7] (fun i wr => i = .int .i64 0 ∧ Below w.heap.size w wr) (fun i _ => 0)
  case atStart => exact ⟨rfl, Below.refl _ _⟩
  case round =>
    obtain ⟨rfl, hbel⟩ := hrel
    have HB := Lib.hid hbel
    clear hbel
    have HBX : Hid (Bx (wr.alloc (.cells #[.int .i64 s, .slice none 0 0] 26)) wr.heap.size s (.slice none 0 0)) := by
      show (wr.heap.push _)[wr.heap.size]? = _
      simp
    have HB1 : Hid (Below w.heap.size w (wr.alloc (.cells #[.int .i64 s, .slice none 0 0] 26))) := blAlloc HB.out _
    have HWB : Hid (w.heap.size ≤ wr.heap.size) := HB.out.size
    have HSA : Hid (SL (wr.alloc (.cells #[.int .i64 s, .slice none 0 0] 26)) ax X) := HX.out.later HB1.out
    have HSX : Hid (SL (wr.alloc (.cells #[.int .i64 s, .slice none 0 0] 26)) none []) := SL.nil_ok _ _
    have HNX : Hid ((none : Option Addr) = none → 0 = 0) := fun _ => rfl
    have HLN : Hid (([] : List (Int × Int)).length + X.length ≤ 1000000) := by have := HXL.out; show _ ≤ _; simpa using this
    have HE9 : Hid (OwnL ((wr.alloc (.cells #[.int .i64 s, .slice none 0 0] 26)).alloc (.cells #[] 42)) (wr.alloc (.cells #[.int .i64 s, .slice none 0 0] 26)).heap.size (.slice (some ⟨wr.heap.size + 1, 0, none⟩) 0 0) []) := by
      have h := own_emptyL (wr.alloc (.cells #[.int .i64 s, .slice none 0 0] 26))
      have e : (wr.alloc (.cells #[.int .i64 s, .slice none 0 0] 26)).heap.size = wr.heap.size + 1 := by simp
      show OwnL _ _ _ _
      rw [e] at h ⊢
      exact h
    have HLZ : Hid (([] : List (Int × Int)).length + (([] : List (Int × Int))).length ≤ 4000000) := by have := HLN.out; show _ ≤ _; simp only [List.length_nil]; omega
    have HLY : Hid ((([] : List (Int × Int))).length + X.length ≤ 4000000) := by have := HLN.out; show _ ≤ _; omega
    have HLX : Hid ((([] : List (Int × Int)) ++ X).length ≤ 1000000) := by have := HLN.out; show _ ≤ _; rw [List.length_append]; omega
    go_wp2_with (first
      | (go_at_call 113; go_must (refine (refsort_any ga gc ((([] : List (Int × Int))) ++ X) w5 HLX.out HGS.out).mono ?_; rintro e w6 ⟨sa, sc, rfl, h1, h2, h3, h5⟩; have HSR := Lib.hid h1; have HSN := Lib.hid h2; have HSC := Lib.hid h3; have HB6 : Hid (Below W1.heap.size W1 w6) := blThen HB5.out h5; have HBX6 := Lib.hid (HBX.out.later HB6.out HBX.out.lt); have q1 := HBX6.out.c1; have q2 := HBX6.out.f 1; have q3 := HBX6.out.lt; clear h1 h2 h3 h5))
      | (at_builtin; (refine append_st rfl (.tmp 56) (.tmp 57) rfl W1.heap.size _ (([] : List (Int × Int))) rfl H4.out ax cx X rfl (HSA.out.later HB4.out) HNA.out HLY.out HB4.out.size ?_; intro v5 w5 h1 h2; have H5 := Lib.hid h1; have HB5 : Hid (Below W1.heap.size W1 w5) := grown_below HB4.out H4.out (Nat.le_refl _) HB4.out.size h2; obtain ⟨ga, gc, rfl, gs, -⟩ := h1.sl; have HGS := Lib.hid gs; clear h1 h2 gs))
      | (at_builtin; (refine append_st rfl (.tmp 53) (.tmp 55) rfl (wr.alloc (.cells #[.int .i64 s, .slice none 0 0] 26)).heap.size (.slice (some ⟨wr.heap.size + 1, 0, none⟩) 0 0) [] rfl HE9.out none 0 (([] : List (Int × Int))) rfl (HSX.out.later (blAlloc (Below.refl _ _) _)) HNX.out HLZ.out (by simp) ?_; intro v4 w4 h1 h2; have H4 := Lib.hid h1; have HB4 : Hid (Below (wr.alloc (.cells #[.int .i64 s, .slice none 0 0] 26)).heap.size (wr.alloc (.cells #[.int .i64 s, .slice none 0 0] 26)) w4) := grown_below (blAlloc (Below.refl _ _) _) HE9.out (Nat.le_refl _) (by simp) h2; clear h1 h2; generalize wr.alloc (.cells #[.int .i64 s, .slice none 0 0] 26) = W1 at *)))
    have HSR1 : Hid (SL w6 sa (sortL X)) := HSR.out
    have HSN1 : Hid (sa = none → sc = 0) := HSN.out
    have HSC1 : Hid ((sortL X).length ≤ sc) := HSC.out
    have HBX7 := Lib.hid (bx_set HBX6.out (.slice sa (sortL X).length sc))
    have HB7 : Hid (Below w.heap.size w (w6.setCell ⟨wr.heap.size, 1, none⟩ (.slice sa (sortL X).length sc))) := blSet (HB1.out.trans (HB6.out.mono HB1.out.size)) HWB.out _
    have HM : Hid (IdsAt (w6.setCell ⟨wr.heap.size, 1, none⟩ (.slice sa (sortL X).length sc)) ⟨s, sa, sc, sortL X⟩) := ⟨sl_setbx HBX6.out (fun i h => by cases h) HSR1.out, HSN1.out, HSC1.out⟩
    clear q1 q2 q3
    generalize w6.setCell ⟨wr.heap.size, 1, none⟩ (.slice sa (sortL X).length sc) = w7 at *
    clear HSR HSC HSR1 HSC1 HBX6 HGS H5 HB5 H4 HB4 HE9
    generalize hIX : sortL X = IX at *
    have HIX := Lib.hid hIX
    clear hIX
    have HLT := Lib.hid HBX7.out.lt
    have HQ0 := Lib.hid HBX7.out.c0
    have HQ1 := Lib.hid HBX7.out.c1
    go_wp2_with fail
    have HS1 : Hid (SrcD w7 none 0 ([] : List Dp)) := srcD_nil _ (fun _ => rfl)
    have HS2 := HS1
    have HLK : Hid (0 = ([] : List Dp).length) := rfl
    have HLD := HLK
    have HLE0 : Hid ((([] : List Dp)).length + (([] : List Dp)).length ≤ 4000000) := Nat.zero_le _
    have HLE1 : Hid ((([] : List Dp)).length + [(⟨s, sa, sc, IX⟩ : Dp)].length ≤ 4000000) := by show _ ≤ _; simp
    have HLE2 : Hid ((([] : List Dp) ++ [(⟨s, sa, sc, IX⟩ : Dp)]).length + (([] : List Dp)).length ≤ 4000000) := by show _ ≤ _; simp
    have HADD2 : Hid (addD [] s X = toD (([] : List Dp) ++ [(⟨s, sa, sc, IX⟩ : Dp)] ++ ([] : List Dp))) := by
      show _ = _
      rw [addD_nil, ← HIX.out]
      rfl
    have HMEM : Hid (∀ y ∈ ([] : List Dp) ++ [(⟨s, sa, sc, IX⟩ : Dp)] ++ ([] : List Dp), IdsAt w7 y) := by
      intro y hy
      simp only [List.nil_append, List.append_nil, List.mem_singleton] at hy
      subst hy
      exact HM.out
    refine wp_region_held_drew (S := fun w' => Below w7.heap.size w7 w') (by kernel_rfl) ⟨rfl, rfl, rfl, Nat.le_refl _, fun _ _ => rfl⟩ (fun hHeld => ?_)
    have HWS : Hid (w7.heap.size ≤ w7.drew.heap.size) := Nat.le_refl _
    generalize w7.drew = wS at *
    refine wpAnyH_take (i := 1) (oi := { dst := some 62, op := Op.move (Operand.tmp 0), type := 22, pos := "ref.go:51", after := #[], guard := none }) (v := ?v1x41) rfl (by kernel_rfl) (by kernel_rfl) (by kernel_rfl) (fun _ _ _ h => h) (Or.inl ⟨by rfl, ?hy1x41⟩) hHeld ?rest1x41
    case hy1x41 => (intro w' hSw; go_simp; try with_reducible rfl)
    try simp only [Act.put, List.setIfInBounds_toArray, List.set_cons_zero, List.set_cons_succ]
    refine wpAnyH_take (i := 2) (oi := { dst := some 63, op := Op.move (Operand.tmp 7), type := 3, pos := "ref.go:51", after := #[], guard := none }) (v := ?v2x42) rfl (by kernel_rfl) (by kernel_rfl) (by kernel_rfl) (fun _ _ _ h => h) (Or.inl ⟨by rfl, ?hy2x42⟩) hHeld ?rest2x42
    case hy2x42 => (intro w' hSw; go_simp; try with_reducible rfl)
    try simp only [Act.put, List.setIfInBounds_toArray, List.set_cons_zero, List.set_cons_succ]
    refine wpAnyH_take (i := 3) (oi := { dst := some 64, op := Op.slice 22 (Operand.tmp 62) none (some (Operand.tmp 63)) none, type := 22, pos := "ref.go:51", after := #[{ on := 1, ground := Ground.data }, { on := 2, ground := Ground.data }], guard := none }) (v := ?v3x43) rfl (by kernel_rfl) (by kernel_rfl) (by kernel_rfl) (fun _ _ _ h => h) (Or.inl ⟨by rfl, ?hy3x43⟩) hHeld ?rest3x43
    case hy3x43 => (intro w' hSw; go_simp; try with_reducible rfl)
    try simp only [Act.put, List.setIfInBounds_toArray, List.set_cons_zero, List.set_cons_succ]
    refine wpAnyH_take (i := 5) (oi := { dst := some 66, op := Op.load 26 (Operand.tmp 8), type := 26, pos := "ref.go:51", after := #[], guard := none }) (v := ?v5x44) rfl (by kernel_rfl) (by kernel_rfl) (by kernel_rfl) (fun _ _ _ h => h) (Or.inl ⟨by rfl, ?hy5x44⟩) hHeld ?rest5x44
    case hy5x44 => (intro w' hSw; have s0 := cell_in hSw HLT.out HQ0.out; have s1 := cell_in hSw HLT.out HQ1.out; go_simp; try with_reducible rfl)
    try simp only [Act.put, List.setIfInBounds_toArray, List.set_cons_zero, List.set_cons_succ]
    refine wpAnyH_take (i := 8) (oi := { dst := some 69, op := Op.move (Operand.tmp 9), type := 22, pos := "ref.go:51", after := #[], guard := none }) (v := ?v8x45) rfl (by kernel_rfl) (by kernel_rfl) (by kernel_rfl) (fun _ _ _ h => h) (Or.inl ⟨by rfl, ?hy8x45⟩) hHeld ?rest8x45
    case hy8x45 => (intro w' hSw; go_simp; try with_reducible rfl)
    try simp only [Act.put, List.setIfInBounds_toArray, List.set_cons_zero, List.set_cons_succ]
    refine wpAnyH_ready (rs := [0, 6]) (by kernel_rfl) (by simp) ?_
    refine AllReadyH.cons (o := { dst := some 61, op := Op.buildSlice 22 0 #[], type := 22, pos := "ref.go:51", after := #[], guard := none }) rfl (fun K hK => ?_) (AllReadyH.cons (o := { dst := some 67, op := Op.buildSlice 22 1 #[(0, Operand.tmp 66)], type := 22, pos := "ref.go:51", after := #[{ on := 5, ground := Ground.data }], guard := none }) rfl (fun K hK => ?_) AllReadyH.nil)
    · go_simp
      have HE : Hid (OwnD (wS.alloc (Obj.cells #[] 26)) w7.heap.size (.slice (some ⟨wS.heap.size, 0, none⟩) 0 0) []) := (own_emptyD wS).monoA HWS.out
      refine hK.out _ _ (blAlloc hHeld _) (fun hHeldN => ?_)
      clear hK K
      clear hHeld
      have hHeld := hHeldN
      clear hHeldN
      try simp only [Act.put, List.setIfInBounds_toArray, List.set_cons_zero, List.set_cons_succ]
      generalize wS.alloc (Obj.cells #[] 26) = wA at *
      refine wpAnyH_ready (rs := [4, 6]) (by kernel_rfl) (by simp) ?_
      refine AllReadyH.cons (o := { dst := some 65, op := Op.call { callee := Callee.builtin Builtin.append, args := #[Operand.tmp 61, Operand.tmp 64], argTypes := #[22, 22] }, type := 22, pos := "ref.go:51", after := #[{ on := 0, ground := Ground.data }, { on := 3, ground := Ground.data }], guard := none }) rfl (fun K hK => ?_) (AllReadyH.cons (o := { dst := some 67, op := Op.buildSlice 22 1 #[(0, Operand.tmp 66)], type := 22, pos := "ref.go:51", after := #[{ on := 5, ground := Ground.data }], guard := none }) rfl (fun K hK => ?_) AllReadyH.nil)
      · rw [if_pos (by rfl)]
        refine wp_append_dp _ _ rfl w7.heap.size _ [] rfl HE.out (none) (0) (0) (([] : List Dp)) rfl HLK.out (HS1.out.later hHeld) HLE0.out hHeld.size ?_
        intro v4 wC hown hgrow
        have HO4 : Hid (OwnD wC w7.heap.size v4 (([] : List Dp))) := hown
        refine hK.out _ _ (grown_belowD hHeld HE.out (Nat.le_refl _) hHeld.size hgrow) (fun hHeldN => ?_)
        clear hown hgrow hK K
        clear hHeld
        have hHeld := hHeldN
        clear hHeldN
        try simp only [Act.put, List.setIfInBounds_toArray, List.set_cons_zero, List.set_cons_succ]
        refine wpAnyH_ready (rs := [6]) (by kernel_rfl) (by simp) ?_
        refine AllReadyH.cons (o := { dst := some 67, op := Op.buildSlice 22 1 #[(0, Operand.tmp 66)], type := 22, pos := "ref.go:51", after := #[{ on := 5, ground := Ground.data }], guard := none }) rfl (fun K hK => ?_) AllReadyH.nil
        go_simp
        have HSs : Hid (SrcD (wC.alloc (Obj.cells #[Value.int IntKind.i64 s, Value.slice sa IX.length sc] 26)) (some ⟨wC.heap.size, 0, none⟩) 1 [(⟨s, sa, sc, IX⟩ : Dp)]) := newD wC (⟨s, sa, sc, IX⟩ : Dp) 1
        have HO4b := Lib.hid (HO4.out.later (blAlloc (Below.refl _ _) (Obj.cells #[Value.int IntKind.i64 s, Value.slice sa IX.length sc] 26)))
        refine hK.out _ _ (blAlloc hHeld _) (fun hHeldN => ?_)
        clear hK K HO4
        have HO4 := HO4b
        clear HO4b
        clear hHeld
        have hHeld := hHeldN
        clear hHeldN
        try simp only [Act.put, List.setIfInBounds_toArray, List.set_cons_zero, List.set_cons_succ]
        refine wpAnyH_ready (rs := [7]) (by kernel_rfl) (by simp) ?_
        refine AllReadyH.cons (o := { dst := some 68, op := Op.call { callee := Callee.builtin Builtin.append, args := #[Operand.tmp 65, Operand.tmp 67], argTypes := #[22, 22] }, type := 22, pos := "ref.go:51", after := #[{ on := 4, ground := Ground.data }, { on := 6, ground := Ground.data }, { on := 4, ground := Ground.chain }], guard := none }) rfl (fun K hK => ?_) AllReadyH.nil
        rw [if_pos (by rfl)]
        refine wp_append_dp _ _ rfl w7.heap.size _ (([] : List Dp)) rfl HO4.out (some ⟨wC.heap.size, 0, none⟩) 1 1 [(⟨s, sa, sc, IX⟩ : Dp)] rfl rfl HSs.out HLE1.out hHeld.size ?_
        intro v7 wD hown hgrow
        have HO7 := Lib.hid hown
        refine hK.out _ _ (grown_belowD hHeld HO4.out (Nat.le_refl _) hHeld.size hgrow) (fun hHeldN => ?_)
        clear hown hgrow
        clear hHeld
        have hHeld := hHeldN
        clear hHeldN
        clear hK K
        try simp only [Act.put, List.setIfInBounds_toArray, List.set_cons_zero, List.set_cons_succ]
        refine wpAnyH_ready (rs := [9]) (by kernel_rfl) (by simp) ?_
        refine AllReadyH.cons (o := { dst := some 70, op := Op.call { callee := Callee.builtin Builtin.append, args := #[Operand.tmp 68, Operand.tmp 69], argTypes := #[22, 22] }, type := 22, pos := "ref.go:51", after := #[{ on := 7, ground := Ground.data }, { on := 8, ground := Ground.data }, { on := 7, ground := Ground.chain }], guard := none }) rfl (fun K hK => ?_) AllReadyH.nil
        rw [if_pos (by rfl)]
        refine wp_append_dp _ _ rfl w7.heap.size _ (([] : List Dp) ++ [(⟨s, sa, sc, IX⟩ : Dp)]) rfl HO7.out (none) (0) (0) (([] : List Dp)) rfl HLD.out (HS2.out.later hHeld) HLE2.out hHeld.size ?_
        intro v11 wE hown hgrow
        have HO11 := Lib.hid hown
        refine hK.out _ _ (grown_belowD hHeld HO7.out (Nat.le_refl _) hHeld.size hgrow) (fun hHeldN => ?_)
        clear hown hgrow
        clear hHeld
        have hHeld := hHeldN
        clear hHeldN
        clear hK K
        try simp only [Act.put, List.setIfInBounds_toArray, List.set_cons_zero, List.set_cons_succ]
        refine wpAnyH_take (i := 10) (oi := { dst := some 6, op := Op.assign (Operand.tmp 70), type := 22, pos := "ref.go:51", after := #[{ on := 9, ground := Ground.data }, { on := 9, ground := Ground.chain }, { on := 0, ground := Ground.phase }, { on := 1, ground := Ground.phase }, { on := 2, ground := Ground.phase }, { on := 3, ground := Ground.phase }, { on := 4, ground := Ground.phase }, { on := 5, ground := Ground.phase }, { on := 6, ground := Ground.phase }, { on := 7, ground := Ground.phase }, { on := 8, ground := Ground.phase }, { on := 9, ground := Ground.phase }], guard := none }) (v := ?v10x46) rfl (by kernel_rfl) (by kernel_rfl) (by kernel_rfl) (fun _ _ _ h => h) (Or.inl ⟨by rfl, ?hy10x46⟩) hHeld ?rest10x46
        case hy10x46 => (intro w' hSw; go_simp; try with_reducible rfl)
        try simp only [Act.put, List.setIfInBounds_toArray, List.set_cons_zero, List.set_cons_succ]
        refine wpAnyH_done (by kernel_rfl) ?_ _
        go_wp2
        go_ret
        exact retD_own HADD2.out HO11.out (fun y hy => (HMEM.out y hy).later hHeld) (blThen HB7.out hHeld)
      · go_simp
        have HS0 : Hid (SrcD (wA.alloc (Obj.cells #[Value.int IntKind.i64 s, Value.slice sa IX.length sc] 26)) (some ⟨wA.heap.size, 0, none⟩) 1 [(⟨s, sa, sc, IX⟩ : Dp)]) := newD wA (⟨s, sa, sc, IX⟩ : Dp) 1
        have HE2 := Lib.hid (HE.out.later (blAlloc (Below.refl _ _) (Obj.cells #[Value.int IntKind.i64 s, Value.slice sa IX.length sc] 26)))
        have HX9 : Hid (∀ c, (Value.slice (some ⟨wS.heap.size, 0, none⟩) 0 0).ownBlock = some c → c < wA.heap.size) := fun c h => (HE.out.block c h).2
        refine hK.out _ _ (blAlloc hHeld _) (fun hHeldN => ?_)
        clear hK K
        clear hHeld
        have hHeld := hHeldN
        clear hHeldN
        try simp only [Act.put, List.setIfInBounds_toArray, List.set_cons_zero, List.set_cons_succ]
        refine wpAnyH_ready (rs := [4]) (by kernel_rfl) (by simp) ?_
        refine AllReadyH.cons (o := { dst := some 65, op := Op.call { callee := Callee.builtin Builtin.append, args := #[Operand.tmp 61, Operand.tmp 64], argTypes := #[22, 22] }, type := 22, pos := "ref.go:51", after := #[{ on := 0, ground := Ground.data }, { on := 3, ground := Ground.data }], guard := none }) rfl (fun K hK => ?_) AllReadyH.nil
        rw [if_pos (by rfl)]
        refine wp_append_dp _ _ rfl w7.heap.size _ [] rfl HE2.out (none) (0) (0) (([] : List Dp)) rfl HLK.out (HS1.out.later hHeld) HLE0.out hHeld.size ?_
        intro v4 wC hown hgrow
        have HO4 : Hid (OwnD wC w7.heap.size v4 (([] : List Dp))) := hown
        have HSs := Lib.hid (HS0.out.grown (fun b' o' h e => by
          simp only [Option.some.injEq, Addr.mk.injEq] at h
          exact Nat.lt_irrefl _ (Nat.lt_of_lt_of_le (HX9.out _ e) (Nat.le_of_eq h.1))) hgrow)
        refine hK.out _ _ (grown_belowD hHeld HE2.out (Nat.le_refl _) hHeld.size hgrow) (fun hHeldN => ?_)
        clear hown hgrow hK K
        clear hHeld
        have hHeld := hHeldN
        clear hHeldN
        try simp only [Act.put, List.setIfInBounds_toArray, List.set_cons_zero, List.set_cons_succ]
        refine wpAnyH_ready (rs := [7]) (by kernel_rfl) (by simp) ?_
        refine AllReadyH.cons (o := { dst := some 68, op := Op.call { callee := Callee.builtin Builtin.append, args := #[Operand.tmp 65, Operand.tmp 67], argTypes := #[22, 22] }, type := 22, pos := "ref.go:51", after := #[{ on := 4, ground := Ground.data }, { on := 6, ground := Ground.data }, { on := 4, ground := Ground.chain }], guard := none }) rfl (fun K hK => ?_) AllReadyH.nil
        rw [if_pos (by rfl)]
        refine wp_append_dp _ _ rfl w7.heap.size _ (([] : List Dp)) rfl HO4.out (some ⟨wA.heap.size, 0, none⟩) 1 1 [(⟨s, sa, sc, IX⟩ : Dp)] rfl rfl HSs.out HLE1.out hHeld.size ?_
        intro v7 wD hown hgrow
        have HO7 := Lib.hid hown
        refine hK.out _ _ (grown_belowD hHeld HO4.out (Nat.le_refl _) hHeld.size hgrow) (fun hHeldN => ?_)
        clear hown hgrow
        clear hHeld
        have hHeld := hHeldN
        clear hHeldN
        clear hK K
        try simp only [Act.put, List.setIfInBounds_toArray, List.set_cons_zero, List.set_cons_succ]
        refine wpAnyH_ready (rs := [9]) (by kernel_rfl) (by simp) ?_
        refine AllReadyH.cons (o := { dst := some 70, op := Op.call { callee := Callee.builtin Builtin.append, args := #[Operand.tmp 68, Operand.tmp 69], argTypes := #[22, 22] }, type := 22, pos := "ref.go:51", after := #[{ on := 7, ground := Ground.data }, { on := 8, ground := Ground.data }, { on := 7, ground := Ground.chain }], guard := none }) rfl (fun K hK => ?_) AllReadyH.nil
        rw [if_pos (by rfl)]
        refine wp_append_dp _ _ rfl w7.heap.size _ (([] : List Dp) ++ [(⟨s, sa, sc, IX⟩ : Dp)]) rfl HO7.out (none) (0) (0) (([] : List Dp)) rfl HLD.out (HS2.out.later hHeld) HLE2.out hHeld.size ?_
        intro v11 wE hown hgrow
        have HO11 := Lib.hid hown
        refine hK.out _ _ (grown_belowD hHeld HO7.out (Nat.le_refl _) hHeld.size hgrow) (fun hHeldN => ?_)
        clear hown hgrow
        clear hHeld
        have hHeld := hHeldN
        clear hHeldN
        clear hK K
        try simp only [Act.put, List.setIfInBounds_toArray, List.set_cons_zero, List.set_cons_succ]
        refine wpAnyH_take (i := 10) (oi := { dst := some 6, op := Op.assign (Operand.tmp 70), type := 22, pos := "ref.go:51", after := #[{ on := 9, ground := Ground.data }, { on := 9, ground := Ground.chain }, { on := 0, ground := Ground.phase }, { on := 1, ground := Ground.phase }, { on := 2, ground := Ground.phase }, { on := 3, ground := Ground.phase }, { on := 4, ground := Ground.phase }, { on := 5, ground := Ground.phase }, { on := 6, ground := Ground.phase }, { on := 7, ground := Ground.phase }, { on := 8, ground := Ground.phase }, { on := 9, ground := Ground.phase }], guard := none }) (v := ?v10x47) rfl (by kernel_rfl) (by kernel_rfl) (by kernel_rfl) (fun _ _ _ h => h) (Or.inl ⟨by rfl, ?hy10x47⟩) hHeld ?rest10x47
        case hy10x47 => (intro w' hSw; go_simp; try with_reducible rfl)
        try simp only [Act.put, List.setIfInBounds_toArray, List.set_cons_zero, List.set_cons_succ]
        refine wpAnyH_done (by kernel_rfl) ?_ _
        go_wp2
        go_ret
        exact retD_own HADD2.out HO11.out (fun y hy => (HMEM.out y hy).later hHeld) (blThen HB7.out hHeld)
    · go_simp
      have HS0 : Hid (SrcD (wS.alloc (Obj.cells #[Value.int IntKind.i64 s, Value.slice sa IX.length sc] 26)) (some ⟨wS.heap.size, 0, none⟩) 1 [(⟨s, sa, sc, IX⟩ : Dp)]) := newD wS (⟨s, sa, sc, IX⟩ : Dp) 1
      have hW : wS.heap.size < (wS.alloc (Obj.cells #[Value.int IntKind.i64 s, Value.slice sa IX.length sc] 26)).heap.size := by simp
      refine hK.out _ _ (blAlloc hHeld _) (fun hHeldN => ?_)
      clear hK K
      clear hHeld
      have hHeld := hHeldN
      clear hHeldN
      try simp only [Act.put, List.setIfInBounds_toArray, List.set_cons_zero, List.set_cons_succ]
      generalize wS.alloc (Obj.cells #[Value.int IntKind.i64 s, Value.slice sa IX.length sc] 26) = wA at *
      refine wpAnyH_ready (rs := [0]) (by kernel_rfl) (by simp) ?_
      refine AllReadyH.cons (o := { dst := some 61, op := Op.buildSlice 22 0 #[], type := 22, pos := "ref.go:51", after := #[], guard := none }) rfl (fun K hK => ?_) AllReadyH.nil
      go_simp
      have HE : Hid (OwnD (wA.alloc (Obj.cells #[] 26)) w7.heap.size (.slice (some ⟨wA.heap.size, 0, none⟩) 0 0) []) := (own_emptyD wA).monoA (Nat.le_trans HWS.out (Nat.le_of_lt hW))
      have HS1b := Lib.hid (HS0.out.later (blAlloc (Below.refl _ _) (Obj.cells #[] 26)))
      refine hK.out _ _ (blAlloc hHeld _) (fun hHeldN => ?_)
      clear hK K
      clear hHeld
      have hHeld := hHeldN
      clear hHeldN
      try simp only [Act.put, List.setIfInBounds_toArray, List.set_cons_zero, List.set_cons_succ]
      refine wpAnyH_ready (rs := [4]) (by kernel_rfl) (by simp) ?_
      refine AllReadyH.cons (o := { dst := some 65, op := Op.call { callee := Callee.builtin Builtin.append, args := #[Operand.tmp 61, Operand.tmp 64], argTypes := #[22, 22] }, type := 22, pos := "ref.go:51", after := #[{ on := 0, ground := Ground.data }, { on := 3, ground := Ground.data }], guard := none }) rfl (fun K hK => ?_) AllReadyH.nil
      rw [if_pos (by rfl)]
      refine wp_append_dp _ _ rfl w7.heap.size _ [] rfl HE.out (none) (0) (0) (([] : List Dp)) rfl HLK.out (HS1.out.later hHeld) HLE0.out hHeld.size ?_
      intro v4 wC hown hgrow
      have HO4 : Hid (OwnD wC w7.heap.size v4 (([] : List Dp))) := hown
      have HX9 : Hid (∀ c, (Value.slice (some ⟨wA.heap.size, 0, none⟩) 0 0).ownBlock = some c → wS.heap.size < c) := fun c h => (by simp only [Value.ownBlock, Option.some.injEq] at h; rw [← h]; exact hW)
      have HSs := Lib.hid (HS1b.out.grown (fun b' o' h e => by
        simp only [Option.some.injEq, Addr.mk.injEq] at h
        exact Nat.lt_irrefl _ (Nat.lt_of_le_of_lt (Nat.le_of_eq h.1.symm) (HX9.out _ e))) hgrow)
      refine hK.out _ _ (grown_belowD hHeld HE.out (Nat.le_refl _) hHeld.size hgrow) (fun hHeldN => ?_)
      clear hown hgrow hK K
      clear hHeld
      have hHeld := hHeldN
      clear hHeldN
      try simp only [Act.put, List.setIfInBounds_toArray, List.set_cons_zero, List.set_cons_succ]
      refine wpAnyH_ready (rs := [7]) (by kernel_rfl) (by simp) ?_
      refine AllReadyH.cons (o := { dst := some 68, op := Op.call { callee := Callee.builtin Builtin.append, args := #[Operand.tmp 65, Operand.tmp 67], argTypes := #[22, 22] }, type := 22, pos := "ref.go:51", after := #[{ on := 4, ground := Ground.data }, { on := 6, ground := Ground.data }, { on := 4, ground := Ground.chain }], guard := none }) rfl (fun K hK => ?_) AllReadyH.nil
      rw [if_pos (by rfl)]
      refine wp_append_dp _ _ rfl w7.heap.size _ (([] : List Dp)) rfl HO4.out (some ⟨wS.heap.size, 0, none⟩) 1 1 [(⟨s, sa, sc, IX⟩ : Dp)] rfl rfl HSs.out HLE1.out hHeld.size ?_
      intro v7 wD hown hgrow
      have HO7 := Lib.hid hown
      refine hK.out _ _ (grown_belowD hHeld HO4.out (Nat.le_refl _) hHeld.size hgrow) (fun hHeldN => ?_)
      clear hown hgrow
      clear hHeld
      have hHeld := hHeldN
      clear hHeldN
      clear hK K
      try simp only [Act.put, List.setIfInBounds_toArray, List.set_cons_zero, List.set_cons_succ]
      refine wpAnyH_ready (rs := [9]) (by kernel_rfl) (by simp) ?_
      refine AllReadyH.cons (o := { dst := some 70, op := Op.call { callee := Callee.builtin Builtin.append, args := #[Operand.tmp 68, Operand.tmp 69], argTypes := #[22, 22] }, type := 22, pos := "ref.go:51", after := #[{ on := 7, ground := Ground.data }, { on := 8, ground := Ground.data }, { on := 7, ground := Ground.chain }], guard := none }) rfl (fun K hK => ?_) AllReadyH.nil
      rw [if_pos (by rfl)]
      refine wp_append_dp _ _ rfl w7.heap.size _ (([] : List Dp) ++ [(⟨s, sa, sc, IX⟩ : Dp)]) rfl HO7.out (none) (0) (0) (([] : List Dp)) rfl HLD.out (HS2.out.later hHeld) HLE2.out hHeld.size ?_
      intro v11 wE hown hgrow
      have HO11 := Lib.hid hown
      refine hK.out _ _ (grown_belowD hHeld HO7.out (Nat.le_refl _) hHeld.size hgrow) (fun hHeldN => ?_)
      clear hown hgrow
      clear hHeld
      have hHeld := hHeldN
      clear hHeldN
      clear hK K
      try simp only [Act.put, List.setIfInBounds_toArray, List.set_cons_zero, List.set_cons_succ]
      refine wpAnyH_take (i := 10) (oi := { dst := some 6, op := Op.assign (Operand.tmp 70), type := 22, pos := "ref.go:51", after := #[{ on := 9, ground := Ground.data }, { on := 9, ground := Ground.chain }, { on := 0, ground := Ground.phase }, { on := 1, ground := Ground.phase }, { on := 2, ground := Ground.phase }, { on := 3, ground := Ground.phase }, { on := 4, ground := Ground.phase }, { on := 5, ground := Ground.phase }, { on := 6, ground := Ground.phase }, { on := 7, ground := Ground.phase }, { on := 8, ground := Ground.phase }, { on := 9, ground := Ground.phase }], guard := none }) (v := ?v10x48) rfl (by kernel_rfl) (by kernel_rfl) (by kernel_rfl) (fun _ _ _ h => h) (Or.inl ⟨by rfl, ?hy10x48⟩) hHeld ?rest10x48
      case hy10x48 => (intro w' hSw; go_simp; try with_reducible rfl)
      try simp only [Act.put, List.setIfInBounds_toArray, List.set_cons_zero, List.set_cons_succ]
      refine wpAnyH_done (by kernel_rfl) ?_ _
      go_wp2
      go_ret
      exact retD_own HADD2.out HO11.out (fun y hy => (HMEM.out y hy).later hHeld) (blThen HB7.out hHeld)

end SD
end Go.Proofs.YtjlkgbejldcklaaGreat
