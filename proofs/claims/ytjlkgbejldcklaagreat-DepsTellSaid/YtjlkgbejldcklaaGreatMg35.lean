/- The reference's Check of Deps. Conditions: lists of at most a million, with a million stamps in all. -/
import Derived.Maps.AppendAt
import Derived.Test.YtjlkgbejldcklaaGreatMg34
/- The reference's Below of Deps. Conditions: lists of at most a million. -/
set_option linter.unusedVariables false
namespace Go.Proofs.YtjlkgbejldcklaaGreat
open S1
namespace SD
open Go.RowKit

/-- The stamps of each lie in memory, and not in the block of the row itself. -/
def HasG (w : World) (v : Value) (l : List Dp) : Prop := ∀ s ∈ l, IdsAt w s ∧ (s.ids ≠ [] → ∀ p, s.ia = some p → v.ownBlock ≠ some p.block)
theorem HasG.nil (w : World) (v : Value) : HasG w v [] := fun s h => (by cases h)
theorem HasG.later {W wr : World} {v : Value} {l : List Dp} (h : HasG W v l) (hb : Below W.heap.size W wr) : HasG wr v l := fun s hs => ⟨(h s hs).1.later hb, (h s hs).2⟩
theorem idsAt_grown {w w' : World} {v : Value} {s : Dp} (h : IdsAt w s) (hne : s.ids ≠ [] → ∀ p, s.ia = some p → v.ownBlock ≠ some p.block) (hg : w.grownBy w' v.ownBlock) : IdsAt w' s := by
  refine ⟨fun hn => ?_, h.2⟩
  obtain ⟨b, o, ha, hb, hl⟩ := h.1 hn
  have hk := hg.block b hb (fun e => hne hn _ ha e.symm)
  refine ⟨b, o, ha, Nat.lt_of_lt_of_le hb hg.size, fun i x y hi => ?_⟩
  obtain ⟨h1, h2⟩ := hl i x y hi
  exact ⟨(World.cell?_of_block (w := w) hk).trans h1, (World.cell?_of_block (w := w) hk).trans h2⟩
theorem HasG.push {w w' : World} {v v' : Value} {l : List Dp} {m : Dp} (h : HasG w v l) (hm : IdsAt w m) (hmv : m.ids ≠ [] → ∀ p, m.ia = some p → v.ownBlock ≠ some p.block) (hg : w.grownBy w' v.ownBlock) (hv : v'.ownBlock = v.ownBlock ∨ v'.ownBlock = some w.heap.size) : HasG w' v' (l ++ [m]) := by
  have key : ∀ s, IdsAt w s → (s.ids ≠ [] → ∀ p, s.ia = some p → v.ownBlock ≠ some p.block) → IdsAt w' s ∧ (s.ids ≠ [] → ∀ p, s.ia = some p → v'.ownBlock ≠ some p.block) := by
    intro s hs hsv
    refine ⟨idsAt_grown hs hsv hg, fun hn p hp => ?_⟩
    rcases hv with e | e
    · rw [e]
      exact hsv hn p hp
    · rw [e]
      obtain ⟨b, o, ha, hb, _⟩ := hs.1 hn
      rw [ha] at hp
      obtain rfl := Option.some.inj hp
      intro e2
      have := Option.some.inj e2
      simp at this
      omega
  intro s hs
  rcases List.mem_append.1 hs with hs | hs
  · exact key s (h s hs).1 (h s hs).2
  · rw [List.mem_singleton] at hs
    subst hs
    exact key _ hm hmv
theorem apart_g {w w1 w6 : World} {base : Nat} {v : Value} {F : List Dp} {a : Option Addr} {ids : List (Int × Int)} (ho : OwnD w base v F) (h1 : SL w6 a ids) (h3 : ∀ b o, a = some ⟨b, o, none⟩ → w1.heap.size ≤ b) (hle : w.heap.size ≤ w1.heap.size) : ids ≠ [] → ∀ p, a = some p → v.ownBlock ≠ some p.block := by
  intro hn p hp e
  obtain ⟨b, o, ha, _, _⟩ := h1 hn
  rw [ha] at hp
  obtain rfl := Option.some.inj hp
  have := h3 b o ha
  have := (ho.block b e).2
  omega
/-- append of one Dep to a row of the call's own, as a step of a region that leaves its order open. -/
theorem step_dp {ops : Array Oper} {o : Oper} {a : Act} {w : World} {K : Act → World → Prop} {Q : Exit → Act → World → Prop} {E : Prop} (hg : o.guard = none) (s x : Operand)
    (ho : o.op = .call { callee := .builtin .append, args := #[s, x], argTypes := #[22, 22] }) (base : Nat) {v : Value} {d : List Dp} {ad : Addr} {cap : Nat} {m : Dp} (hs : a.eval s = v) (hx : a.eval x = .slice (some ad) 1 cap)
    (hown : OwnD w base v d) (hc : ∀ (j : Nat) (u : Value), (cellsD [m])[j]? = some u → w.cell? (ad.add j) = some u) (hlen : d.length ≤ 1000000) (hbase : base ≤ w.heap.size)
    (h : ∀ v' w', OwnD w' base v' (d ++ [m]) → w.grownBy w' v.ownBlock → (v'.ownBlock = v.ownBlock ∨ v'.ownBlock = some w.heap.size) → K (a.put o.dst v') w') :
    if Region.wanted o (yielded ops a.tmps) = true then Oper.wp Tryz.prog o a w K Q else E := by
  have hw : Region.wanted o (yielded ops a.tmps) = true := by simp [Region.wanted, hg]
  rw [if_pos hw]
  obtain ⟨i0, hi, hz0, hz1, hz2⟩ := info_parts info_dp
  obtain ⟨v', w', hr, h2, h3, _, h5⟩ := run_append_own_at (P := Tryz.prog) w base 22 o.type 26 i0 (.agg #[.int .i64 0, .slice none 0 0]) 2 32 Tryz.underlying22 hi hz0 hz1 hz2 rfl (by decide) v d.length (cellsD d) hown ad 1 cap (cellsD [m]) rfl hc (cellsD_one [m]) (by unfold maxLen; omega) (by omega) hbase
  unfold Oper.wp execOp
  simp only [ho, resolve, invoke, builtin, Sem.run_bind, Sem.run_pure, Result.andThen_ok, List.map_toArray, List.map_cons, List.map_nil, hs, hx, hr]
  refine h v' w' ?_ h3 h5
  show w'.ownsRow base _ 2 v' _ _
  rw [List.length_append, cellsD_append]
  exact h2
/-- The cells of one Dep that have just been laid. -/
theorem dp_one {w0 W : World} {m : Dp} {b : Nat} (hb : b = w0.heap.size) (hW : W.heap = (w0.alloc (.cells #[.int .i64 m.sh, ilD m] 26)).heap) : ∀ (j : Nat) (u : Value), (cellsD [m])[j]? = some u → W.cell? ((⟨b, 0, none⟩ : Addr).add j) = some u := by
  have h := one_newD w0 m b hb.symm
  intro j u hj
  have h2 := h.cells j u hj
  have e : W.cell? ((⟨b, 0, none⟩ : Addr).add j) = (w0.alloc (.cells #[.int .i64 m.sh, ilD m] 26)).cell? ((⟨b, 0, none⟩ : Addr).add j) := by
    simp only [World.cell?, hW]
  rw [e]
  exact h2
theorem belowD_take {l : List Dp} {k : Nat} {s : Dp} {q : Int × Int} (h : l[k]? = some s) : belowD ((toD l).take (k + 1)) q = belowD ((toD l).take k) q ++ [(s.sh, s.ids.filter fun i => ltS i q)] := by
  unfold belowD
  rw [List.take_add_one, toD_at h, List.map_append]
  rfl

set_option maxRecDepth 100000 in
set_option maxHeartbeats 2000000 in
theorem refbelow6_any (a : Option Addr) (c : Nat) (l : List Dp) (t n : Int) (w : World) (hf : FewD l) (hl : Dl w a l) :
    Calls Tryz.prog 36 #[.slice a l.length c, .agg #[.int .i64 t, .int .i64 n]] w (RetD w (belowD (toD l) (t, n))) := by
  have HL := Lib.hid hl
  have HF := Lib.hid hf
  have hlen := hf.1
  clear hl hf
  go_enter Tryz.func36, Tryz.ntmps36
  go_wp2
  have hB1 : Hid (Below w.heap.size w (w.alloc (Obj.cells #[Value.int IntKind.i64 t, Value.int IntKind.i64 n] 42))) := (Below.refl _ _).alloc (Nat.le_refl _) _
  have hN : Own2 (w.alloc (Obj.cells #[Value.int IntKind.i64 t, Value.int IntKind.i64 n] 42)) w.heap.size t n := own2_new _ _ _
  have HL2 := Lib.hid (HL.out.later hB1.out)
  generalize w.alloc (Obj.cells #[Value.int IntKind.i64 t, Value.int IntKind.i64 n] 42) = W at *
  have HN := Lib.hid hN
  have hS := hN.lt
  clear hN HL
  go_loopw [5, 6] (fun v i wr => ∃ (k : Nat) (F : List Dp), k ≤ l.length ∧ i = .int .i64 k ∧ toD F = belowD ((toD l).take k) (t, n) ∧ OwnD wr W.heap.size v F ∧ HasG wr v F ∧ Below W.heap.size W wr) (fun _ i _ => l.length - (intOf i).toNat)
  case atStart => exact ⟨0, [], Nat.zero_le _, rfl, rfl, OwnD.nil _ _, HasG.nil _ _, Below.refl _ _⟩
  case round =>
    obtain ⟨k, F, hk, rfl, hF, ho, hg, hb⟩ := hrel
    have HB := Lib.hid hb
    have HO := Lib.hid ho
    have HG := Lib.hid hg
    have HFE := Lib.hid hF
    have hN2 := HN.out.later hb hS
    have hc0 := hN2.c0
    have hc1 := hN2.c1
    have hsz : w.heap.size < wr.heap.size := hN2.lt
    obtain ⟨av, cv, rfl, _⟩ := ho.row
    clear hb ho hg hF hN2
    by_cases hlt : k < l.length
    · obtain ⟨s, hs⟩ := at_ltD hlt
      obtain ⟨b, o, rfl, hbg, hx, hy, hi⟩ := (HL2.out.later HB.out).at hs
      have hk1 : (k : Int) < (l.length : Int) := by omega
      have hk0 : (0 : Int) ≤ (k : Int) := by omega
      have hdk : decide ((k : Int) < (l.length : Int)) = true := decide_eq_true hk1
      have HFT := Lib.hid (belowD_take (q := (t, n)) hs)
      have HI := Lib.hid hi
      have HSN := Lib.hid (HF.out.2 s (List.mem_of_getElem? hs))
      have HFL : Hid (F.length ≤ 1000000) := by
        have h := congrArg List.length HFE.out
        rw [toD_length] at h
        unfold belowD at h
        rw [List.length_map, List.length_take, toD_length] at h
        show _ ≤ _
        omega
      unfold ilD at hy
      clear hs hi
      go_wp2
      go_region_law (first
        | ((refine step_dp rfl (.tmp 13) (.tmp 27) rfl W.heap.size (v := .slice av F.length cv) (d := F) (ad := ⟨w6.heap.size, 0, none⟩) (cap := 1) (m := ⟨s.sh, xa, xc, s.ids.filter fun i => ltS i (t, n)⟩) (by simp [Act.eval]) (by simp [Act.eval]) (HO.out.later (by repeat (first | with_reducible exact HB3.out | with_reducible refine blAlloc ?_ _ | with_reducible refine Below.drew ?_))) (dp_one (w0 := w6) rfl rfl) HFL.out (by have := HB.out.size; have := HB3.out.size; simp; omega) ?_); intro v' w' h1 h2 h3; have HO7 := Lib.hid h1; have HG7 := Lib.hid ((HG.out.later (by repeat (first | with_reducible exact HB3.out | with_reducible refine blAlloc ?_ _ | with_reducible refine Below.drew ?_))).push (m := ⟨s.sh, xa, xc, s.ids.filter fun i => ltS i (t, n)⟩) (show IdsAt _ _ from ⟨HM1.out.later (by repeat (first | with_reducible exact Below.refl _ _ | with_reducible refine blAlloc ?_ _ | with_reducible refine Below.drew ?_)), HM2.out, HM4.out⟩) HMV.out h2 h3); have HB7 := Lib.hid (grown_belowD (x := W) (HB.out.trans ((show Below wr.heap.size wr _ from (by repeat (first | with_reducible exact HB3.out | with_reducible refine blAlloc ?_ _ | with_reducible refine Below.drew ?_))).mono HB.out.size)) (HO.out.later (by repeat (first | with_reducible exact HB3.out | with_reducible refine blAlloc ?_ _ | with_reducible refine Below.drew ?_))) (Nat.le_refl _) (by have := HB.out.size; have := HB3.out.size; simp; omega) h2); clear h1 h2 h3)
        | (try go_simp; go_at_call 125; refine (refbelow_any _ _ s.ids t n _ HSN.out (HI.out.1.later (by repeat (first | with_reducible exact Below.refl _ _ | with_reducible refine blAlloc ?_ _ | with_reducible refine Below.drew ?_)))).mono ?_; rintro e w6 ⟨xa, xc, rfl, h1, h2, h3, h4, _, h5⟩; have HB3 : Hid (Below wr.heap.size wr w6) := blThen (by repeat (first | with_reducible exact Below.refl _ _ | with_reducible refine blAlloc ?_ _ | with_reducible refine Below.drew ?_)) h5; have HM1 := Lib.hid h1; have HM2 := Lib.hid h2; have HMV := Lib.hid (apart_g HO.out h1 h3 (Nat.le_refl _)); have HM4 := Lib.hid h4; have x6 := cell_in HB3.out hbg hx; have y6 := cell_in HB3.out hbg hy; have c6 := cell_in HB3.out hsz hc0; have d6 := cell_in HB3.out hsz hc1; have hb6 := Nat.lt_of_lt_of_le hbg HB3.out.size; have hs6 := Nat.lt_of_lt_of_le hsz HB3.out.size; clear h1 h2 h3 h4 h5))
      all_goals
        go_wp2
        go_roundw
        case rel => exact ⟨k + 1, _, hlt, by go_num, by rw [HFT.out, ← HFE.out]; unfold toD; rw [List.map_append]; rfl, HO7.out, HG7.out, HB7.out⟩
        case measure => simp [intOf]; omega
    · have hge : ¬ (k : Int) < (l.length : Int) := by omega
      have hdk : decide ((k : Int) < (l.length : Int)) = false := decide_eq_false hge
      have HFF : Hid (toD F = belowD (toD l) (t, n)) := by
        have h := HFE.out
        rwa [List.take_of_length_le (by rw [toD_length]; omega)] at h
      go_wp2
      go_ret
      obtain ⟨a2, c2, hv, h1, h2, h3⟩ := HO.out.dl fun s hs => (HG.out s hs).1
      exact ⟨a2, c2, F, by rw [← hv]; rfl, HFF.out, h3, h1, h2, hB1.out.trans (HB.out.mono (Nat.le_of_lt hS))⟩

end SD
end Go.Proofs.YtjlkgbejldcklaaGreat

/- The reference's Without of Deps. Conditions: lists of at most a million. -/
set_option linter.unusedVariables false
namespace Go.Proofs.YtjlkgbejldcklaaGreat
open S1
namespace SD
open Go.RowKit

/-- A Dep that a pointer leads to. -/
def Bx (w : World) (b : Nat) (sh : Int) (v : Value) : Prop := w.heap[b]? = some (.cells #[.int .i64 sh, v] 26 (0, 0))
theorem Bx.lt {w : World} {b : Nat} {sh : Int} {v : Value} (h : Bx w b sh v) : b < w.heap.size := lt_of_block h
theorem Bx.c0 {w : World} {b : Nat} {sh : Int} {v : Value} (h : Bx w b sh v) : w.cell? ⟨b, 0, none⟩ = some (.int .i64 sh) := by unfold Bx at h; simp only [World.cell?, h]; rfl
theorem Bx.c1 {w : World} {b : Nat} {sh : Int} {v : Value} (h : Bx w b sh v) : w.cell? ⟨b, 1, none⟩ = some v := by unfold Bx at h; simp only [World.cell?, h]; rfl
theorem Bx.f {w : World} {b : Nat} {sh : Int} {v : Value} (h : Bx w b sh v) (i : Nat) : w.frozen? ⟨b, i, none⟩ = false := by unfold Bx at h; simp [World.frozen?, h]
theorem Bx.later {B : Nat} {w wr : World} {b : Nat} {sh : Int} {v : Value} (h : Bx w b sh v) (hw : Below B w wr) (hb : b < B) : Bx wr b sh v := (hw.block b hb).trans h
/-- append of one Dep to a row of the call's own. -/
theorem append_dp1 {w : World} {ops : Array Oper} {rest : List Oper} {o : Oper} {a : Act} {Q : Exit → Act → World → Prop} (hgd : o.guard = none) (s x : Operand)
    (ho : o.op = .call { callee := .builtin .append, args := #[s, x], argTypes := #[22, 22] }) (base : Nat) {v : Value} {d : List Dp} {ad : Addr} {cap : Nat} {m : Dp} (hs : a.eval s = v) (hx : a.eval x = .slice (some ad) 1 cap)
    (hown : OwnD w base v d) (hc : ∀ (j : Nat) (u : Value), (cellsD [m])[j]? = some u → w.cell? (ad.add j) = some u) (hlen : d.length ≤ 1000000) (hbase : base ≤ w.heap.size)
    (h : ∀ v' w', OwnD w' base v' (d ++ [m]) → w.grownBy w' v.ownBlock → (v'.ownBlock = v.ownBlock ∨ v'.ownBlock = some w.heap.size) → wpList Tryz.prog ops Q rest (a.put o.dst v') w') : wpList Tryz.prog ops Q (o :: rest) a w := by
  refine wpList_plain hgd fun _ hK => ?_
  obtain ⟨i0, hi, hz0, hz1, hz2⟩ := info_parts info_dp
  obtain ⟨v', w', hr, h2, h3, _, h5⟩ := run_append_own_at (P := Tryz.prog) w base 22 o.type 26 i0 (.agg #[.int .i64 0, .slice none 0 0]) 2 32 Tryz.underlying22 hi hz0 hz1 hz2 rfl (by decide) v d.length (cellsD d) hown ad 1 cap (cellsD [m]) rfl hc (cellsD_one [m]) (by unfold maxLen; omega) (by omega) hbase
  unfold Oper.wp execOp
  simp only [ho, resolve, invoke, builtin, Sem.run_bind, Sem.run_pure, Result.andThen_ok, List.map_toArray, List.map_cons, List.map_nil, hs, hx, hr]
  refine hK _ _ (h v' w' ?_ h3 h5)
  show w'.ownsRow base _ 2 v' _ _
  rw [List.length_append, cellsD_append]
  exact h2
theorem withoutD_take {l : List Dp} {k : Nat} {s : Dp} {X : List (Int × Int)} (h : l[k]? = some s) : withoutD ((toD l).take (k + 1)) X = withoutD ((toD l).take k) X ++ [(s.sh, s.ids.filter fun i => !X.contains i)] := by
  unfold withoutD
  rw [List.take_add_one, toD_at h, List.map_append]
  rfl

theorem bx_set {w : World} {b : Nat} {sh : Int} {v : Value} (h : Bx w b sh v) (u : Value) : Bx (w.setCell ⟨b, 1, none⟩ u) b sh u := by
  unfold Bx at h ⊢
  rw [block_setCell h]
  rfl
theorem bx_grown {w w' : World} {b : Nat} {sh : Int} {v : Value} {g : Option Nat} (h : Bx w b sh v) (hg : w.grownBy w' g) (hne : ∀ k, g = some k → b < k) : Bx w' b sh v :=
  (hg.block b h.lt (fun e => by have := hne b e.symm; omega)).trans h
/-- append of one stamp to a row of the call's own, as a step of a region that leaves its order open. -/
theorem step_st {ops : Array Oper} {o : Oper} {a : Act} {w : World} {K : Act → World → Prop} {Q : Exit → Act → World → Prop} {E : Prop} (hg : o.guard = none) (s x : Operand)
    (ho : o.op = .call { callee := .builtin .append, args := #[s, x], argTypes := #[24, 24] }) (base : Nat) {v : Value} {d : List (Int × Int)} {ad cap : Nat} {t n : Int} (hs : a.eval s = v) (hx : a.eval x = .slice (some ⟨ad, 0, none⟩) 1 cap)
    (hown : OwnL w base v d) (hc : Own2 w ad t n) (hlen : d.length ≤ 1000000) (hbase : base ≤ w.heap.size)
    (h : ∀ v' w', OwnL w' base v' (d ++ [(t, n)]) → w.grownBy w' v.ownBlock → K (a.put o.dst v') w') :
    if Region.wanted o (yielded ops a.tmps) = true then Oper.wp Tryz.prog o a w K Q else E := by
  have hw : Region.wanted o (yielded ops a.tmps) = true := by simp [Region.wanted, hg]
  rw [if_pos hw]
  obtain ⟨i0, hi, hz0, hz1, hz2⟩ := info_parts info_st
  have hc2 : ∀ (j : Nat) (u : Value), (cellsL [(t, n)])[j]? = some u → w.cell? ((⟨ad, 0, none⟩ : Addr).add j) = some u := by
    intro j u hj
    rw [Go.WideShapes.add_plain, Nat.zero_add]
    have hj2 := (List.getElem?_eq_some_iff.1 hj).1
    rw [cellsL_length] at hj2
    simp only [List.length_cons, List.length_nil] at hj2
    have : j = 0 ∨ j = 1 := by omega
    rcases this with rfl | rfl
    · rw [hc.c0]; exact hj
    · rw [hc.c1]; exact hj
  obtain ⟨v', w', hr, h2, h3, _, h5⟩ := run_append_own_at (P := Tryz.prog) w base 24 o.type 42 i0 (.agg #[.int .i64 0, .int .i64 0]) 2 16 Tryz.underlying24 hi hz0 hz1 hz2 rfl (by decide) v d.length (cellsL d) hown ⟨ad, 0, none⟩ 1 cap (cellsL [(t, n)]) rfl hc2 (cellsL_one [(t, n)]) (by unfold maxLen; omega) (by omega) hbase
  unfold Oper.wp execOp
  simp only [ho, resolve, invoke, builtin, Sem.run_bind, Sem.run_pure, Result.andThen_ok, List.map_toArray, List.map_cons, List.map_nil, hs, hx, hr]
  refine h v' w' ?_ h3
  show w'.ownsRow base _ 2 v' _ _
  rw [List.length_append, cellsL_append]
  exact h2

set_option maxRecDepth 100000 in
set_option maxHeartbeats 2000000 in
theorem refwithout_any (a : Option Addr) (c : Nat) (l : List Dp) (ax : Option Addr) (cx : Nat) (X : List (Int × Int)) (w : World) (hf : FewD l) (hxl : X.length ≤ 1000000) (hl : Dl w a l) (hx : SL w ax X) :
    Calls Tryz.prog 34 #[.slice a l.length c, .slice ax X.length cx] w (RetD w (withoutD (toD l) X)) := by
  have HL := Lib.hid hl
  have HX := Lib.hid hx
  have HF := Lib.hid hf
  have hlen := hf.1
  clear hl hf hx
  go_enter Tryz.func34, Tryz.ntmps34
  go_wp2
  go_loopw [5, 6] (fun v i wr => ∃ (k : Nat) (F : List Dp), k ≤ l.length ∧ i = .int .i64 k ∧ toD F = withoutD ((toD l).take k) X ∧ OwnD wr w.heap.size v F ∧ HasG wr v F ∧ Below w.heap.size w wr) (fun _ i _ => l.length - (intOf i).toNat)
  case atStart => exact ⟨0, [], Nat.zero_le _, rfl, rfl, OwnD.nil _ _, HasG.nil _ _, Below.refl _ _⟩
  case round =>
    obtain ⟨k, F, hk, rfl, hF, ho, hg, hb⟩ := hrel
    have HB := Lib.hid hb
    have HO := Lib.hid ho
    have HG := Lib.hid hg
    have HFE := Lib.hid hF
    obtain ⟨av, cv, rfl, _⟩ := ho.row
    clear hb ho hg hF
    by_cases hlt : k < l.length
    · obtain ⟨s, hs⟩ := at_ltD hlt
      obtain ⟨b, o, rfl, hbg, hx, hy, hi⟩ := (HL.out.later HB.out).at hs
      have hk1 : (k : Int) < (l.length : Int) := by omega
      have hk0 : (0 : Int) ≤ (k : Int) := by omega
      have hdk : decide ((k : Int) < (l.length : Int)) = true := decide_eq_true hk1
      have HFT := Lib.hid (withoutD_take (X := X) hs)
      have HI := Lib.hid hi
      have HSN := Lib.hid (HF.out.2 s (List.mem_of_getElem? hs))
      have HFL : Hid (F.length ≤ 1000000) := by
        have h := congrArg List.length HFE.out
        rw [toD_length] at h
        unfold withoutD at h
        rw [List.length_map, List.length_take, toD_length] at h
        show _ ≤ _
        omega
      unfold ilD at hy
      have HE := Lib.hid (fun (W : World) (hb : Below wr.heap.size wr W) => (⟨cell_in hb hbg hy, Nat.lt_of_lt_of_le hbg hb.size, hi.later hb⟩ : W.cell? ⟨b, o + k * 2 + 1, none⟩ = some (.slice s.ia s.ids.length s.ic) ∧ b < W.heap.size ∧ IdsAt W s))
      clear hs hi
      go_wp2
      have HBX : Hid (Bx (wr.alloc (.cells #[.int .i64 s.sh, .slice none 0 0] 26)) wr.heap.size s.sh (.slice none 0 0)) := by
        show (wr.heap.push _)[wr.heap.size]? = _
        simp
      have HB1 : Hid (Below wr.heap.size wr (wr.alloc (.cells #[.int .i64 s.sh, .slice none 0 0] 26))) := blAlloc (Below.refl _ _) _
      generalize wr.alloc (.cells #[.int .i64 s.sh, .slice none 0 0] 26) = W1 at *
      generalize hWR : wr = WR at *
      clear hWR wr
      go_loopw [8] (fun i wr => ∃ (j : Nat) (v : Value), j ≤ s.ids.length ∧ i = .int .i64 j ∧ Bx wr WR.heap.size s.sh v ∧ OwnL wr (WR.heap.size + 1) v ((s.ids.take j).filter fun i => !X.contains i) ∧ Below WR.heap.size WR wr) (fun i _ => s.ids.length - (intOf i).toNat)
      case atStart => exact ⟨0, _, Nat.zero_le _, rfl, HBX.out, OwnL.nil _ _, HB1.out⟩
      case round =>
        clear HBX HB1
        obtain ⟨j, v, hj, rfl, hbx, hol, hb⟩ := hrel
        obtain ⟨e1, hbw, hi⟩ := HE.out _ hb
        have HB2 := Lib.hid hb
        have HBX := Lib.hid hbx
        have HOL := Lib.hid hol
        have HI2 := Lib.hid hi
        have hs6 : s.ids.length ≤ 1000000 := HSN.out
        obtain ⟨ga, gc, rfl, gs, gn, gge, gl⟩ := hol.sl
        have b1 := hbx.c1
        have b0 := hbx.c0
        have bl := hbx.lt
        clear hb hbx hol hi
        by_cases hjl : j < s.ids.length
        · obtain ⟨t, n, htn⟩ := at_ltS hjl
          obtain ⟨gi, oi, hia, hgi, hlst⟩ := HI2.out.1 (by intro e; rw [e] at hjl; simp at hjl)
          rw [hia] at e1
          obtain ⟨x0, x1⟩ := hlst j t n htn
          have HEX := Lib.hid (fun (W : World) (hb : Below wr.heap.size wr W) => (⟨cell_in hb hbw e1, cell_in hb hgi x0, cell_in hb hgi x1, Nat.lt_of_lt_of_le hbw hb.size, Nat.lt_of_lt_of_le hgi hb.size⟩ : W.cell? ⟨b, o + k * 2 + 1, none⟩ = some (.slice (some ⟨gi, oi, none⟩) s.ids.length s.ic) ∧ W.cell? ⟨gi, oi + j * 2, none⟩ = some (.int .i64 t) ∧ W.cell? ⟨gi, oi + j * 2 + 1, none⟩ = some (.int .i64 n) ∧ b < W.heap.size ∧ gi < W.heap.size))
          have hj1 : (j : Int) < (s.ids.length : Int) := by omega
          have hj0 : (0 : Int) ≤ (j : Int) := by omega
          have hdj : decide ((j : Int) < (s.ids.length : Int)) = true := decide_eq_true hj1
          have HST := Lib.hid (filter_take (fun i => !X.contains i) s.ids j (t, n) htn)
          have HFC : Hid (((s.ids.take j).filter fun i => !X.contains i).length ≤ 1000000) := Nat.le_trans (filter_len _ _ _) hs6
          have HX2 := Lib.hid (HX.out.later (HB.out.trans (HB2.out.mono HB.out.size)))
          generalize hq : decide ((t, n) ∈ X) = q
          have HQ := Lib.hid hq
          have HC : Hid (X.contains (t, n) = q) := by show _ = _; rw [List.contains_eq_mem]; exact hq
          clear hlst htn hq gs gn gge gl b0
          generalize hG : ((s.ids.take j).filter fun i => !X.contains i) = G at *
          clear hG
          cases q
          · go_wp2_with (go_at_call 122; refine (refhas_any _ _ X t n _ hxl HX2.out).mono ?_; rintro e w2 ⟨h1, h2⟩; rw [HQ.out] at h1; subst h1; have HB3 := Lib.hid h2; obtain ⟨f1, f2, f3, f4, f5⟩ := HEX.out _ h2; have HBX3 := Lib.hid (HBX.out.later h2 bl); have c1 := HBX3.out.c1; have cl := HBX3.out.lt; have HOL3 := Lib.hid (HOL.out.later h2); clear h2 e1 x0 x1 b1 bl hbw hgi)
            go_region_law (first
              | ((refine step_st rfl (.tmp 43) (.tmp 52) rfl (WR.heap.size + 1) (d := G) (t := t) (n := n) (by simp [Act.eval]) (by simp [Act.eval]; rfl) (HOL3.out.later (by repeat (first | with_reducible exact Below.refl _ _ | with_reducible refine blAlloc ?_ _ | with_reducible refine Below.drew ?_))) (own2_new _ _ _) HFC.out (by have := HB2.out.size; have := HB3.out.size; simp; omega) ?_); intro v' w' h1 h2; obtain ⟨ao, an, rfl, -⟩ := h1.sl; rw [show (G ++ [(t, n)]).length = G.length + 1 from by simp] at h1; have HO7 := Lib.hid h1; have HX7 := Lib.hid (bx_grown (HBX3.out.later (show Below w2.heap.size w2 _ from (by repeat (first | with_reducible exact Below.refl _ _ | with_reducible refine blAlloc ?_ _ | with_reducible refine Below.drew ?_))) cl) h2 (fun k hk => HOL3.out.block k hk)); have HB7 := Lib.hid (grown_below (x := WR) (HB2.out.trans ((blThen HB3.out (show Below w2.heap.size w2 _ from (by repeat (first | with_reducible exact Below.refl _ _ | with_reducible refine blAlloc ?_ _ | with_reducible refine Below.drew ?_)))).mono HB2.out.size)) (HOL3.out.later (by repeat (first | with_reducible exact Below.refl _ _ | with_reducible refine blAlloc ?_ _ | with_reducible refine Below.drew ?_))) (Nat.le_succ _) (by have := HB2.out.size; have := HB3.out.size; simp; omega) h2); have q1 := HX7.out.c1; have q2 := HX7.out.f 1; have q3 := HX7.out.lt; clear h1 h2))
            all_goals
              go_wp2
              go_roundw
              case rel => exact ⟨j + 1, _, hjl, by go_num, bx_set HX7.out _, by rw [HST.out, if_pos (by rw [HC.out]; rfl)]; exact ownsRow_setCell_below HO7.out (Nat.lt_succ_self _) _, blSet HB7.out (Nat.le_refl _) _⟩
              case measure => simp [intOf]; omega
          · go_wp2_with (go_at_call 122; refine (refhas_any _ _ X t n _ hxl HX2.out).mono ?_; rintro e w2 ⟨h1, h2⟩; rw [HQ.out] at h1; subst h1; have HB3 := Lib.hid h2; clear h2)
            go_roundw
            case rel => exact ⟨j + 1, _, hjl, by go_num, HBX.out.later HB3.out bl, by rw [HST.out, if_neg (by rw [HC.out]; simp), List.append_nil]; exact HOL.out.later HB3.out, HB2.out.trans (HB3.out.mono HB2.out.size)⟩
            case measure => simp [intOf]; omega
        · have hge : ¬ (j : Int) < (s.ids.length : Int) := by omega
          have hdj : decide ((j : Int) < (s.ids.length : Int)) = false := decide_eq_false hge
          have HTK : Hid ((s.ids.take j).filter (fun i => !X.contains i) = s.ids.filter fun i => !X.contains i) := by
            show _ = _
            rw [List.take_of_length_le (l := s.ids) (by omega)]
          rw [HTK.out] at gs gl b1 HOL
          have HM : Hid (IdsAt wr ⟨s.sh, ga, gc, s.ids.filter fun i => !X.contains i⟩) := ⟨gs, gn, gl⟩
          have HMV := Lib.hid (apart_g (w1 := WR) HO.out gs (fun b o h => Nat.le_of_succ_le (gge b o h)) (Nat.le_refl _))
          generalize hG : (s.ids.filter fun i => !X.contains i) = G at *
          clear hG gs gn gge gl
          go_wp2_with (at_builtin; (refine append_dp1 rfl (.tmp 55) (.tmp 57) rfl w.heap.size (v := .slice av F.length cv) (d := F) (ad := ⟨wr.heap.size, 0, none⟩) (cap := 1) (m := ⟨s.sh, ga, gc, G⟩) rfl rfl (HO.out.later (blAlloc HB2.out _)) (dp_one (w0 := wr) rfl rfl) HFL.out (by have := HB.out.size; have := HB2.out.size; simp; omega) ?_); intro v' w' h1 h2 h3; have HO7 := Lib.hid h1; have HG7 := Lib.hid ((HG.out.later (blAlloc HB2.out _)).push (m := ⟨s.sh, ga, gc, G⟩) (HM.out.later (blAlloc (Below.refl _ _) _)) HMV.out h2 h3); have HB7 := Lib.hid (grown_belowD (x := w) (HB.out.trans ((blAlloc HB2.out _).mono HB.out.size)) (HO.out.later (blAlloc HB2.out _)) (Nat.le_refl _) (by have := HB.out.size; have := HB2.out.size; simp; omega) h2); clear h1 h2 h3)
          go_roundw
          case rel => exact ⟨k + 1, _, hlt, by go_num, by rw [HFT.out, ← HFE.out]; unfold toD; rw [List.map_append]; rfl, HO7.out, HG7.out, HB7.out⟩
          case measure => simp [intOf]; omega
    · have hge : ¬ (k : Int) < (l.length : Int) := by omega
      have hdk : decide ((k : Int) < (l.length : Int)) = false := decide_eq_false hge
      have HFF : Hid (toD F = withoutD (toD l) X) := by
        have h := HFE.out
        rwa [List.take_of_length_le (by rw [toD_length]; omega)] at h
      go_wp2
      go_ret
      obtain ⟨a2, c2, hv, h1, h2, h3⟩ := HO.out.dl fun s hs => (HG.out s hs).1
      exact ⟨a2, c2, F, by rw [← hv]; rfl, HFF.out, h3, h1, h2, HB.out⟩

end SD
end Go.Proofs.YtjlkgbejldcklaaGreat

/- The reference's Check of Deps. Conditions: lists of at most a million, with a million stamps in all. -/
set_option linter.unusedVariables false
namespace Go.Proofs.YtjlkgbejldcklaaGreat
open S1
namespace SD
open Go.RowKit

/-- The shard behind which the next one must lie. -/
def lastD (p : Int) : Dd → Int
  | [] => p
  | x :: r => lastD x.1 r
theorem depsF_append : ∀ (a b : Dd) (p : Int), depsF p (a ++ b) = (depsF p a && depsF (lastD p a) b) := by
  intro a
  induction a with
  | nil => intro b p; rfl
  | cons x r ih =>
    intro b p
    show depsF p (x :: (r ++ b)) = _
    have e1 : depsF p (x :: (r ++ b)) = (decide (p < x.1) && (decide (x.1 < 8) && (risB x.2 && (x.2.all isS && depsF x.1 (r ++ b))))) := rfl
    have e2 : depsF p (x :: r) = (decide (p < x.1) && (decide (x.1 < 8) && (risB x.2 && (x.2.all isS && depsF x.1 r)))) := rfl
    have e3 : lastD p (x :: r) = lastD x.1 r := rfl
    rw [e1, e2, e3, ih]
    simp only [Bool.and_assoc]
theorem lastD_snoc (a : Dd) (x : Int × List (Int × Int)) : ∀ p, lastD p (a ++ [x]) = x.1 := by
  induction a with
  | nil => intro p; rfl
  | cons y r ih => intro p; exact ih y.1
theorem lastD_take {d : Dd} {k : Nat} {x : Int × List (Int × Int)} (h : d[k]? = some x) (p : Int) : lastD p (d.take (k + 1)) = x.1 := by
  rw [List.take_add_one, h]
  exact lastD_snoc _ _ _
theorem depsF_take {d : Dd} {k : Nat} {x : Int × List (Int × Int)} (h : d[k]? = some x) (ht : depsF (-1) (d.take k) = true) : depsF (-1) (d.take (k + 1)) = (decide (lastD (-1) (d.take k) < x.1) && (decide (x.1 < 8) && (risB x.2 && x.2.all isS))) := by
  rw [List.take_add_one, h]
  show depsF (-1) (d.take k ++ [x]) = _
  rw [depsF_append, ht]
  show (true && (decide _ && (decide _ && (risB x.2 && (x.2.all isS && true))))) = _
  simp
theorem depsF_cut {d : Dd} {k : Nat} (h : depsF (-1) (d.take k) = false) : depsF (-1) d = false := by
  have e := depsF_append (d.take k) (d.drop k) (-1)
  rw [List.take_append_drop, h] at e
  simpa using e
theorem lastD_ge : ∀ {d : Dd} {p : Int}, depsF p d = true → p ≤ lastD p d := by
  intro d
  induction d with
  | nil => intro p _; exact Int.le_refl _
  | cons x r ih =>
    intro p h
    have e : depsF p (x :: r) = (decide (p < x.1) && (decide (x.1 < 8) && (risB x.2 && (x.2.all isS && depsF x.1 r)))) := rfl
    rw [e] at h
    simp only [Bool.and_eq_true, decide_eq_true_eq] at h
    have := ih h.2.2.2.2
    show p ≤ lastD x.1 r
    omega
theorem check_bad {d : Dd} (h1 : d.length ≤ 8) (h2 : idsN d ≤ 512) (h : depsF (-1) d = false) : checkD d = 60 := by
  unfold checkD
  rw [if_neg (by omega), h]
  rfl
theorem check_good {d : Dd} (h1 : d.length ≤ 8) (h2 : idsN d ≤ 512) (h : depsF (-1) d = true) : checkD d = 0 := by
  unfold checkD
  rw [if_neg (by omega), h]
  rfl
theorem check_many {d : Dd} (h : 8 < d.length ∨ 512 < idsN d) : checkD d = 6 := by
  unfold checkD
  rw [if_pos h]
theorem all_take {l : List (Int × Int)} {j : Nat} {x : Int × Int} (h : l[j]? = some x) (ht : (l.take j).all isS = true) : (l.take (j + 1)).all isS = isS x := by
  rw [List.take_add_one, h, List.all_append, ht]
  simp
theorem all_cut {l : List (Int × Int)} {j : Nat} (h : (l.take j).all isS = false) : l.all isS = false := by
  have e : (l.take j ++ l.drop j).all isS = ((l.take j).all isS && (l.drop j).all isS) := List.all_append
  rw [List.take_append_drop, h] at e
  simpa using e

set_option maxRecDepth 100000 in
set_option maxHeartbeats 4000000 in
theorem refcheck_any (a : Option Addr) (c : Nat) (l : List Dp) (w : World) (hf : FewD l) (hn : idsN (toD l) ≤ 1000000) (hl : Dl w a l) :
    Calls Tryz.prog 19 #[.slice a l.length c] w fun e w' => e = .returned (.int .i64 (checkD (toD l))) ∧ Below w.heap.size w w' := by
  have HL := Lib.hid hl
  have HF := Lib.hid hf
  have HNN := Lib.hid hn
  have hlen := hf.1
  clear hl hf
  go_enter Tryz.func19, Tryz.ntmps19
  go_wp2
  go_loopw [3, 4] (fun v i wr => ∃ k : Nat, k ≤ l.length ∧ v = .int .i64 (idsN ((toD l).take k) : Nat) ∧ i = .int .i64 k ∧ Below w.heap.size w wr) (fun _ i _ => l.length - (intOf i).toNat)
  case atStart => exact ⟨0, Nat.zero_le _, rfl, rfl, Below.refl _ _⟩
  case round =>
    obtain ⟨k, hk, rfl, rfl, hb⟩ := hrel
    have HB := Lib.hid hb
    clear hb
    by_cases hlt : k < l.length
    · obtain ⟨s, hs⟩ := at_ltD hlt
      obtain ⟨b, o, rfl, hbg, hx, hy, hi⟩ := (HL.out.later HB.out).at hs
      have hk1 : (k : Int) < (l.length : Int) := by omega
      have hk0 : (0 : Int) ≤ (k : Int) := by omega
      have hdk : decide ((k : Int) < (l.length : Int)) = true := decide_eq_true hk1
      have HFT := Lib.hid (idsN_take (toD_at hs))
      have hsl : s.ids.length ≤ 1000000 := HF.out.2 s (List.mem_of_getElem? hs)
      have hnk : idsN ((toD l).take k) ≤ 1000000 := Nat.le_trans (idsN_take_le _ _) HNN.out
      unfold ilD at hy
      clear hs hi
      generalize hG : idsN ((toD l).take k) = G at *
      clear hG
      go_wp2
      go_roundw
      case rel => exact ⟨k + 1, hlt, by rw [HFT.out]; go_num, by go_num, HB.out⟩
      case measure => simp [intOf]; omega
    · have hge : ¬ (k : Int) < (l.length : Int) := by omega
      have hdk : decide ((k : Int) < (l.length : Int)) = false := decide_eq_false hge
      have HTK : Hid (idsN ((toD l).take k) = idsN (toD l)) := by
        show _ = _
        rw [List.take_of_length_le (by rw [toD_length]; omega)]
      rw [HTK.out]
      generalize hG : idsN (toD l) = G at *
      have HG := Lib.hid hG
      have hGn : G ≤ 1000000 := HNN.out
      clear hG HTK
      have HLE : Hid ((toD l).length = l.length) := toD_length l
      by_cases h8 : 8 < l.length
      · have hd1 : decide ((8 : Int) < (l.length : Int)) = true := decide_eq_true (by omega)
        have HC : Hid (checkD (toD l) = 6) := check_many (.inl (by rw [HLE.out]; exact h8))
        go_wp2
        go_ret
        exact ⟨by rw [HC.out]; rfl, HB.out⟩
      · have hd1 : decide ((8 : Int) < (l.length : Int)) = false := decide_eq_false (by omega)
        by_cases h5 : 512 < G
        · have hd2 : decide ((512 : Int) < (G : Int)) = true := decide_eq_true (by omega)
          have HC : Hid (checkD (toD l) = 6) := check_many (.inr (by rw [HG.out]; exact h5))
          go_wp2
          go_ret
          exact ⟨by rw [HC.out]; rfl, HB.out⟩
        · have hd2 : decide ((512 : Int) < (G : Int)) = false := decide_eq_false (by omega)
          have HBAD : Hid (depsF (-1) (toD l) = false → checkD (toD l) = 60) := check_bad (by rw [HLE.out]; omega) (by rw [HG.out]; omega)
          have HGOOD : Hid (depsF (-1) (toD l) = true → checkD (toD l) = 0) := check_good (by rw [HLE.out]; omega) (by rw [HG.out]; omega)
          go_wp2
          go_loopw [5, 6] (fun i u wr => ∃ k : Nat, k ≤ l.length ∧ i = .int .i64 k ∧ depsF (-1) ((toD l).take k) = true ∧ Below w.heap.size w wr) (fun i _ _ => l.length - (intOf i).toNat)
          case atStart => exact ⟨0, Nat.zero_le _, rfl, rfl, HB.out⟩
          case round =>
            clear HB
            obtain ⟨k, hk, rfl, hd, hb⟩ := hrel
            have HB := Lib.hid hb
            have HD := Lib.hid hd
            clear hb hd
            by_cases hlt : k < l.length
            · obtain ⟨s, hs⟩ := at_ltD hlt
              obtain ⟨b, o, rfl, hbg0, hx0, hy0, hi0⟩ := HL.out.at hs
              have hk1 : (k : Int) < (l.length : Int) := by omega
              have hk0 : (0 : Int) ≤ (k : Int) := by omega
              have hdk2 : decide ((k : Int) < (l.length : Int)) = true := decide_eq_true hk1
              have HDT := Lib.hid (depsF_take (toD_at hs) HD.out)
              have hsl : s.ids.length ≤ 1000000 := HF.out.2 s (List.mem_of_getElem? hs)
              have HE := Lib.hid (fun (W : World) (hb : Below w.heap.size w W) => (⟨cell_in hb hbg0 hx0, cell_in hb hbg0 hy0, Nat.lt_of_lt_of_le hbg0 hb.size, hi0.later hb⟩ : W.cell? ⟨b, o + k * 2, none⟩ = some (.int .i64 s.sh) ∧ W.cell? ⟨b, o + k * 2 + 1, none⟩ = some (ilD s) ∧ b < W.heap.size ∧ IdsAt W s))
              obtain ⟨hx, hy, hbg, hi⟩ := HE.out _ HB.out
              have HI := Lib.hid hi
              clear hbg0 hx0 hy0 hi0
              have HPV : Hid (∀ j, k = j + 1 → ∃ y : Dp, l[j]? = some y ∧ lastD (-1) ((toD l).take k) = y.sh) := by
                intro j hj
                obtain ⟨y, hy⟩ := at_ltD (l := l) (k := j) (by omega)
                exact ⟨y, hy, by rw [hj]; exact lastD_take (toD_at hy) _⟩
              have hpg : -1 ≤ lastD (-1) ((toD l).take k) := lastD_ge HD.out
              have HPZ : Hid (k = 0 → lastD (-1) ((toD l).take k) = -1) := fun h => by rw [h]; rfl
              unfold ilD at hy HE
              clear hs hi
              generalize hp : lastD (-1) ((toD l).take k) = p at *
              clear hp
              by_cases h0 : s.sh < 0
              · have hd0 : decide (s.sh < 0) = true := decide_eq_true h0
                have HC : Hid (checkD (toD l) = 60) := HBAD.out (depsF_cut (k := k + 1) (by rw [HDT.out, decide_eq_false (show ¬ p < s.sh by omega)]; rfl))
                go_wp2_with fail
                refine region_aft (by kernel_rfl) (by kernel_rfl) ?_
                repeat (go_big_quiet_step (fail))
                refine wpQuiet_nil ?_
                rintro w2 ⟨z, rfl⟩
                go_wp2
                go_ret
                exact ⟨by rw [HC.out]; rfl, blThen HB.out z.h⟩
              · have hd0 : decide (s.sh < 0) = false := decide_eq_false h0
                by_cases h8 : 8 ≤ s.sh
                · have hd8 : decide (8 ≤ s.sh) = true := decide_eq_true h8
                  have HC : Hid (checkD (toD l) = 60) := HBAD.out (depsF_cut (k := k + 1) (by rw [HDT.out, decide_eq_false (show ¬ s.sh < 8 by omega)]; simp))
                  go_wp2_with fail
                  refine region_aft (by kernel_rfl) (by kernel_rfl) ?_
                  repeat (go_big_quiet_step (fail))
                  refine wpQuiet_nil ?_
                  rintro w2 ⟨z, rfl⟩
                  go_wp2
                  go_ret
                  exact ⟨by rw [HC.out]; rfl, blThen HB.out z.h⟩
                · have hd8 : decide (8 ≤ s.sh) = false := decide_eq_false h8
                  by_cases hkz : k = 0
                  · have hdz : decide ((0 : Int) < (k : Int)) = false := decide_eq_false (by omega)
                    have hps : p < s.sh := by have := HPZ.out hkz; omega
                    have hdz2 : decide (0 < k) = false := decide_eq_false (by omega)
                    have HKZ := Lib.hid hkz
                    clear hkz
                    have HLO : Hid (decide (p < s.sh) = true) := decide_eq_true hps
                    have H8 : Hid (decide (s.sh < 8) = true) := decide_eq_true (by omega)
                    generalize hq : risB s.ids = q at *
                    have HQ := Lib.hid hq
                    clear hq
                    cases q
                    · have HC : Hid (checkD (toD l) = 60) := HBAD.out (depsF_cut (k := k + 1) (by rw [HDT.out]; simp))
                      go_wp2_with fail
                      refine region_aft (by kernel_rfl) (by kernel_rfl) ?_
                      repeat (go_big_quiet_step (first | (go_at_call 104; exact aft_of ((reflistS_any _ _ s.ids _ hsl (HI.out.1.later (Aft.h _))).mono fun e w' h => by rw [HQ.out] at h; exact h))))
                      refine wpQuiet_nil ?_
                      rintro w2 ⟨z, rfl⟩
                      go_wp2
                      go_ret
                      exact ⟨by rw [HC.out]; rfl, blThen HB.out z.h⟩
                    · go_wp2_with fail
                      refine region_aft (by kernel_rfl) (by kernel_rfl) ?_
                      repeat (go_big_quiet_step (first | (go_at_call 104; exact aft_of ((reflistS_any _ _ s.ids _ hsl (HI.out.1.later (Aft.h _))).mono fun e w' h => by rw [HQ.out] at h; exact h))))
                      refine wpQuiet_nil ?_
                      rintro w2 ⟨z, rfl⟩
                      have HB3 := Lib.hid (blThen HB.out z.h)
                      go_wp2
                      go_loopw [6] (fun i wr => ∃ m : Nat, m ≤ s.ids.length ∧ i = .int .i64 m ∧ (s.ids.take m).all isS = true ∧ Below w.heap.size w wr) (fun i _ => s.ids.length - (intOf i).toNat)
                      case atStart => exact ⟨0, Nat.zero_le _, rfl, rfl, HB3.out⟩
                      case round =>
                        clear HB3 hx hy hbg
                        obtain ⟨m, hm, rfl, ha, hb⟩ := hrel
                        obtain ⟨-, e1, hbw, hi⟩ := HE.out _ hb
                        have HB3 := Lib.hid hb
                        have HA := Lib.hid ha
                        have HI3 := Lib.hid hi
                        clear hb ha hi
                        by_cases hml : m < s.ids.length
                        · obtain ⟨t, n, htn⟩ := at_ltS hml
                          obtain ⟨gi, oi, hia, hgi, hlst⟩ := HI3.out.1 (by intro e; rw [e] at hml; simp at hml)
                          rw [hia] at e1
                          clear hia
                          obtain ⟨x0, x1⟩ := hlst m t n htn
                          have hm1 : (m : Int) < (s.ids.length : Int) := by omega
                          have hm0 : (0 : Int) ≤ (m : Int) := by omega
                          have hdm : decide ((m : Int) < (s.ids.length : Int)) = true := decide_eq_true hm1
                          have HAT := Lib.hid (all_take htn HA.out)
                          generalize hq2 : isS (t, n) = q2 at *
                          have HQ2 := Lib.hid hq2
                          clear hlst htn hq2
                          cases q2
                          · have HC : Hid (checkD (toD l) = 60) := HBAD.out (depsF_cut (k := k + 1) (by rw [HDT.out, all_cut HAT.out]; simp))
                            go_wp2_with (go_at_call 79; refine (is_any t n _).mono ?_; rintro e w3 ⟨h1, qn, os, rfl⟩; rw [HQ2.out] at h1; subst h1)
                            go_ret
                            exact ⟨by rw [HC.out]; rfl, blGrown HB3.out qn os⟩
                          · go_wp2_with (go_at_call 79; refine (is_any t n _).mono ?_; rintro e w3 ⟨h1, qn, os, rfl⟩; rw [HQ2.out] at h1; subst h1)
                            go_roundw
                            case rel => exact ⟨m + 1, hml, by go_num, HAT.out, blGrown HB3.out qn os⟩
                            case measure => simp [intOf]; omega
                        · have hge : ¬ (m : Int) < (s.ids.length : Int) := by omega
                          have hdm : decide ((m : Int) < (s.ids.length : Int)) = false := decide_eq_false hge
                          have HDN : Hid (depsF (-1) ((toD l).take (k + 1)) = true) := by
                            have h := HA.out
                            rw [List.take_of_length_le (by omega)] at h
                            show _ = true
                            rw [HDT.out, HLO.out, H8.out, h]
                            rfl
                          go_wp2
                          go_roundw
                          case rel => exact ⟨k + 1, hlt, by go_num, HDN.out, HB3.out⟩
                          case measure => simp [intOf]; omega
                  · obtain ⟨j, rfl⟩ : ∃ j, k = j + 1 := ⟨k - 1, by omega⟩
                    obtain ⟨y, hy2, hpy⟩ := HPV.out j rfl
                    obtain ⟨b2, o2, hb2, hbg2, hx2, -, -⟩ := (HL.out.later HB.out).at hy2
                    simp only [Option.some.injEq, Addr.mk.injEq, and_true] at hb2
                    obtain ⟨rfl, rfl⟩ := hb2
                    have ecast : ((j + 1 : Nat) : Int) = (j : Int) + 1 := rfl
                    have hdz : decide ((0 : Int) < (j : Int) + 1) = true := decide_eq_true (by omega)
                    have hj0 : (0 : Int) ≤ (j : Int) := by omega
                    have hj1 : (j : Int) < (l.length : Int) := by omega
                    rw [ecast] at hk1 hk0 hdk2 ⊢
                    by_cases hps : p < s.sh
                    · have hdp : decide (s.sh ≤ y.sh) = false := decide_eq_false (by omega)
                      have HLO : Hid (decide (p < s.sh) = true) := decide_eq_true hps
                      have H8 : Hid (decide (s.sh < 8) = true) := decide_eq_true (by omega)
                      generalize hq : risB s.ids = q at *
                      have HQ := Lib.hid hq
                      clear hq
                      cases q
                      · have HC : Hid (checkD (toD l) = 60) := HBAD.out (depsF_cut (k := (j + 1) + 1) (by rw [HDT.out]; simp))
                        go_wp2_with fail
                        refine region_aft (by kernel_rfl) (by kernel_rfl) ?_
                        repeat (go_big_quiet_step (first | (go_at_call 104; exact aft_of ((reflistS_any _ _ s.ids _ hsl (HI.out.1.later (Aft.h _))).mono fun e w' h => by rw [HQ.out] at h; exact h))))
                        refine wpQuiet_nil ?_
                        rintro w2 ⟨z, rfl⟩
                        go_wp2
                        go_ret
                        exact ⟨by rw [HC.out]; rfl, blThen HB.out z.h⟩
                      · go_wp2_with fail
                        refine region_aft (by kernel_rfl) (by kernel_rfl) ?_
                        repeat (go_big_quiet_step (first | (go_at_call 104; exact aft_of ((reflistS_any _ _ s.ids _ hsl (HI.out.1.later (Aft.h _))).mono fun e w' h => by rw [HQ.out] at h; exact h))))
                        refine wpQuiet_nil ?_
                        rintro w2 ⟨z, rfl⟩
                        have HB3 := Lib.hid (blThen HB.out z.h)
                        go_wp2
                        go_loopw [6] (fun i wr => ∃ m : Nat, m ≤ s.ids.length ∧ i = .int .i64 m ∧ (s.ids.take m).all isS = true ∧ Below w.heap.size w wr) (fun i _ => s.ids.length - (intOf i).toNat)
                        case atStart => exact ⟨0, Nat.zero_le _, rfl, rfl, HB3.out⟩
                        case round =>
                          clear HB3 hx hy hbg
                          obtain ⟨m, hm, rfl, ha, hb⟩ := hrel
                          obtain ⟨-, e1, hbw, hi⟩ := HE.out _ hb
                          have HB3 := Lib.hid hb
                          have HA := Lib.hid ha
                          have HI3 := Lib.hid hi
                          clear hb ha hi
                          by_cases hml : m < s.ids.length
                          · obtain ⟨t, n, htn⟩ := at_ltS hml
                            obtain ⟨gi, oi, hia, hgi, hlst⟩ := HI3.out.1 (by intro e; rw [e] at hml; simp at hml)
                            rw [hia] at e1
                            clear hia
                            obtain ⟨x0, x1⟩ := hlst m t n htn
                            have hm1 : (m : Int) < (s.ids.length : Int) := by omega
                            have hm0 : (0 : Int) ≤ (m : Int) := by omega
                            have hdm : decide ((m : Int) < (s.ids.length : Int)) = true := decide_eq_true hm1
                            have HAT := Lib.hid (all_take htn HA.out)
                            generalize hq2 : isS (t, n) = q2 at *
                            have HQ2 := Lib.hid hq2
                            clear hlst htn hq2
                            cases q2
                            · have HC : Hid (checkD (toD l) = 60) := HBAD.out (depsF_cut (k := (j + 1) + 1) (by rw [HDT.out, all_cut HAT.out]; simp))
                              go_wp2_with (go_at_call 79; refine (is_any t n _).mono ?_; rintro e w3 ⟨h1, qn, os, rfl⟩; rw [HQ2.out] at h1; subst h1)
                              go_ret
                              exact ⟨by rw [HC.out]; rfl, blGrown HB3.out qn os⟩
                            · go_wp2_with (go_at_call 79; refine (is_any t n _).mono ?_; rintro e w3 ⟨h1, qn, os, rfl⟩; rw [HQ2.out] at h1; subst h1)
                              go_roundw
                              case rel => exact ⟨m + 1, hml, by go_num, HAT.out, blGrown HB3.out qn os⟩
                              case measure => simp [intOf]; omega
                          · have hge : ¬ (m : Int) < (s.ids.length : Int) := by omega
                            have hdm : decide ((m : Int) < (s.ids.length : Int)) = false := decide_eq_false hge
                            have HDN : Hid (depsF (-1) ((toD l).take ((j + 1) + 1)) = true) := by
                              have h := HA.out
                              rw [List.take_of_length_le (by omega)] at h
                              show _ = true
                              rw [HDT.out, HLO.out, H8.out, h]
                              rfl
                            go_wp2
                            go_roundw
                            case rel => exact ⟨(j + 1) + 1, hlt, by go_num, HDN.out, HB3.out⟩
                            case measure => simp [intOf]; omega
                    · have hdp : decide (s.sh ≤ y.sh) = true := decide_eq_true (by omega)
                      have HC : Hid (checkD (toD l) = 60) := HBAD.out (depsF_cut (k := (j + 1) + 1) (by rw [HDT.out, decide_eq_false hps]; simp))
                      go_wp2_with fail
                      refine region_aft (by kernel_rfl) (by kernel_rfl) ?_
                      repeat (go_big_quiet_step (fail))
                      refine wpQuiet_nil ?_
                      rintro w2 ⟨z, rfl⟩
                      go_wp2
                      go_ret
                      exact ⟨by rw [HC.out]; rfl, blThen HB.out z.h⟩
            · have hge2 : ¬ (k : Int) < (l.length : Int) := by omega
              have hdk2 : decide ((k : Int) < (l.length : Int)) = false := decide_eq_false hge2
              have HC : Hid (checkD (toD l) = 0) := HGOOD.out (by
                have h := HD.out
                rwa [List.take_of_length_le (by rw [toD_length]; omega)] at h)
              go_wp2
              go_ret
              exact ⟨by rw [HC.out]; rfl, HB.out⟩

end SD
end Go.Proofs.YtjlkgbejldcklaaGreat
