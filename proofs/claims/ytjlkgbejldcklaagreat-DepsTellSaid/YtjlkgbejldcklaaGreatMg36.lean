/- What the reference's Add of Deps wants: the place of a shard; rows of Deps put behind a row, in a region that leaves its order open. -/
import Derived.Test.YtjlkgbejldcklaaGreatMg35
import Derived.Test.YtjlkgbejldcklaaGreatMg22
/- The reference's Lay of Deps. Conditions: lists of at most a million, with a million stamps in all. -/
set_option linter.unusedVariables false
namespace Go.Proofs.YtjlkgbejldcklaaGreat
open S1
namespace SD
open Go.RowKit

/-- The bytes of one; of all. -/
def lay1 (x : Int × List (Int × Int)) : List UInt8 := S2.i8 x.1 ++ S2.sts x.2
def layF (d : Dd) : List UInt8 := d.flatMap lay1
def layD (d : Dd) : List UInt8 := S2.i8 d.length ++ layF d
theorem sts_len (l : List (Int × Int)) : (S2.sts l).length = 8 + 16 * l.length := by
  unfold S2.sts
  rw [List.length_append, S2.i8_length, S2.flat_length S2.st 16 S2.st_length]
theorem layF_len (d : Dd) : (layF d).length = 16 * d.length + 16 * idsN d := by
  unfold layF
  induction d with
  | nil => rfl
  | cons x r ih =>
    rw [List.flatMap_cons, List.length_append, ih, idsN_cons, List.length_cons]
    unfold lay1
    rw [List.length_append, S2.i8_length, sts_len]
    omega
theorem layF_take {l : List Dp} {k : Nat} {s : Dp} (h : l[k]? = some s) : layF ((toD l).take (k + 1)) = layF ((toD l).take k) ++ (S2.i8 s.sh ++ S2.sts s.ids) := by
  unfold layF
  rw [List.take_add_one, toD_at h, List.flatMap_append]
  simp [lay1]
/-- Stamps that lay there before the row did. -/
theorem sl_two {w0 w : World} {g : Option Nat} {a : Option Addr} {xs : List (Int × Int)} (h : SL w0 a xs) (hb : Below w0.heap.size w0 w) (hg : ∀ k, g = some k → w0.heap.size ≤ k) : ∃ g2, S2.SL w g2 a xs ∧ g ≠ some g2 := by
  by_cases hne : xs = []
  · refine ⟨g.getD 0 + 1, fun h => absurd hne h, ?_⟩
    cases g <;> simp
  · obtain ⟨b, o, ha, hlt, hl⟩ := h hne
    exact ⟨b, fun _ => ⟨o, ha, fun j x y hx => ⟨cell_in hb hlt (hl j x y hx).1, cell_in hb hlt (hl j x y hx).2⟩⟩, fun e => by have := hg b e; omega⟩
theorem row_ge {B : Nat} {g g' : Option Nat} {w w' : World} (h : S2.RowStep g g' w w') (hB : B ≤ w.heap.size) (hg : ∀ k, g = some k → B ≤ k) : ∀ k, g' = some k → B ≤ k := by
  intro k hk
  rcases h.row with e | e
  · exact hg k (e ▸ hk)
  · exact Nat.le_trans hB (e k hk)

set_option maxRecDepth 100000 in
set_option maxHeartbeats 2000000 in
theorem reflay_any (w0 w : World) (g : Option Nat) (v : Value) (L : List UInt8) (a : Option Addr) (c : Nat) (l : List Dp) (hf : FewD l) (hn : idsN (toD l) ≤ 1000000) (hr : S2.Row w g v L) (hl : Dl w0 a l) (hb : Below w0.heap.size w0 w) (hg : ∀ k, g = some k → w0.heap.size ≤ k) (hlen : L.length ≤ 1000000000) :
    Calls Tryz.prog 22 #[v, .slice a l.length c] w (S2.Rowed w g (L ++ layD (toD l))) := by
  have HL := Lib.hid hl
  have HF := Lib.hid hf
  have HNN := Lib.hid hn
  have HR := Lib.hid hr
  have HB0 := Lib.hid hb
  have HG := Lib.hid hg
  have hlen6 := hf.1
  have HN : Hid (L.length + 8 ≤ 1099511627776) := by show _ ≤ _; omega
  obtain ⟨a0, n0, c0, rfl⟩ := hr.form
  clear hl hf hr hb hg
  go_enter Tryz.func22, Tryz.ntmps22
  go_wp2_with (go_at_call 107; refine (S2.rint_any _ g _ L (l.length : Int) HR.out HN.out).mono ?_; rintro e w1 ⟨v1, g1, rfl, h1, h2⟩; obtain ⟨a1, n1, c1, rfl⟩ := h1.form; have H1 := Lib.hid h1; have H2 := Lib.hid h2; clear h1 h2)
  go_loopw [0, 5] (fun v i wr => ∃ (k : Nat) (g' : Option Nat), k ≤ l.length ∧ i = .int .i64 k ∧ S2.Row wr g' v (L ++ S2.i8 l.length ++ layF ((toD l).take k)) ∧ S2.RowStep g g' w wr) (fun _ i _ => l.length - (intOf i).toNat)
  case atStart => exact ⟨0, g1, Nat.zero_le _, rfl, by simpa [layF] using H1.out, H2.out⟩
  case round =>
    clear H1 H2
    obtain ⟨k, g', hk, rfl, hrk, hst⟩ := hrel
    have HS := Lib.hid hst
    obtain ⟨aj, nj, cj, rfl⟩ := hrk.form
    have HRK := Lib.hid hrk
    have HBK : Hid (Below w0.heap.size w0 wr) := HB0.out.trans (hst.below HB0.out.size HG.out)
    have HGK : Hid (∀ k, g' = some k → w0.heap.size ≤ k) := row_ge hst HB0.out.size HG.out
    clear hst hrk
    by_cases hlt : k < l.length
    · obtain ⟨s, hs⟩ := at_ltD hlt
      obtain ⟨b, o, rfl, hbg0, hx0, hy0, hi0⟩ := HL.out.at hs
      have hk1 : (k : Int) < (l.length : Int) := by omega
      have hk0 : (0 : Int) ≤ (k : Int) := by omega
      have hdk : decide ((k : Int) < (l.length : Int)) = true := decide_eq_true hk1
      have HSI := Lib.hid hi0.1
      have HE := Lib.hid (fun (W : World) (hb : Below w0.heap.size w0 W) => (⟨cell_in hb hbg0 hx0, cell_in hb hbg0 hy0, Nat.lt_of_lt_of_le hbg0 hb.size⟩ : W.cell? ⟨b, o + k * 2, none⟩ = some (.int .i64 s.sh) ∧ W.cell? ⟨b, o + k * 2 + 1, none⟩ = some (ilD s) ∧ b < W.heap.size))
      obtain ⟨e0, e1, hbw⟩ := HE.out _ HBK.out
      have HFT := Lib.hid (layF_take hs)
      have HLN : Hid ((L ++ S2.i8 l.length ++ layF ((toD l).take k)).length + 16 * s.ids.length + 100 ≤ 1099511627776) := by
        show _ ≤ _
        have h1 := layF_len ((toD l).take k)
        have h2 := idsN_take_le (toD l) k
        have h3 := HNN.out
        have h4 := idsN_le (List.mem_of_getElem? hs)
        rw [List.length_append, List.length_append, S2.i8_length, h1, List.length_take, toD_length]
        omega
      unfold ilD at HE e1
      clear hs hbg0 hx0 hy0 hi0
      generalize hG : L ++ S2.i8 l.length ++ layF ((toD l).take k) = G at *
      have HGE := Lib.hid hG
      clear hG
      have HL1 : Hid (G.length + 8 ≤ 1099511627776) := by have := HLN.out; show _ ≤ _; omega
      have HL2 : Hid ((G ++ S2.i8 s.sh).length + 16 * s.ids.length + 32 ≤ 1099511627776) := by have := HLN.out; show _ ≤ _; rw [List.length_append, S2.i8_length]; omega
      clear HLN
      go_wp2
      go_region_law (first
        | ((try go_simp); go_at_call 107; refine (S2.rint_any _ g' _ G s.sh (HRK.out.before (S2.Keeps.drew _ _)) HL1.out).mono ?_; rintro e w2 ⟨v2, g2, rfl, h1, h2⟩; obtain ⟨a2, n2, c2, rfl⟩ := h1.form; have H3 := Lib.hid h1; have H4 := Lib.hid (h2.before (w := wr) (S2.Keeps.drew _ _)); have HB2 : Hid (Below w0.heap.size w0 w2) := HBK.out.trans (H4.out.below HBK.out.size HGK.out); have HG2 : Hid (∀ k, g2 = some k → w0.heap.size ≤ k) := row_ge H4.out HBK.out.size HGK.out; obtain ⟨f0, f1, fb⟩ := HE.out _ HB2.out; clear h1 h2)
        | ((try go_simp); go_at_call 108; obtain ⟨q2, hq1, hq2⟩ := sl_two (w := w2) HSI.out HB2.out HG2.out; refine (S2.rstamps_any _ g2 _ _ q2 _ _ s.ids H3.out hq1 hq2 HL2.out).mono ?_; rintro e w3 ⟨v3, g3, rfl, h1, h2⟩; obtain ⟨a3, n3, c3, rfl⟩ := h1.form; have H5 := Lib.hid h1; have H6 := Lib.hid h2; clear h1 h2))
      all_goals
        go_wp2
        go_roundw
        case rel => exact ⟨k + 1, g3, hlt, by go_num, by rw [HFT.out, ← List.append_assoc, HGE.out, ← List.append_assoc]; exact H5.out, HS.out.trans (H4.out.trans H6.out)⟩
        case measure => simp [intOf]; omega
    · have hge : ¬ (k : Int) < (l.length : Int) := by omega
      have hdk : decide ((k : Int) < (l.length : Int)) = false := decide_eq_false hge
      have HT : Hid (L ++ S2.i8 l.length ++ layF ((toD l).take k) = L ++ layD (toD l)) := by
        show _ = _
        rw [List.take_of_length_le (by rw [toD_length]; omega), List.append_assoc]
        unfold layD
        rw [toD_length]
      rw [HT.out] at HRK
      go_wp2
      go_ret
      exact ⟨_, g', rfl, HRK.out, HS.out⟩

end SD
end Go.Proofs.YtjlkgbejldcklaaGreat

/- What the reference's Add of Deps wants: the place of a shard; rows of Deps put behind a row, in a region that leaves its order open. -/
set_option linter.unusedVariables false
namespace Go.Proofs.YtjlkgbejldcklaaGreat
open S1
namespace SD
open Go.RowKit

/-- All ahead of place k are less: what Add comes to. -/
theorem addD_at : ∀ {k : Nat} {d : Dd} {s : Int} (l : List (Int × Int)), k ≤ d.length → (∀ x ∈ d.take k, x.1 < s) →
    (d.length = k → addD d s l = d.take k ++ (s, sortL l) :: d.drop k) ∧
    (∀ x, d[k]? = some x → x.1 = s → addD d s l = d.take k ++ (s, sortL (x.2 ++ l)) :: d.drop (k + 1)) ∧
    (∀ x, d[k]? = some x → s < x.1 → addD d s l = d.take k ++ (s, sortL l) :: d.drop k) := by
  intro k
  induction k with
  | zero =>
    intro d s l _ _
    cases d with
    | nil => exact ⟨fun _ => rfl, fun x h => (by simp at h), fun x h => (by simp at h)⟩
    | cons y r =>
      refine ⟨fun h => (by simp at h), fun x h he => ?_, fun x h hl => ?_⟩
      · simp only [List.getElem?_cons_zero, Option.some.injEq] at h
        subst h
        rw [addD_cons, if_neg (by omega), if_pos he]
        rfl
      · simp only [List.getElem?_cons_zero, Option.some.injEq] at h
        subst h
        rw [addD_cons, if_neg (by omega), if_neg (by omega)]
        rfl
  | succ k ih =>
    intro d s l hk h
    cases d with
    | nil => simp at hk
    | cons y r =>
      have hy : y.1 < s := h y (by simp)
      obtain ⟨h1, h2, h3⟩ := ih (d := r) (s := s) l (by simpa using hk) fun x hx => h x (by simp [hx])
      rw [addD_cons, if_pos hy]
      refine ⟨fun e => ?_, fun x hx he => ?_, fun x hx hl => ?_⟩
      · rw [h1 (by simpa using e)]
        rfl
      · rw [h2 x (by simpa using hx) he]
        rfl
      · rw [h3 x (by simpa using hx) hl]
        rfl
/-- The shards ahead of place k + 1 are less where those ahead of k are, and that at k. -/
theorem less_take {d : Dd} {k : Nat} {x : Int × List (Int × Int)} {s : Int} (h : d[k]? = some x) (ht : ∀ y ∈ d.take k, y.1 < s) (hx : x.1 < s) : ∀ y ∈ d.take (k + 1), y.1 < s := by
  intro y hy
  rw [List.take_add_one, h, List.mem_append] at hy
  rcases hy with hy | hy
  · exact ht y hy
  · simp only [Option.toList, List.mem_singleton] at hy
    subst hy
    exact hx
theorem toD_take (l : List Dp) (k : Nat) : toD (l.take k) = (toD l).take k := by simp [toD, List.map_take]
theorem toD_drop (l : List Dp) (k : Nat) : toD (l.drop k) = (toD l).drop k := by simp [toD, List.map_drop]
theorem toD_append (a b : List Dp) : toD (a ++ b) = toD a ++ toD b := by simp [toD]
/-- A part of a row lies where the row does. -/
theorem rowD_drop {w : World} {g o : Nat} {l : List Dp} (h : RowD w g o l) (k : Nat) : RowD w g (o + k * 2) (l.drop k) := by
  intro i s hi
  rw [List.getElem?_drop] at hi
  obtain ⟨h1, h2⟩ := h (k + i) s hi
  exact ⟨by rw [← h1]; congr 2; omega, by rw [← h2]; congr 2; omega⟩
theorem rowD_take {w : World} {g o : Nat} {l : List Dp} (h : RowD w g o l) (k : Nat) : RowD w g o (l.take k) := by
  intro i s hi
  have hlt : i < k := by
    have := (List.getElem?_eq_some_iff.1 hi).1
    rw [List.length_take] at this
    omega
  rw [List.getElem?_take_of_lt hlt] at hi
  exact h i s hi
/-- append of Deps to a row of the call's own, as a step of a region that leaves its order open. -/
theorem step_dps {ops : Array Oper} {o : Oper} {a : Act} {w : World} {K : Act → World → Prop} {Q : Exit → Act → World → Prop} {E : Prop} (hg : o.guard = none) (s x : Operand)
    (ho : o.op = .call { callee := .builtin .append, args := #[s, x], argTypes := #[22, 22] }) (base : Nat) {v : Value} {d : List Dp} {g off n cap : Nat} {m : List Dp} (hs : a.eval s = v) (hx : a.eval x = .slice (some ⟨g, off, none⟩) n cap) (hn : n = m.length)
    (hown : OwnD w base v d) (hc : RowD w g off m) (hlen : d.length + m.length ≤ 4000000) (hbase : base ≤ w.heap.size)
    (h : ∀ v' w', OwnD w' base v' (d ++ m) → w.grownBy w' v.ownBlock → (v'.ownBlock = v.ownBlock ∨ v'.ownBlock = some w.heap.size) → K (a.put o.dst v') w') :
    if Region.wanted o (yielded ops a.tmps) = true then Oper.wp Tryz.prog o a w K Q else E := by
  have hw : Region.wanted o (yielded ops a.tmps) = true := by simp [Region.wanted, hg]
  rw [if_pos hw]
  subst hn
  obtain ⟨i0, hi, hz0, hz1, hz2⟩ := info_parts info_dp
  obtain ⟨v', w', hr, h2, h3, _, h5⟩ := run_append_own_at (P := Tryz.prog) w base 22 o.type 26 i0 (.agg #[.int .i64 0, .slice none 0 0]) 2 32 Tryz.underlying22 hi hz0 hz1 hz2 rfl (by decide) v d.length (cellsD d) hown ⟨g, off, none⟩ m.length cap (cellsD m) (cellsD_length m) hc.cells (cellsD_one m) (by unfold maxLen; omega) (by omega) hbase
  unfold Oper.wp execOp
  simp only [ho, resolve, invoke, builtin, Sem.run_bind, Sem.run_pure, Result.andThen_ok, List.map_toArray, List.map_cons, List.map_nil, hs, hx, hr]
  refine h v' w' ?_ h3 h5
  show w'.ownsRow base _ 2 v' _ _
  rw [List.length_append, cellsD_append]
  exact h2

end SD
end Go.Proofs.YtjlkgbejldcklaaGreat
