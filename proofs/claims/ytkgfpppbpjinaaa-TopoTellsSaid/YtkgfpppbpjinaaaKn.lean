/- Lists of texts in memory: those that came in, and those that are a call's own; appends. Conditions: lists of some millions of texts at most. -/
import Derived.Test.YtkgfpppbpjinaaaKd
import Derived.Deep.AppendLies
namespace Go.Proofs.Ytkgfpppbpjinaaa
open Go.RowKit

theorem blQ {w x : World} (h : Below w.heap.size w x) (n : Nat) : Below w.heap.size w (x.drewN n) := ⟨h.os, h.tape, h.output, h.size, h.block⟩
/-- From offset o on, block g holds the texts of l. -/
def Row1 (w : World) (g o : Nat) (l : List ByteArray) : Prop := ∀ (i : Nat) s, l[i]? = some s → w.cell? ⟨g, o + i, none⟩ = some (.string s)
/-- The slice v holds the texts of l. -/
def Tl (w : World) (v : Value) (l : List ByteArray) : Prop := ∃ a cap, v = .slice a l.length cap ∧ (a = none → cap = 0) ∧ (l ≠ [] → ∃ g o, a = some ⟨g, o, none⟩ ∧ g < w.heap.size ∧ Row1 w g o l)
theorem Row1.later {B : Nat} {W wr : World} {g o : Nat} {l : List ByteArray} (h : Row1 W g o l) (hb : g < B) (hw : Below B W wr) : Row1 wr g o l :=
  fun i s hi => cell_in hw hb (h i s hi)
theorem Tl.later {W wr : World} {v : Value} {l : List ByteArray} (h : Tl W v l) (hw : Below W.heap.size W wr) : Tl wr v l := by
  obtain ⟨a, cap, hv, hn, hr⟩ := h
  refine ⟨a, cap, hv, hn, fun hne => ?_⟩
  obtain ⟨g, o, ha, hg, hl⟩ := hr hne
  exact ⟨g, o, ha, Nat.lt_of_lt_of_le hg hw.size, hl.later hg hw⟩
theorem Tl.form {w : World} {v : Value} {l : List ByteArray} (h : Tl w v l) : ∃ a cap, v = .slice a l.length cap := by
  obtain ⟨a, cap, hv, _⟩ := h
  exact ⟨a, cap, hv⟩
theorem Tl.at {w : World} {a : Option Addr} {n cap : Nat} {l : List ByteArray} (h : Tl w (.slice a n cap) l) {k : Nat} {s : ByteArray} (hs : l[k]? = some s) :
    ∃ g o, a = some ⟨g, o, none⟩ ∧ g < w.heap.size ∧ w.cell? ⟨g, o + k, none⟩ = some (.string s) := by
  obtain ⟨a', cap', hv, hn, hr⟩ := h
  simp only [Value.slice.injEq] at hv
  obtain ⟨rfl, rfl, rfl⟩ := hv
  have hne : l ≠ [] := by rintro rfl; simp at hs
  obtain ⟨g, o, ha, hg, hl⟩ := hr hne
  exact ⟨g, o, ha, hg, hl k s hs⟩
/-- The values of a list of texts. -/
def cellsT (l : List ByteArray) : List Value := l.map .string
theorem cellsT_length (l : List ByteArray) : (cellsT l).length = l.length := by simp [cellsT]
theorem cellsT_append (l r : List ByteArray) : cellsT (l ++ r) = cellsT l ++ cellsT r := by simp [cellsT]
theorem cellsT_at {l : List ByteArray} {i : Nat} {s : ByteArray} (h : l[i]? = some s) : (cellsT l)[i]? = some (.string s) := by simp [cellsT, h]
theorem cellsT_one (l : List ByteArray) : ∀ u ∈ cellsT l, u.oneCell' = true := by
  intro u hu
  obtain ⟨s, _, rfl⟩ := List.mem_map.1 hu
  rfl
theorem Row1.cells {w : World} {b o : Nat} {l : List ByteArray} (h : Row1 w b o l) : ∀ (j : Nat) (u : Value), (cellsT l)[j]? = some u → w.cell? ((⟨b, o, none⟩ : Addr).add j) = some u := by
  intro j u hj
  have hlt : j < l.length := by
    have := (List.getElem?_eq_some_iff.1 hj).1
    rwa [cellsT_length] at this
  obtain ⟨s, hs⟩ := at_lt hlt
  rw [Go.WideShapes.add_plain, h j s hs, ← cellsT_at hs, hj]
/-- The slice v is the call's own (in a block from base on) and holds the texts of l. -/
def OwnT (w : World) (base : Nat) (v : Value) (l : List ByteArray) : Prop := w.ownsRow base 9 1 v l.length (cellsT l)
theorem OwnT.row {w : World} {base : Nat} {v : Value} {l : List ByteArray} (h : OwnT w base v l) : (v = .slice none 0 0 ∧ l = []) ∨
    ∃ g cap, v = .slice (some ⟨g, 0, none⟩) l.length cap ∧ base ≤ g ∧ g < w.heap.size ∧ l.length ≤ cap ∧ cap ≤ 9223372036854775807 ∧ Row1 w g 0 l := by
  obtain ⟨h1, h2 | ⟨g, cap, cur, hv, hg, hh, hn, hm, hs, hx⟩⟩ := h
  · obtain ⟨rfl, hl⟩ := h2
    exact .inl ⟨rfl, List.eq_nil_of_length_eq_zero hl⟩
  · refine .inr ⟨g, cap, hv, hg, lt_of_block hh, hn, by unfold maxLen at hm; omega, fun i s hi => ?_⟩
    have hil := (List.getElem?_eq_some_iff.1 hi).1
    have c1 := cellsT_at hi
    rw [← hx] at c1
    rw [List.getElem?_take_of_lt (by omega)] at c1
    rw [Nat.zero_add]
    simp only [World.cell?, hh]; simpa using c1
theorem OwnT.tl {w : World} {base : Nat} {v : Value} {l : List ByteArray} (h : OwnT w base v l) : Tl w v l := by
  rcases h.row with ⟨rfl, rfl⟩ | ⟨g, cap, rfl, _, hg, _, _, hr⟩
  · exact ⟨none, 0, rfl, fun _ => rfl, fun h => absurd rfl h⟩
  · exact ⟨_, cap, rfl, fun h => (by cases h), fun _ => ⟨g, 0, rfl, hg, hr⟩⟩
theorem OwnT.later {W wr : World} {base : Nat} {v : Value} {l : List ByteArray} (h : OwnT W base v l) (hb : Below W.heap.size W wr) : OwnT wr base v l := by
  obtain ⟨h1, h2 | ⟨g, cap, cur, hv, hg, hh, hn, hm, hs, hx⟩⟩ := h
  · exact ⟨h1, .inl h2⟩
  · exact ⟨h1, .inr ⟨g, cap, cur, hv, hg, (hb.block g (lt_of_block hh)).trans hh, hn, hm, hs, hx⟩⟩
theorem OwnT.nil (w : World) (base : Nat) : OwnT w base (.slice none 0 0) [] := World.ownsRow_nil _ _ _ _
theorem OwnT.block {w : World} {base : Nat} {v : Value} {l : List ByteArray} (h : OwnT w base v l) : ∀ k, v.ownBlock = some k → base ≤ k := by
  intro k hk
  obtain ⟨h1, ⟨rfl, _⟩ | ⟨g, cap, cur, rfl, hg, _⟩⟩ := h
  · simp [Value.ownBlock] at hk
  · simp [Value.ownBlock] at hk
    omega
theorem OwnT.mono {w : World} {base B : Nat} {v : Value} {d : List ByteArray} (h : OwnT w B v d) (hb : base ≤ B) : OwnT w base v d := by
  obtain ⟨h1, h2 | ⟨g, cap, cur, hv, hg, rest⟩⟩ := h
  · exact ⟨h1, .inl h2⟩
  · exact ⟨h1, .inr ⟨g, cap, cur, hv, Nat.le_trans hb hg, rest⟩⟩
theorem OwnT.form {w : World} {base : Nat} {v : Value} {l : List ByteArray} (h : OwnT w base v l) : ∃ a cap, v = .slice a l.length cap := h.tl.form
theorem own_emptyT (w : World) : OwnT (w.alloc (.cells #[] 9)) w.heap.size (.slice (some ⟨w.heap.size, 0, none⟩) 0 0) [] := by
  refine ⟨rfl, .inr ⟨w.heap.size, 0, #[], rfl, Nat.le_refl _, ?_, Nat.le_refl _, Nat.zero_le _, rfl, rfl⟩⟩
  show (w.heap.push _)[w.heap.size]? = _
  simp
theorem own_emptyN (X : World) (n base : Nat) (h : X.heap.size = n) (hb : base ≤ n) : OwnT (X.alloc (.cells #[] 9)) base (.slice (some ⟨n, 0, none⟩) 0 0) [] := by
  subst h
  exact (own_emptyT X).mono hb
theorem info_str : (Try.prog.info? 9).map (fun i => (i.zero, i.size, i.bytes)) = some (some (.string ⟨#[]⟩), 1, 16) := by kernel_rfl

/-- append to a list of texts that is the call's own, at any slice of texts: nil, empty or not; of one operation. -/
theorem wp_append_tx {w : World} {o : Oper} {a : Act} {K : Act → World → Prop} {Q : Exit → Act → World → Prop} (s x : Operand)
    (ho : o.op = .call { callee := .builtin .append, args := #[s, x], argTypes := #[68, 68] })
    (base : Nat) (v : Value) (d : List ByteArray) (hs : a.eval s = v) (hown : OwnT w base v d) (xv : Value) (l : List ByteArray) (hx : a.eval x = xv) (hsl : Tl w xv l)
    (hlen : d.length + l.length ≤ 4000000) (hbase : base ≤ w.heap.size)
    (h : ∀ v' w', OwnT w' base v' (d ++ l) → w.grownBy w' v.ownBlock → K (a.put o.dst v') w') : o.wp Try.prog a w K Q := by
  obtain ⟨i0, hi, hz0, hz1, hz2⟩ := info_parts info_str
  obtain ⟨ad, cap, rfl, hn, hr⟩ := hsl
  cases ad with
  | none =>
    obtain rfl : cap = 0 := hn rfl
    obtain rfl : l = [] := by
      apply Classical.byContradiction
      intro hne
      obtain ⟨_, _, h, _⟩ := hr hne
      cases h
    have hx' : a.eval x = .slice none 0 0 := hx
    have hrun := run_append_owned_none (P := Try.prog) (w := w) base 68 o.type 9 i0 1 Try.underlying68 hi v d.length (cellsT d) hown
    unfold Oper.wp
    simp [execOp, ho, resolve, invoke, builtin, hs, hx', hrun, Result.andThen]
    exact (h v w (by rw [List.append_nil]; exact hown) ⟨rfl, rfl, rfl, Nat.le_refl _, fun _ _ _ => rfl⟩)
  | some ad =>
    have hc : ∀ (j : Nat) (u : Value), (cellsT l)[j]? = some u → w.cell? (ad.add j) = some u := by
      intro j u hj
      have hne : l ≠ [] := by rintro rfl; simp [cellsT] at hj
      obtain ⟨g, o', ha, _, hrow⟩ := hr hne
      simp only [Option.some.injEq] at ha
      subst ha
      exact hrow.cells j u hj
    refine wp_append_own w s x 68 ho base 9 i0 (.string ⟨#[]⟩) 1 16 Try.underlying68 hi hz0 hz1 hz2 rfl (by decide) v d.length (cellsT d) hs hown ad l.length cap (cellsT l) hx (by rw [cellsT_length]; omega) hc (cellsT_one l) (by unfold maxLen; omega) (by omega) hbase ?_
    intro v' w' h2 h3 _
    refine h v' w' ?_ h3
    show w'.ownsRow base _ 1 v' _ _
    rw [List.length_append, cellsT_append]
    exact h2
/-- The same, at a step of a region that leaves its order open. -/
theorem step_append_tx {w : World} {ops : Array Oper} {o : Oper} {a : Act} {K : Act → World → Prop} {Q : Exit → Act → World → Prop} {E : Prop} (hgd : o.guard = none) (s x : Operand)
    (ho : o.op = .call { callee := .builtin .append, args := #[s, x], argTypes := #[68, 68] })
    (base : Nat) (v : Value) (d : List ByteArray) (hs : a.eval s = v) (hown : OwnT w base v d) (xv : Value) (l : List ByteArray) (hx : a.eval x = xv) (hsl : Tl w xv l)
    (hlen : d.length + l.length ≤ 4000000) (hbase : base ≤ w.heap.size)
    (h : ∀ v' w', OwnT w' base v' (d ++ l) → w.grownBy w' v.ownBlock → K (a.put o.dst v') w') : if Region.wanted o (yielded ops a.tmps) = true then Oper.wp Try.prog o a w K Q else E := by
  have hw : Region.wanted o (yielded ops a.tmps) = true := by simp [Region.wanted, hgd]
  rw [if_pos hw]
  exact wp_append_tx s x ho base v d hs hown xv l hx hsl hlen hbase h
theorem grown_belowT {B base : Nat} {x w w' : World} {v : Value} {d : List ByteArray} (h : Below B x w) (hown : OwnT w base v d) (hB : B ≤ base) (hw : B ≤ w.heap.size) (hg : w.grownBy w' v.ownBlock) : Below B x w' :=
  h.grown hg hw (fun k hk => Nat.le_trans hB (hown.block k hk))
/-- The slice of one text that has just been laid. -/
theorem one_newT (X : World) (s : ByteArray) (n : Nat) (h : X.heap.size = n) : Tl (X.alloc (.cells #[.string s] 9)) (.slice (some ⟨n, 0, none⟩) 1 1) [s] := by
  subst h
  refine ⟨_, 1, rfl, fun h => (by cases h), fun _ => ⟨X.heap.size, 0, rfl, by simp, fun i x hi => ?_⟩⟩
  cases i with
  | zero =>
    simp only [List.getElem?_cons_zero, Option.some.injEq] at hi
    subst hi
    exact (box1_new X _ _).c
  | succ i => simp at hi
theorem tl_take {w : World} {a : Option Addr} {n cap : Nat} {l : List ByteArray} (h : Tl w (.slice a n cap) l) (k : Nat) (hk : k ≤ l.length) : Tl w (.slice a k cap) (l.take k) := by
  obtain ⟨a', cap', hv, hn, hr⟩ := h
  simp only [Value.slice.injEq] at hv
  obtain ⟨rfl, rfl, rfl⟩ := hv
  refine ⟨a, cap, by rw [List.length_take, Nat.min_eq_left hk], hn, fun hne => ?_⟩
  have hl : l ≠ [] := by rintro rfl; simp at hne
  obtain ⟨g, o, ha, hg, hrow⟩ := hr hl
  refine ⟨g, o, ha, hg, fun i s hi => hrow i s ?_⟩
  have hik : i < k := by
    have := (List.getElem?_eq_some_iff.1 hi).1
    simp only [List.length_take] at this
    omega
  rwa [List.getElem?_take_of_lt hik] at hi
theorem tl_drop {w : World} {g o n cap : Nat} {l : List ByteArray} (h : Tl w (.slice (some ⟨g, o, none⟩) n cap) l) (k : Nat) (c : Nat) (m : Nat) (hm : m = (l.drop k).length) : Tl w (.slice (some ⟨g, o + k, none⟩) m c) (l.drop k) := by
  obtain ⟨a', cap', hv, hn, hr⟩ := h
  simp only [Value.slice.injEq] at hv
  obtain ⟨rfl, rfl, rfl⟩ := hv
  subst hm
  refine ⟨_, c, rfl, fun h => (by cases h), fun hne => ?_⟩
  have hl : l ≠ [] := by rintro rfl; simp at hne
  obtain ⟨g', o', ha, hg, hrow⟩ := hr hl
  simp only [Option.some.injEq, Addr.mk.injEq, and_true] at ha
  obtain ⟨rfl, rfl⟩ := ha
  refine ⟨g, o + k, rfl, hg, fun i s hi => ?_⟩
  rw [List.getElem?_drop] at hi
  have := hrow (k + i) s hi
  rwa [show o + (k + i) = o + k + i by omega] at this
theorem tl_empty (w : World) (a : Option Addr) (c : Nat) (h : a = none → c = 0) : Tl w (.slice a 0 c) [] := ⟨a, c, rfl, h, fun h => absurd rfl h⟩
/-- What lies in another block than the row that was appended to is as it was. -/
theorem tl_grown {w w' : World} {v xv : Value} {a : Option Addr} {n c : Nat} {l : List ByteArray} (h : Tl w xv l) (hv : xv = .slice a n c) (hg : w.grownBy w' v.ownBlock) (hne : ∀ g o, a = some ⟨g, o, none⟩ → v.ownBlock ≠ some g) : Tl w' xv l := by
  obtain ⟨a', cap', hv', hn, hr⟩ := h
  rw [hv] at hv'
  simp only [Value.slice.injEq] at hv'
  obtain ⟨rfl, rfl, rfl⟩ := hv'
  refine ⟨a, c, hv, hn, fun hl => ?_⟩
  obtain ⟨g, o, ha, hgl, hrow⟩ := hr hl
  refine ⟨g, o, ha, Nat.lt_of_lt_of_le hgl hg.size, fun i s hi => ?_⟩
  have hb := hg.block g hgl (fun e => hne g o ha e.symm)
  have := hrow i s hi
  simp only [World.cell?, hb] at *
  exact this

end Go.Proofs.Ytkgfpppbpjinaaa
