/- The reference's Check. Conditions: a topology of less than 2^63 shards. -/
import Derived.Laws.AppendOwnNone
import Derived.Laws.AppendOwn
import Derived.Test.YtpdfcojcmhadnaaGreatMg02
set_option maxRecDepth 100000
set_option maxHeartbeats 16000000
namespace Go.Proofs.YtpdfcojcmhadnaaGreat
namespace S3
open Go.RowKit Go.Sort
theorem blAlloc {w x : World} (h : Below w.heap.size w x) (ob : Obj) : Below w.heap.size w (x.alloc ob) := h.alloc h.size ob
theorem blThen {w x y : World} (h : Below w.heap.size w x) (k : Below x.heap.size x y) : Below w.heap.size w y := h.trans (k.mono h.size)
theorem blSet {w x : World} (h : Below w.heap.size w x) {p : Addr} (hp : w.heap.size ≤ p.block) (u : Value) : Below w.heap.size w (x.setCell p u) := h.setCell hp u
theorem grown_of_below {w w' : World} (h : Below w.heap.size w w') (row : Option Nat) : w.grownBy w' row := ⟨h.os, h.tape, h.output, h.size, fun k hk _ => h.block k hk⟩
theorem lt_of_block {w : World} {b : Nat} {o : Obj} (h : w.heap[b]? = some o) : b < w.heap.size := (Array.getElem?_eq_some_iff.1 h).1
theorem cell_in {B : Nat} {W wr : World} (h : Below B W wr) {b o : Nat} {v : Value} (hb : b < B) (hc : W.cell? ⟨b, o, none⟩ = some v) : wr.cell? ⟨b, o, none⟩ = some v :=
 (h.cell (p := ⟨b, o, none⟩) hb).trans hc
theorem at_lt {α : Type} {l : List α} {k : Nat} (h : k < l.length) : ∃ x, l[k]? = some x := ⟨_, List.getElem?_eq_getElem h⟩
theorem ne_of_lt {α : Type} {l : List α} {k : Nat} (h : k < l.length) : l ≠ [] := by
 rintro rfl
 exact absurd h (Nat.not_lt_zero _)
def Row2 (w : World) (g o : Nat) (l : List Sp) : Prop := ∀ i s, l[i]? = some s → w.cell? ⟨g, o + i * 2, none⟩ = some (.string s.1) ∧ w.cell? ⟨g, o + i * 2 + 1, none⟩ = some (.string s.2)
def Sl (w : World) (v : Value) (l : List Sp) : Prop := ∃ a cap, v = .slice a l.length cap ∧ (a = none → cap = 0) ∧ (l ≠ [] → ∃ g o, a = some ⟨g, o, none⟩ ∧ g < w.heap.size ∧ Row2 w g o l)
theorem Row2.later {B : Nat} {W wr : World} {g o : Nat} {l : List Sp} (h : Row2 W g o l) (hb : g < B) (hw : Below B W wr) : Row2 wr g o l :=
 fun i s hi => ⟨cell_in hw hb (h i s hi).1, cell_in hw hb (h i s hi).2⟩
theorem Sl.later {W wr : World} {v : Value} {l : List Sp} (h : Sl W v l) (hw : Below W.heap.size W wr) : Sl wr v l := by
 obtain ⟨a, cap, hv, hn, hr⟩ := h
 refine ⟨a, cap, hv, hn, fun hne => ?_⟩
 obtain ⟨g, o, ha, hg, hl⟩ := hr hne
 exact ⟨g, o, ha, Nat.lt_of_lt_of_le hg hw.size, hl.later hg hw⟩
theorem Sl.form {w : World} {v : Value} {l : List Sp} (h : Sl w v l) : ∃ a cap, v = .slice a l.length cap := by
 obtain ⟨a, cap, hv, _⟩ := h
 exact ⟨a, cap, hv⟩
theorem Sl.at {w : World} {a : Option Addr} {n cap : Nat} {l : List Sp} (h : Sl w (.slice a n cap) l) {k : Nat} {s : Sp} (hs : l[k]? = some s) :
  ∃ g o, a = some ⟨g, o, none⟩ ∧ g < w.heap.size ∧ w.cell? ⟨g, o + k * 2, none⟩ = some (.string s.1) ∧ w.cell? ⟨g, o + k * 2 + 1, none⟩ = some (.string s.2) := by
 obtain ⟨a', cap', hv, hn, hr⟩ := h
 simp only [Value.slice.injEq] at hv
 obtain ⟨rfl, rfl, rfl⟩ := hv
 have hne : l ≠ [] := by rintro rfl; simp at hs
 obtain ⟨g, o, ha, hg, hl⟩ := hr hne
 exact ⟨g, o, ha, hg, hl k s hs⟩
def Box2 (w : World) (b : Nat) (s : Sp) : Prop := w.heap[b]? = some (.cells #[.string s.1, .string s.2] 57 (0, 0))
theorem Box2.lt {w : World} {b : Nat} {s : Sp} (h : Box2 w b s) : b < w.heap.size := lt_of_block h
theorem Box2.c0 {w : World} {b : Nat} {s : Sp} (h : Box2 w b s) : w.cell? ⟨b, 0, none⟩ = some (.string s.1) := by unfold Box2 at h; simp [World.cell?, h]
theorem Box2.c1 {w : World} {b : Nat} {s : Sp} (h : Box2 w b s) : w.cell? ⟨b, 1, none⟩ = some (.string s.2) := by unfold Box2 at h; simp [World.cell?, h]
theorem Box2.f0 {w : World} {b : Nat} {s : Sp} (h : Box2 w b s) : w.frozen? ⟨b, 0, none⟩ = false := by unfold Box2 at h; simp [World.frozen?, h]
theorem Box2.f1 {w : World} {b : Nat} {s : Sp} (h : Box2 w b s) : w.frozen? ⟨b, 1, none⟩ = false := by unfold Box2 at h; simp [World.frozen?, h]
theorem Box2.later {w wr : World} {b B : Nat} {s : Sp} (h : Box2 w b s) (hb : Below B w wr) (hB : b < B) : Box2 wr b s := (hb.block b hB).trans h
theorem box2_new (w : World) (s : Sp) : Box2 (w.alloc (Obj.cells #[.string s.1, .string s.2] 57)) w.heap.size s := by
 show (w.heap.push _)[w.heap.size]? = _
 simp
def Box1 (w : World) (b : Nat) (t : TypeId) (v : Value) : Prop := w.heap[b]? = some (.cells #[v] t (0, 0))
theorem Box1.lt {w : World} {b : Nat} {t : TypeId} {v : Value} (h : Box1 w b t v) : b < w.heap.size := lt_of_block h
theorem Box1.c {w : World} {b : Nat} {t : TypeId} {v : Value} (h : Box1 w b t v) : w.cell? ⟨b, 0, none⟩ = some v := by unfold Box1 at h; simp [World.cell?, h]
theorem Box1.f {w : World} {b : Nat} {t : TypeId} {v : Value} (h : Box1 w b t v) : w.frozen? ⟨b, 0, none⟩ = false := by unfold Box1 at h; simp [World.frozen?, h]
theorem Box1.later {w wr : World} {b B : Nat} {t : TypeId} {v : Value} (h : Box1 w b t v) (hb : Below B w wr) (hB : b < B) : Box1 wr b t v := (hb.block b hB).trans h
theorem box1_new (w : World) (t : TypeId) (v : Value) : Box1 (w.alloc (Obj.cells #[v] t)) w.heap.size t v := by
 show (w.heap.push _)[w.heap.size]? = _
 simp
def cellsL (l : List Sp) : List Value := l.flatMap fun s => [.string s.1, .string s.2]
theorem cellsL_length (l : List Sp) : (cellsL l).length = l.length * 2 := by
 induction l with
 | nil => rfl
 | cons a r ih => simp [cellsL] at ih ⊢; omega
theorem cellsL_append (l r : List Sp) : cellsL (l ++ r) = cellsL l ++ cellsL r := by simp [cellsL]
theorem cellsL_at (l : List Sp) : ∀ (i : Nat) (s : Sp), l[i]? = some s → (cellsL l)[i * 2]? = some (.string s.1) ∧ (cellsL l)[i * 2 + 1]? = some (.string s.2) := by
 induction l with
 | nil => intro i s h; simp at h
 | cons a r ih =>
  intro i s h
  cases i with
  | zero =>
   simp only [List.getElem?_cons_zero, Option.some.injEq] at h
   subst h
   exact ⟨rfl, rfl⟩
  | succ i =>
   obtain ⟨h1, h2⟩ := ih i s (by simpa using h)
   have e : cellsL (a :: r) = Value.string a.1 :: Value.string a.2 :: cellsL r := rfl
   rw [e, show (i + 1) * 2 = i * 2 + 1 + 1 by omega]
   simpa using ⟨h1, h2⟩
theorem cellsL_one (l : List Sp) : ∀ u ∈ cellsL l, u.oneCell' = true := by
 intro u hu
 obtain ⟨s, _, hs⟩ := List.mem_flatMap.1 hu
 simp only [List.mem_cons, List.not_mem_nil, or_false] at hs
 rcases hs with rfl | rfl <;> rfl
theorem Row2.cells {w : World} {b o : Nat} {l : List Sp} (h : Row2 w b o l) : ∀ (j : Nat) (u : Value), (cellsL l)[j]? = some u → w.cell? ((⟨b, o, none⟩ : Addr).add j) = some u := by
 intro j u hj
 have hlt : j < l.length * 2 := by
  have := (List.getElem?_eq_some_iff.1 hj).1
  rwa [cellsL_length] at this
 obtain ⟨s, hs⟩ := at_lt (l := l) (k := j / 2) (by omega)
 obtain ⟨c1, c2⟩ := cellsL_at l (j / 2) s hs
 obtain ⟨h1, h2⟩ := h (j / 2) s hs
 rw [Go.WideShapes.add_plain]
 rcases Nat.mod_two_eq_zero_or_one j with hm | hm
 ·have e : j / 2 * 2 = j := by omega
  rw [e] at c1 h1
  rw [h1, ← c1, hj]
 ·have e : j / 2 * 2 + 1 = j := by omega
  rw [e] at c2
  rw [show o + j / 2 * 2 + 1 = o + j by omega] at h2
  rw [h2, ← c2, hj]
def OwnL (w : World) (base : Nat) (v : Value) (l : List Sp) : Prop := w.ownsRow base 57 2 v l.length (cellsL l)
theorem OwnL.row {w : World} {base : Nat} {v : Value} {l : List Sp} (h : OwnL w base v l) (hne : l ≠ []) :
  ∃ g cap, v = .slice (some ⟨g, 0, none⟩) l.length cap ∧ base ≤ g ∧ g < w.heap.size ∧ l.length ≤ cap ∧ cap ≤ 9223372036854775807 ∧ Row2 w g 0 l ∧ ∀ i, i < l.length * 2 → w.frozen? ⟨g, i, none⟩ = false := by
 obtain ⟨h1, h2 | ⟨g, cap, cur, hv, hg, hh, hn, hm, hs, hx⟩⟩ := h
 ·obtain ⟨rfl, hl⟩ := h2
  exact absurd (List.eq_nil_of_length_eq_zero hl) hne
 ·refine ⟨g, cap, hv, hg, lt_of_block hh, hn, by unfold maxLen at hm; omega, fun i s hi => ?_, fun i _ => by simp [World.frozen?, hh]⟩
  have hil := (List.getElem?_eq_some_iff.1 hi).1
  obtain ⟨c1, c2⟩ := cellsL_at l i s hi
  rw [← hx] at c1 c2
  rw [List.getElem?_take_of_lt (by omega)] at c1 c2
  rw [Nat.zero_add]
  refine ⟨?_, ?_⟩
  ·simp only [World.cell?, hh]; simpa using c1
  ·simp only [World.cell?, hh]; simpa using c2
theorem OwnL.sl {w : World} {base : Nat} {v : Value} {l : List Sp} (h : OwnL w base v l) : Sl w v l := by
 obtain ⟨h1, h2 | ⟨g, cap, cur, hv, hg, hh, hn, hm, hs, hx⟩⟩ := id h
 ·obtain ⟨rfl, hl⟩ := h2
  obtain rfl := List.eq_nil_of_length_eq_zero hl
  exact ⟨none, 0, rfl, fun _ => rfl, fun h => absurd rfl h⟩
 ·refine ⟨_, cap, hv, fun h => (by cases h), fun hne => ?_⟩
  obtain ⟨g', cap', hv', _, hg', _, _, hr, _⟩ := h.row hne
  rw [hv] at hv'
  simp only [Value.slice.injEq, Option.some.injEq, Addr.mk.injEq] at hv'
  obtain ⟨⟨rfl, _⟩, _⟩ := hv'
  exact ⟨g, 0, rfl, hg', hr⟩
theorem OwnL.later {W wr : World} {base : Nat} {v : Value} {l : List Sp} (h : OwnL W base v l) (hb : Below W.heap.size W wr) : OwnL wr base v l := by
 obtain ⟨h1, h2 | ⟨g, cap, cur, hv, hg, hh, hn, hm, hs, hx⟩⟩ := h
 ·exact ⟨h1, .inl h2⟩
 ·exact ⟨h1, .inr ⟨g, cap, cur, hv, hg, (hb.block g (lt_of_block hh)).trans hh, hn, hm, hs, hx⟩⟩
theorem OwnL.nil (w : World) (base : Nat) : OwnL w base (.slice none 0 0) [] := World.ownsRow_nil _ _ _ _
theorem OwnL.block {w : World} {base : Nat} {v : Value} {l : List Sp} (h : OwnL w base v l) : ∀ k, v.ownBlock = some k → base ≤ k := by
 intro k hk
 obtain ⟨h1, ⟨rfl, _⟩ | ⟨g, cap, cur, rfl, hg, _⟩⟩ := h
 ·simp [Value.ownBlock] at hk
 ·simp [Value.ownBlock] at hk
  omega
theorem OwnL.mono {w : World} {base B : Nat} {v : Value} {d : List Sp} (h : OwnL w B v d) (hb : base ≤ B) : OwnL w base v d := by
 obtain ⟨h1, h2 | ⟨g, cap, cur, hv, hg, rest⟩⟩ := h
 ·exact ⟨h1, .inl h2⟩
 ·exact ⟨h1, .inr ⟨g, cap, cur, hv, Nat.le_trans hb hg, rest⟩⟩
theorem OwnL.form {w : World} {base : Nat} {v : Value} {l : List Sp} (h : OwnL w base v l) : ∃ a cap, v = .slice a l.length cap := h.sl.form
theorem own_empty (w : World) : OwnL (w.alloc (.cells #[] 57)) w.heap.size (.slice (some ⟨w.heap.size, 0, none⟩) 0 0) [] := by
 refine ⟨rfl, .inr ⟨w.heap.size, 0, #[], rfl, Nat.le_refl _, ?_, Nat.le_refl _, Nat.zero_le _, rfl, rfl⟩⟩
 show (w.heap.push _)[w.heap.size]? = _
 simp
theorem info_sp : (Tryz.prog.info? 57).map (fun i => (i.zero, i.size, i.bytes)) = some (some (.agg #[.string ⟨#[]⟩, .string ⟨#[]⟩]), 2, 32) := by kernel_rfl
theorem append_sp {w : World} {ops : Array Oper} {rest : List Oper} {o : Oper} {a : Act} {Q : Exit → Act → World → Prop} (hgd : o.guard = none) (s x : Operand)
  (ho : o.op = .call { callee := .builtin .append, args := #[s, x], argTypes := #[32, 32] })
  (base : Nat) (v : Value) (d : List Sp) (hs : a.eval s = v) (hown : OwnL w base v d) (xv : Value) (l : List Sp) (hx : a.eval x = xv) (hsl : Sl w xv l)
  (hlen : d.length + l.length ≤ 4000000) (hbase : base ≤ w.heap.size)
  (h : ∀ v' w', OwnL w' base v' (d ++ l) → w.grownBy w' v.ownBlock → wpList Tryz.prog ops Q rest (a.put o.dst v') w') : wpList Tryz.prog ops Q (o :: rest) a w := by
 obtain ⟨i0, hi, hz0, hz1, hz2⟩ := info_parts info_sp
 obtain ⟨ad, cap, rfl, hn, hr⟩ := hsl
 cases ad with
 | none =>
  obtain rfl : cap = 0 := hn rfl
  obtain rfl : l = [] := by
   apply Classical.byContradiction
   intro hne
   obtain ⟨_, _, h, _⟩ := hr hne
   cases h
  refine wpList_append_own_none hgd s x 32 ho base 57 i0 2 Tryz.underlying32 hi v d.length (cellsL d) hs hown hx ?_
  exact h v w (by rw [List.append_nil]; exact hown) ⟨rfl, rfl, rfl, Nat.le_refl _, fun _ _ _ => rfl⟩
 | some ad =>
  have hc : ∀ (j : Nat) (u : Value), (cellsL l)[j]? = some u → w.cell? (ad.add j) = some u := by
   intro j u hj
   have hne : l ≠ [] := by rintro rfl; simp [cellsL] at hj
   obtain ⟨g, o', ha, _, hrow⟩ := hr hne
   simp only [Option.some.injEq] at ha
   subst ha
   exact hrow.cells j u hj
  refine wpList_append_own _ hgd s x 32 ho base 57 i0 (.agg #[.string ⟨#[]⟩, .string ⟨#[]⟩]) 2 32 Tryz.underlying32 hi hz0 hz1 hz2 rfl (by decide) v d.length (cellsL d) hs hown ad l.length cap (cellsL l) hx (cellsL_length l) hc (cellsL_one l) (by unfold maxLen; omega) (by omega) hbase ?_
  intro v' w' h2 h3 _
  refine h v' w' ?_ h3
  show w'.ownsRow base _ 2 v' _ _
  rw [List.length_append, cellsL_append]
  exact h2
theorem grown_below {B base : Nat} {x w w' : World} {v : Value} {d : List Sp} (h : Below B x w) (hown : OwnL w base v d) (hB : B ≤ base) (hw : B ≤ w.heap.size) (hg : w.grownBy w' v.ownBlock) : Below B x w' :=
 h.grown hg hw (fun k hk => Nat.le_trans hB (hown.block k hk))
theorem one_sl {W : World} {s : Sp} {b : Nat} (h : Box2 W b s) (c : Nat) : Sl W (.slice (some ⟨b, 0, none⟩) 1 c) [s] := ⟨_, c, rfl, fun h => (by cases h), fun _ => ⟨b, 0, rfl, h.lt, fun i x hi => by
 cases i with
 | zero =>
  simp only [List.getElem?_cons_zero, Option.some.injEq] at hi
  subst hi
  exact ⟨h.c0, h.c1⟩
 | succ i => simp at hi⟩⟩
end S3
end Go.Proofs.YtpdfcojcmhadnaaGreat

namespace Go.Proofs.YtpdfcojcmhadnaaGreat
open S3
namespace S4
open Go.RowKit Go.Sort
def RowI (w : World) (g o : Nat) (l : List Int) : Prop := ∀ (i : Nat) x, l[i]? = some x → w.cell? ⟨g, o + i, none⟩ = some (.int .i64 x)
def Il (w : World) (a : Option Addr) (cap : Nat) (l : List Int) : Prop := (a = none → cap = 0) ∧ (l ≠ [] → ∃ g o, a = some ⟨g, o, none⟩ ∧ g < w.heap.size ∧ RowI w g o l)
theorem RowI.later {B : Nat} {W wr : World} {g o : Nat} {l : List Int} (h : RowI W g o l) (hb : g < B) (hw : Below B W wr) : RowI wr g o l := fun i s hi => cell_in hw hb (h i s hi)
theorem Il.later {W wr : World} {a : Option Addr} {c : Nat} {l : List Int} (h : Il W a c l) (hw : Below W.heap.size W wr) : Il wr a c l := by
 refine ⟨h.1, fun hne => ?_⟩
 obtain ⟨g, o, ha, hg, hl⟩ := h.2 hne
 exact ⟨g, o, ha, Nat.lt_of_lt_of_le hg hw.size, hl.later hg hw⟩
theorem Il.at {w : World} {a : Option Addr} {cap : Nat} {l : List Int} (h : Il w a cap l) {k : Nat} {s : Int} (hs : l[k]? = some s) : ∃ g o, a = some ⟨g, o, none⟩ ∧ g < w.heap.size ∧ w.cell? ⟨g, o + k, none⟩ = some (.int .i64 s) := by
 have hne : l ≠ [] := by rintro rfl; simp at hs
 obtain ⟨g, o, ha, hg, hl⟩ := h.2 hne
 exact ⟨g, o, ha, hg, hl k s hs⟩
theorem Il.nil (w : World) : Il w none 0 [] := ⟨fun _ => rfl, fun h => absurd rfl h⟩
theorem info_int : (Tryz.prog.info? 3).map (fun i => (i.zero, i.size, i.bytes)) = some (some (.int .i64 0), 1, 8) := by kernel_rfl
def cellsI (l : List Int) : List Value := l.map (.int .i64)
theorem cellsI_length (l : List Int) : (cellsI l).length = l.length := by simp [cellsI]
theorem cellsI_append (l r : List Int) : cellsI (l ++ r) = cellsI l ++ cellsI r := by simp [cellsI]
theorem cellsI_at {l : List Int} {i : Nat} {s : Int} (h : l[i]? = some s) : (cellsI l)[i]? = some (.int .i64 s) := by simp [cellsI, h]
theorem cellsI_one (l : List Int) : ∀ u ∈ cellsI l, u.oneCell' = true := by
 intro u hu
 obtain ⟨s, _, rfl⟩ := List.mem_map.1 hu
 rfl
theorem RowI.cells {w : World} {b o : Nat} {l : List Int} (h : RowI w b o l) : ∀ (j : Nat) (u : Value), (cellsI l)[j]? = some u → w.cell? ((⟨b, o, none⟩ : Addr).add j) = some u := by
 intro j u hj
 have hlt : j < l.length := by
  have := (List.getElem?_eq_some_iff.1 hj).1
  rwa [cellsI_length] at this
 obtain ⟨s, hs⟩ := at_lt hlt
 rw [Go.WideShapes.add_plain, h j s hs, ← cellsI_at hs, hj]
def OwnI (w : World) (base : Nat) (v : Value) (l : List Int) : Prop := w.ownsRow base 3 1 v l.length (cellsI l)
theorem OwnI.il {w : World} {base : Nat} {v : Value} {l : List Int} (h : OwnI w base v l) : ∃ a c, v = .slice a l.length c ∧ Il w a c l := by
 obtain ⟨h1, h2 | ⟨g, cap, cur, hv, hg, hh, hn, hm, hs, hx⟩⟩ := h
 ·obtain ⟨rfl, hl⟩ := h2
  obtain rfl := List.eq_nil_of_length_eq_zero hl
  exact ⟨none, 0, rfl, Il.nil w⟩
 ·refine ⟨_, cap, hv, fun h => (by cases h), fun _ => ⟨g, 0, rfl, lt_of_block hh, fun i s hi => ?_⟩⟩
  have hil := (List.getElem?_eq_some_iff.1 hi).1
  have c1 := cellsI_at hi
  rw [← hx] at c1
  rw [List.getElem?_take_of_lt (by omega)] at c1
  rw [Nat.zero_add]
  simp only [World.cell?, hh]; simpa using c1
theorem OwnI.later {W wr : World} {base : Nat} {v : Value} {l : List Int} (h : OwnI W base v l) (hb : Below W.heap.size W wr) : OwnI wr base v l := by
 obtain ⟨h1, h2 | ⟨g, cap, cur, hv, hg, hh, hn, hm, hs, hx⟩⟩ := h
 ·exact ⟨h1, .inl h2⟩
 ·exact ⟨h1, .inr ⟨g, cap, cur, hv, hg, (hb.block g (lt_of_block hh)).trans hh, hn, hm, hs, hx⟩⟩
theorem OwnI.nil (w : World) (base : Nat) : OwnI w base (.slice none 0 0) [] := World.ownsRow_nil _ _ _ _
theorem OwnI.block {w : World} {base : Nat} {v : Value} {l : List Int} (h : OwnI w base v l) : ∀ k, v.ownBlock = some k → base ≤ k := by
 intro k hk
 obtain ⟨h1, ⟨rfl, _⟩ | ⟨g, cap, cur, rfl, hg, _⟩⟩ := h
 ·simp [Value.ownBlock] at hk
 ·simp [Value.ownBlock] at hk
  omega
theorem OwnI.mono {w : World} {base B : Nat} {v : Value} {d : List Int} (h : OwnI w B v d) (hb : base ≤ B) : OwnI w base v d := by
 obtain ⟨h1, h2 | ⟨g, cap, cur, hv, hg, rest⟩⟩ := h
 ·exact ⟨h1, .inl h2⟩
 ·exact ⟨h1, .inr ⟨g, cap, cur, hv, Nat.le_trans hb hg, rest⟩⟩
theorem OwnI.form {w : World} {base : Nat} {v : Value} {l : List Int} (h : OwnI w base v l) : ∃ a cap, v = .slice a l.length cap := by
 obtain ⟨a, c, hv, _⟩ := h.il
 exact ⟨a, c, hv⟩
theorem OwnI.at {w : World} {base : Nat} {a : Option Addr} {n c : Nat} {l : List Int} (h : OwnI w base (.slice a n c) l) : Il w a c l := by
 obtain ⟨a', c', hv, hi⟩ := h.il
 simp only [Value.slice.injEq] at hv
 obtain ⟨rfl, _, rfl⟩ := hv
 exact hi
theorem grown_belowI {B base : Nat} {x w w' : World} {v : Value} {d : List Int} (h : Below B x w) (hown : OwnI w base v d) (hB : B ≤ base) (hw : B ≤ w.heap.size) (hg : w.grownBy w' v.ownBlock) : Below B x w' :=
 h.grown hg hw (fun k hk => Nat.le_trans hB (hown.block k hk))
theorem append_i {w : World} {ops : Array Oper} {rest : List Oper} {o : Oper} {a : Act} {Q : Exit → Act → World → Prop} (hgd : o.guard = none) (s x : Operand)
  (ho : o.op = .call { callee := .builtin .append, args := #[s, x], argTypes := #[30, 30] })
  (base : Nat) (v : Value) (d : List Int) (hs : a.eval s = v) (hown : OwnI w base v d) (ad : Option Addr) (n cap : Nat) (l : List Int) (hx : a.eval x = .slice ad n cap) (hn : n = l.length) (hsl : Il w ad cap l)
  (hlen : d.length + l.length ≤ 4000000) (hbase : base ≤ w.heap.size)
  (h : ∀ v' w', OwnI w' base v' (d ++ l) → w.grownBy w' v.ownBlock → wpList Tryz.prog ops Q rest (a.put o.dst v') w') : wpList Tryz.prog ops Q (o :: rest) a w := by
 subst hn
 obtain ⟨i0, hi, hz0, hz1, hz2⟩ := info_parts info_int
 obtain ⟨hn, hr⟩ := hsl
 cases ad with
 | none =>
  obtain rfl : cap = 0 := hn rfl
  obtain rfl : l = [] := by
   apply Classical.byContradiction
   intro hne
   obtain ⟨_, _, h, _⟩ := hr hne
   cases h
  refine wpList_append_own_none hgd s x 30 ho base 3 i0 1 Tryz.underlying30 hi v d.length (cellsI d) hs hown hx ?_
  exact h v w (by rw [List.append_nil]; exact hown) ⟨rfl, rfl, rfl, Nat.le_refl _, fun _ _ _ => rfl⟩
 | some ad =>
  have hc : ∀ (j : Nat) (u : Value), (cellsI l)[j]? = some u → w.cell? (ad.add j) = some u := by
   intro j u hj
   have hne : l ≠ [] := by rintro rfl; simp [cellsI] at hj
   obtain ⟨g, o', ha, _, hrow⟩ := hr hne
   simp only [Option.some.injEq] at ha
   subst ha
   exact hrow.cells j u hj
  refine wpList_append_own _ hgd s x 30 ho base 3 i0 (.int .i64 0) 1 8 Tryz.underlying30 hi hz0 hz1 hz2 rfl (by decide) v d.length (cellsI d) hs hown ad l.length cap (cellsI l) hx (by rw [cellsI_length]; omega) hc (cellsI_one l) (by unfold maxLen; omega) (by omega) hbase ?_
  intro v' w' h2 h3 _
  refine h v' w' ?_ h3
  show w'.ownsRow base _ 1 v' _ _
  rw [List.length_append, cellsI_append]
  exact h2
theorem one_newI (X : World) (s : Int) (n : Nat) (h : X.heap.size = n) : Il (X.alloc (.cells #[.int .i64 s] 3)) (some ⟨n, 0, none⟩) 1 [s] := by
 subst h
 refine ⟨fun h => (by cases h), fun _ => ⟨X.heap.size, 0, rfl, by simp, fun i x hi => ?_⟩⟩
 cases i with
 | zero =>
  simp only [List.getElem?_cons_zero, Option.some.injEq] at hi
  subst hi
  exact (box1_new X _ _).c
 | succ i => simp at hi
theorem il_row {W : World} {b : Nat} {l : List Int} {cs : Array Value} (h : W.heap[b]? = some (.cells cs 3 (0, 0))) (hc : cs = (cellsI l).toArray) (c : Nat) : Il W (some ⟨b, 0, none⟩) c l := by
 subst hc
 refine ⟨fun h => (by cases h), fun _ => ⟨b, 0, rfl, lt_of_block h, fun i s hi => ?_⟩⟩
 rw [Nat.zero_add, cell_of_row W b _ _ _ _ h]
 simpa using cellsI_at hi
def shV (s : Sh) : Value := .agg #[.string s.sp.1, .string s.sp.2, .slice s.na s.nodes.length s.nc]
def RowS (w : World) (g o : Nat) (l : List Sh) : Prop := ∀ (i : Nat) s, l[i]? = some s → w.cell? ⟨g, o + i * 3, none⟩ = some (.string s.sp.1) ∧ w.cell? ⟨g, o + i * 3 + 1, none⟩ = some (.string s.sp.2) ∧ w.cell? ⟨g, o + i * 3 + 2, none⟩ = some (.slice s.na s.nodes.length s.nc)
def NodesAt (w : World) (l : List Sh) : Prop := ∀ s ∈ l, Il w s.na s.nc s.nodes
def Hl (w : World) (a : Option Addr) (l : List Sh) : Prop := NodesAt w l ∧ (l ≠ [] → ∃ g o, a = some ⟨g, o, none⟩ ∧ g < w.heap.size ∧ RowS w g o l)
theorem Hl.later {W wr : World} {a : Option Addr} {l : List Sh} (h : Hl W a l) (hw : Below W.heap.size W wr) : Hl wr a l := by
 refine ⟨fun s hs => (h.1 s hs).later hw, fun hne => ?_⟩
 obtain ⟨g, o, ha, hg, hl⟩ := h.2 hne
 exact ⟨g, o, ha, Nat.lt_of_lt_of_le hg hw.size, fun i s hi => ⟨cell_in hw hg (hl i s hi).1, cell_in hw hg (hl i s hi).2.1, cell_in hw hg (hl i s hi).2.2⟩⟩
theorem Hl.at {w : World} {a : Option Addr} {l : List Sh} (h : Hl w a l) {k : Nat} {s : Sh} (hs : l[k]? = some s) : ∃ g o, a = some ⟨g, o, none⟩ ∧ g < w.heap.size ∧ w.cell? ⟨g, o + k * 3, none⟩ = some (.string s.sp.1) ∧ w.cell? ⟨g, o + k * 3 + 1, none⟩ = some (.string s.sp.2) ∧ w.cell? ⟨g, o + k * 3 + 2, none⟩ = some (.slice s.na s.nodes.length s.nc) := by
 have hne : l ≠ [] := by rintro rfl; simp at hs
 obtain ⟨g, o, ha, hg, hl⟩ := h.2 hne
 exact ⟨g, o, ha, hg, hl k s hs⟩
theorem only_any (s : Sh) (w : World) : Calls Tryz.prog 62 #[shV s] w fun e w' => e = .returned (.slice (some ⟨w.heap.size + 1, 0, none⟩) 1 1) ∧ w' = (w.alloc (.cells #[.string s.sp.1, .string s.sp.2, .slice s.na s.nodes.length s.nc] 59)).alloc (.cells #[.string s.sp.1, .string s.sp.2] 57) := by
 unfold shV
 go_enter Tryz.func62, Tryz.ntmps62
 go_wp2
 go_ret
 exact ⟨rfl, rfl⟩
theorem isNode_any (n : Int) (w : World) : Calls Tryz.prog 94 #[.int .i64 n] w fun e w' => e = .returned (.bool (nodeB n)) ∧ w = w' := by
 by_cases h1 : 1 ≤ n
 ·by_cases h2 : n ≤ 7
  ·have hv : nodeB n = true := by simp [nodeB, h1, h2]
   have hd1 : decide (1 ≤ n) = true := decide_eq_true h1
   have hd2 : decide (n ≤ 7) = true := decide_eq_true h2
   rw [hv]
   go_enter Tryz.func94, Tryz.ntmps94
   go_wp2
   go_ret
   exact ⟨rfl, rfl⟩
  ·have hv : nodeB n = false := by simp [nodeB, h2]
   have hd1 : decide (1 ≤ n) = true := decide_eq_true h1
   have hd2 : decide (n ≤ 7) = false := decide_eq_false h2
   rw [hv]
   go_enter Tryz.func94, Tryz.ntmps94
   go_wp2
   go_ret
   exact ⟨rfl, rfl⟩
 ·have hv : nodeB n = false := by simp [nodeB, h1]
  have hd1 : decide (1 ≤ n) = false := decide_eq_false h1
  rw [hv]
  go_enter Tryz.func94, Tryz.ntmps94
  go_wp2
  go_ret
  exact ⟨rfl, rfl⟩
end S4
end Go.Proofs.YtpdfcojcmhadnaaGreat

set_option linter.unusedVariables false
namespace Go.Proofs.YtpdfcojcmhadnaaGreat
open S3
namespace S4
open Go.RowKit
theorem ris_drop {l : List Int} {k : Nat} {n : Int} (h : l[k]? = some n) (p : Int) : risF p (l.drop k) = (nodeB n && (decide (p < n) && risF n (l.drop (k + 1)))) := by
 obtain ⟨h1, rfl⟩ := List.getElem?_eq_some_iff.1 h
 rw [List.drop_eq_getElem_cons h1]
 rfl
def RisAt (l : List Int) (k : Nat) (p : Int) : Prop := (k = 0 → p = 0) ∧ (∀ j, k = j + 1 → l[j]? = some p) ∧ risF 0 l = risF p (l.drop k)
theorem risAt_zero (l : List Int) : RisAt l 0 0 := ⟨fun _ => rfl, fun j h => (by cases h), rfl⟩
theorem risAt_next {l : List Int} {k : Nat} {p n : Int} (h : RisAt l k p) (hn : l[k]? = some n) (h1 : nodeB n = true) (h2 : p < n) : RisAt l (k + 1) n := by
 refine ⟨fun h => (by cases h), fun j hj => by cases hj; exact hn, ?_⟩
 rw [h.2.2, ris_drop hn, h1]
 simp [h2]
theorem risAt_bad {l : List Int} {k : Nat} {p n : Int} (h : RisAt l k p) (hn : l[k]? = some n) (h1 : nodeB n = false ∨ n ≤ p) : risF 0 l = false := by
 rw [h.2.2, ris_drop hn]
 rcases h1 with h1 | h1
 ·rw [h1]; rfl
 ·have : ¬ p < n := by omega
  simp [this]
theorem risAt_end {l : List Int} {k : Nat} {p : Int} (h : RisAt l k p) (hk : l.length ≤ k) : risF 0 l = true := by
 rw [h.2.2, List.drop_eq_nil_of_le hk]
 rfl

theorem row_drop {l : List Sh} {k : Nat} {s : Sh} (h : l[k]? = some s) (x : ByteArray) : rowF x ((spans l).drop k) = ((s.sp.1.toList == x.toList) && ((decide (k + 1 = l.length) || (ltT s.sp.1 s.sp.2 && decide (s.sp.2.size ≤ 16))) && rowF s.sp.2 ((spans l).drop (k + 1)))) := by
 obtain ⟨h1, rfl⟩ := List.getElem?_eq_some_iff.1 h
 have hl : (spans l).length = l.length := by simp [spans]
 rw [List.drop_eq_getElem_cons (by rw [hl]; exact h1)]
 have e : ((spans l).drop (k + 1)).isEmpty = decide (k + 1 = l.length) := by
  rw [Bool.eq_iff_iff, List.isEmpty_iff, List.drop_eq_nil_iff, hl, decide_eq_true_eq]
  omega
 rw [rowF, e]
 have e2 : (spans l)[k]'(by rw [hl]; exact h1) = l[k].sp := by simp [spans]
 rw [e2]
def RowAt (l : List Sh) (k : Nat) (x : ByteArray) : Prop := rowF ⟨#[]⟩ (spans l) = rowF x ((spans l).drop k)
theorem rowAt_bad {l : List Sh} {k : Nat} {x : ByteArray} {s : Sh} (h : RowAt l k x) (hs : l[k]? = some s) (h1 : (s.sp.1.toList == x.toList) = false) : rowF ⟨#[]⟩ (spans l) = false := by
 rw [show rowF ⟨#[]⟩ (spans l) = _ from h, row_drop hs, h1]
 rfl
theorem rowAt_low {l : List Sh} {k : Nat} {x : ByteArray} {s : Sh} (h : RowAt l k x) (hs : l[k]? = some s) (h1 : ¬ k + 1 = l.length) (h2 : ltT s.sp.1 s.sp.2 = false ∨ 16 < s.sp.2.size) : rowF ⟨#[]⟩ (spans l) = false := by
 rw [show rowF ⟨#[]⟩ (spans l) = _ from h, row_drop hs]
 have e : (ltT s.sp.1 s.sp.2 && decide (s.sp.2.size ≤ 16)) = false := by
  rcases h2 with h2 | h2
  ·rw [h2]; rfl
  ·rw [decide_eq_false (by omega)]; simp
 rw [e, decide_eq_false h1]
 simp
theorem rowAt_next {l : List Sh} {k : Nat} {s : Sh} (h : RowAt l k s.sp.1) (hs : l[k]? = some s) (h1 : k + 1 = l.length ∨ (ltT s.sp.1 s.sp.2 = true ∧ s.sp.2.size ≤ 16)) : RowAt l (k + 1) s.sp.2 := by
 unfold RowAt
 rw [show rowF ⟨#[]⟩ (spans l) = _ from h, row_drop hs]
 have e : (decide (k + 1 = l.length) || (ltT s.sp.1 s.sp.2 && decide (s.sp.2.size ≤ 16))) = true := by
  rcases h1 with h1 | ⟨h1, h2⟩
  ·rw [decide_eq_true h1]; rfl
  ·rw [h1, decide_eq_true h2]; simp
 rw [e]
 simp
theorem rowAt_end {l : List Sh} {k : Nat} {x : ByteArray} (h : RowAt l k x) (hk : l.length ≤ k) : rowF ⟨#[]⟩ (spans l) = noT x := by
 rw [show rowF ⟨#[]⟩ (spans l) = _ from h, List.drop_eq_nil_of_le (by simpa [spans] using hk)]
 rfl
theorem le_iff (a b : ByteArray) : (Op.bytesLess b.toList a.toList || b.toList == a.toList) = !ltT a b := by
 show (ltT b a || b.toList == a.toList) = _
 cases h : ltT a b
 ·cases h2 : ltT b a
  ·rw [lt_total h h2]; simp
  ·simp
 ·rw [lt_asymm h]
  have : b.toList ≠ a.toList := by
   intro e
   rw [text_ext e, lt_irrefl] at h
   cases h
  simp [this]

def NodesTo (l : List Sh) (k : Nat) : Prop := (l.take k).all (fun s => nodesB s.nodes) = true
theorem nodesTo_next {l : List Sh} {k : Nat} {s : Sh} (h : NodesTo l k) (hs : l[k]? = some s) (h1 : nodesB s.nodes = true) : NodesTo l (k + 1) := by
 unfold NodesTo at *
 rw [List.take_add_one, hs, List.all_append, h]
 simp [h1]
theorem nodes_bad {l : List Sh} {k : Nat} {s : Sh} (hs : l[k]? = some s) (h1 : nodesB s.nodes = false) : topoB l = false := by
 have : l.all (fun s => nodesB s.nodes) = false := by
  rw [List.all_eq_false]
  exact ⟨s, List.mem_of_getElem? hs, by rw [h1]; simp⟩
 unfold topoB
 rw [this]
 simp
theorem nodes_end {l : List Sh} {k : Nat} (h : NodesTo l k) (hk : l.length ≤ k) (h1 : 1 ≤ l.length) (h2 : l.length ≤ 8) (h3 : rowF ⟨#[]⟩ (spans l) = true) : topoB l = true := by
 unfold NodesTo at h
 rw [List.take_of_length_le hk] at h
 unfold topoB
 rw [h, h3, decide_eq_true ⟨h1, h2⟩]
 rfl
theorem topo_few {l : List Sh} (h : l.length < 1 ∨ 8 < l.length) : topoB l = false := by
 unfold topoB
 rw [decide_eq_false (by omega)]
 rfl
theorem topo_row {l : List Sh} (h : rowF ⟨#[]⟩ (spans l) = false) : topoB l = false := by
 unfold topoB
 rw [h]
 simp
def errT (b : Bool) : Int := if b = true then 0 else 40

theorem has_take {l : List Int} {k : Nat} {x n : Int} (hs : l[k]? = some x) (h : hasN (l.take k) n = false) (hn : (x == n) = false) : hasN (l.take (k + 1)) n = false := by
 unfold hasN at *
 rw [List.take_add_one, hs, List.any_append, h]
 simpa using hn
theorem has_found {l : List Int} {k : Nat} {x n : Int} (hs : l[k]? = some x) (hn : (x == n) = true) : hasN l n = true :=
 List.any_eq_true.2 ⟨x, List.mem_of_getElem? hs, hn⟩
theorem refin_i (a : Option Addr) (c : Nat) (l : List Int) (n : Int) (w : World) (hlen : l.length ≤ 1000000) (ha : Il w a c l) :
  Calls Tryz.prog 25 #[.slice a l.length c, .int .i64 n] w fun e w' => e = .returned (.bool (hasN l n)) ∧ w = w' := by
 have HA := Lib.hid ha
 clear ha
 generalize hv : hasN l n = v
 have HV := Lib.hid hv
 clear hv
 go_enter Tryz.func25, Tryz.ntmps25
 go_wp2
 go_loopw [5] (fun i wr => ∃ k : Nat, k ≤ l.length ∧ i = .int .i64 k ∧ hasN (l.take k) n = false ∧ w = wr) (fun i _ => l.length - (RowKit.intOf i).toNat)
 case atStart => exact ⟨0, Nat.zero_le _, rfl, rfl, rfl⟩
 case round =>
  obtain ⟨k, hk, rfl, hr, rfl⟩ := hrel
  by_cases hlt : k < l.length
  ·obtain ⟨x, hx⟩ := at_lt hlt
   obtain ⟨g, o, rfl, hg, c0⟩ := HA.out.at hx
   have hk0 : (0 : Int) ≤ (k : Int) := by omega
   have hk1 : (k : Int) < (l.length : Int) := by omega
   have hdk : decide ((k : Int) < (l.length : Int)) = true := decide_eq_true hk1
   cases he : (x == n)
   ·have HX := Lib.hid (has_take hx hr he)
    clear hx hr
    go_wp2
    go_roundw
    case rel => exact ⟨k + 1, hlt, by go_num, HX.out, by trivial⟩
    case measure => simp [RowKit.intOf]; omega
   ·have HF := Lib.hid (has_found hx he)
    clear hx hr
    go_wp2
    go_ret
    exact ⟨ret_bool (HF.out.symm.trans HV.out), rfl⟩
  ·have HF : Hid (hasN l n = false) := by have h := hr; rwa [List.take_of_length_le (by omega)] at h
   have hdk : decide ((k : Int) < (l.length : Int)) = false := decide_eq_false (by omega)
   clear hr
   go_wp2
   go_ret
   exact ⟨ret_bool (HF.out.symm.trans HV.out), rfl⟩

theorem good_end {l : List Sh} {k : Nat} {x : ByteArray} (h : NodesTo l k) (hx : RowAt l k x) (hk : l.length ≤ k) (h1 : 1 ≤ l.length) (h2 : l.length ≤ 8) (h3 : noT x = true) : topoB l = true :=
 nodes_end h hk h1 h2 ((rowAt_end hx hk).trans h3)
theorem rowAt_last {l : List Sh} {k : Nat} {s : Sh} (h : RowAt l k s.sp.1) (hs : l[k]? = some s) (h1 : k + 1 = l.length) (h2 : noT s.sp.2 = false) : rowF ⟨#[]⟩ (spans l) = false := by
 have := rowAt_next h hs (.inl h1)
 rw [rowAt_end this (by omega), h2]
theorem rtcheck_any (a : Option Addr) (c : Nat) (l : List Sh) (w : World) (ha : Hl w a l) :
  Calls Tryz.prog 15 #[.slice a l.length c] w fun e w' => e = .returned (.int .i64 (errT (topoB l))) ∧ Below w.heap.size w w' := by
 have HA := Lib.hid ha
 clear ha
 generalize hv : errT (topoB l) = v
 have HV := Lib.hid hv
 clear hv
 by_cases h0 : l.length < 1
 ·have HF : Hid (errT (topoB l) = 40) := by show _ = _; rw [topo_few (.inl h0)]; rfl
  have hd0 : decide ((l.length : Int) < 1) = true := decide_eq_true (by omega)
  clear h0
  go_enter Tryz.func15, Tryz.ntmps15
  go_wp2
  go_ret
  exact ⟨ret_int (HF.out.symm.trans HV.out), Below.refl _ _⟩
 ·by_cases h8 : 8 < l.length
  ·have HF : Hid (errT (topoB l) = 40) := by show _ = _; rw [topo_few (.inr h8)]; rfl
   have hd0 : decide ((l.length : Int) < 1) = false := decide_eq_false (by omega)
   have hd8 : decide ((8 : Int) < (l.length : Int)) = true := decide_eq_true (by omega)
   clear h0 h8
   go_enter Tryz.func15, Tryz.ntmps15
   go_wp2
   go_ret
   exact ⟨ret_int (HF.out.symm.trans HV.out), Below.refl _ _⟩
  ·have hd0 : decide ((l.length : Int) < 1) = false := decide_eq_false (by omega)
   have hd8 : decide ((8 : Int) < (l.length : Int)) = false := decide_eq_false (by omega)
   have H08 : Hid (1 ≤ l.length ∧ l.length ≤ 8) := ⟨by omega, by omega⟩
   clear h0 h8
   have h8x := H08.out.2
   go_enter Tryz.func15, Tryz.ntmps15
   go_wp2
   go_loopw [3, 4] (fun f i wr => ∃ (k : Nat) (x : ByteArray), k ≤ l.length ∧ i = .int .i64 k ∧ f = .string x ∧ (k = l.length → noT x = true) ∧ RowAt l k x ∧ NodesTo l k ∧ Below w.heap.size w wr) (fun _ i _ => l.length - (RowKit.intOf i).toNat)
   case atStart => exact ⟨0, _, Nat.zero_le _, rfl, rfl, fun _ => noT_iff.2 rfl, rfl, rfl, Below.refl _ _⟩
   case round =>
    obtain ⟨k, x, hk, rfl, rfl, hno, hr, hn, hb⟩ := hrel
    have HNO := Lib.hid hno
    by_cases hlt : k < l.length
    ·obtain ⟨s, hs⟩ := at_lt hlt
     obtain ⟨g, o, rfl, hg, d0, d1, d2⟩ := HA.out.at hs
     have c0 := cell_in hb hg d0
     have c1 := cell_in hb hg d1
     have c2 := cell_in hb hg d2
     have hgw := Nat.lt_of_lt_of_le hg hb.size
     have hk0 : (0 : Int) ≤ (k : Int) := by omega
     have hk1 : (k : Int) < (l.length : Int) := by omega
     have hdk : decide ((k : Int) < (l.length : Int)) = true := decide_eq_true hk1
     have HIL := Lib.hid ((HA.out.1 s (List.mem_of_getElem? hs)).later hb)
     have HS := Lib.hid hs
     have HR := Lib.hid hr
     have HN := Lib.hid hn
     have HB := Lib.hid hb
     clear hs hr hb d0 d1 d2 hn hno
     cases h1 : (s.sp.1.toList == x.toList)
     ·have HF : Hid (errT (topoB l) = 40) := by show _ = _; rw [topo_row (rowAt_bad HR.out HS.out h1)]; rfl
      have h1b : (s.sp.1.toList != x.toList) = true := by simpa using h1
      go_wp2
      go_ret
      exact ⟨ret_int (HF.out.symm.trans HV.out), blAlloc HB.out _⟩
     ·obtain rfl : s.sp.1 = x := text_ext (by simpa using h1)
      clear h1
      by_cases hl : k + 1 = l.length
      ·have hlast : ((k : Int) == (l.length : Int) - 1) = true := by simp; omega
       cases h2 : noT s.sp.2
       ·have HF : Hid (errT (topoB l) = 40) := by show _ = _; rw [topo_row (rowAt_last HR.out HS.out hl h2)]; rfl
        have h2b : s.sp.2.toList.isEmpty = false := h2
        clear hl h2
        go_wp2
        go_ret
        exact ⟨ret_int (HF.out.symm.trans HV.out), blAlloc HB.out _⟩
       ·have h2b : s.sp.2.toList.isEmpty = true := h2
        have HX := Lib.hid (rowAt_next HR.out HS.out (.inl hl))
        have HNX : Hid (k + 1 = l.length → noT s.sp.2 = true) := fun _ => h2
        clear hl h2
        by_cases n1 : s.nodes.length < 1
        ·have HF : Hid (errT (topoB l) = 40) := by show _ = _; rw [nodes_bad HS.out (by unfold nodesB; rw [decide_eq_false (by omega)]; rfl)]; rfl
         have hn1 : decide ((s.nodes.length : Int) < 1) = true := decide_eq_true (by omega)
         clear n1
         go_wp2
         go_ret
         exact ⟨ret_int (HF.out.symm.trans HV.out), blAlloc HB.out _⟩
        ·by_cases n5 : 5 < s.nodes.length
         ·have HF : Hid (errT (topoB l) = 40) := by show _ = _; rw [nodes_bad HS.out (by unfold nodesB; rw [decide_eq_false (by omega)]; rfl)]; rfl
          have hn1 : decide ((s.nodes.length : Int) < 1) = false := decide_eq_false (by omega)
          have hn5 : decide ((5 : Int) < (s.nodes.length : Int)) = true := decide_eq_true (by omega)
          clear n1 n5
          go_wp2
          go_ret
          exact ⟨ret_int (HF.out.symm.trans HV.out), blAlloc HB.out _⟩
         ·have hn1 : decide ((s.nodes.length : Int) < 1) = false := decide_eq_false (by omega)
          have hn5 : decide ((5 : Int) < (s.nodes.length : Int)) = false := decide_eq_false (by omega)
          have HNB : Hid (nodesB s.nodes = risF 0 s.nodes) := by show _ = _; unfold nodesB; rw [decide_eq_true (by omega)]; rfl
          have hn5x : s.nodes.length ≤ 5 := by omega
          clear n1 n5
          go_wp2
          go_loopw [8] (fun j wr2 => ∃ (q : Nat) (p : Int), q ≤ s.nodes.length ∧ j = .int .i64 q ∧ RisAt s.nodes q p ∧ Below wr.heap.size wr wr2) (fun j _ => s.nodes.length - (RowKit.intOf j).toNat)
          case atStart => exact ⟨0, 0, Nat.zero_le _, rfl, risAt_zero _, blAlloc (Below.refl _ _) _⟩
          case round =>
           rename_i wr2
           obtain ⟨q, p, hq, rfl, hq2, hb2⟩ := hrel
           have HQ := Lib.hid hq2
           have HB2 := Lib.hid hb2
           clear hq2
           by_cases hlt2 : q < s.nodes.length
           ·obtain ⟨n, hn⟩ := at_lt hlt2
            obtain ⟨g2, o2, ea, hg2, e0⟩ := HIL.out.at hn
            have n0 := cell_in hb2 hg2 e0
            have hg2w := Nat.lt_of_lt_of_le hg2 hb2.size
            have hq0 : (0 : Int) ≤ (q : Int) := by omega
            have hq1 : (q : Int) < (s.nodes.length : Int) := by omega
            have hdq : decide ((q : Int) < (s.nodes.length : Int)) = true := decide_eq_true hq1
            have HNN := Lib.hid hn
            clear hn e0
            rw [ea]
            by_cases m1 : n < 1
            ·have HF : Hid (errT (topoB l) = 40) := by show _ = _; rw [nodes_bad HS.out (HNB.out.trans (risAt_bad HQ.out HNN.out (.inl (by simp [nodeB]; omega))))]; rfl
             have hm1 : decide (n < 1) = true := decide_eq_true m1
             clear m1
             go_wp2
             go_quiet (fail)
             go_wp2
             first | go_ret | (rw [Exit.noGoto_ret]; go_ret)
             exact ⟨ret_int (HF.out.symm.trans HV.out), HB.out.trans ((HB2.out.mono HB.out.size).trans ⟨rfl, rfl, rfl, Nat.le_refl _, fun _ _ => rfl⟩)⟩
            ·by_cases m7 : 7 < n
             ·have HF : Hid (errT (topoB l) = 40) := by show _ = _; rw [nodes_bad HS.out (HNB.out.trans (risAt_bad HQ.out HNN.out (.inl (by simp [nodeB]; omega))))]; rfl
              have hm1 : decide (n < 1) = false := decide_eq_false m1
              have hm7 : decide (7 < n) = true := decide_eq_true m7
              clear m1 m7
              go_wp2
              go_quiet (fail)
              go_wp2
              first | go_ret | (rw [Exit.noGoto_ret]; go_ret)
              exact ⟨ret_int (HF.out.symm.trans HV.out), HB.out.trans ((HB2.out.mono HB.out.size).trans ⟨rfl, rfl, rfl, Nat.le_refl _, fun _ _ => rfl⟩)⟩
             ·have HND : Hid (nodeB n = true) := nodeB_iff.2 ⟨by omega, by omega⟩
              have hm1 : decide (n < 1) = false := decide_eq_false m1
              have hm7 : decide (7 < n) = false := decide_eq_false m7
              have HN1 : Hid (0 < n) := by show _ < _; omega
              clear m1 m7
              cases q with
              | zero =>
               obtain rfl : p = 0 := HQ.out.1 rfl
               rw [Nat.add_zero] at n0
               have hz : decide ((0 : Int) < 0) = false := by decide
               have HXQ := Lib.hid (risAt_next HQ.out HNN.out HND.out HN1.out)
               go_wp2
               go_quiet (fail)
               go_wp2
               go_roundw
               case rel => exact ⟨1, n, hlt2, by go_num, HXQ.out, HB2.out.trans ⟨rfl, rfl, rfl, Nat.le_refl _, fun _ _ => rfl⟩⟩
               case measure => simp [RowKit.intOf]; omega
              | succ j =>
               have hj := HQ.out.2.1 j rfl
               obtain ⟨g3, o3, ea3, hg3, e1⟩ := HIL.out.at hj
               have e4 := ea.symm.trans ea3
               simp only [Option.some.injEq, Addr.mk.injEq, and_true] at e4
               obtain ⟨rfl, rfl⟩ := e4
               have n1 := cell_in hb2 hg3 e1
               have hj0 : (0 : Int) ≤ (j : Int) := by omega
               have hj1 : (j : Int) < (s.nodes.length : Int) := by omega
               have hpos : decide ((0 : Int) < (j : Int) + 1) = true := decide_eq_true (by omega)
               clear hj e1 ea3 hb2
               by_cases hnp : n ≤ p
               ·have HF : Hid (errT (topoB l) = 40) := by show _ = _; rw [nodes_bad HS.out (HNB.out.trans (risAt_bad HQ.out HNN.out (.inr hnp)))]; rfl
                have hdn : decide (n ≤ p) = true := decide_eq_true hnp
                clear hnp
                go_wp2
                go_quiet (fail)
                go_wp2
                first | go_ret | (rw [Exit.noGoto_ret]; go_ret)
                exact ⟨ret_int (HF.out.symm.trans HV.out), HB.out.trans ((HB2.out.mono HB.out.size).trans ⟨rfl, rfl, rfl, Nat.le_refl _, fun _ _ => rfl⟩)⟩
               ·have HXQ := Lib.hid (risAt_next HQ.out HNN.out HND.out (by omega))
                have hdn : decide (n ≤ p) = false := decide_eq_false hnp
                clear hnp
                go_wp2
                go_quiet (fail)
                go_wp2
                go_roundw
                case rel => exact ⟨j + 1 + 1, n, hlt2, by go_num, HXQ.out, HB2.out.trans ⟨rfl, rfl, rfl, Nat.le_refl _, fun _ _ => rfl⟩⟩
                case measure => simp [RowKit.intOf]; omega
           ·have HF2 := Lib.hid (risAt_end HQ.out (by omega))
            have HXN := Lib.hid (nodesTo_next HN.out HS.out (HNB.out.trans HF2.out))
            have hdq : decide ((q : Int) < (s.nodes.length : Int)) = false := decide_eq_false (by omega)
            clear hb2
            go_wp2
            go_roundw
            case rel => exact ⟨k + 1, s.sp.2, hlt, by go_num, rfl, HNX.out, HX.out, HXN.out, HB.out.trans (HB2.out.mono HB.out.size)⟩
            case measure => simp [RowKit.intOf]; omega
      ·have hlast : ((k : Int) == (l.length : Int) - 1) = false := by simp; omega
       have HNX : Hid (k + 1 = l.length → noT s.sp.2 = true) := fun h => absurd h hl
       cases h2 : ltT s.sp.1 s.sp.2
       ·have HF : Hid (errT (topoB l) = 40) := by show _ = _; rw [topo_row (rowAt_low HR.out HS.out hl (.inl h2))]; rfl
        have hle : (Op.bytesLess s.sp.2.toList s.sp.1.toList || s.sp.2.toList == s.sp.1.toList) = true := by rw [le_iff, h2]; rfl
        clear hl h2
        go_wp2
        go_ret
        exact ⟨ret_int (HF.out.symm.trans HV.out), blAlloc HB.out _⟩
       ·have hle : (Op.bytesLess s.sp.2.toList s.sp.1.toList || s.sp.2.toList == s.sp.1.toList) = false := by rw [le_iff, h2]; rfl
        by_cases h3 : 16 < s.sp.2.size
        ·have HF : Hid (errT (topoB l) = 40) := by show _ = _; rw [topo_row (rowAt_low HR.out HS.out hl (.inr h3))]; rfl
         have hd3 : decide ((16 : Int) < (s.sp.2.size : Int)) = true := decide_eq_true (by omega)
         clear hl h2 h3
         go_wp2
         go_ret
         exact ⟨ret_int (HF.out.symm.trans HV.out), blAlloc HB.out _⟩
        ·have HX := Lib.hid (rowAt_next HR.out HS.out (.inr ⟨h2, by omega⟩))
         have hd3 : decide ((16 : Int) < (s.sp.2.size : Int)) = false := decide_eq_false (by omega)
         clear hl h2 h3
         by_cases n1 : s.nodes.length < 1
         ·have HF : Hid (errT (topoB l) = 40) := by show _ = _; rw [nodes_bad HS.out (by unfold nodesB; rw [decide_eq_false (by omega)]; rfl)]; rfl
          have hn1 : decide ((s.nodes.length : Int) < 1) = true := decide_eq_true (by omega)
          clear n1
          go_wp2
          go_ret
          exact ⟨ret_int (HF.out.symm.trans HV.out), blAlloc HB.out _⟩
         ·by_cases n5 : 5 < s.nodes.length
          ·have HF : Hid (errT (topoB l) = 40) := by show _ = _; rw [nodes_bad HS.out (by unfold nodesB; rw [decide_eq_false (by omega)]; rfl)]; rfl
           have hn1 : decide ((s.nodes.length : Int) < 1) = false := decide_eq_false (by omega)
           have hn5 : decide ((5 : Int) < (s.nodes.length : Int)) = true := decide_eq_true (by omega)
           clear n1 n5
           go_wp2
           go_ret
           exact ⟨ret_int (HF.out.symm.trans HV.out), blAlloc HB.out _⟩
          ·have hn1 : decide ((s.nodes.length : Int) < 1) = false := decide_eq_false (by omega)
           have hn5 : decide ((5 : Int) < (s.nodes.length : Int)) = false := decide_eq_false (by omega)
           have HNB : Hid (nodesB s.nodes = risF 0 s.nodes) := by show _ = _; unfold nodesB; rw [decide_eq_true (by omega)]; rfl
           have hn5x : s.nodes.length ≤ 5 := by omega
           clear n1 n5
           go_wp2
           go_loopw [8] (fun j wr2 => ∃ (q : Nat) (p : Int), q ≤ s.nodes.length ∧ j = .int .i64 q ∧ RisAt s.nodes q p ∧ Below wr.heap.size wr wr2) (fun j _ => s.nodes.length - (RowKit.intOf j).toNat)
           case atStart => exact ⟨0, 0, Nat.zero_le _, rfl, risAt_zero _, blAlloc (Below.refl _ _) _⟩
           case round =>
            rename_i wr2
            obtain ⟨q, p, hq, rfl, hq2, hb2⟩ := hrel
            have HQ := Lib.hid hq2
            have HB2 := Lib.hid hb2
            clear hq2
            by_cases hlt2 : q < s.nodes.length
            ·obtain ⟨n, hn⟩ := at_lt hlt2
             obtain ⟨g2, o2, ea, hg2, e0⟩ := HIL.out.at hn
             have n0 := cell_in hb2 hg2 e0
             have hg2w := Nat.lt_of_lt_of_le hg2 hb2.size
             have hq0 : (0 : Int) ≤ (q : Int) := by omega
             have hq1 : (q : Int) < (s.nodes.length : Int) := by omega
             have hdq : decide ((q : Int) < (s.nodes.length : Int)) = true := decide_eq_true hq1
             have HNN := Lib.hid hn
             clear hn e0
             rw [ea]
             by_cases m1 : n < 1
             ·have HF : Hid (errT (topoB l) = 40) := by show _ = _; rw [nodes_bad HS.out (HNB.out.trans (risAt_bad HQ.out HNN.out (.inl (by simp [nodeB]; omega))))]; rfl
              have hm1 : decide (n < 1) = true := decide_eq_true m1
              clear m1
              go_wp2
              go_quiet (fail)
              go_wp2
              first | go_ret | (rw [Exit.noGoto_ret]; go_ret)
              exact ⟨ret_int (HF.out.symm.trans HV.out), HB.out.trans ((HB2.out.mono HB.out.size).trans ⟨rfl, rfl, rfl, Nat.le_refl _, fun _ _ => rfl⟩)⟩
             ·by_cases m7 : 7 < n
              ·have HF : Hid (errT (topoB l) = 40) := by show _ = _; rw [nodes_bad HS.out (HNB.out.trans (risAt_bad HQ.out HNN.out (.inl (by simp [nodeB]; omega))))]; rfl
               have hm1 : decide (n < 1) = false := decide_eq_false m1
               have hm7 : decide (7 < n) = true := decide_eq_true m7
               clear m1 m7
               go_wp2
               go_quiet (fail)
               go_wp2
               first | go_ret | (rw [Exit.noGoto_ret]; go_ret)
               exact ⟨ret_int (HF.out.symm.trans HV.out), HB.out.trans ((HB2.out.mono HB.out.size).trans ⟨rfl, rfl, rfl, Nat.le_refl _, fun _ _ => rfl⟩)⟩
              ·have HND : Hid (nodeB n = true) := nodeB_iff.2 ⟨by omega, by omega⟩
               have hm1 : decide (n < 1) = false := decide_eq_false m1
               have hm7 : decide (7 < n) = false := decide_eq_false m7
               have HN1 : Hid (0 < n) := by show _ < _; omega
               clear m1 m7
               cases q with
               | zero =>
                obtain rfl : p = 0 := HQ.out.1 rfl
                rw [Nat.add_zero] at n0
                have hz : decide ((0 : Int) < 0) = false := by decide
                have HXQ := Lib.hid (risAt_next HQ.out HNN.out HND.out HN1.out)
                go_wp2
                go_quiet (fail)
                go_wp2
                go_roundw
                case rel => exact ⟨1, n, hlt2, by go_num, HXQ.out, HB2.out.trans ⟨rfl, rfl, rfl, Nat.le_refl _, fun _ _ => rfl⟩⟩
                case measure => simp [RowKit.intOf]; omega
               | succ j =>
                have hj := HQ.out.2.1 j rfl
                obtain ⟨g3, o3, ea3, hg3, e1⟩ := HIL.out.at hj
                have e4 := ea.symm.trans ea3
                simp only [Option.some.injEq, Addr.mk.injEq, and_true] at e4
                obtain ⟨rfl, rfl⟩ := e4
                have n1 := cell_in hb2 hg3 e1
                have hj0 : (0 : Int) ≤ (j : Int) := by omega
                have hj1 : (j : Int) < (s.nodes.length : Int) := by omega
                have hpos : decide ((0 : Int) < (j : Int) + 1) = true := decide_eq_true (by omega)
                clear hj e1 ea3 hb2
                by_cases hnp : n ≤ p
                ·have HF : Hid (errT (topoB l) = 40) := by show _ = _; rw [nodes_bad HS.out (HNB.out.trans (risAt_bad HQ.out HNN.out (.inr hnp)))]; rfl
                 have hdn : decide (n ≤ p) = true := decide_eq_true hnp
                 clear hnp
                 go_wp2
                 go_quiet (fail)
                 go_wp2
                 first | go_ret | (rw [Exit.noGoto_ret]; go_ret)
                 exact ⟨ret_int (HF.out.symm.trans HV.out), HB.out.trans ((HB2.out.mono HB.out.size).trans ⟨rfl, rfl, rfl, Nat.le_refl _, fun _ _ => rfl⟩)⟩
                ·have HXQ := Lib.hid (risAt_next HQ.out HNN.out HND.out (by omega))
                 have hdn : decide (n ≤ p) = false := decide_eq_false hnp
                 clear hnp
                 go_wp2
                 go_quiet (fail)
                 go_wp2
                 go_roundw
                 case rel => exact ⟨j + 1 + 1, n, hlt2, by go_num, HXQ.out, HB2.out.trans ⟨rfl, rfl, rfl, Nat.le_refl _, fun _ _ => rfl⟩⟩
                 case measure => simp [RowKit.intOf]; omega
            ·have HF2 := Lib.hid (risAt_end HQ.out (by omega))
             have HXN := Lib.hid (nodesTo_next HN.out HS.out (HNB.out.trans HF2.out))
             have hdq : decide ((q : Int) < (s.nodes.length : Int)) = false := decide_eq_false (by omega)
             clear hb2
             go_wp2
             go_roundw
             case rel => exact ⟨k + 1, s.sp.2, hlt, by go_num, rfl, HNX.out, HX.out, HXN.out, HB.out.trans (HB2.out.mono HB.out.size)⟩
             case measure => simp [RowKit.intOf]; omega
    ·have hnx := HNO.out (by omega)
     have HF : Hid (errT (topoB l) = 0) := by show _ = _; rw [good_end hn hr (by omega) H08.out.1 H08.out.2 hnx]; rfl
     have hdk : decide ((k : Int) < (l.length : Int)) = false := decide_eq_false (by omega)
     have HB := Lib.hid hb
     clear hr hb hn hno hnx
     go_wp2
     go_ret
     exact ⟨ret_int (HF.out.symm.trans HV.out), HB.out⟩
end S4
end Go.Proofs.YtpdfcojcmhadnaaGreat
