/- Lists of spans in memory: those that came in, and those that are a call's own; appends. Conditions: lists of some millions of spans at most. -/
import Derived.Laws.AppendOwnNone
import Derived.Laws.AppendOwn
import Derived.Test.YtjlkgbejldcklaaGreatMg01
namespace Go.Proofs.YtjlkgbejldcklaaGreat
namespace S3
open Go.RowKit Go.Sort
theorem blAlloc {w x : World} (h : Below w.heap.size w x) (ob : Obj) : Below w.heap.size w (x.alloc ob) := h.alloc h.size ob
theorem blThen {w x y : World} (h : Below w.heap.size w x) (k : Below x.heap.size x y) : Below w.heap.size w y := h.trans (k.mono h.size)
theorem grown_of_below {w w' : World} (h : Below w.heap.size w w') (row : Option Nat) : w.grownBy w' row := ⟨h.os, h.tape, h.output, h.size, fun k hk _ => h.block k hk⟩
theorem lt_of_block {w : World} {b : Nat} {o : Obj} (h : w.heap[b]? = some o) : b < w.heap.size := (Array.getElem?_eq_some_iff.1 h).1
theorem cell_in {B : Nat} {W wr : World} (h : Below B W wr) {b o : Nat} {v : Value} (hb : b < B) (hc : W.cell? ⟨b, o, none⟩ = some v) : wr.cell? ⟨b, o, none⟩ = some v :=
  (h.cell (p := ⟨b, o, none⟩) hb).trans hc
theorem at_lt {α : Type} {l : List α} {k : Nat} (h : k < l.length) : ∃ x, l[k]? = some x := ⟨_, List.getElem?_eq_getElem h⟩
theorem ne_of_lt {α : Type} {l : List α} {k : Nat} (h : k < l.length) : l ≠ [] := by
  rintro rfl
  exact absurd h (Nat.not_lt_zero _)
def Row2 (w : World) (g o : Nat) (l : List Sp) : Prop := ∀ i s, l[i]? = some s → w.cell? ⟨g, o + i * 2, none⟩ = some (.string s.1) ∧ w.cell? ⟨g, o + i * 2 + 1, none⟩ = some (.string s.2)
def Sl (w : World) (v : Value) (l : List Sp) : Prop := ∃ a cap, v = .slice a l.length cap ∧ (a = none → cap = 0) ∧ (l ≠ [] → ∃ g o, a = some ⟨g, o, none⟩ ∧ g < w.heap.size ∧ Row2 w g o l)
theorem Row2.later {B : Nat} {W wr : World} {g o : Nat} {l : List Sp} (h : Row2 W g o l) (hb : g < B) (hw : Below B W wr) : Row2 wr g o l :=
  fun i s hi => ⟨cell_in hw hb (h i s hi).1, cell_in hw hb (h i s hi).2⟩
theorem Sl.later {W wr : World} {v : Value} {l : List Sp} (h : Sl W v l) (hw : Below W.heap.size W wr) : Sl wr v l := by
  obtain ⟨a, cap, hv, hn, hr⟩ := h
  refine ⟨a, cap, hv, hn, fun hne => ?_⟩
  obtain ⟨g, o, ha, hg, hl⟩ := hr hne
  exact ⟨g, o, ha, Nat.lt_of_lt_of_le hg hw.size, hl.later hg hw⟩
theorem Sl.form {w : World} {v : Value} {l : List Sp} (h : Sl w v l) : ∃ a cap, v = .slice a l.length cap := by
  obtain ⟨a, cap, hv, _⟩ := h
  exact ⟨a, cap, hv⟩
theorem Sl.at {w : World} {a : Option Addr} {n cap : Nat} {l : List Sp} (h : Sl w (.slice a n cap) l) {k : Nat} {s : Sp} (hs : l[k]? = some s) :
    ∃ g o, a = some ⟨g, o, none⟩ ∧ g < w.heap.size ∧ w.cell? ⟨g, o + k * 2, none⟩ = some (.string s.1) ∧ w.cell? ⟨g, o + k * 2 + 1, none⟩ = some (.string s.2) := by
  obtain ⟨a', cap', hv, hn, hr⟩ := h
  simp only [Value.slice.injEq] at hv
  obtain ⟨rfl, rfl, rfl⟩ := hv
  have hne : l ≠ [] := by rintro rfl; simp at hs
  obtain ⟨g, o, ha, hg, hl⟩ := hr hne
  exact ⟨g, o, ha, hg, hl k s hs⟩
def Box2 (w : World) (b : Nat) (s : Sp) : Prop := w.heap[b]? = some (.cells #[.string s.1, .string s.2] 195 (0, 0))
theorem Box2.lt {w : World} {b : Nat} {s : Sp} (h : Box2 w b s) : b < w.heap.size := lt_of_block h
theorem Box2.c0 {w : World} {b : Nat} {s : Sp} (h : Box2 w b s) : w.cell? ⟨b, 0, none⟩ = some (.string s.1) := by unfold Box2 at h; simp [World.cell?, h]
theorem Box2.c1 {w : World} {b : Nat} {s : Sp} (h : Box2 w b s) : w.cell? ⟨b, 1, none⟩ = some (.string s.2) := by unfold Box2 at h; simp [World.cell?, h]
theorem Box2.f0 {w : World} {b : Nat} {s : Sp} (h : Box2 w b s) : w.frozen? ⟨b, 0, none⟩ = false := by unfold Box2 at h; simp [World.frozen?, h]
theorem Box2.f1 {w : World} {b : Nat} {s : Sp} (h : Box2 w b s) : w.frozen? ⟨b, 1, none⟩ = false := by unfold Box2 at h; simp [World.frozen?, h]
theorem Box2.later {w wr : World} {b B : Nat} {s : Sp} (h : Box2 w b s) (hb : Below B w wr) (hB : b < B) : Box2 wr b s := (hb.block b hB).trans h
theorem box2_new (w : World) (s : Sp) : Box2 (w.alloc (Obj.cells #[.string s.1, .string s.2] 195)) w.heap.size s := by
  show (w.heap.push _)[w.heap.size]? = _
  simp
def Box1 (w : World) (b : Nat) (t : TypeId) (v : Value) : Prop := w.heap[b]? = some (.cells #[v] t (0, 0))
theorem Box1.lt {w : World} {b : Nat} {t : TypeId} {v : Value} (h : Box1 w b t v) : b < w.heap.size := lt_of_block h
theorem Box1.c {w : World} {b : Nat} {t : TypeId} {v : Value} (h : Box1 w b t v) : w.cell? ⟨b, 0, none⟩ = some v := by unfold Box1 at h; simp [World.cell?, h]
theorem Box1.f {w : World} {b : Nat} {t : TypeId} {v : Value} (h : Box1 w b t v) : w.frozen? ⟨b, 0, none⟩ = false := by unfold Box1 at h; simp [World.frozen?, h]
theorem Box1.later {w wr : World} {b B : Nat} {t : TypeId} {v : Value} (h : Box1 w b t v) (hb : Below B w wr) (hB : b < B) : Box1 wr b t v := (hb.block b hB).trans h
theorem box1_new (w : World) (t : TypeId) (v : Value) : Box1 (w.alloc (Obj.cells #[v] t)) w.heap.size t v := by
  show (w.heap.push _)[w.heap.size]? = _
  simp
def cellsL (l : List Sp) : List Value := l.flatMap fun s => [.string s.1, .string s.2]
theorem cellsL_length (l : List Sp) : (cellsL l).length = l.length * 2 := by
  induction l with
  | nil => rfl
  | cons a r ih => simp [cellsL] at ih ⊢; omega
theorem cellsL_at (l : List Sp) : ∀ (i : Nat) (s : Sp), l[i]? = some s → (cellsL l)[i * 2]? = some (.string s.1) ∧ (cellsL l)[i * 2 + 1]? = some (.string s.2) := by
  induction l with
  | nil => intro i s h; simp at h
  | cons a r ih =>
    intro i s h
    cases i with
    | zero =>
      simp only [List.getElem?_cons_zero, Option.some.injEq] at h
      subst h
      exact ⟨rfl, rfl⟩
    | succ i =>
      obtain ⟨h1, h2⟩ := ih i s (by simpa using h)
      have e : cellsL (a :: r) = Value.string a.1 :: Value.string a.2 :: cellsL r := rfl
      rw [e, show (i + 1) * 2 = i * 2 + 1 + 1 by omega]
      simpa using ⟨h1, h2⟩
theorem Row2.cells {w : World} {b o : Nat} {l : List Sp} (h : Row2 w b o l) : ∀ (j : Nat) (u : Value), (cellsL l)[j]? = some u → w.cell? ((⟨b, o, none⟩ : Addr).add j) = some u := by
  intro j u hj
  have hlt : j < l.length * 2 := by
    have := (List.getElem?_eq_some_iff.1 hj).1
    rwa [cellsL_length] at this
  obtain ⟨s, hs⟩ := at_lt (l := l) (k := j / 2) (by omega)
  obtain ⟨c1, c2⟩ := cellsL_at l (j / 2) s hs
  obtain ⟨h1, h2⟩ := h (j / 2) s hs
  rw [Go.WideShapes.add_plain]
  rcases Nat.mod_two_eq_zero_or_one j with hm | hm
  · have e : j / 2 * 2 = j := by omega
    rw [e] at c1 h1
    rw [h1, ← c1, hj]
  · have e : j / 2 * 2 + 1 = j := by omega
    rw [e] at c2
    rw [show o + j / 2 * 2 + 1 = o + j by omega] at h2
    rw [h2, ← c2, hj]
def OwnL (w : World) (base : Nat) (v : Value) (l : List Sp) : Prop := w.ownsRow base 195 2 v l.length (cellsL l)
theorem OwnL.row {w : World} {base : Nat} {v : Value} {l : List Sp} (h : OwnL w base v l) (hne : l ≠ []) :
    ∃ g cap, v = .slice (some ⟨g, 0, none⟩) l.length cap ∧ base ≤ g ∧ g < w.heap.size ∧ l.length ≤ cap ∧ cap ≤ 9223372036854775807 ∧ Row2 w g 0 l ∧ ∀ i, i < l.length * 2 → w.frozen? ⟨g, i, none⟩ = false := by
  obtain ⟨h1, h2 | ⟨g, cap, cur, hv, hg, hh, hn, hm, hs, hx⟩⟩ := h
  · obtain ⟨rfl, hl⟩ := h2
    exact absurd (List.eq_nil_of_length_eq_zero hl) hne
  · refine ⟨g, cap, hv, hg, lt_of_block hh, hn, by unfold maxLen at hm; omega, fun i s hi => ?_, fun i _ => by simp [World.frozen?, hh]⟩
    have hil := (List.getElem?_eq_some_iff.1 hi).1
    obtain ⟨c1, c2⟩ := cellsL_at l i s hi
    rw [← hx] at c1 c2
    rw [List.getElem?_take_of_lt (by omega)] at c1 c2
    rw [Nat.zero_add]
    refine ⟨?_, ?_⟩
    · simp only [World.cell?, hh]; simpa using c1
    · simp only [World.cell?, hh]; simpa using c2
theorem OwnL.sl {w : World} {base : Nat} {v : Value} {l : List Sp} (h : OwnL w base v l) : Sl w v l := by
  obtain ⟨h1, h2 | ⟨g, cap, cur, hv, hg, hh, hn, hm, hs, hx⟩⟩ := id h
  · obtain ⟨rfl, hl⟩ := h2
    obtain rfl := List.eq_nil_of_length_eq_zero hl
    exact ⟨none, 0, rfl, fun _ => rfl, fun h => absurd rfl h⟩
  · refine ⟨_, cap, hv, fun h => (by cases h), fun hne => ?_⟩
    obtain ⟨g', cap', hv', _, hg', _, _, hr, _⟩ := h.row hne
    rw [hv] at hv'
    simp only [Value.slice.injEq, Option.some.injEq, Addr.mk.injEq] at hv'
    obtain ⟨⟨rfl, _⟩, _⟩ := hv'
    exact ⟨g, 0, rfl, hg', hr⟩
theorem OwnL.later {W wr : World} {base : Nat} {v : Value} {l : List Sp} (h : OwnL W base v l) (hb : Below W.heap.size W wr) : OwnL wr base v l := by
  obtain ⟨h1, h2 | ⟨g, cap, cur, hv, hg, hh, hn, hm, hs, hx⟩⟩ := h
  · exact ⟨h1, .inl h2⟩
  · exact ⟨h1, .inr ⟨g, cap, cur, hv, hg, (hb.block g (lt_of_block hh)).trans hh, hn, hm, hs, hx⟩⟩
theorem OwnL.nil (w : World) (base : Nat) : OwnL w base (.slice none 0 0) [] := World.ownsRow_nil _ _ _ _
theorem OwnL.block {w : World} {base : Nat} {v : Value} {l : List Sp} (h : OwnL w base v l) : ∀ k, v.ownBlock = some k → base ≤ k := by
  intro k hk
  obtain ⟨h1, ⟨rfl, _⟩ | ⟨g, cap, cur, rfl, hg, _⟩⟩ := h
  · simp [Value.ownBlock] at hk
  · simp [Value.ownBlock] at hk
    omega
theorem OwnL.mono {w : World} {base B : Nat} {v : Value} {d : List Sp} (h : OwnL w B v d) (hb : base ≤ B) : OwnL w base v d := by
  obtain ⟨h1, h2 | ⟨g, cap, cur, hv, hg, rest⟩⟩ := h
  · exact ⟨h1, .inl h2⟩
  · exact ⟨h1, .inr ⟨g, cap, cur, hv, Nat.le_trans hb hg, rest⟩⟩
theorem OwnL.form {w : World} {base : Nat} {v : Value} {l : List Sp} (h : OwnL w base v l) : ∃ a cap, v = .slice a l.length cap := h.sl.form
theorem one_sl {W : World} {s : Sp} {b : Nat} (h : Box2 W b s) (c : Nat) : Sl W (.slice (some ⟨b, 0, none⟩) 1 c) [s] := ⟨_, c, rfl, fun h => (by cases h), fun _ => ⟨b, 0, rfl, h.lt, fun i x hi => by
  cases i with
  | zero =>
    simp only [List.getElem?_cons_zero, Option.some.injEq] at hi
    subst hi
    exact ⟨h.c0, h.c1⟩
  | succ i => simp at hi⟩⟩
end S3
end Go.Proofs.YtjlkgbejldcklaaGreat
