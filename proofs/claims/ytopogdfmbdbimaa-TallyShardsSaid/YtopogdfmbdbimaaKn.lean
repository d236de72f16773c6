/- Lists of texts in memory: those that came in, and those that are a call's own; appends. Conditions: lists of some millions of texts at most. -/
import Derived.Test.YtopogdfmbdbimaaKd
import Derived.Deep.AppendLies
namespace Go.Proofs.Ytopogdfmbdbimaa
open Go.RowKit

/-- From offset o on, block g holds the texts of l. -/
def Row1 (w : World) (g o : Nat) (l : List ByteArray) : Prop := ∀ (i : Nat) s, l[i]? = some s → w.cell? ⟨g, o + i, none⟩ = some (.string s)
/-- The slice v holds the texts of l. -/
def Tl (w : World) (v : Value) (l : List ByteArray) : Prop := ∃ a cap, v = .slice a l.length cap ∧ (a = none → cap = 0) ∧ (l ≠ [] → ∃ g o, a = some ⟨g, o, none⟩ ∧ g < w.heap.size ∧ Row1 w g o l)
theorem Row1.later {B : Nat} {W wr : World} {g o : Nat} {l : List ByteArray} (h : Row1 W g o l) (hb : g < B) (hw : Below B W wr) : Row1 wr g o l :=
  fun i s hi => cell_in hw hb (h i s hi)
theorem Tl.later {W wr : World} {v : Value} {l : List ByteArray} (h : Tl W v l) (hw : Below W.heap.size W wr) : Tl wr v l := by
  obtain ⟨a, cap, hv, hn, hr⟩ := h
  refine ⟨a, cap, hv, hn, fun hne => ?_⟩
  obtain ⟨g, o, ha, hg, hl⟩ := hr hne
  exact ⟨g, o, ha, Nat.lt_of_lt_of_le hg hw.size, hl.later hg hw⟩
theorem Tl.form {w : World} {v : Value} {l : List ByteArray} (h : Tl w v l) : ∃ a cap, v = .slice a l.length cap := by
  obtain ⟨a, cap, hv, _⟩ := h
  exact ⟨a, cap, hv⟩
theorem Tl.at {w : World} {a : Option Addr} {n cap : Nat} {l : List ByteArray} (h : Tl w (.slice a n cap) l) {k : Nat} {s : ByteArray} (hs : l[k]? = some s) :
    ∃ g o, a = some ⟨g, o, none⟩ ∧ g < w.heap.size ∧ w.cell? ⟨g, o + k, none⟩ = some (.string s) := by
  obtain ⟨a', cap', hv, hn, hr⟩ := h
  simp only [Value.slice.injEq] at hv
  obtain ⟨rfl, rfl, rfl⟩ := hv
  have hne : l ≠ [] := by rintro rfl; simp at hs
  obtain ⟨g, o, ha, hg, hl⟩ := hr hne
  exact ⟨g, o, ha, hg, hl k s hs⟩
/-- The values of a list of texts. -/
def cellsT (l : List ByteArray) : List Value := l.map .string
theorem cellsT_length (l : List ByteArray) : (cellsT l).length = l.length := by simp [cellsT]
theorem cellsT_at {l : List ByteArray} {i : Nat} {s : ByteArray} (h : l[i]? = some s) : (cellsT l)[i]? = some (.string s) := by simp [cellsT, h]
theorem Row1.cells {w : World} {b o : Nat} {l : List ByteArray} (h : Row1 w b o l) : ∀ (j : Nat) (u : Value), (cellsT l)[j]? = some u → w.cell? ((⟨b, o, none⟩ : Addr).add j) = some u := by
  intro j u hj
  have hlt : j < l.length := by
    have := (List.getElem?_eq_some_iff.1 hj).1
    rwa [cellsT_length] at this
  obtain ⟨s, hs⟩ := at_lt hlt
  rw [Go.WideShapes.add_plain, h j s hs, ← cellsT_at hs, hj]
/-- The slice v is the call's own (in a block from base on) and holds the texts of l. -/
def OwnT (w : World) (base : Nat) (v : Value) (l : List ByteArray) : Prop := w.ownsRow base 9 1 v l.length (cellsT l)
theorem OwnT.row {w : World} {base : Nat} {v : Value} {l : List ByteArray} (h : OwnT w base v l) : (v = .slice none 0 0 ∧ l = []) ∨
    ∃ g cap, v = .slice (some ⟨g, 0, none⟩) l.length cap ∧ base ≤ g ∧ g < w.heap.size ∧ l.length ≤ cap ∧ cap ≤ 9223372036854775807 ∧ Row1 w g 0 l := by
  obtain ⟨h1, h2 | ⟨g, cap, cur, hv, hg, hh, hn, hm, hs, hx⟩⟩ := h
  · obtain ⟨rfl, hl⟩ := h2
    exact .inl ⟨rfl, List.eq_nil_of_length_eq_zero hl⟩
  · refine .inr ⟨g, cap, hv, hg, lt_of_block hh, hn, by unfold maxLen at hm; omega, fun i s hi => ?_⟩
    have hil := (List.getElem?_eq_some_iff.1 hi).1
    have c1 := cellsT_at hi
    rw [← hx] at c1
    rw [List.getElem?_take_of_lt (by omega)] at c1
    rw [Nat.zero_add]
    simp only [World.cell?, hh]; simpa using c1
theorem OwnT.tl {w : World} {base : Nat} {v : Value} {l : List ByteArray} (h : OwnT w base v l) : Tl w v l := by
  rcases h.row with ⟨rfl, rfl⟩ | ⟨g, cap, rfl, _, hg, _, _, hr⟩
  · exact ⟨none, 0, rfl, fun _ => rfl, fun h => absurd rfl h⟩
  · exact ⟨_, cap, rfl, fun h => (by cases h), fun _ => ⟨g, 0, rfl, hg, hr⟩⟩
theorem OwnT.later {W wr : World} {base : Nat} {v : Value} {l : List ByteArray} (h : OwnT W base v l) (hb : Below W.heap.size W wr) : OwnT wr base v l := by
  obtain ⟨h1, h2 | ⟨g, cap, cur, hv, hg, hh, hn, hm, hs, hx⟩⟩ := h
  · exact ⟨h1, .inl h2⟩
  · exact ⟨h1, .inr ⟨g, cap, cur, hv, hg, (hb.block g (lt_of_block hh)).trans hh, hn, hm, hs, hx⟩⟩
theorem OwnT.nil (w : World) (base : Nat) : OwnT w base (.slice none 0 0) [] := World.ownsRow_nil _ _ _ _
theorem OwnT.block {w : World} {base : Nat} {v : Value} {l : List ByteArray} (h : OwnT w base v l) : ∀ k, v.ownBlock = some k → base ≤ k := by
  intro k hk
  obtain ⟨h1, ⟨rfl, _⟩ | ⟨g, cap, cur, rfl, hg, _⟩⟩ := h
  · simp [Value.ownBlock] at hk
  · simp [Value.ownBlock] at hk
    omega
theorem OwnT.mono {w : World} {base B : Nat} {v : Value} {d : List ByteArray} (h : OwnT w B v d) (hb : base ≤ B) : OwnT w base v d := by
  obtain ⟨h1, h2 | ⟨g, cap, cur, hv, hg, rest⟩⟩ := h
  · exact ⟨h1, .inl h2⟩
  · exact ⟨h1, .inr ⟨g, cap, cur, hv, Nat.le_trans hb hg, rest⟩⟩
theorem OwnT.form {w : World} {base : Nat} {v : Value} {l : List ByteArray} (h : OwnT w base v l) : ∃ a cap, v = .slice a l.length cap := h.tl.form
end Go.Proofs.Ytopogdfmbdbimaa
