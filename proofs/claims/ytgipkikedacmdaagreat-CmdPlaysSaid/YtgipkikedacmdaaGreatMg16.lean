/- stamp.Merge: it returns a list of its own, in which the stamps of all lists rise, each once. Conditions: a thousand lists at most, a million stamps in all. -/
import Derived.Laws.AppendOwnNone
import Derived.Deep.Upon
import Derived.Test.YtgipkikedacmdaaGreatMg14
set_option maxRecDepth 100000
set_option maxHeartbeats 16000000
namespace Go.Proofs.YtgipkikedacmdaaGreat
namespace S1
open Go.Sort (grow)
open Go.RowKit
def CapL (w : World) (base : Nat) (v : Value) (d : List (Int × Int)) : Prop := OwnL w base v d ∨ ∃ a, v = .slice a d.length d.length ∧ SL w a d
theorem SL.none_nil {w : World} {d : List (Int × Int)} (h : SL w none d) : d = [] := by
 apply Classical.byContradiction
 intro hne
 obtain ⟨_, _, h, _⟩ := h hne
 cases h
theorem OwnL.mono {w : World} {base B : Nat} {v : Value} {d : List (Int × Int)} (h : OwnL w B v d) (hb : base ≤ B) : OwnL w base v d := by
 obtain ⟨h1, h2 | ⟨g, cap, cur, hv, hg, hx⟩⟩ := h
 ·exact ⟨h1, .inl h2⟩
 ·exact ⟨h1, .inr ⟨g, cap, cur, hv, Nat.le_trans hb hg, hx⟩⟩
theorem CapL.later {W wr : World} {base : Nat} {v : Value} {l : List (Int × Int)} (h : CapL W base v l) (hb : Below W.heap.size W wr) : CapL wr base v l := by
 rcases h with h | ⟨a, hv, hs⟩
 ·exact .inl (h.later hb)
 ·exact .inr ⟨a, hv, hs.later hb⟩
theorem CapL.slice {w : World} {base : Nat} {v : Value} {l : List (Int × Int)} (h : CapL w base v l) : ∃ a cap, v = .slice a l.length cap ∧ SL w a l ∧ (a = none → cap = 0) := by
 rcases h with h | ⟨a, hv, hs⟩
 ·obtain ⟨a, cap, hv, hs, hn, _⟩ := h.sl
  exact ⟨a, cap, hv, hs, hn⟩
 ·exact ⟨a, _, hv, hs, fun h => by subst h; rw [hs.none_nil]; rfl⟩

abbrev LRow := Option Addr × List (Int × Int) × Nat
def LL (w : World) (b o : Nat) (ls : List LRow) : Prop := ∀ (i : Nat) (a : Option Addr) (l : List (Int × Int)) (c : Nat), ls[i]? = some (a, l, c) → w.cell? ⟨b, o + i, none⟩ = some (.slice a l.length c) ∧ SL w a l ∧ (a = none → c = 0) ∧ l.length ≤ c
theorem LL.later {w wr : World} {b o : Nat} {ls : List LRow} (h : LL w b o ls) (hb : b < w.heap.size) (hw : Below w.heap.size w wr) : LL wr b o ls := fun i a l c hi => by
 obtain ⟨h1, h2, h3, h4⟩ := h i a l c hi
 exact ⟨cell_in hw hb h1, h2.later hw, h3, h4⟩
end S1
end Go.Proofs.YtgipkikedacmdaaGreat
