/- The reference's Same at two slices that hold the same stamps, and its List at a rising one: both return true. Conditions: lists of at most a million stamps. -/
import Derived.Lib.SliceRun
import Derived.Test.YtgipkikedacmdaaGreatProg
import Derived.Test.YtgipkikedacmdaaGreatMg00
import Derived.Test.YtgipkikedacmdaaGreatMg13
set_option maxRecDepth 100000
set_option maxHeartbeats 16000000
namespace Go.Proofs.YtgipkikedacmdaaGreat
namespace S1
open Go.RowKit Go.Sort
set_option linter.unusedVariables false
set_option linter.unusedSimpArgs false
def RowC (w : World) (g : Nat) (d : List (Int × Int)) : Prop := ∀ i x y, d[i]? = some (x, y) → w.cell? ⟨g, i * 2, none⟩ = some (.int .i64 x) ∧ w.cell? ⟨g, i * 2 + 1, none⟩ = some (.int .i64 y) ∧ w.frozen? ⟨g, i * 2, none⟩ = false ∧ w.frozen? ⟨g, i * 2 + 1, none⟩ = false
theorem RowC.later {w wr : World} {g : Nat} {d : List (Int × Int)} (h : RowC w g d) (hg : g < w.heap.size) (hb : Below w.heap.size w wr) : RowC wr g d := fun i x y hi =>
 ⟨cell_in hb hg (h i x y hi).1, cell_in hb hg (h i x y hi).2.1, (hb.frozen (p := ⟨g, i * 2, none⟩) hg).trans (h i x y hi).2.2.1, (hb.frozen (p := ⟨g, i * 2 + 1, none⟩) hg).trans (h i x y hi).2.2.2⟩
theorem RowC.take {w : World} {g : Nat} {d : List (Int × Int)} (h : RowC w g d) (k : Nat) : RowC w g (d.take k) := fun i x y hi => by
 have hik : i < k := by
  have := (List.getElem?_eq_some_iff.1 hi).1
  simp only [List.length_take] at this
  omega
 rw [List.getElem?_take_of_lt hik] at hi
 exact h i x y hi
theorem RowC.set {w : World} {g k : Nat} {d : List (Int × Int)} (h : RowC w g d) (hk : k < d.length) (x y : Int) : RowC ((w.setCell ⟨g, k * 2, none⟩ (.int .i64 x)).setCell ⟨g, k * 2 + 1, none⟩ (.int .i64 y)) g (d.set k (x, y)) := by
 intro i u v hi
 obtain ⟨a, b, hab⟩ := at_lt hk
 obtain ⟨c0, c1, _, _⟩ := h k a b hab
 simp only [World.frozen?_setCell]
 have c1' : (w.setCell ⟨g, k * 2, none⟩ (.int .i64 x)).cell? ⟨g, k * 2 + 1, none⟩ = some (.int .i64 b) := by
  rw [World.cell?_setCell_other]
  ·exact c1
  ·intro he
   simp only [Addr.mk.injEq] at he
   omega
 by_cases hik : i = k
 ·subst hik
  rw [List.getElem?_set_self hk] at hi
  simp only [Option.some.injEq, Prod.mk.injEq] at hi
  obtain ⟨rfl, rfl⟩ := hi
  obtain ⟨_, _, f0, f1⟩ := h i a b hab
  refine ⟨?_, World.cell?_setCell_same _ _ _ c1', f0, f1⟩
  rw [World.cell?_setCell_other]
  ·exact World.cell?_setCell_same _ _ _ c0
  ·intro he
   simp only [Addr.mk.injEq] at he
   omega
 ·rw [List.getElem?_set_ne (fun e => hik e.symm)] at hi
  obtain ⟨e0, e1, f0, f1⟩ := h i u v hi
  refine ⟨?_, ?_, f0, f1⟩
  ·rw [World.cell?_setCell_other, World.cell?_setCell_other]
   ·exact e0
   ·intro he
    simp only [Addr.mk.injEq] at he
    omega
   ·intro he
    simp only [Addr.mk.injEq] at he
    omega
  ·rw [World.cell?_setCell_other, World.cell?_setCell_other]
   ·exact e1
   ·intro he
    simp only [Addr.mk.injEq] at he
    omega
   ·intro he
    simp only [Addr.mk.injEq] at he
    omega
end S1
end Go.Proofs.YtgipkikedacmdaaGreat

namespace Go.Proofs.YtgipkikedacmdaaGreat
namespace S1
open Go.Sort (grow)
open Go.RowKit (Hid)
theorem OwnL.row {w : World} {base : Nat} {v : Value} {l : List (Int × Int)} (h : OwnL w base v l) (hne : l ≠ []) :
  ∃ g cap, v = .slice (some ⟨g, 0, none⟩) l.length cap ∧ base ≤ g ∧ g < w.heap.size ∧ l.length ≤ cap ∧ cap ≤ 9223372036854775807 ∧ RowC w g l := by
 obtain ⟨h1, h2 | ⟨g, cap, cur, hv, hg, hh, hn, hm, hs, hx⟩⟩ := h
 ·obtain ⟨rfl, hl⟩ := h2
  exact absurd (List.eq_nil_of_length_eq_zero hl) hne
 ·refine ⟨g, cap, hv, hg, lt_of_block hh, hn, by unfold maxLen at hm; omega, fun i x y hi => ?_⟩
  have hil := (List.getElem?_eq_some_iff.1 hi).1
  obtain ⟨c1, c2⟩ := cellsL_at l i x y hi
  rw [← hx] at c1 c2
  rw [List.getElem?_take_of_lt (by omega)] at c1 c2
  refine ⟨?_, ?_, ?_, ?_⟩
  ·simp only [World.cell?, hh]; simpa using c1
  ·simp only [World.cell?, hh]; simpa using c2
  ·simp [World.frozen?, hh]
  ·simp [World.frozen?, hh]
theorem RowC.sl {w : World} {g : Nat} {l : List (Int × Int)} (h : RowC w g l) (hg : g < w.heap.size) : SL w (some ⟨g, 0, none⟩) l := fun _ => ⟨g, 0, rfl, hg, fun i x y hi => by
 obtain ⟨c0, c1, _, _⟩ := h i x y hi
 rw [Nat.zero_add]
 exact ⟨c0, c1⟩⟩
end S1
end Go.Proofs.YtgipkikedacmdaaGreat

namespace Go.Proofs.YtgipkikedacmdaaGreat
namespace S1
open Go.Sort (grow)
open Go.RowKit
theorem OwnL.later {W wr : World} {base : Nat} {v : Value} {l : List (Int × Int)} (h : OwnL W base v l) (hb : Below W.heap.size W wr) : OwnL wr base v l := by
 obtain ⟨h1, h2 | ⟨g, cap, cur, hv, hg, hh, hn, hm, hs, hx⟩⟩ := h
 ·exact ⟨h1, .inl h2⟩
 ·exact ⟨h1, .inr ⟨g, cap, cur, hv, hg, (hb.block g (lt_of_block hh)).trans hh, hn, hm, hs, hx⟩⟩
theorem OwnL.nil (w : World) (base : Nat) : OwnL w base (.slice none 0 0) [] := World.ownsRow_nil _ _ _ _
theorem OwnL.block {w : World} {base : Nat} {v : Value} {l : List (Int × Int)} (h : OwnL w base v l) : ∀ k, v.ownBlock = some k → base ≤ k := by
 intro k hk
 obtain ⟨h1, ⟨rfl, _⟩ | ⟨g, cap, cur, rfl, hg, _⟩⟩ := h
 ·simp [Value.ownBlock] at hk
 ·simp [Value.ownBlock] at hk
  omega

theorem SS.next {l : List (Int × Int)} (h : SS l) {k : Nat} {x y : Int × Int} (hx : l[k]? = some x) (hy : l[k + 1]? = some y) : ltS x y = true := by
 obtain ⟨h1, rfl⟩ := List.getElem?_eq_some_iff.1 hx
 obtain ⟨h2, rfl⟩ := List.getElem?_eq_some_iff.1 hy
 exact List.pairwise_iff_getElem.1 h k (k + 1) h1 h2 (by omega)
end S1
end Go.Proofs.YtgipkikedacmdaaGreat
