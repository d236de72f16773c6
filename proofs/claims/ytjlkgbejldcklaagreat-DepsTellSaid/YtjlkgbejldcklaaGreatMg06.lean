/- Lists of stamps that a call returns: RetC. Conditions: none. -/
import Derived.Test.YtjlkgbejldcklaaGreatMg03
import Derived.Test.YtjlkgbejldcklaaGreatMg02
/- Lists of stamps that a call returns: RetC. Conditions: none. -/
namespace Go.Proofs.YtjlkgbejldcklaaGreat
namespace S1
open Go.Sort (grow)
open Go.RowKit (Hid)

/-- It returns a list of its own, with the stamps of l, of which the room is told, and leaves older memory as it was. -/
def RetC (w : World) (l : List (Int × Int)) (e : Ending) (w' : World) : Prop := ∃ a cap, e = .returned (.slice a l.length cap) ∧ SL w' a l ∧ (a = none → cap = 0) ∧ (∀ b o, a = some ⟨b, o, none⟩ → w.heap.size ≤ b) ∧ l.length ≤ cap ∧ cap ≤ 9223372036854775807 ∧ RowKit.Below w.heap.size w w'

theorem retc_nil (w w' : World) (h : RowKit.Below w.heap.size w w') : RetC w [] (.returned (.slice none 0 0)) w' := ⟨none, 0, rfl, SL.nil_ok _ _, fun _ => rfl, fun _ _ h => (by cases h), Nat.le_refl _, by omega, h⟩

/-- What lies in a row of the call's own may be written. -/
theorem OwnL.row {w : World} {base : Nat} {v : Value} {l : List (Int × Int)} (h : OwnL w base v l) (hne : l ≠ []) :
    ∃ g cap, v = .slice (some ⟨g, 0, none⟩) l.length cap ∧ base ≤ g ∧ g < w.heap.size ∧ l.length ≤ cap ∧ cap ≤ 9223372036854775807 ∧ RowC w g l := by
  obtain ⟨h1, h2 | ⟨g, cap, cur, hv, hg, hh, hn, hm, hs, hx⟩⟩ := h
  · obtain ⟨rfl, hl⟩ := h2
    exact absurd (List.eq_nil_of_length_eq_zero hl) hne
  · refine ⟨g, cap, hv, hg, lt_of_block hh, hn, by unfold maxLen at hm; omega, fun i x y hi => ?_⟩
    have hil := (List.getElem?_eq_some_iff.1 hi).1
    obtain ⟨c1, c2⟩ := cellsL_at l i x y hi
    rw [← hx] at c1 c2
    rw [List.getElem?_take_of_lt (by omega)] at c1 c2
    refine ⟨?_, ?_, ?_, ?_⟩
    · simp only [World.cell?, hh]; simpa using c1
    · simp only [World.cell?, hh]; simpa using c2
    · simp [World.frozen?, hh]
    · simp [World.frozen?, hh]
theorem RowC.sl {w : World} {g : Nat} {l : List (Int × Int)} (h : RowC w g l) (hg : g < w.heap.size) : SL w (some ⟨g, 0, none⟩) l := fun _ => ⟨g, 0, rfl, hg, fun i x y hi => by
  obtain ⟨c0, c1, _, _⟩ := h i x y hi
  rw [Nat.zero_add]
  exact ⟨c0, c1⟩⟩


end S1
end Go.Proofs.YtjlkgbejldcklaaGreat
