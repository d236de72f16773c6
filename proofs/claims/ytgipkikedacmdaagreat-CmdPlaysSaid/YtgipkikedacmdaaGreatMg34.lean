/- Lists of numbers of the call's own: sorted, compacted; slices.Sorted of slices.Values, of maps.Keys. Conditions: lists of at most a million numbers. -/
import Derived.Test.YtgipkikedacmdaaGreatProg
import Derived.Sort.OwnSortedInts
import Derived.Lib.RowBridge
import Derived.Test.YtgipkikedacmdaaGreatMg06
import Derived.Test.YtgipkikedacmdaaGreatMg05
set_option maxRecDepth 100000
set_option maxHeartbeats 16000000
set_option linter.unusedVariables false
namespace Go.Proofs.YtgipkikedacmdaaGreat
open S3 S4
namespace S5
open Go.RowKit Go.Sort Go.Shelf Go.Maps
theorem OwnI.cases {w : World} {base : Nat} {v : Value} {l : List Int} (h : OwnI w base v l) :
  (v = .slice none 0 0 ∧ l = []) ∨ ∃ g cap cur, v = .slice (some ⟨g, 0, none⟩) l.length cap ∧ base ≤ g ∧ w.heap[g]? = some (.cells cur 3 (0, 0)) ∧ l.length ≤ cap ∧ cap ≤ maxLen ∧ cur.size = cap * 1 ∧ cur.toList.take l.length = l.map (Value.int .i64) := by
 obtain ⟨h1, ⟨rfl, hl⟩ | ⟨g, cap, cur, hv, hg, hh, hn, hm, hs, hx⟩⟩ := h
 ·exact .inl ⟨rfl, List.eq_nil_of_length_eq_zero hl⟩
 ·rw [Nat.mul_one] at hx
  exact .inr ⟨g, cap, cur, hv, hg, hh, hn, hm, hs, hx⟩
end S5
end Go.Proofs.YtgipkikedacmdaaGreat
