/- The reference's Below, Only, Without of Deps; lists of numbers in memory. Conditions: lists of at most a million. -/
import Derived.Deep.RegionHeld3
import Derived.Deep.RegionLaw
import Derived.Deep.AppendLies
import Derived.Test.YtgipkikedacmdaaGreatMg15
set_option maxRecDepth 100000
set_option maxHeartbeats 16000000
set_option linter.unusedVariables false
namespace Go.Proofs.YtgipkikedacmdaaGreat
open S1
namespace SD
open Go.RowKit
theorem one_newD (X : World) (s : Dp) (n : Nat) (h : X.heap.size = n) : RowD (X.alloc (.cells #[.int .i64 s.sh, ilD s] 82)) n 0 [s] := by
 subst h
 have hb : (X.alloc (.cells #[.int .i64 s.sh, ilD s] 82)).heap[X.heap.size]? = some (.cells #[.int .i64 s.sh, ilD s] 82 (0, 0)) := by
  show (X.heap.push _)[X.heap.size]? = _
  simp
 intro i x hi
 cases i with
 | zero =>
  simp only [List.getElem?_cons_zero, Option.some.injEq] at hi
  subst hi
  exact ⟨by simp only [World.cell?, hb]; simp, by simp only [World.cell?, hb]; simp⟩
 | succ i => simp at hi
theorem grown_belowD {B base : Nat} {x w w' : World} {v : Value} {d : List Dp} (h : Below B x w) (hown : OwnD w base v d) (hB : B ≤ base) (hw : B ≤ w.heap.size) (hg : w.grownBy w' v.ownBlock) : Below B x w' :=
 h.grown hg hw (fun k hk => Nat.le_trans hB (hown.block k hk).1)
def Nl (w : World) (a : Option Addr) (l : List Int) : Prop := l ≠ [] → ∃ g o, a = some ⟨g, o, none⟩ ∧ g < w.heap.size ∧ ∀ (i : Nat) x, l[i]? = some x → w.cell? ⟨g, o + i, none⟩ = some (.int .i64 x)
theorem Nl.later {W wr : World} {a : Option Addr} {l : List Int} (h : Nl W a l) (hw : Below W.heap.size W wr) : Nl wr a l := by
 intro hne
 obtain ⟨g, o, ha, hg, hl⟩ := h hne
 exact ⟨g, o, ha, Nat.lt_of_lt_of_le hg hw.size, fun i x hi => cell_in hw hg (hl i x hi)⟩
theorem Nl.at {w : World} {a : Option Addr} {l : List Int} (h : Nl w a l) {k : Nat} {x : Int} (hx : l[k]? = some x) : ∃ g o, a = some ⟨g, o, none⟩ ∧ g < w.heap.size ∧ w.cell? ⟨g, o + k, none⟩ = some (.int .i64 x) := by
 obtain ⟨g, o, ha, hg, hl⟩ := h (by rintro rfl; simp at hx)
 exact ⟨g, o, ha, hg, hl k x hx⟩
end SD
end Go.Proofs.YtgipkikedacmdaaGreat
