/- Less; Union. Conditions: lists of at most some hundred thousand spans. -/
import Derived.Test.YtjlkgbejldcklaaGreatProg
import Derived.Shelf.SlSortCmp.NoneTotal
import Derived.Test.YtjlkgbejldcklaaGreatMg05
namespace Go.Proofs.YtjlkgbejldcklaaGreat
namespace S3
open Go.RowKit
open Go.Sort (grow flatK get_flatK size_flatK Holds HoldsK putRowK putRow mapBlock onCells SWO grow_grow alloc_eq_grow)
theorem grow_below (w : World) (q : Nat) (os : Array Obj) : Below w.heap.size w (grow (w.drewN q) os) :=
  ⟨rfl, rfl, rfl, by simp [grow, World.drewN], fun k hk => by
    show (w.heap ++ os)[k]? = _
    rw [Array.getElem?_append_left hk]⟩
end S3
end Go.Proofs.YtjlkgbejldcklaaGreat

namespace Go.Proofs.YtjlkgbejldcklaaGreat
namespace S3
open Go.RowKit
theorem one_new (X : World) (s : Sp) (n : Nat) (h : X.heap.size = n) : Sl (X.alloc (.cells #[.string s.1, .string s.2] 195)) (.slice (some ⟨n, 0, none⟩) 1 1) [s] := by
  subst h
  exact one_sl (box2_new X s) 1
end S3
end Go.Proofs.YtjlkgbejldcklaaGreat

set_option linter.unusedVariables false
namespace Go.Proofs.YtjlkgbejldcklaaGreat
namespace S3
open Go.RowKit
theorem OwnL.setTo {w : World} {base g m c : Nat} {pre : List Sp} {cur : Sp} (h : OwnL w base (.slice (some ⟨g, 0, none⟩) (m + 1) c) (pre ++ [cur])) (t : ByteArray) (hm : pre.length = m) :
    OwnL (w.setCell ⟨g, m * 2 + 1, none⟩ (.string t)) base (.slice (some ⟨g, 0, none⟩) (m + 1) c) (pre ++ [(cur.1, t)]) := by
  subst hm
  obtain ⟨h1, ⟨h2, _⟩ | ⟨g', cap, cs, hv, hg, hh, hn, hm, hs, hx⟩⟩ := h
  · cases h2
  · simp only [Value.slice.injEq, Option.some.injEq, Addr.mk.injEq, and_true] at hv
    obtain ⟨rfl, _, rfl⟩ := hv
    refine ⟨cellsL_length _, .inr ⟨g, c, _, by simp, hg, block_setCell hh _, by simpa using hn, hm, by simp [hs], ?_⟩⟩
    have e1 : (pre ++ [(cur.1, t)]).length = (pre ++ [cur]).length := by simp
    rw [e1, Array.toList_setIfInBounds, List.take_set, hx]
    simp only [cellsL_append]
    have e2 : pre.length * 2 + 1 = (cellsL pre).length + 1 := by rw [cellsL_length]
    rw [e2, List.set_append_right _ _ (by omega), show (cellsL pre).length + 1 - (cellsL pre).length = 1 by omega]
    rfl
end S3
end Go.Proofs.YtjlkgbejldcklaaGreat
