/- The spans that are not empty, by rising From; outside; Union. Conditions: lists of at most a million spans. -/
import Derived.Test.YtjlkgbejldcklaaGreatProg
import Derived.Shelf.SlSortCmp.NoneTotal
import Derived.Test.YtjlkgbejldcklaaGreatMg05
namespace Go.Proofs.YtjlkgbejldcklaaGreat
namespace S3
open Go.RowKit
open Go.Sort (grow flatK get_flatK size_flatK Holds HoldsK putRowK putRow mapBlock onCells SWO grow_grow alloc_eq_grow)
theorem grow_below (w : World) (q : Nat) (os : Array Obj) : Below w.heap.size w (grow (w.drewN q) os) :=
  ⟨rfl, rfl, rfl, by simp [grow, World.drewN], fun k hk => by
    show (w.heap ++ os)[k]? = _
    rw [Array.getElem?_append_left hk]⟩
end S3
end Go.Proofs.YtjlkgbejldcklaaGreat

namespace Go.Proofs.YtjlkgbejldcklaaGreat
namespace S3
open Go.RowKit
theorem one_new (X : World) (s : Sp) (n : Nat) (h : X.heap.size = n) : Sl (X.alloc (.cells #[.string s.1, .string s.2] 195)) (.slice (some ⟨n, 0, none⟩) 1 1) [s] := by
  subst h
  exact one_sl (box2_new X s) 1
end S3
end Go.Proofs.YtjlkgbejldcklaaGreat
