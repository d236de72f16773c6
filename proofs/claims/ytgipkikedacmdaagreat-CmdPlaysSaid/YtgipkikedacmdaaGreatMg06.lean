/- The library's sort at spans by their From: it leaves a permutation of the row, in which no From is below one ahead. Conditions: a row of at most a million spans that may be written. -/
import Derived.Maps.AppendAt
import Derived.Lib.SlKeysI
import Derived.Maps.OwnSet
import Derived.Sort.MapsRangeIn
import Derived.Sort.Grow
import Derived.Test.YtgipkikedacmdaaGreatProg
import Derived.Test.YtgipkikedacmdaaGreatMg03
import Derived.Test.YtgipkikedacmdaaGreatMg05
set_option maxRecDepth 100000
set_option maxHeartbeats 16000000
set_option linter.unusedVariables false
namespace Go.Proofs.YtgipkikedacmdaaGreat
open S3 S4
namespace S5
open Go.RowKit Go.Sort Go.Shelf Go.Maps
attribute [local go_sem] Oper.semAt_some
def MapI (w : World) (b k : Nat) (D : DataW Unit) : Prop := w.ownsMap Tryz.prog 3 unitElem b k D
theorem MapI.lt {w : World} {b k : Nat} {D : DataW Unit} (h : MapI w b k D) : b < w.heap.size := World.ownsMap.lt h
theorem MapI.later {B : Nat} {w wr : World} {b k : Nat} {D : DataW Unit} (h : MapI w b k D) (hw : Below B w wr) (hb : b < B) : MapI wr b k D := by
 obtain ⟨es, clock, hh, r⟩ := h
 exact ⟨es, clock, (hw.block b hb).trans hh, r⟩
end S5
end Go.Proofs.YtgipkikedacmdaaGreat

namespace Go.Proofs.YtgipkikedacmdaaGreat
namespace S3
open Go.RowKit
open Go.Sort (grow grow_grow alloc_eq_grow)
theorem grow_below (w : World) (q : Nat) (os : Array Obj) : Below w.heap.size w (grow (w.drewN q) os) :=
 ⟨rfl, rfl, rfl, by simp [grow, World.drewN], fun k hk => by
  show (w.heap ++ os)[k]? = _
  rw [Array.getElem?_append_left hk]⟩
def RowC (w : World) (g : Nat) (l : List Sp) : Prop := Row2 w g 0 l ∧ ∀ i, i < l.length * 2 → w.frozen? ⟨g, i, none⟩ = false
end S3
end Go.Proofs.YtgipkikedacmdaaGreat
