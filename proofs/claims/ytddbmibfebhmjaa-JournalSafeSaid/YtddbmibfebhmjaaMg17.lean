/- maps.Keys of a set of numbers: whatever the loop's body does, so it leaves maps and iterators alone, its numbers come, each once, in some order. Conditions: none. -/
import Derived.Lib.SlKeysI
import Derived.Maps.OwnSet
import Derived.Sort.MapsRangeIn
import Derived.Test.YtddbmibfebhmjaaMg16
set_option maxRecDepth 100000
set_option maxHeartbeats 16000000
set_option linter.unusedVariables false
namespace Go.Proofs.Ytddbmibfebhmjaa
open S3 S4
namespace S5
open Go.RowKit Go.Sort Go.Shelf Go.Maps
attribute [local go_sem] Oper.semAt_some
def MapI (w : World) (b k : Nat) (D : DataW Unit) : Prop := w.ownsMap Try.prog 3 unitElem b k D
theorem MapI.lt {w : World} {b k : Nat} {D : DataW Unit} (h : MapI w b k D) : b < w.heap.size := World.ownsMap.lt h
theorem MapI.later {B : Nat} {w wr : World} {b k : Nat} {D : DataW Unit} (h : MapI w b k D) (hw : Below B w wr) (hb : b < B) : MapI wr b k D := by
 obtain ⟨es, clock, hh, r⟩ := h
 exact ⟨es, clock, (hw.block b hb).trans hh, r⟩
end S5
end Go.Proofs.Ytddbmibfebhmjaa
