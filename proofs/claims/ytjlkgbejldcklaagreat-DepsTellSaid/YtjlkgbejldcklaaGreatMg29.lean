/- A crew: eight truths in a block of their own; add, has, rising, crewOf; Keeps, Nodes. Conditions: lists of at most a million. -/
import Derived.Lib.SlKeysI
import Derived.Maps.OwnSet
import Derived.Sort.MapsRangeIn
import Derived.Test.YtjlkgbejldcklaaGreatMg28
import Derived.Test.YtjlkgbejldcklaaGreatMg26
import Derived.Test.YtjlkgbejldcklaaGreatMg27
/- maps.Keys of a set of numbers: whatever the loop's body does, so it leaves maps and iterators alone, its numbers come, each once, in some order. Conditions: none. -/
set_option linter.unusedVariables false
namespace Go.Proofs.YtjlkgbejldcklaaGreat
open S3 S4
namespace S5
open Go.RowKit Go.Sort Go.Shelf Go.Maps
attribute [local go_sem] Oper.semAt_some

/-- Block b is a map of at most k numbers that reads as D. -/
def MapI (w : World) (b k : Nat) (D : DataW Unit) : Prop := w.ownsMap Tryz.prog 3 unitElem b k D
theorem MapI.lt {w : World} {b k : Nat} {D : DataW Unit} (h : MapI w b k D) : b < w.heap.size := World.ownsMap.lt h
theorem MapI.later {B : Nat} {w wr : World} {b k : Nat} {D : DataW Unit} (h : MapI w b k D) (hw : Below B w wr) (hb : b < B) : MapI wr b k D := by
  obtain ⟨es, clock, hh, r⟩ := h
  exact ⟨es, clock, (hw.block b hb).trans hh, r⟩

end S5
end Go.Proofs.YtjlkgbejldcklaaGreat

/- A crew: eight truths in a block of their own; add, has, rising, crewOf; Keeps, Nodes. Conditions: lists of at most a million. -/
set_option linter.unusedVariables false
namespace Go.Proofs.YtjlkgbejldcklaaGreat
open S3
namespace S4
open Go.RowKit

theorem cell_grown {w wr : World} {b g o : Nat} {v : Value} (h : w.grownBy wr (some b)) (hg : g < w.heap.size) (hne : g ≠ b) (hc : w.cell? ⟨g, o, none⟩ = some v) : wr.cell? ⟨g, o, none⟩ = some v := by
  have hb := h.block g hg (fun e => hne (by simpa using e))
  simp only [World.cell?, hb] at *
  exact hc
theorem grown_refl (w : World) (r : Option Nat) : w.grownBy w r := ⟨rfl, rfl, rfl, Nat.le_refl _, fun _ _ _ => rfl⟩
end S4
end Go.Proofs.YtjlkgbejldcklaaGreat
