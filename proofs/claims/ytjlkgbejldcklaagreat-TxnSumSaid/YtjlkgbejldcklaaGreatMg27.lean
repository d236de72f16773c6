/- The reference's eye: Stamp. Conditions: as each theorem states. -/
import Derived.Deep.RegionHeld3
import Derived.Test.YtjlkgbejldcklaaGreatMg26
namespace Go.Proofs.YtjlkgbejldcklaaGreat
namespace S2
open Go.RowKit Go.Deep
theorem RAt.lt2 {w : World} {b g : Nat} {B : List UInt8} {i : Nat} {bl : Bool} (h : RAt w b g B i bl) (hne : B ≠ []) : g < w.heap.size := by
  obtain ⟨v, _, hb, _⟩ := h
  exact hb.lt hne
end S2
end Go.Proofs.YtjlkgbejldcklaaGreat
