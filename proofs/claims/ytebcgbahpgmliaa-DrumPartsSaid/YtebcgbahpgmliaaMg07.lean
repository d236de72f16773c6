/- live, the closed check that every statement of this stage ends with, returns true. Conditions: none. -/
import Derived.Lib.SlBytesConst
import Derived.Test.YtebcgbahpgmliaaMg06
set_option maxRecDepth 100000
set_option maxHeartbeats 16000000
namespace Go.Proofs.Ytebcgbahpgmliaa
namespace S2
open Go.RowKit
theorem PenStep.below {B b : Nat} {r r' : Option Nat} {x y : World} (h : PenStep b r r' x y) (hB : B ≤ x.heap.size) (hb : B ≤ b) (hr : ∀ k, r = some k → B ≤ k) : Below B x y :=
 h.keeps.below hB fun k hk hs => by
  rcases hs with rfl | hs
  ·omega
  ·have := hr k hs; omega
theorem PenStep.from {B b : Nat} {r r' : Option Nat} {x y : World} (h : PenStep b r r' x y) (hB : B ≤ x.heap.size) (hr : ∀ k, r = some k → B ≤ k) : ∀ k, r' = some k → B ≤ k := by
 intro k hk
 rcases h.row with e | e
 ·exact hr k (by rw [← e]; exact hk)
 ·exact Nat.le_trans hB (e k hk)
end S2
end Go.Proofs.Ytebcgbahpgmliaa
