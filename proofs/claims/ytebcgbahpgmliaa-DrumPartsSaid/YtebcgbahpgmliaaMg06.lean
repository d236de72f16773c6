/- The contracts of an eye's methods, of Open and of Sum. Conditions: as each theorem states. -/
import Derived.Defers
import Derived.Recover
import Derived.Test.YtebcgbahpgmliaaMg05
set_option maxRecDepth 100000
set_option maxHeartbeats 16000000
namespace Go.Proofs.Ytebcgbahpgmliaa
namespace S2
open Go.RowKit
def okT (l : List UInt8) (bl : Bool) : Bool := !bl && decide (4 ≤ l.length ∧ leN (l.take 4) ≤ 1048576 ∧ leN (l.take 4) ≤ (l.drop 4).length)
instance (l : List UInt8) : Decidable (hasL l) := by unfold hasL; infer_instance
def behind (ok : Bool) (k : Nat) (l : List UInt8) : List UInt8 := if ok then l.drop k else l
end S2
end Go.Proofs.Ytebcgbahpgmliaa
