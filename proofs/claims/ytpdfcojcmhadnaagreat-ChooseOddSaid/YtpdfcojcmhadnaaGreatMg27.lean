/- The contracts of an eye's methods, of Open and of Sum. Conditions: as each theorem states. -/
import Derived.Defers
import Derived.Recover
import Derived.Test.YtpdfcojcmhadnaaGreatMg26
set_option maxRecDepth 100000
set_option maxHeartbeats 16000000
namespace Go.Proofs.YtpdfcojcmhadnaaGreat
namespace S2
open Go.RowKit
theorem two_at (w : World) (o : Obj) (c : Array Value) (t : TypeId) : ((w.alloc o).alloc (.cells c t)).heap[w.heap.size + 1]? = some (.cells c t (0, 0)) := by
 have := heap_alloc_new (w.alloc o) (.cells c t)
 rwa [World.size_alloc] at this

def okI (l : List UInt8) (bl : Bool) : Bool := !bl && decide (8 ≤ l.length)
def okB (l : List UInt8) (bl : Bool) : Bool := !bl && decide (1 ≤ l.length ∧ leN (l.take 1) ≤ 1)
instance (l : List UInt8) : Decidable (hasL l) := by unfold hasL; infer_instance
def behind (ok : Bool) (k : Nat) (l : List UInt8) : List UInt8 := if ok then l.drop k else l
def valI (l : List UInt8) (bl : Bool) : Int := if okI l bl then rd l else 0
end S2
end Go.Proofs.YtpdfcojcmhadnaaGreat
