/- append to a list of stamps that is the call's own, at any slice of stamps: nil, empty or not. Conditions: lists of a million stamps or so. -/
import Derived.Laws.AppendOwnNone
import Derived.Test.YtmpbpeelankihaaGreatMg14
set_option maxRecDepth 100000
set_option maxHeartbeats 16000000
namespace Go.Proofs.YtmpbpeelankihaaGreat
namespace S1
open Go.Sort (grow)
open Go.RowKit
theorem grown_below {B base : Nat} {x w w' : World} {v : Value} {d : List (Int × Int)} (h : Below B x w) (hown : OwnL w base v d) (hB : B ≤ base) (hw : B ≤ w.heap.size) (hg : w.grownBy w' v.ownBlock) : Below B x w' :=
 h.grown hg hw (fun k hk => Nat.le_trans hB (hown.block k hk))
end S1
end Go.Proofs.YtmpbpeelankihaaGreat
