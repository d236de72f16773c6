/- The shards of a node, by the program and by the reference; the reference's Nodes. Conditions: lists of at most a million. -/
import Derived.Test.YtopogdfmbdbimaaTi
set_option linter.unusedVariables false
namespace Go.Proofs.Ytopogdfmbdbimaa
open Go.RowKit

/-- Whether the program tells of a shard that it has a node. -/
def shHas' (l : List Sh) (n : Int) (i : Nat) : Bool := nodeB n && shHas l i n

end Go.Proofs.Ytopogdfmbdbimaa
