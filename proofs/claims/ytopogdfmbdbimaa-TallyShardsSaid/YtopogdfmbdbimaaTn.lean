/- The shard of a text, by the program and by the reference. Conditions: a topology that may be. -/
import Derived.Test.YtopogdfmbdbimaaTk
import Derived.Test.YtopogdfmbdbimaaKq
import Derived.Test.YtopogdfmbdbimaaKr
import Derived.Test.YtopogdfmbdbimaaKe
import Derived.Test.YtopogdfmbdbimaaProg
set_option linter.unusedVariables false
namespace Go.Proofs.Ytopogdfmbdbimaa
open Go.RowKit

/-- Just the shard at place i has the text. -/
def At (l : List Sh) (k : ByteArray) (i : Nat) : Prop := i < l.length ∧ ∀ (j : Nat) (s : Sh), l[j]? = some s → inS s.sp k = decide (j = i)

end Go.Proofs.Ytopogdfmbdbimaa
