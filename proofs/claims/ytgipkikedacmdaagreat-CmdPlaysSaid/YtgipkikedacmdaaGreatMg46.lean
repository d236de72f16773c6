/- The contract of the reference's Parse of ops: it answers what the program's does. Conditions: at most 20000 bytes. -/
import Derived.WalkSpells
import Derived.Deep.RegionHeld3
import Derived.Test.YtgipkikedacmdaaGreatMg45
import Derived.Test.YtgipkikedacmdaaGreatMg43
import Derived.Test.YtgipkikedacmdaaGreatMg38
import Derived.Test.YtgipkikedacmdaaGreatMg32
import Derived.Test.YtgipkikedacmdaaGreatMg44
import Derived.Test.YtgipkikedacmdaaGreatMg40
set_option maxRecDepth 100000
set_option maxHeartbeats 16000000
set_option linter.unusedVariables false
set_option linter.unusedSimpArgs false
namespace Go.Proofs.YtgipkikedacmdaaGreat
open S3 SN
namespace SP
open Go.ChangeShapes Go.WideShapes Go.ChangeAt Go.RowKit Go.Joins Go.Deep
theorem cOs_ok : cO.list.Ok := Cod.list_ok cO_ok cO_pos
end SP
end Go.Proofs.YtgipkikedacmdaaGreat
