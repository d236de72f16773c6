/- The contract of the reference's Parse of ops: it answers what the program's does. Conditions: at most 20000 bytes. -/
import Derived.WalkSpells
import Derived.Deep.RegionHeld3
import Derived.Test.YtmpbpeelankihaaGreatMg46
import Derived.Test.YtmpbpeelankihaaGreatMg44
import Derived.Test.YtmpbpeelankihaaGreatMg39
import Derived.Test.YtmpbpeelankihaaGreatMg33
import Derived.Test.YtmpbpeelankihaaGreatMg45
import Derived.Test.YtmpbpeelankihaaGreatMg41
set_option maxRecDepth 100000
set_option maxHeartbeats 16000000
set_option linter.unusedVariables false
set_option linter.unusedSimpArgs false
namespace Go.Proofs.YtmpbpeelankihaaGreat
open S3 SN
namespace SP
open Go.ChangeShapes Go.WideShapes Go.ChangeAt Go.RowKit Go.Joins Go.Deep
theorem cOs_ok : cO.list.Ok := Cod.list_ok cO_ok cO_pos
end SP
end Go.Proofs.YtmpbpeelankihaaGreat
