/- The contract of the reference's Parse of ops: it answers what the program's does. Conditions: at most 20000 bytes. -/
import Derived.WalkSpells
import Derived.Deep.RegionHeld3
import Derived.Test.YtabeakddkmefgaaGreatMg46
import Derived.Test.YtabeakddkmefgaaGreatMg44
import Derived.Test.YtabeakddkmefgaaGreatMg39
import Derived.Test.YtabeakddkmefgaaGreatMg33
import Derived.Test.YtabeakddkmefgaaGreatMg45
import Derived.Test.YtabeakddkmefgaaGreatMg41
set_option linter.unusedVariables false
set_option linter.unusedSimpArgs false
namespace Go.Proofs.YtabeakddkmefgaaGreat
open S3 SN
namespace SP
open Go.ChangeShapes Go.WideShapes Go.ChangeAt Go.RowKit Go.Joins Go.Deep
theorem cOs_ok : cO.list.Ok := Cod.list_ok cO_ok cO_pos
end SP
end Go.Proofs.YtabeakddkmefgaaGreat
