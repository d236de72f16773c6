/- Contracts of the small functions of package span: an end's methods, isEmpty, the order of spans. Conditions: none. -/
import Derived.Test.YtopogdfmbdbimaaKa
import Derived.Test.YtopogdfmbdbimaaProg
import Derived.WalkKit
import Derived.WalkSpells
import Derived.WalkLawsBesides
import Derived.Lib.Hide
import Derived.StillTailTactics
import Derived.Deep.QuietTactic
import Derived.BigQuiet
import Derived.Sort.Grow
import Derived.Deep.Draws
import Derived.Deep.RegionHeld3
namespace Go.Proofs.Ytopogdfmbdbimaa
open Go.RowKit Go.Sort

theorem ret_bool {a b : Bool} (h : a = b) : Ending.returned (.bool a) = .returned (.bool b) := by rw [h]
theorem ret_str {a b : ByteArray} (h : a = b) : Ending.returned (.string a) = .returned (.string b) := by rw [h]
theorem ret_int {a b : Int} (h : a = b) : Ending.returned (.int .i64 a) = .returned (.int .i64 b) := by rw [h]

def aboveT (e x : ByteArray) : Bool := noT e || ltT x e
def reachT (e x : ByteArray) : Bool := aboveT e x || x.toList == e.toList
def behindT (e x : ByteArray) : Bool := !noT x && aboveT e x
def laterT (e o : ByteArray) : ByteArray := if behindT e o = true then e else o
def soonerT (e o : ByteArray) : ByteArray := if behindT e o = true then o else e
def cmpT (a b : ByteArray) : Int := if ltT a b = true then -1 else if a.toList == b.toList then 0 else 1
theorem cmpT_neg (a b : ByteArray) : cmpT a b < 0 ↔ ltT a b = true := by
  unfold cmpT
  split
  · simp [*]
  · split <;> simp [*]
/-- What two spans have in common. -/
def maxT (a b : ByteArray) : ByteArray := if ltT a b = true then b else a
def commonS (s t : Sp) : Sp := (maxT s.1 t.1, soonerT s.2 t.2)
@[go_sem] theorem run_max_str (w : World) (ts : Array TypeId) (t : TypeId) (a b : ByteArray) : (Builtin.max_ ts t #[.string a, .string b]).run Try.prog w = .ok (.string (maxT a b)) w := by
  cases h : Op.bytesLess a.toList b.toList <;> simp [Builtin.max_, Builtin.max2, Op.stringOp, asBool, maxT, ltT, h]
end Go.Proofs.Ytopogdfmbdbimaa
