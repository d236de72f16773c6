/- What package span's calls come to, as functions of lists: the union, what is in both sets, what is outside; each of them is a set, and what it is for each text. Conditions: none. -/
import Derived.Test.YtjlkgbejldcklaaGreatProg
import Derived.WalkKit
import Derived.WalkSpells
import Derived.WalkLawsBesides
import Derived.Lib.Hide
import Derived.StillTailTactics
import Derived.Deep.QuietTactic
import Derived.BigQuiet
import Derived.Sort.Grow
import Derived.Deep.Draws
import Derived.Deep.RegionHeld3
import Derived.Test.YtjlkgbejldcklaaGreatMg00
namespace Go.Proofs.YtjlkgbejldcklaaGreat
namespace S3
open Go.RowKit Go.Sort
theorem ret_bool {a b : Bool} (h : a = b) : Ending.returned (.bool a) = .returned (.bool b) := by rw [h]
theorem ret_int {a b : Int} (h : a = b) : Ending.returned (.int .i64 a) = .returned (.int .i64 b) := by rw [h]
def aboveT (e x : ByteArray) : Bool := noT e || ltT x e
set_option maxHeartbeats 400000 in
theorem above_any (e x : ByteArray) (w : World) :
    Calls Tryz.prog 228 #[.string e, .string x] w fun r w' => r = .returned (.bool (aboveT e x)) ∧ w = w' := by
  go_enter Tryz.func228, Tryz.ntmps228
  go_wp2
  all_goals
    go_ret
    exact ⟨ret_bool (by simp [aboveT, noT, ltT, *]), rfl⟩
def cmpT (a b : ByteArray) : Int := if ltT a b = true then -1 else if a.toList == b.toList then 0 else 1
theorem isNaN_any (a : ByteArray) (w : World) :
    Calls Tryz.prog 274 #[.string a] w fun r w' => r = .returned (.bool false) ∧ w = w' := by
  go_enter Tryz.func274, Tryz.ntmps274
  go_wp2
  go_ret
  exact ⟨rfl, rfl⟩
theorem cmpT_neg (a b : ByteArray) : cmpT a b < 0 ↔ ltT a b = true := by
  unfold cmpT
  split
  · simp [*]
  · split <;> simp [*]
set_option maxHeartbeats 400000 in
theorem compare_any (a b : ByteArray) (w : World) :
    Calls Tryz.prog 225 #[.string a, .string b] w fun r w' => r = .returned (.int .i64 (cmpT a b)) ∧ w = w' := by
  go_enter Tryz.func225, Tryz.ntmps225
  go_wp2_with (go_at_call 274; refine (isNaN_any _ _).mono ?_; rintro r w' ⟨rfl, rfl⟩)
  all_goals
    go_ret
    exact ⟨ret_int (by simp_all [cmpT, ltT]), rfl⟩
def maxT (a b : ByteArray) : ByteArray := if ltT a b = true then b else a
@[go_sem] theorem run_max_str (w : World) (ts : Array TypeId) (t : TypeId) (a b : ByteArray) : (Builtin.max_ ts t #[.string a, .string b]).run Tryz.prog w = .ok (.string (maxT a b)) w := by
  cases h : Op.bytesLess a.toList b.toList <;> simp [Builtin.max_, Builtin.max2, Op.stringOp, asBool, maxT, ltT, h]
end S3
end Go.Proofs.YtjlkgbejldcklaaGreat

namespace Go.Proofs.YtjlkgbejldcklaaGreat
namespace S3
theorem inS_above (s : Sp) (k : ByteArray) : inS s k = (!ltT k s.1 && aboveT s.2 k) := rfl
structure Uni (l u : List Sp) : Prop where
  set : IsSet u
  mem : ∀ k, memL u k = memL l k
  len : u.length ≤ l.length
  ends : ∀ c ∈ u, (∃ s ∈ l, s.1 = c.1) ∧ ∃ s ∈ l, s.2 = c.2
theorem Uni.eq {l u v : List Sp} (h1 : Uni l u) (h2 : IsSet v) (h3 : ∀ k, memL v k = memL l k) : u = v := set_uniq h1.set h2 fun k => (h1.mem k).trans (h3 k).symm
end S3
end Go.Proofs.YtjlkgbejldcklaaGreat
