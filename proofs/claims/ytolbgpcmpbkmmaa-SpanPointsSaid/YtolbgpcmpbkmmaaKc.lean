/- Contracts of the small functions of package span: an end's methods, isEmpty, the order of spans. Conditions: none. -/
import Derived.Test.YtolbgpcmpbkmmaaKa
import Derived.Test.YtolbgpcmpbkmmaaProg
import Derived.WalkKit
import Derived.WalkSpells
import Derived.WalkLawsBesides
import Derived.Lib.Hide
import Derived.StillTailTactics
import Derived.Deep.QuietTactic
import Derived.BigQuiet
import Derived.Sort.Grow
import Derived.Deep.Draws
import Derived.Deep.RegionHeld3
namespace Go.Proofs.Ytolbgpcmpbkmmaa
open Go.RowKit Go.Sort

theorem ret_bool {a b : Bool} (h : a = b) : Ending.returned (.bool a) = .returned (.bool b) := by rw [h]
theorem ret_str {a b : ByteArray} (h : a = b) : Ending.returned (.string a) = .returned (.string b) := by rw [h]
theorem ret_int {a b : Int} (h : a = b) : Ending.returned (.int .i64 a) = .returned (.int .i64 b) := by rw [h]

def aboveT (e x : ByteArray) : Bool := noT e || ltT x e
set_option maxHeartbeats 400000 in
theorem above_any (e x : ByteArray) (w : World) :
    Calls Try.prog 40 #[.string e, .string x] w fun r w' => r = .returned (.bool (aboveT e x)) ∧ w = w' := by
  go_enter Try.func40, Try.ntmps40
  go_wp2
  all_goals
    go_ret
    exact ⟨ret_bool (by simp [aboveT, noT, ltT, *]), rfl⟩

def reachT (e x : ByteArray) : Bool := aboveT e x || x.toList == e.toList
set_option maxHeartbeats 400000 in
theorem reaches_any (e x : ByteArray) (w : World) :
    Calls Try.prog 33 #[.string e, .string x] w fun r w' => r = .returned (.bool (reachT e x)) ∧ w = w' := by
  go_enter Try.func33, Try.ntmps33
  go_wp2_with (go_at_call 40; refine (above_any _ _ _).mono ?_; rintro r w' ⟨rfl, rfl⟩)
  all_goals
    go_ret
    exact ⟨ret_bool (by simp [reachT, *]), rfl⟩

def behindT (e x : ByteArray) : Bool := !noT x && aboveT e x
set_option maxHeartbeats 400000 in
theorem behind_any (e x : ByteArray) (w : World) :
    Calls Try.prog 46 #[.string e, .string x] w fun r w' => r = .returned (.bool (behindT e x)) ∧ w = w' := by
  go_enter Try.func46, Try.ntmps46
  go_wp2_with (go_at_call 40; refine (above_any _ _ _).mono ?_; rintro r w' ⟨rfl, rfl⟩)
  all_goals
    go_ret
    exact ⟨ret_bool (by simp [behindT, noT, *]), rfl⟩

def laterT (e o : ByteArray) : ByteArray := if behindT e o = true then e else o
def soonerT (e o : ByteArray) : ByteArray := if behindT e o = true then o else e
set_option maxHeartbeats 400000 in
theorem later_any (e x : ByteArray) (w : World) :
    Calls Try.prog 34 #[.string e, .string x] w fun r w' => r = .returned (.string (laterT e x)) ∧ w = w' := by
  go_enter Try.func34, Try.ntmps34
  go_wp2_with (go_at_call 46; refine (behind_any _ _ _).mono ?_; rintro r w' ⟨rfl, rfl⟩)
  all_goals
    go_ret
    exact ⟨ret_str (by simp [laterT, *]), rfl⟩
set_option maxHeartbeats 400000 in
theorem sooner_any (e x : ByteArray) (w : World) :
    Calls Try.prog 53 #[.string e, .string x] w fun r w' => r = .returned (.string (soonerT e x)) ∧ w = w' := by
  go_enter Try.func53, Try.ntmps53
  go_wp2_with (go_at_call 46; refine (behind_any _ _ _).mono ?_; rintro r w' ⟨rfl, rfl⟩)
  all_goals
    go_ret
    exact ⟨ret_str (by simp [soonerT, *]), rfl⟩

set_option maxHeartbeats 400000 in
theorem isEmpty_any (s : Sp) (w : World) :
    Calls Try.prog 30 #[.agg #[.string s.1, .string s.2]] w fun r w' => r = .returned (.bool (!fullS s)) ∧ w' = w.alloc (.cells #[.string s.1, .string s.2] 24) := by
  go_enter Try.func30, Try.ntmps30
  go_wp2_with (go_at_call 40; refine (above_any _ _ _).mono ?_; rintro r w' ⟨rfl, rfl⟩)
  go_ret
  exact ⟨rfl, rfl⟩

def cmpT (a b : ByteArray) : Int := if ltT a b = true then -1 else if a.toList == b.toList then 0 else 1
theorem isNaN_any (a : ByteArray) (w : World) :
    Calls Try.prog 52 #[.string a] w fun r w' => r = .returned (.bool false) ∧ w = w' := by
  go_enter Try.func52, Try.ntmps52
  go_wp2
  go_ret
  exact ⟨rfl, rfl⟩
theorem cmpT_neg (a b : ByteArray) : cmpT a b < 0 ↔ ltT a b = true := by
  unfold cmpT
  split
  · simp [*]
  · split <;> simp [*]
set_option maxHeartbeats 400000 in
theorem compare_any (a b : ByteArray) (w : World) :
    Calls Try.prog 45 #[.string a, .string b] w fun r w' => r = .returned (.int .i64 (cmpT a b)) ∧ w = w' := by
  go_enter Try.func45, Try.ntmps45
  go_wp2_with (go_at_call 52; refine (isNaN_any _ _).mono ?_; rintro r w' ⟨rfl, rfl⟩)
  all_goals
    go_ret
    exact ⟨ret_int (by simp_all [cmpT, ltT]), rfl⟩

set_option maxHeartbeats 400000 in
theorem byFrom1_any (s t : Sp) (w : World) :
    Calls Try.prog 44 #[.agg #[.string s.1, .string s.2], .agg #[.string t.1, .string t.2]] w fun r w' => r = .returned (.int .i64 (cmpT s.1 t.1)) ∧ w' = (w.alloc (.cells #[.string s.1, .string s.2] 24)).alloc (.cells #[.string t.1, .string t.2] 24) := by
  go_enter Try.func44, Try.ntmps44
  go_wp2_with (go_at_call 45; refine (compare_any _ _ _).mono ?_; rintro r w' ⟨rfl, rfl⟩)
  go_ret
  exact ⟨rfl, rfl⟩

/-- What two spans have in common. -/
def maxT (a b : ByteArray) : ByteArray := if ltT a b = true then b else a
def commonS (s t : Sp) : Sp := (maxT s.1 t.1, soonerT s.2 t.2)
@[go_sem] theorem run_max_str (w : World) (ts : Array TypeId) (t : TypeId) (a b : ByteArray) : (Builtin.max_ ts t #[.string a, .string b]).run Try.prog w = .ok (.string (maxT a b)) w := by
  cases h : Op.bytesLess a.toList b.toList <;> simp [Builtin.max_, Builtin.max2, Op.stringOp, asBool, maxT, ltT, h]
set_option maxHeartbeats 1000000 in
theorem common_any (s t : Sp) (w : World) :
    Calls Try.prog 49 #[.agg #[.string s.1, .string s.2], .agg #[.string t.1, .string t.2]] w fun r w' => r = .returned (.agg #[.string (commonS s t).1, .string (commonS s t).2]) ∧ Below w.heap.size w w' := by
  go_enter Try.func49, Try.ntmps49
  go_wp2
  go_region_held3 (fun w' => w'.cell? ⟨w.heap.size, 0, none⟩ = some (.string s.1) ∧ w'.cell? ⟨w.heap.size, 1, none⟩ = some (.string s.2) ∧ w'.cell? ⟨w.heap.size + 1, 0, none⟩ = some (.string t.1) ∧ w'.cell? ⟨w.heap.size + 1, 1, none⟩ = some (.string t.2)) (go_keep)
    (first | (go_at_call 53; refine (sooner_any _ _ _).mono ?_; rintro r w' ⟨rfl, rfl⟩))
  all_goals
    go_wp2
    exact bodyPost_ret (v := .agg #[.string (maxT s.1 t.1), .string (soonerT s.2 t.2)]) (by simp [results, Try.results49, go_sem]) rfl ⟨rfl, ((((Below.refl _ _).alloc (Nat.le_refl _) _).alloc (by simp) _).alloc (by simp; omega) _).drew⟩

end Go.Proofs.Ytolbgpcmpbkmmaa
