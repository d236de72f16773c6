/- Contracts of the small functions of package span: an end's methods, isEmpty, the order of spans. Conditions: none. -/
import Derived.Test.YtkgfpppbpjinaaaKa
import Derived.Test.YtkgfpppbpjinaaaProg
import Derived.WalkKit
import Derived.WalkSpells
import Derived.WalkLawsBesides
import Derived.Lib.Hide
import Derived.StillTailTactics
import Derived.Deep.QuietTactic
import Derived.BigQuiet
import Derived.Sort.Grow
import Derived.Deep.Draws
import Derived.Deep.RegionHeld3
namespace Go.Proofs.Ytkgfpppbpjinaaa
open Go.RowKit Go.Sort

theorem ret_bool {a b : Bool} (h : a = b) : Ending.returned (.bool a) = .returned (.bool b) := by rw [h]
theorem ret_str {a b : ByteArray} (h : a = b) : Ending.returned (.string a) = .returned (.string b) := by rw [h]
theorem ret_int {a b : Int} (h : a = b) : Ending.returned (.int .i64 a) = .returned (.int .i64 b) := by rw [h]

def aboveT (e x : ByteArray) : Bool := noT e || ltT x e
set_option maxHeartbeats 400000 in
theorem above_any (e x : ByteArray) (w : World) :
    Calls Try.prog 50 #[.string e, .string x] w fun r w' => r = .returned (.bool (aboveT e x)) ∧ w = w' := by
  go_enter Try.func50, Try.ntmps50
  go_wp2
  all_goals
    go_ret
    exact ⟨ret_bool (by simp [aboveT, noT, ltT, *]), rfl⟩

def reachT (e x : ByteArray) : Bool := aboveT e x || x.toList == e.toList
set_option maxHeartbeats 400000 in
theorem reaches_any (e x : ByteArray) (w : World) :
    Calls Try.prog 53 #[.string e, .string x] w fun r w' => r = .returned (.bool (reachT e x)) ∧ w = w' := by
  go_enter Try.func53, Try.ntmps53
  go_wp2_with (go_at_call 50; refine (above_any _ _ _).mono ?_; rintro r w' ⟨rfl, rfl⟩)
  all_goals
    go_ret
    exact ⟨ret_bool (by simp [reachT, *]), rfl⟩

def behindT (e x : ByteArray) : Bool := !noT x && aboveT e x
set_option maxHeartbeats 400000 in
theorem behind_any (e x : ByteArray) (w : World) :
    Calls Try.prog 59 #[.string e, .string x] w fun r w' => r = .returned (.bool (behindT e x)) ∧ w = w' := by
  go_enter Try.func59, Try.ntmps59
  go_wp2_with (go_at_call 50; refine (above_any _ _ _).mono ?_; rintro r w' ⟨rfl, rfl⟩)
  all_goals
    go_ret
    exact ⟨ret_bool (by simp [behindT, noT, *]), rfl⟩

def laterT (e o : ByteArray) : ByteArray := if behindT e o = true then e else o
def soonerT (e o : ByteArray) : ByteArray := if behindT e o = true then o else e
set_option maxHeartbeats 400000 in
theorem later_any (e x : ByteArray) (w : World) :
    Calls Try.prog 54 #[.string e, .string x] w fun r w' => r = .returned (.string (laterT e x)) ∧ w = w' := by
  go_enter Try.func54, Try.ntmps54
  go_wp2_with (go_at_call 59; refine (behind_any _ _ _).mono ?_; rintro r w' ⟨rfl, rfl⟩)
  all_goals
    go_ret
    exact ⟨ret_str (by simp [laterT, *]), rfl⟩
set_option maxHeartbeats 400000 in
theorem sooner_any (e x : ByteArray) (w : World) :
    Calls Try.prog 63 #[.string e, .string x] w fun r w' => r = .returned (.string (soonerT e x)) ∧ w = w' := by
  go_enter Try.func63, Try.ntmps63
  go_wp2_with (go_at_call 59; refine (behind_any _ _ _).mono ?_; rintro r w' ⟨rfl, rfl⟩)
  all_goals
    go_ret
    exact ⟨ret_str (by simp [soonerT, *]), rfl⟩

set_option maxHeartbeats 400000 in
theorem isEmpty_any (s : Sp) (w : World) :
    Calls Try.prog 58 #[.agg #[.string s.1, .string s.2]] w fun r w' => r = .returned (.bool (!fullS s)) ∧ w' = w.alloc (.cells #[.string s.1, .string s.2] 35) := by
  go_enter Try.func58, Try.ntmps58
  go_wp2_with (go_at_call 50; refine (above_any _ _ _).mono ?_; rintro r w' ⟨rfl, rfl⟩)
  go_ret
  exact ⟨rfl, rfl⟩

def cmpT (a b : ByteArray) : Int := if ltT a b = true then -1 else if a.toList == b.toList then 0 else 1
theorem isNaN_any (a : ByteArray) (w : World) :
    Calls Try.prog 66 #[.string a] w fun r w' => r = .returned (.bool false) ∧ w = w' := by
  go_enter Try.func66, Try.ntmps66
  go_wp2
  go_ret
  exact ⟨rfl, rfl⟩
theorem cmpT_neg (a b : ByteArray) : cmpT a b < 0 ↔ ltT a b = true := by
  unfold cmpT
  split
  · simp [*]
  · split <;> simp [*]
set_option maxHeartbeats 400000 in
theorem compare_any (a b : ByteArray) (w : World) :
    Calls Try.prog 62 #[.string a, .string b] w fun r w' => r = .returned (.int .i64 (cmpT a b)) ∧ w = w' := by
  go_enter Try.func62, Try.ntmps62
  go_wp2_with (go_at_call 66; refine (isNaN_any _ _).mono ?_; rintro r w' ⟨rfl, rfl⟩)
  all_goals
    go_ret
    exact ⟨ret_int (by simp_all [cmpT, ltT]), rfl⟩

set_option maxHeartbeats 400000 in
theorem byFrom1_any (s t : Sp) (w : World) :
    Calls Try.prog 61 #[.agg #[.string s.1, .string s.2], .agg #[.string t.1, .string t.2]] w fun r w' => r = .returned (.int .i64 (cmpT s.1 t.1)) ∧ w' = (w.alloc (.cells #[.string s.1, .string s.2] 35)).alloc (.cells #[.string t.1, .string t.2] 35) := by
  go_enter Try.func61, Try.ntmps61
  go_wp2_with (go_at_call 62; refine (compare_any _ _ _).mono ?_; rintro r w' ⟨rfl, rfl⟩)
  go_ret
  exact ⟨rfl, rfl⟩

/-- What two spans have in common. -/
def maxT (a b : ByteArray) : ByteArray := if ltT a b = true then b else a
def commonS (s t : Sp) : Sp := (maxT s.1 t.1, soonerT s.2 t.2)
@[go_sem] theorem run_max_str (w : World) (ts : Array TypeId) (t : TypeId) (a b : ByteArray) : (Builtin.max_ ts t #[.string a, .string b]).run Try.prog w = .ok (.string (maxT a b)) w := by
  cases h : Op.bytesLess a.toList b.toList <;> simp [Builtin.max_, Builtin.max2, Op.stringOp, asBool, maxT, ltT, h]
set_option maxHeartbeats 1000000 in
theorem common_any (s t : Sp) (w : World) :
    Calls Try.prog 57 #[.agg #[.string s.1, .string s.2], .agg #[.string t.1, .string t.2]] w fun r w' => r = .returned (.agg #[.string (commonS s t).1, .string (commonS s t).2]) ∧ Below w.heap.size w w' := by
  go_enter Try.func57, Try.ntmps57
  go_wp2
  go_region_held3 (fun w' => w'.cell? ⟨w.heap.size, 0, none⟩ = some (.string s.1) ∧ w'.cell? ⟨w.heap.size, 1, none⟩ = some (.string s.2) ∧ w'.cell? ⟨w.heap.size + 1, 0, none⟩ = some (.string t.1) ∧ w'.cell? ⟨w.heap.size + 1, 1, none⟩ = some (.string t.2)) (go_keep)
    (first | (go_at_call 63; refine (sooner_any _ _ _).mono ?_; rintro r w' ⟨rfl, rfl⟩))
  all_goals
    go_wp2
    exact bodyPost_ret (v := .agg #[.string (maxT s.1 t.1), .string (soonerT s.2 t.2)]) (by simp [results, Try.results57, go_sem]) rfl ⟨rfl, ((((Below.refl _ _).alloc (Nat.le_refl _) _).alloc (by simp) _).alloc (by simp; omega) _).drew⟩

end Go.Proofs.Ytkgfpppbpjinaaa
