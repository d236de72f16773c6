/- Contracts of the small functions of package stamp and of its reference: what each of them returns, for every input. Conditions: none beyond what each theorem states. -/
import Derived.Test.YtnicdbkjgicliaaProg
import Derived.WalkKit
import Derived.WalkSpells
import Derived.WalkLawsBesides
import Derived.Lib.Hide
import Derived.StillTailTactics
import Derived.Deep.QuietTactic
import Derived.BigQuiet
import Derived.Sort.Grow
import Derived.Deep.Draws
import Derived.Deep.RegionHeld3
namespace Go.Proofs.Ytnicdbkjgicliaa
open Go.RowKit Go.Sort

theorem three_allocs (w : World) (a b c : Obj) : (((w.alloc a).alloc b).alloc c).drew = grow (w.drewN 1) #[a, b, c] := by
  rw [alloc_eq_grow, alloc_eq_grow, alloc_eq_grow, grow_grow, grow_grow]
  rfl

/-- cmp.Compare on integers. -/
def cmpI (a b : Int) : Int := if a < b then -1 else if b < a then 1 else 0

set_option maxHeartbeats 400000 in
theorem cmp64_any (a b : Int) (w : World) :
    Calls Try.prog 43 #[.int .i64 a, .int .i64 b] w fun e w' => e = .returned (.int .i64 (cmpI a b)) ∧ w = w' := by
  by_cases h1 : a < b
  · have hv : cmpI a b = -1 := by unfold cmpI; rw [if_pos h1]
    rw [hv]
    go_enter Try.func43, Try.ntmps43
    go_wp2
    go_ret
    exact ⟨rfl, rfl⟩
  · by_cases h2 : b < a
    · have hv : cmpI a b = 1 := by unfold cmpI; rw [if_neg h1, if_pos h2]
      rw [hv]
      go_enter Try.func43, Try.ntmps43
      go_wp2
      go_ret
      exact ⟨rfl, rfl⟩
    · have hv : cmpI a b = 0 := by unfold cmpI; rw [if_neg h1, if_neg h2]
      rw [hv]
      go_enter Try.func43, Try.ntmps43
      go_wp2
      go_ret
      exact ⟨rfl, rfl⟩

set_option maxHeartbeats 400000 in
theorem cmpInt_any (a b : Int) (w : World) :
    Calls Try.prog 44 #[.int .i64 a, .int .i64 b] w fun e w' => e = .returned (.int .i64 (cmpI a b)) ∧ w = w' := by
  by_cases h1 : a < b
  · have hv : cmpI a b = -1 := by unfold cmpI; rw [if_pos h1]
    rw [hv]
    go_enter Try.func44, Try.ntmps44
    go_wp2
    go_ret
    exact ⟨rfl, rfl⟩
  · by_cases h2 : b < a
    · have hv : cmpI a b = 1 := by unfold cmpI; rw [if_neg h1, if_pos h2]
      rw [hv]
      go_enter Try.func44, Try.ntmps44
      go_wp2
      go_ret
      exact ⟨rfl, rfl⟩
    · have hv : cmpI a b = 0 := by unfold cmpI; rw [if_neg h1, if_neg h2]
      rw [hv]
      go_enter Try.func44, Try.ntmps44
      go_wp2
      go_ret
      exact ⟨rfl, rfl⟩

/-- cmp.Or of two numbers that lie in a row. -/
def orI (a b : Int) : Int := if a = 0 then b else a
set_option maxHeartbeats 400000 in
theorem or_any (a b : Int) (B : Nat) (w : World) (h0 : w.cell? ⟨B, 0, none⟩ = some (.int .i64 a)) (h1 : w.cell? ⟨B, 1, none⟩ = some (.int .i64 b)) :
    Calls Try.prog 42 #[.slice (some ⟨B, 0, none⟩) 2 2] w fun e w' => e = .returned (.int .i64 (orI a b)) ∧ w = w' := by
  by_cases ha : a = 0
  · have hv : orI a b = b := by unfold orI; rw [if_pos ha]
    rw [hv]
    subst ha
    by_cases hb : b = 0
    · subst hb
      go_enter Try.func42, Try.ntmps42
      go_wp2
      refine wp_loop_rounds 3 ?_
      iterate 3 (rw [rounds_succ]; go_wp2)
      go_ret
      exact ⟨rfl, rfl⟩
    · go_enter Try.func42, Try.ntmps42
      go_wp2
      refine wp_loop_rounds 3 ?_
      iterate 2 (rw [rounds_succ]; go_wp2)
      go_ret
      exact ⟨rfl, rfl⟩
  · have hv : orI a b = a := by unfold orI; rw [if_neg ha]
    rw [hv]
    go_enter Try.func42, Try.ntmps42
    go_wp2
    refine wp_loop_rounds 3 ?_
    rw [rounds_succ]
    go_wp2
    go_ret
    exact ⟨rfl, rfl⟩

/-- A stamp as a value: its time, its node. -/
def stV (t n : Int) : Value := .agg #[.int .i64 t, .int .i64 n]
def cmpS (t n t' n' : Int) : Int := orI (cmpI t t') (cmpI n n')

set_option maxHeartbeats 400000 in
theorem compare_grow (t n t' n' : Int) (w : World) :
    Calls Try.prog 17 #[.agg #[.int .i64 t, .int .i64 n], .agg #[.int .i64 t', .int .i64 n']] w fun e w' => e = .returned (.int .i64 (cmpS t n t' n')) ∧ ∃ q os, w' = grow (w.drewN q) os := by
  go_enter Try.func17, Try.ntmps17
  go_wp2
  go_region_held3 (fun w' => w'.cell? ⟨w.heap.size, 0, none⟩ = some (.int .i64 t) ∧ w'.cell? ⟨w.heap.size, 1, none⟩ = some (.int .i64 n) ∧ w'.cell? ⟨w.heap.size + 1, 0, none⟩ = some (.int .i64 t') ∧ w'.cell? ⟨w.heap.size + 1, 1, none⟩ = some (.int .i64 n')) (go_keep)
    (first | (go_at_call 43; refine (cmp64_any _ _ _).mono ?_; rintro e w' ⟨rfl, rfl⟩) | (go_at_call 44; refine (cmpInt_any _ _ _).mono ?_; rintro e w' ⟨rfl, rfl⟩) | (go_at_call 42; refine (or_any (cmpI t t') (cmpI n n') _ _ ?_ ?_).mono ?_; go_simp; go_simp; rintro e w' ⟨rfl, rfl⟩))
  all_goals
    go_wp2
    go_ret
    exact ⟨rfl, 1, _, three_allocs _ _ _ _⟩

theorem grow_below (w : World) (q : Nat) (os : Array Obj) : Below w.heap.size w (grow (w.drewN q) os) :=
  ⟨rfl, rfl, rfl, by simp [grow, World.drewN], fun k hk => by simp [grow, World.drewN, Array.getElem?_append_left hk]⟩

theorem compare_any (t n t' n' : Int) (w : World) :
    Calls Try.prog 17 #[.agg #[.int .i64 t, .int .i64 n], .agg #[.int .i64 t', .int .i64 n']] w fun e w' => e = .returned (.int .i64 (cmpS t n t' n')) ∧ Below w.heap.size w w' :=
  (compare_grow t n t' n' w).mono fun _ _ ⟨he, q, os, hw⟩ => ⟨he, by rw [hw]; exact grow_below w q os⟩

/-! ### The reference's order, and whether a stamp may be -/

def ltS (a b : Int × Int) : Bool := decide (a.1 < b.1 ∨ a.1 = b.1 ∧ a.2 < b.2)
def isS (a : Int × Int) : Bool := decide (1 ≤ a.1 ∧ a.1 ≤ 1099511627776 ∧ 1 ≤ a.2 ∧ a.2 ≤ 7)

theorem two_allocs (w : World) (a b : Obj) : (w.alloc a).alloc b = grow (w.drewN 0) #[a, b] := by
  rw [alloc_eq_grow, alloc_eq_grow, grow_grow]
  rfl
theorem one_alloc (w : World) (a : Obj) : w.alloc a = grow (w.drewN 0) #[a] := by
  rw [alloc_eq_grow]
  rfl

set_option maxHeartbeats 400000 in
theorem less_any (t n t' n' : Int) (w : World) :
    Calls Try.prog 13 #[.agg #[.int .i64 t, .int .i64 n], .agg #[.int .i64 t', .int .i64 n']] w fun e w' => e = .returned (.bool (ltS (t, n) (t', n'))) ∧ ∃ q os, w' = grow (w.drewN q) os := by
  by_cases h1 : t < t'
  · have hv : ltS (t, n) (t', n') = true := by simp [ltS, h1]
    rw [hv]
    go_enter Try.func13, Try.ntmps13
    go_wp2
    go_ret
    exact ⟨rfl, 0, _, two_allocs _ _ _⟩
  · by_cases h2 : t = t'
    · subst h2
      by_cases h3 : n < n'
      · have hv : ltS (t, n) (t, n') = true := by simp [ltS, h3]
        rw [hv]
        go_enter Try.func13, Try.ntmps13
        go_wp2
        go_ret
        exact ⟨rfl, 0, _, two_allocs _ _ _⟩
      · have hv : ltS (t, n) (t, n') = false := by simp [ltS]; omega
        rw [hv]
        go_enter Try.func13, Try.ntmps13
        go_wp2
        go_ret
        exact ⟨rfl, 0, _, two_allocs _ _ _⟩
    · have hv : ltS (t, n) (t', n') = false := by simp [ltS]; omega
      rw [hv]
      have h2' : (t == t') = false := by simpa using h2
      go_enter Try.func13, Try.ntmps13
      go_wp2
      go_ret
      exact ⟨rfl, 0, _, two_allocs _ _ _⟩

set_option maxHeartbeats 400000 in
theorem num_any (k : Int) (w : World) :
    Calls Try.prog 14 #[.int .i64 k] w fun e w' => e = .returned (.int .i64 k) ∧ w = w' := by
  go_enter Try.func14, Try.ntmps14
  go_wp2
  go_ret
  exact ⟨rfl, rfl⟩

def nodeS (n : Int) : Bool := decide (1 ≤ n ∧ n ≤ 7)
set_option maxHeartbeats 400000 in
theorem isNode_any (k : Int) (w : World) :
    Calls Try.prog 41 #[.int .i64 k] w fun e w' => e = .returned (.bool (nodeS k)) ∧ w = w' := by
  by_cases h1 : 1 ≤ k
  · by_cases h2 : k ≤ 7
    · have hv : nodeS k = true := by simp [nodeS, h1, h2]
      rw [hv]
      go_enter Try.func41, Try.ntmps41
      go_wp2
      go_ret
      exact ⟨rfl, rfl⟩
    · have hv : nodeS k = false := by simp [nodeS, h2]
      rw [hv]
      go_enter Try.func41, Try.ntmps41
      go_wp2
      go_ret
      exact ⟨rfl, rfl⟩
  · have hv : nodeS k = false := by simp [nodeS, h1]
    rw [hv]
    go_enter Try.func41, Try.ntmps41
    go_wp2
    go_ret
    exact ⟨rfl, rfl⟩

def checkS (a : Int × Int) : Int := if isS a then 0 else 10
set_option maxHeartbeats 400000 in
theorem check_any (t n : Int) (w : World) :
    Calls Try.prog 15 #[.agg #[.int .i64 t, .int .i64 n]] w fun e w' => e = .returned (.int .i64 (checkS (t, n))) ∧ ∃ q os, w' = grow (w.drewN q) os := by
  by_cases h1 : 1 ≤ t
  · by_cases h2 : t ≤ 1099511627776
    · by_cases h3 : nodeS n = true
      · have hv : checkS (t, n) = 0 := by simp [nodeS] at h3; simp [checkS, isS, h1, h2, h3]
        rw [hv]
        have H := Lib.hid h3
        clear h3
        go_enter Try.func15, Try.ntmps15
        go_wp2_with (go_at_call 41; refine (isNode_any _ _).mono ?_; rintro e w' ⟨rfl, rfl⟩; rw [H.out])
        go_ret
        exact ⟨rfl, 0, _, one_alloc _ _⟩
      · have h4 : nodeS n = false := by simpa using h3
        have hv : checkS (t, n) = 10 := by simp [nodeS] at h4; simp [checkS, isS]; omega
        rw [hv]
        have H := Lib.hid h4
        clear h3 h4
        go_enter Try.func15, Try.ntmps15
        go_wp2_with (go_at_call 41; refine (isNode_any _ _).mono ?_; rintro e w' ⟨rfl, rfl⟩; rw [H.out])
        go_ret
        exact ⟨rfl, 0, _, one_alloc _ _⟩
    · have hv : checkS (t, n) = 10 := by simp [checkS, isS]; omega
      rw [hv]
      go_enter Try.func15, Try.ntmps15
      go_wp2
      go_ret
      exact ⟨rfl, 0, _, one_alloc _ _⟩
  · have hv : checkS (t, n) = 10 := by simp [checkS, isS]; omega
    rw [hv]
    go_enter Try.func15, Try.ntmps15
    go_wp2
    go_ret
    exact ⟨rfl, 0, _, one_alloc _ _⟩

set_option maxHeartbeats 400000 in
theorem is_any (t n : Int) (w : World) :
    Calls Try.prog 16 #[.agg #[.int .i64 t, .int .i64 n]] w fun e w' => e = .returned (.bool (isS (t, n))) ∧ ∃ q os, w' = grow (w.drewN q) os := by
  by_cases h1 : 1 ≤ t
  · by_cases h2 : t ≤ 1099511627776
    · by_cases h3 : 1 ≤ n
      · by_cases h4 : n ≤ 7
        · have hv : isS (t, n) = true := by simp [isS, h1, h2, h3, h4]
          rw [hv]
          go_enter Try.func16, Try.ntmps16
          go_wp2
          go_ret
          exact ⟨rfl, 0, _, one_alloc _ _⟩
        · have hv : isS (t, n) = false := by simp [isS, h4]
          rw [hv]
          go_enter Try.func16, Try.ntmps16
          go_wp2
          go_ret
          exact ⟨rfl, 0, _, one_alloc _ _⟩
      · have hv : isS (t, n) = false := by simp [isS, h3]
        rw [hv]
        go_enter Try.func16, Try.ntmps16
        go_wp2
        go_ret
        exact ⟨rfl, 0, _, one_alloc _ _⟩
    · have hv : isS (t, n) = false := by simp [isS, h2]
      rw [hv]
      go_enter Try.func16, Try.ntmps16
      go_wp2
      go_ret
      exact ⟨rfl, 0, _, one_alloc _ _⟩
  · have hv : isS (t, n) = false := by simp [isS, h1]
    rw [hv]
    go_enter Try.func16, Try.ntmps16
    go_wp2
    go_ret
    exact ⟨rfl, 0, _, one_alloc _ _⟩

/-- stamp.next: its answer. -/
def nextS (n last : Int) : Int × Int × Int := if 1099511627776 ≤ last then (0, 0, 11) else (last + 1, n, 0)
set_option maxHeartbeats 400000 in
theorem next_any (n last : Int) (h0 : 0 ≤ last) (w : World) :
    Calls Try.prog 45 #[.int .i64 n, .int .i64 last] w fun e w' => e = .returned (.tuple #[.agg #[.int .i64 (nextS n last).1, .int .i64 (nextS n last).2.1], .int .i64 (nextS n last).2.2]) ∧ ∃ q os, w' = grow (w.drewN q) os := by
  by_cases h1 : 1099511627776 ≤ last
  · have hv : nextS n last = (0, 0, 11) := by simp [nextS, h1]
    rw [hv]
    go_enter Try.func45, Try.ntmps45
    go_wp2
    exact bodyPost_ret (v := .tuple #[.agg #[.int .i64 0, .int .i64 0], .int .i64 11]) (by simp [results, Try.results45, go_sem]) rfl ⟨rfl, 0, _, one_alloc _ _⟩
  · have hv : nextS n last = (last + 1, n, 0) := by simp [nextS, h1]
    rw [hv]
    go_enter Try.func45, Try.ntmps45
    go_wp2
    exact bodyPost_ret (v := .tuple #[.agg #[.int .i64 (last + 1), .int .i64 n], .int .i64 0]) (by simp [results, Try.results45, go_sem]) rfl ⟨rfl, 0, _, one_alloc _ _⟩

end Go.Proofs.Ytnicdbkjgicliaa
