/- Regions that leave their order open, whose operations read older memory and whose calls give one value each and leave all older memory as it was: one walk, in the text's order, serves every order. Conditions: as each theorem states. -/
import Derived.Test.YtgipkikedacmdaaGreatProg
import Derived.WalkKit
import Derived.WalkSpells
import Derived.WalkLawsBesides
import Derived.Lib.Hide
import Derived.StillTailTactics
import Derived.Deep.QuietTactic
import Derived.BigQuiet
import Derived.Sort.Grow
import Derived.Deep.Draws
import Derived.Deep.RegionHeld3
set_option maxRecDepth 100000
set_option maxHeartbeats 16000000
namespace Go.Proofs.YtgipkikedacmdaaGreat
namespace S1
open Go.RowKit Go.Sort
theorem three_allocs (w : World) (a b c : Obj) : (((w.alloc a).alloc b).alloc c).drew = grow (w.drewN 1) #[a, b, c] := by
 rw [alloc_eq_grow, alloc_eq_grow, alloc_eq_grow, grow_grow, grow_grow]
 rfl
def cmpI (a b : Int) : Int := if a < b then -1 else if b < a then 1 else 0
theorem cmp64_any (a b : Int) (w : World) :
  Calls Tryz.prog 168 #[.int .i64 a, .int .i64 b] w fun e w' => e = .returned (.int .i64 (cmpI a b)) ∧ w = w' := by
 by_cases h1 : a < b
 ·have hv : cmpI a b = -1 := by unfold cmpI; rw [if_pos h1]
  rw [hv]
  go_enter Tryz.func168, Tryz.ntmps168
  go_wp2
  go_ret
  exact ⟨rfl, rfl⟩
 ·by_cases h2 : b < a
  ·have hv : cmpI a b = 1 := by unfold cmpI; rw [if_neg h1, if_pos h2]
   rw [hv]
   go_enter Tryz.func168, Tryz.ntmps168
   go_wp2
   go_ret
   exact ⟨rfl, rfl⟩
  ·have hv : cmpI a b = 0 := by unfold cmpI; rw [if_neg h1, if_neg h2]
   rw [hv]
   go_enter Tryz.func168, Tryz.ntmps168
   go_wp2
   go_ret
   exact ⟨rfl, rfl⟩
theorem cmpInt_any (a b : Int) (w : World) :
  Calls Tryz.prog 169 #[.int .i64 a, .int .i64 b] w fun e w' => e = .returned (.int .i64 (cmpI a b)) ∧ w = w' := by
 by_cases h1 : a < b
 ·have hv : cmpI a b = -1 := by unfold cmpI; rw [if_pos h1]
  rw [hv]
  go_enter Tryz.func169, Tryz.ntmps169
  go_wp2
  go_ret
  exact ⟨rfl, rfl⟩
 ·by_cases h2 : b < a
  ·have hv : cmpI a b = 1 := by unfold cmpI; rw [if_neg h1, if_pos h2]
   rw [hv]
   go_enter Tryz.func169, Tryz.ntmps169
   go_wp2
   go_ret
   exact ⟨rfl, rfl⟩
  ·have hv : cmpI a b = 0 := by unfold cmpI; rw [if_neg h1, if_neg h2]
   rw [hv]
   go_enter Tryz.func169, Tryz.ntmps169
   go_wp2
   go_ret
   exact ⟨rfl, rfl⟩
def orI (a b : Int) : Int := if a = 0 then b else a
theorem or_any (a b : Int) (B : Nat) (w : World) (h0 : w.cell? ⟨B, 0, none⟩ = some (.int .i64 a)) (h1 : w.cell? ⟨B, 1, none⟩ = some (.int .i64 b)) :
  Calls Tryz.prog 167 #[.slice (some ⟨B, 0, none⟩) 2 2] w fun e w' => e = .returned (.int .i64 (orI a b)) ∧ w = w' := by
 by_cases ha : a = 0
 ·have hv : orI a b = b := by unfold orI; rw [if_pos ha]
  rw [hv]
  subst ha
  by_cases hb : b = 0
  ·subst hb
   go_enter Tryz.func167, Tryz.ntmps167
   go_wp2
   refine wp_loop_rounds 3 ?_
   iterate 3 (rw [rounds_succ]; go_wp2)
   go_ret
   exact ⟨rfl, rfl⟩
  ·go_enter Tryz.func167, Tryz.ntmps167
   go_wp2
   refine wp_loop_rounds 3 ?_
   iterate 2 (rw [rounds_succ]; go_wp2)
   go_ret
   exact ⟨rfl, rfl⟩
 ·have hv : orI a b = a := by unfold orI; rw [if_neg ha]
  rw [hv]
  go_enter Tryz.func167, Tryz.ntmps167
  go_wp2
  refine wp_loop_rounds 3 ?_
  rw [rounds_succ]
  go_wp2
  go_ret
  exact ⟨rfl, rfl⟩
def stV (t n : Int) : Value := .agg #[.int .i64 t, .int .i64 n]
def cmpS (t n t' n' : Int) : Int := orI (cmpI t t') (cmpI n n')
theorem compare_grow (t n t' n' : Int) (w : World) :
  Calls Tryz.prog 120 #[.agg #[.int .i64 t, .int .i64 n], .agg #[.int .i64 t', .int .i64 n']] w fun e w' => e = .returned (.int .i64 (cmpS t n t' n')) ∧ ∃ q os, w' = grow (w.drewN q) os := by
 go_enter Tryz.func120, Tryz.ntmps120
 go_wp2
 go_region_held3 (fun w' => w'.cell? ⟨w.heap.size, 0, none⟩ = some (.int .i64 t) ∧ w'.cell? ⟨w.heap.size, 1, none⟩ = some (.int .i64 n) ∧ w'.cell? ⟨w.heap.size + 1, 0, none⟩ = some (.int .i64 t') ∧ w'.cell? ⟨w.heap.size + 1, 1, none⟩ = some (.int .i64 n')) (go_keep)
  (first | (go_at_call 168; refine (cmp64_any _ _ _).mono ?_; rintro e w' ⟨rfl, rfl⟩) | (go_at_call 169; refine (cmpInt_any _ _ _).mono ?_; rintro e w' ⟨rfl, rfl⟩) | (go_at_call 167; refine (or_any (cmpI t t') (cmpI n n') _ _ ?_ ?_).mono ?_; go_simp; go_simp; rintro e w' ⟨rfl, rfl⟩))
 all_goals
  go_wp2
  go_ret
  exact ⟨rfl, 1, _, three_allocs _ _ _ _⟩
theorem grow_below (w : World) (q : Nat) (os : Array Obj) : Below w.heap.size w (grow (w.drewN q) os) :=
 ⟨rfl, rfl, rfl, by simp [grow, World.drewN], fun k hk => by simp [grow, World.drewN, Array.getElem?_append_left hk]⟩
theorem compare_any (t n t' n' : Int) (w : World) :
  Calls Tryz.prog 120 #[.agg #[.int .i64 t, .int .i64 n], .agg #[.int .i64 t', .int .i64 n']] w fun e w' => e = .returned (.int .i64 (cmpS t n t' n')) ∧ Below w.heap.size w w' :=
 (compare_grow t n t' n' w).mono fun _ _ ⟨he, q, os, hw⟩ => ⟨he, by rw [hw]; exact grow_below w q os⟩
def ltS (a b : Int × Int) : Bool := decide (a.1 < b.1 ∨ a.1 = b.1 ∧ a.2 < b.2)
def isS (a : Int × Int) : Bool := decide (1 ≤ a.1 ∧ a.1 ≤ 1099511627776 ∧ 1 ≤ a.2 ∧ a.2 ≤ 7)
theorem two_allocs (w : World) (a b : Obj) : (w.alloc a).alloc b = grow (w.drewN 0) #[a, b] := by
 rw [alloc_eq_grow, alloc_eq_grow, grow_grow]
 rfl
theorem one_alloc (w : World) (a : Obj) : w.alloc a = grow (w.drewN 0) #[a] := by
 rw [alloc_eq_grow]
 rfl
theorem less_any (t n t' n' : Int) (w : World) :
  Calls Tryz.prog 28 #[.agg #[.int .i64 t, .int .i64 n], .agg #[.int .i64 t', .int .i64 n']] w fun e w' => e = .returned (.bool (ltS (t, n) (t', n'))) ∧ ∃ q os, w' = grow (w.drewN q) os := by
 by_cases h1 : t < t'
 ·have hv : ltS (t, n) (t', n') = true := by simp [ltS, h1]
  rw [hv]
  go_enter Tryz.func28, Tryz.ntmps28
  go_wp2
  go_ret
  exact ⟨rfl, 0, _, two_allocs _ _ _⟩
 ·by_cases h2 : t = t'
  ·subst h2
   by_cases h3 : n < n'
   ·have hv : ltS (t, n) (t, n') = true := by simp [ltS, h3]
    rw [hv]
    go_enter Tryz.func28, Tryz.ntmps28
    go_wp2
    go_ret
    exact ⟨rfl, 0, _, two_allocs _ _ _⟩
   ·have hv : ltS (t, n) (t, n') = false := by simp [ltS]; omega
    rw [hv]
    go_enter Tryz.func28, Tryz.ntmps28
    go_wp2
    go_ret
    exact ⟨rfl, 0, _, two_allocs _ _ _⟩
  ·have hv : ltS (t, n) (t', n') = false := by simp [ltS]; omega
   rw [hv]
   have h2' : (t == t') = false := by simpa using h2
   go_enter Tryz.func28, Tryz.ntmps28
   go_wp2
   go_ret
   exact ⟨rfl, 0, _, two_allocs _ _ _⟩
def nodeS (n : Int) : Bool := decide (1 ≤ n ∧ n ≤ 7)
theorem isNode_any (k : Int) (w : World) :
  Calls Tryz.prog 182 #[.int .i64 k] w fun e w' => e = .returned (.bool (nodeS k)) ∧ w = w' := by
 by_cases h1 : 1 ≤ k
 ·by_cases h2 : k ≤ 7
  ·have hv : nodeS k = true := by simp [nodeS, h1, h2]
   rw [hv]
   go_enter Tryz.func182, Tryz.ntmps182
   go_wp2
   go_ret
   exact ⟨rfl, rfl⟩
  ·have hv : nodeS k = false := by simp [nodeS, h2]
   rw [hv]
   go_enter Tryz.func182, Tryz.ntmps182
   go_wp2
   go_ret
   exact ⟨rfl, rfl⟩
 ·have hv : nodeS k = false := by simp [nodeS, h1]
  rw [hv]
  go_enter Tryz.func182, Tryz.ntmps182
  go_wp2
  go_ret
  exact ⟨rfl, rfl⟩
def checkS (a : Int × Int) : Int := if isS a then 0 else 10
theorem check_any (t n : Int) (w : World) :
  Calls Tryz.prog 131 #[.agg #[.int .i64 t, .int .i64 n]] w fun e w' => e = .returned (.int .i64 (checkS (t, n))) ∧ ∃ q os, w' = grow (w.drewN q) os := by
 by_cases h1 : 1 ≤ t
 ·by_cases h2 : t ≤ 1099511627776
  ·by_cases h3 : nodeS n = true
   ·have hv : checkS (t, n) = 0 := by simp [nodeS] at h3; simp [checkS, isS, h1, h2, h3]
    rw [hv]
    have H := Lib.hid h3
    clear h3
    go_enter Tryz.func131, Tryz.ntmps131
    go_wp2_with (go_at_call 182; refine (isNode_any _ _).mono ?_; rintro e w' ⟨rfl, rfl⟩; rw [H.out])
    go_ret
    exact ⟨rfl, 0, _, one_alloc _ _⟩
   ·have h4 : nodeS n = false := by simpa using h3
    have hv : checkS (t, n) = 10 := by simp [nodeS] at h4; simp [checkS, isS]; omega
    rw [hv]
    have H := Lib.hid h4
    clear h3 h4
    go_enter Tryz.func131, Tryz.ntmps131
    go_wp2_with (go_at_call 182; refine (isNode_any _ _).mono ?_; rintro e w' ⟨rfl, rfl⟩; rw [H.out])
    go_ret
    exact ⟨rfl, 0, _, one_alloc _ _⟩
  ·have hv : checkS (t, n) = 10 := by simp [checkS, isS]; omega
   rw [hv]
   go_enter Tryz.func131, Tryz.ntmps131
   go_wp2
   go_ret
   exact ⟨rfl, 0, _, one_alloc _ _⟩
 ·have hv : checkS (t, n) = 10 := by simp [checkS, isS]; omega
  rw [hv]
  go_enter Tryz.func131, Tryz.ntmps131
  go_wp2
  go_ret
  exact ⟨rfl, 0, _, one_alloc _ _⟩
theorem is_any (t n : Int) (w : World) :
  Calls Tryz.prog 24 #[.agg #[.int .i64 t, .int .i64 n]] w fun e w' => e = .returned (.bool (isS (t, n))) ∧ ∃ q os, w' = grow (w.drewN q) os := by
 by_cases h1 : 1 ≤ t
 ·by_cases h2 : t ≤ 1099511627776
  ·by_cases h3 : 1 ≤ n
   ·by_cases h4 : n ≤ 7
    ·have hv : isS (t, n) = true := by simp [isS, h1, h2, h3, h4]
     rw [hv]
     go_enter Tryz.func24, Tryz.ntmps24
     go_wp2
     go_ret
     exact ⟨rfl, 0, _, one_alloc _ _⟩
    ·have hv : isS (t, n) = false := by simp [isS, h4]
     rw [hv]
     go_enter Tryz.func24, Tryz.ntmps24
     go_wp2
     go_ret
     exact ⟨rfl, 0, _, one_alloc _ _⟩
   ·have hv : isS (t, n) = false := by simp [isS, h3]
    rw [hv]
    go_enter Tryz.func24, Tryz.ntmps24
    go_wp2
    go_ret
    exact ⟨rfl, 0, _, one_alloc _ _⟩
  ·have hv : isS (t, n) = false := by simp [isS, h2]
   rw [hv]
   go_enter Tryz.func24, Tryz.ntmps24
   go_wp2
   go_ret
   exact ⟨rfl, 0, _, one_alloc _ _⟩
 ·have hv : isS (t, n) = false := by simp [isS, h1]
  rw [hv]
  go_enter Tryz.func24, Tryz.ntmps24
  go_wp2
  go_ret
  exact ⟨rfl, 0, _, one_alloc _ _⟩
end S1
end Go.Proofs.YtgipkikedacmdaaGreat

namespace Go.Proofs.YtgipkikedacmdaaGreat
namespace S1
theorem ltS_iff (a b : Int × Int) : ltS a b = true ↔ a.1 < b.1 ∨ a.1 = b.1 ∧ a.2 < b.2 := by simp [ltS]
theorem ltS_not (a b : Int × Int) : ltS a b = false ↔ ¬ (a.1 < b.1 ∨ a.1 = b.1 ∧ a.2 < b.2) := by simp [ltS]
theorem cmpI_eq (a b : Int) : (cmpI a b = -1 ∧ a < b) ∨ (cmpI a b = 0 ∧ a = b) ∨ (cmpI a b = 1 ∧ b < a) := by
 unfold cmpI
 split
 ·exact .inl ⟨rfl, ‹_›⟩
 ·split
  ·exact .inr (.inr ⟨rfl, ‹_›⟩)
  ·exact .inr (.inl ⟨rfl, by omega⟩)
theorem cmpS_eq (t n t' n' : Int) : (cmpS t n t' n' = -1 ∧ ltS (t, n) (t', n') = true ∧ ltS (t', n') (t, n) = false) ∨ (cmpS t n t' n' = 0 ∧ t = t' ∧ n = n') ∨ (cmpS t n t' n' = 1 ∧ ltS (t', n') (t, n) = true ∧ ltS (t, n) (t', n') = false) := by
 unfold cmpS orI
 simp only [ltS_iff, ltS_not]
 rcases cmpI_eq t t' with ⟨h, h1⟩ | ⟨h, h1⟩ | ⟨h, h1⟩ <;> rcases cmpI_eq n n' with ⟨g, g1⟩ | ⟨g, g1⟩ | ⟨g, g1⟩ <;> rw [h, g] <;> simp <;> omega
theorem cmpS_neg (t n t' n' : Int) : cmpS t n t' n' < 0 ↔ ltS (t, n) (t', n') = true := by
 rcases cmpS_eq t n t' n' with ⟨h, h1, h2⟩ | ⟨h, h1, h2⟩ | ⟨h, h1, h2⟩ <;> rw [h]
 ·simp [h1]
 ·subst h1; subst h2; simp [ltS]
 ·simp [h2]
theorem cmpS_pos (t n t' n' : Int) : 0 < cmpS t n t' n' ↔ ltS (t', n') (t, n) = true := by
 rcases cmpS_eq t n t' n' with ⟨h, h1, h2⟩ | ⟨h, h1, h2⟩ | ⟨h, h1, h2⟩ <;> rw [h]
 ·simp [h2]
 ·subst h1; subst h2; simp [ltS]
 ·simp [h1]
def stepM (m y : Int × Int) : Int × Int := if ltS m y then y else m
def maxL : List (Int × Int) → Int × Int
 | [] => (0, 0)
 | x :: r => r.foldl stepM x
theorem maxL_take (l : List (Int × Int)) (k : Nat) (y : Int × Int) (h1 : 1 ≤ k) (hy : l[k]? = some y) : maxL (l.take (k + 1)) = stepM (maxL (l.take k)) y := by
 cases l with
 | nil => simp at hy
 | cons x r =>
  obtain ⟨k, rfl⟩ : ∃ j, k = j + 1 := ⟨k - 1, by omega⟩
  rw [List.getElem?_cons_succ] at hy
  simp only [List.take_succ_cons, maxL]
  rw [List.take_add_one, hy]
  simp [List.foldl_append]
theorem maxL_one (l : List (Int × Int)) (y : Int × Int) (hy : l[0]? = some y) : maxL (l.take 1) = y := by
 cases l with
 | nil => simp at hy
 | cons x r => simp at hy; simp [maxL, hy]
end S1
end Go.Proofs.YtgipkikedacmdaaGreat

namespace Go.Proofs.YtgipkikedacmdaaGreat
open Go.Lib renaming hid → hI
namespace S1
open Go.RowKit Go.Sort
def Lst (w : World) (b o : Nat) (l : List (Int × Int)) : Prop := ∀ i x y, l[i]? = some (x, y) → w.cell? ⟨b, o + i * 2, none⟩ = some (.int .i64 x) ∧ w.cell? ⟨b, o + i * 2 + 1, none⟩ = some (.int .i64 y)
def SL (w : World) (a : Option Addr) (l : List (Int × Int)) : Prop := l ≠ [] → ∃ b o, a = some ⟨b, o, none⟩ ∧ b < w.heap.size ∧ Lst w b o l
theorem cell_in {W wr : World} (h : Below W.heap.size W wr) {b o : Nat} {v : Value} (hb : b < W.heap.size) (hc : W.cell? ⟨b, o, none⟩ = some v) : wr.cell? ⟨b, o, none⟩ = some v :=
 (h.cell (p := ⟨b, o, none⟩) hb).trans hc
theorem Lst.later {W wr : World} {b o : Nat} {l : List (Int × Int)} (h : Lst W b o l) (hb : b < W.heap.size) (hw : Below W.heap.size W wr) : Lst wr b o l :=
 fun i x y hi => ⟨cell_in hw hb (h i x y hi).1, cell_in hw hb (h i x y hi).2⟩
theorem SL.later {W wr : World} {a : Option Addr} {l : List (Int × Int)} (h : SL W a l) (hw : Below W.heap.size W wr) : SL wr a l := by
 intro hne
 obtain ⟨b, o, ha, hb, hl⟩ := h hne
 exact ⟨b, o, ha, Nat.lt_of_lt_of_le hb hw.size, hl.later hb hw⟩
theorem ret_bool {a b : Bool} (h : a = b) : Ending.returned (.bool a) = .returned (.bool b) := by rw [h]
theorem ret_int {a b : Int} (h : a = b) : Ending.returned (.int .i64 a) = .returned (.int .i64 b) := by rw [h]
theorem ne_of_lt {l : List (Int × Int)} {k : Nat} (h : k < l.length) : l ≠ [] := by
 rintro rfl
 exact absurd h (Nat.not_lt_zero _)
theorem at_lt {l : List (Int × Int)} {k : Nat} (h : k < l.length) : ∃ x y, l[k]? = some (x, y) := ⟨_, _, List.getElem?_eq_getElem h⟩
def Own2 (w : World) (b : Nat) (x y : Int) : Prop := w.heap[b]? = some (.cells #[.int .i64 x, .int .i64 y] 23 (0, 0))
theorem blAlloc {w x : World} (h : Below w.heap.size w x) (ob : Obj) : Below w.heap.size w (x.alloc ob) := h.alloc h.size ob
theorem blGrown {w x : World} (h : Below w.heap.size w x) (q : Nat) (os : Array Obj) : Below w.heap.size w (grow (x.drewN q) os) := h.trans ((grow_below x q os).mono h.size)
theorem blSet {w x : World} (h : Below w.heap.size w x) {p : Addr} (hp : w.heap.size ≤ p.block) (u : Value) : Below w.heap.size w (x.setCell p u) := h.setCell hp u
theorem blThen {w x y : World} (h : Below w.heap.size w x) (k : Below x.heap.size x y) : Below w.heap.size w y := h.trans (k.mono h.size)
theorem cell_grown {w : World} {a : Addr} {v : Value} (h : w.cell? a = some v) (q : Nat) (os : Array Obj) : (grow (w.drewN q) os).cell? a = some v :=
 ((grow_below w q os).cell (World.block_lt_of_cell? _ _ h)).trans h
theorem free_grown {w : World} {a : Addr} {v : Value} (hc : w.cell? a = some v) (h : w.frozen? a = false) (q : Nat) (os : Array Obj) : (grow (w.drewN q) os).frozen? a = false :=
 ((grow_below w q os).frozen (World.block_lt_of_cell? _ _ hc)).trans h
theorem Own2.set_other {w : World} {b : Nat} {x y : Int} (h : Own2 w b x y) {p : Addr} (hp : b ≠ p.block) (u : Value) : Own2 (w.setCell p u) b x y := (Below.heap_setCell _ _ _ _ hp).trans h
theorem block_setCell {w : World} {b i : Nat} {c : Array Value} {t : TypeId} (h : w.heap[b]? = some (.cells c t (0, 0))) (u : Value) : (w.setCell ⟨b, i, none⟩ u).heap[b]? = some (.cells (c.setIfInBounds i u) t (0, 0)) := by
 have hlt := lt_of_block h
 have h' : w.heap[b] = .cells c t (0, 0) := by simpa [Array.getElem?_eq_getElem hlt] using h
 show (w.heap.modify b _)[b]? = _
 rw [Array.getElem?_eq_getElem (by simpa using hlt), Array.getElem_modify_self, h']
 rfl
theorem Own2.set {w : World} {b : Nat} {x y : Int} (h : Own2 w b x y) (x' y' : Int) : Own2 ((w.setCell ⟨b, 0, none⟩ (.int .i64 x')).setCell ⟨b, 1, none⟩ (.int .i64 y')) b x' y' :=
 block_setCell (block_setCell h (.int .i64 x')) (.int .i64 y')
theorem Own2.lt {w : World} {b : Nat} {x y : Int} (h : Own2 w b x y) : b < w.heap.size := lt_of_block h
theorem Own2.c0 {w : World} {b : Nat} {x y : Int} (h : Own2 w b x y) : w.cell? ⟨b, 0, none⟩ = some (.int .i64 x) := by unfold Own2 at h; simp [World.cell?, h]
theorem Own2.c1 {w : World} {b : Nat} {x y : Int} (h : Own2 w b x y) : w.cell? ⟨b, 1, none⟩ = some (.int .i64 y) := by unfold Own2 at h; simp [World.cell?, h]
theorem Own2.f0 {w : World} {b : Nat} {x y : Int} (h : Own2 w b x y) : w.frozen? ⟨b, 0, none⟩ = false := by unfold Own2 at h; simp [World.frozen?, h]
theorem Own2.f1 {w : World} {b : Nat} {x y : Int} (h : Own2 w b x y) : w.frozen? ⟨b, 1, none⟩ = false := by unfold Own2 at h; simp [World.frozen?, h]
theorem Own2.later {w wr : World} {b B : Nat} {x y : Int} (h : Own2 w b x y) (hb : Below B w wr) (hB : b < B) : Own2 wr b x y := (hb.block b hB).trans h
theorem own2_new (w : World) (x y : Int) : Own2 (w.alloc (Obj.cells #[Value.int IntKind.i64 x, Value.int IntKind.i64 y] 23)) w.heap.size x y := by
 show (w.heap.push _)[w.heap.size]? = _
 simp
theorem own2_new0 (w : World) (x y : Int) (ob : Obj) : Own2 ((w.alloc (Obj.cells #[Value.int IntKind.i64 x, Value.int IntKind.i64 y] 23)).alloc ob) w.heap.size x y :=
 (own2_new w x y).later ((Below.refl _ _).alloc (Nat.le_refl _) _) (by simp)
theorem own2_new1 (w : World) (x y : Int) (ob : Obj) : Own2 ((w.alloc ob).alloc (Obj.cells #[Value.int IntKind.i64 x, Value.int IntKind.i64 y] 23)) (w.heap.size + 1) x y := by
 have h := own2_new (w.alloc ob) x y
 rwa [World.size_alloc] at h
theorem maxfunc_any (a : Option Addr) (cap : Nat) (l : List (Int × Int)) (w : World) (hlen : l.length ≤ 1000000) (hne : l ≠ []) (hl : SL w a l) :
  Calls Tryz.prog 153 #[.slice a l.length cap, .func (.func 120) #[] #[]] w fun e w' => e = .returned (.agg #[.int .i64 (maxL l).1, .int .i64 (maxL l).2]) ∧ Below w.heap.size w w' := by
 obtain ⟨b, o, rfl, hb, hl⟩ := hl hne
 have h0 : 0 < l.length := List.length_pos_iff.2 hne
 obtain ⟨x0, y0, h00⟩ := at_lt h0
 obtain ⟨hx0, hy0⟩ := hl 0 x0 y0 h00
 simp only [Nat.zero_mul, Nat.add_zero] at hx0 hy0
 have H00 := hI h00
 have HL := hI hl
 clear h00 hl
 go_enter Tryz.func153, Tryz.ntmps153
 go_wp2
 have hB0 : Hid (Below w.heap.size w ((w.alloc (Obj.cells #[Value.int IntKind.i64 0, Value.int IntKind.i64 0] 23)).alloc (Obj.cells #[Value.int IntKind.i64 x0, Value.int IntKind.i64 y0] 23))) := ((Below.refl _ _).alloc (Nat.le_refl _) _).alloc (by simp) _
 have hR0 : Own2 ((w.alloc (Obj.cells #[Value.int IntKind.i64 0, Value.int IntKind.i64 0] 23)).alloc (Obj.cells #[Value.int IntKind.i64 x0, Value.int IntKind.i64 y0] 23)) w.heap.size 0 0 := own2_new0 _ _ _ _
 have hM0 : Own2 ((w.alloc (Obj.cells #[Value.int IntKind.i64 0, Value.int IntKind.i64 0] 23)).alloc (Obj.cells #[Value.int IntKind.i64 x0, Value.int IntKind.i64 y0] 23)) (w.heap.size + 1) x0 y0 := own2_new1 _ _ _ _
 generalize (w.alloc (Obj.cells #[Value.int IntKind.i64 0, Value.int IntKind.i64 0] 23)).alloc (Obj.cells #[Value.int IntKind.i64 x0, Value.int IntKind.i64 y0] 23) = W at *
 go_loopw [6] (fun i wr => ∃ k : Nat, 1 ≤ k ∧ k ≤ l.length ∧ i = .int .i64 k ∧ Below w.heap.size w wr ∧ Own2 wr w.heap.size 0 0 ∧ Own2 wr (w.heap.size + 1) (maxL (l.take k)).1 (maxL (l.take k)).2) (fun i _ => l.length - (RowKit.intOf i).toNat)
 case atStart => exact ⟨1, Nat.le_refl _, h0, rfl, hB0.out, hR0, by rw [maxL_one l _ H00.out]; exact hM0⟩
 case round =>
  obtain ⟨k, hk1, hk, rfl, hbel, hR, hM⟩ := hrel
  have HB := hI hbel
  clear hR0 hM0
  obtain ⟨mx, my, hm⟩ : ∃ mx my, maxL (l.take k) = (mx, my) := ⟨_, _, rfl⟩
  rw [hm] at hM
  have HMX := hI hm
  clear hm
  have hr0 := hR.c0
  have hr1 := hR.c1
  have hrf0 := hR.f0
  have hrf1 := hR.f1
  have hm0 := hM.c0
  have hm1 := hM.c1
  have hmf0 := hM.f0
  have hmf1 := hM.f1
  have hsz : w.heap.size + 1 < wr.heap.size := hM.lt
  have HR := hI hR
  have HM := hI hM
  clear hR hM
  by_cases hlt : k < l.length
  ·obtain ⟨x, y, hxy⟩ := at_lt hlt
   obtain ⟨hx, hy⟩ := HL.out.later hb hbel k x y hxy
   have HXY := hI hxy
   clear hxy hbel
   have kx := cell_grown hx
   have ky := cell_grown hy
   have km0 := cell_grown hm0
   have km1 := cell_grown hm1
   have kf0 := free_grown hm0 hmf0
   have kf1 := free_grown hm1 hmf1
   have hpos := cmpS_pos x y mx my
   have hb1 : w.heap.size ≤ wr.heap.size := HB.out.size
   by_cases hgt : ltS (mx, my) (x, y) = true
   ·have hc : 0 < cmpS x y mx my := hpos.2 hgt
    have HGT := hI hgt
    clear hgt hpos
    go_wp2_with fail
    go_region_held3 (fun w' => w'.cell? ⟨b, o + k * 2, none⟩ = some (.int .i64 x) ∧ w'.cell? ⟨b, o + k * 2 + 1, none⟩ = some (.int .i64 y) ∧ w'.cell? ⟨w.heap.size + 1, 0, none⟩ = some (.int .i64 mx) ∧ w'.cell? ⟨w.heap.size + 1, 1, none⟩ = some (.int .i64 my)) (go_keep)
     (first | (go_at_call 120; refine (compare_grow _ _ _ _ _).mono ?_; rintro e w' ⟨rfl, q, os, rfl⟩))
    go_wp2
    go_roundw
    case rel => exact ⟨k + 1, by omega, hlt, by go_num, ((HB.out.trans ((grow_below wr _ _).mono hb1)).setCell (by simp) _).setCell (by simp) _, ((HR.out.later (grow_below wr _ _) (by omega)).set_other (by simp) _).set_other (by simp) _, by
     rw [maxL_take l k _ hk1 HXY.out, HMX.out, stepM, if_pos HGT.out]
     exact (HM.out.later (grow_below wr _ _) (by omega)).set _ _⟩
    case measure => simp [RowKit.intOf]; omega
   ·have hc : ¬ 0 < cmpS x y mx my := fun h => hgt (hpos.1 h)
    have HGT := hI hgt
    clear hgt hpos
    go_wp2_with fail
    go_region_held3 (fun w' => w'.cell? ⟨b, o + k * 2, none⟩ = some (.int .i64 x) ∧ w'.cell? ⟨b, o + k * 2 + 1, none⟩ = some (.int .i64 y) ∧ w'.cell? ⟨w.heap.size + 1, 0, none⟩ = some (.int .i64 mx) ∧ w'.cell? ⟨w.heap.size + 1, 1, none⟩ = some (.int .i64 my)) (go_keep)
     (first | (go_at_call 120; refine (compare_grow _ _ _ _ _).mono ?_; rintro e w' ⟨rfl, q, os, rfl⟩))
    go_wp2
    go_roundw
    case rel => exact ⟨k + 1, by omega, hlt, by go_num, HB.out.trans ((grow_below wr _ _).mono hb1), HR.out.later (grow_below wr _ _) (by omega), by
     rw [maxL_take l k _ hk1 HXY.out, HMX.out, stepM, if_neg HGT.out]
     exact HM.out.later (grow_below wr _ _) (by omega)⟩
    case measure => simp [RowKit.intOf]; omega
  ·have hfin : maxL l = (mx, my) := by
    have := HMX.out
    rwa [List.take_of_length_le (by omega)] at this
   have HF := hI hfin
   clear hfin hbel
   have e0 := (HR.out.set mx my).c0
   have e1 := (HR.out.set mx my).c1
   go_wp2
   exact bodyPost_ret (v := .agg #[.int .i64 mx, .int .i64 my]) (by simp [results, Tryz.results153, go_sem, e0, e1]) rfl ⟨by rw [HF.out], (HB.out.setCell (by simp) _).setCell (by simp) _⟩

def But (b : Nat) (w w' : World) : Prop := w.grownBy w' (some b)
theorem But.refl (b : Nat) (w : World) : But b w w := ⟨rfl, rfl, rfl, Nat.le_refl _, fun _ _ _ => rfl⟩
theorem But.trans {b : Nat} {x y z : World} (h : But b x y) (k : But b y z) : But b x z := ⟨k.os.trans h.os, k.tape.trans h.tape, k.output.trans h.output, Nat.le_trans h.size k.size, fun i hi hn => (k.block i (Nat.lt_of_lt_of_le hi h.size) hn).trans (h.block i hi hn)⟩
theorem But.set (b i : Nat) (w : World) (u : Value) : But b w (w.setCell ⟨b, i, none⟩ u) := ⟨rfl, rfl, rfl, by simp, fun k _ hn => Below.heap_setCell _ _ _ _ (fun e => hn (by rw [e]))⟩
theorem But.of_below {b : Nat} {w w' : World} (h : Below w.heap.size w w') : But b w w' := ⟨h.os, h.tape, h.output, h.size, fun i hi _ => h.block i hi⟩
theorem But.below {b B : Nat} {x y z : World} (h : Below B x y) (k : But b y z) (hb : B ≤ b) (hB : B ≤ y.heap.size) : Below B x z := h.grown k hB (fun j hj => by simp at hj; omega)
theorem Own2.but {w wr : World} {b c : Nat} {x y : Int} (h : Own2 w b x y) (hb : But c w wr) (hne : b ≠ c) : Own2 wr b x y := (hb.block b h.lt (by simpa using hne)).trans h
theorem But.alloc {b : Nat} {w x : World} (h : But b w x) (ob : Obj) : But b w (x.alloc ob) := h.trans (But.of_below ((Below.refl _ _).alloc (Nat.le_refl _) _))
theorem But.grown {b : Nat} {w x : World} (h : But b w x) (q : Nat) (os : Array Obj) : But b w (grow (x.drewN q) os) := h.trans (But.of_below (grow_below x q os))
theorem But.drew {b : Nat} {w x : World} (h : But b w x) : But b w x.drew := ⟨h.os, h.tape, h.output, h.size, h.block⟩
theorem But.drewN {b : Nat} {w x : World} (h : But b w x) (n : Nat) : But b w (x.drewN n) := ⟨h.os, h.tape, h.output, h.size, h.block⟩

theorem max_any (a : Option Addr) (cap : Nat) (l : List (Int × Int)) (w : World) (hlen : l.length ≤ 1000000) (hl : SL w a l) :
  Calls Tryz.prog 83 #[.slice a l.length cap] w fun e w' => e = .returned (.agg #[.int .i64 (maxL l).1, .int .i64 (maxL l).2]) ∧ Below w.heap.size w w' := by
 by_cases hne : l = []
 ·subst hne
  show Calls Tryz.prog 83 #[.slice a 0 cap] w fun e w' => e = .returned (.agg #[.int .i64 0, .int .i64 0]) ∧ Below w.heap.size w w'
  go_enter Tryz.func83, Tryz.ntmps83
  go_wp2
  exact bodyPost_ret (v := .agg #[.int .i64 0, .int .i64 0]) (by simp [results, Tryz.results83, go_sem]) rfl ⟨rfl, (Below.refl _ _).alloc (Nat.le_refl _) _⟩
 ·have hpos : 0 < l.length := List.length_pos_iff.2 hne
  have hC := fun W (hb : Below w.heap.size w W) => maxfunc_any a cap l W hlen hne (hl.later hb)
  have HC := hI hC
  clear hC hl
  obtain ⟨mx, my, hm⟩ : ∃ mx my, maxL l = (mx, my) := ⟨_, _, rfl⟩
  rw [hm] at HC ⊢
  clear hm hne
  go_enter Tryz.func83, Tryz.ntmps83
  go_wp2_with fail
  have hB0 : Below w.heap.size w (w.alloc (Obj.cells #[Value.int IntKind.i64 0, Value.int IntKind.i64 0] 23)) := (Below.refl _ _).alloc (Nat.le_refl _) _
  have hR0 := own2_new w 0 0
  generalize w.alloc (Obj.cells #[Value.int IntKind.i64 0, Value.int IntKind.i64 0] 23) = W at *
  refine (HC.out W hB0).mono ?_
  rintro e w' ⟨rfl, hb⟩
  have hR1 := hR0.later hb hR0.lt
  have r0 := hR1.c0
  have r1 := hR1.c1
  have rf0 := hR1.f0
  have rf1 := hR1.f1
  have e0 := (hR1.set mx my).c0
  have e1 := (hR1.set mx my).c1
  have HF := hI ((hB0.trans (hb.mono hB0.size)).setCell (p := ⟨w.heap.size, 0, none⟩) (Nat.le_refl _) (.int .i64 mx) |>.setCell (p := ⟨w.heap.size, 1, none⟩) (Nat.le_refl _) (.int .i64 my))
  clear hR0 hR1 hB0 hb
  go_wp2
  exact bodyPost_ret (v := .agg #[.int .i64 mx, .int .i64 my]) (by simp [results, Tryz.results83, go_sem, e0, e1]) rfl ⟨rfl, HF.out⟩
def okS (s : Int × Int) : Bool := decide (s = (0, 0)) || isS s
end S1
end Go.Proofs.YtgipkikedacmdaaGreat

namespace Go.Proofs.YtgipkikedacmdaaGreat
namespace S1
theorem ltS_irrefl (a : Int × Int) : ltS a a = false := by simp [ltS]
theorem ltS_trans {a b c : Int × Int} (h : ltS a b = true) (k : ltS b c = true) : ltS a c = true := by simp only [ltS_iff] at *; omega
def SS (l : List (Int × Int)) : Prop := l.Pairwise fun a b => ltS a b = true
end S1
end Go.Proofs.YtgipkikedacmdaaGreat

set_option linter.unusedVariables false
namespace Go.Proofs.YtgipkikedacmdaaGreat
open S1
namespace SD
abbrev Dd := List (Int × List (Int × Int))
def risB : List (Int × Int) → Bool
 | x :: y :: r => ltS x y && risB (y :: r)
 | _ => true
theorem risB_iff : ∀ {l : List (Int × Int)}, risB l = true ↔ SS l := by
 intro l
 induction l with
 | nil => exact ⟨fun _ => List.Pairwise.nil, fun _ => rfl⟩
 | cons x r ih =>
  cases r with
  | nil => exact ⟨fun _ => List.pairwise_singleton _ _, fun _ => rfl⟩
  | cons y r =>
   unfold risB
   rw [Bool.and_eq_true, ih]
   constructor
   ·rintro ⟨h1, h2⟩
    refine List.pairwise_cons.2 ⟨fun z hz => ?_, h2⟩
    rcases List.mem_cons.1 hz with rfl | hz
    ·exact h1
    ·exact ltS_trans h1 ((List.pairwise_cons.1 h2).1 z hz)
   ·intro h
    obtain ⟨h1, h2⟩ := List.pairwise_cons.1 h
    exact ⟨h1 y (by simp), h2⟩
def idsN (d : Dd) : Nat := (d.map fun x => x.2.length).sum
def depsF : Int → Dd → Bool
 | _, [] => true
 | p, x :: r => decide (p < x.1) && (decide (x.1 < 8) && (risB x.2 && (x.2.all isS && depsF x.1 r)))
def checkD (d : Dd) : Int := if 8 < d.length ∨ 512 < idsN d then 6 else if depsF (-1) d = true then 0 else 60
theorem idsN_cons (x : Int × List (Int × Int)) (r : Dd) : idsN (x :: r) = x.2.length + idsN r := by simp [idsN]
theorem idsN_append (a b : Dd) : idsN (a ++ b) = idsN a + idsN b := by simp [idsN]
theorem idsN_take {d : Dd} {k : Nat} {x : Int × List (Int × Int)} (h : d[k]? = some x) : idsN (d.take (k + 1)) = idsN (d.take k) + x.2.length := by
 rw [List.take_add_one, h, idsN_append]
 simp [idsN]
theorem idsN_mem {d : Dd} {x : Int × List (Int × Int)} (h : x ∈ d) : x.2.length ≤ idsN d := by
 induction d with
 | nil => cases h
 | cons y r ih =>
  rw [idsN_cons]
  rcases List.mem_cons.1 h with rfl | h
  ·omega
  ·have := ih h
   omega
def getD : Dd → Int → List (Int × Int)
 | [], _ => []
 | x :: r, s => if x.1 = s then x.2 else getD r s
def withoutD (d : Dd) (X : List (Int × Int)) : Dd := d.map fun x => (x.1, x.2.filter fun i => !X.contains i)

def Sh (d : Dd) (t : Int) : Prop := ∃ x ∈ d, x.1 = t
end SD
end Go.Proofs.YtgipkikedacmdaaGreat

namespace Go.Proofs.YtgipkikedacmdaaGreat
namespace S1
open Go.RowKit Go.Sort
structure Aft (w : World) where
 x : World
 h : Below w.heap.size w x
instance Aft.some (w : World) : Nonempty (Aft w) := ⟨⟨w, Below.refl _ _⟩⟩
theorem Aft.cell {w : World} (y : Aft w) (n i : Nat) (hn : n < w.heap.size) : y.x.cell? ⟨n, i, none⟩ = w.cell? ⟨n, i, none⟩ := y.h.cell (p := ⟨n, i, none⟩) hn
theorem Aft.frozen {w : World} (y : Aft w) (n i : Nat) (hn : n < w.heap.size) : y.x.frozen? ⟨n, i, none⟩ = w.frozen? ⟨n, i, none⟩ := y.h.frozen (p := ⟨n, i, none⟩) hn
theorem Aft.lt {w : World} (y : Aft w) (n : Nat) (hn : n < w.heap.size) : n < y.x.heap.size := Nat.lt_of_lt_of_le hn y.h.size
attribute [go_sem] Aft.cell Aft.frozen
theorem region_aft {P : Program} {id : Nat} {Q : Exit → Act → World → Prop} {a : Act} {w : World} {l : List Oper} (hm : P.follows .mixedOrders = true) (hB : Region.lexB .any l.toArray = true)
  (h : wpQuiet P l.toArray (fun w' => ∃ y : Aft w, w' = y.x) (fun a' => ∀ w', (∃ y : Aft w, w' = y.x) → Q .normal a' w') l a) : (Code.region id l.toArray true).wp P Q a w :=
 wp_region_quiet (C := fun w' => ∃ y : Aft w, w' = y.x) hm hB ⟨⟨{ w with drawn := w.drawn + 1 }, ⟨rfl, rfl, rfl, Nat.le_refl _, fun _ _ => rfl⟩⟩, rfl⟩ (by simpa using h)
theorem aft_of {P : Program} {f : FuncId} {args : Array Value} {w : World} {y : Aft w} {v : Value} (h : Calls P f args y.x fun e w' => e = .returned v ∧ Below y.x.heap.size y.x w') :
  Calls P f args y.x fun e w'' => e = .returned v ∧ ∃ z : Aft w, w'' = z.x :=
 h.mono fun _ w'' ⟨he, hb⟩ => ⟨he, ⟨w'', blThen y.h hb⟩, rfl⟩
theorem aft_grown {P : Program} {f : FuncId} {args : Array Value} {w : World} {y : Aft w} {v : Value} (h : Calls P f args y.x fun e w' => e = .returned v ∧ ∃ q os, w' = grow (y.x.drewN q) os) :
  Calls P f args y.x fun e w'' => e = .returned v ∧ ∃ z : Aft w, w'' = z.x :=
 h.mono fun _ w'' ⟨he, q, os, hw⟩ => ⟨he, ⟨w'', by rw [hw]; exact blGrown y.h q os⟩, rfl⟩
theorem aft_same {P : Program} {f : FuncId} {args : Array Value} {w : World} {y : Aft w} {v : Value} (h : Calls P f args y.x fun e w' => e = .returned v ∧ y.x = w') :
  Calls P f args y.x fun e w'' => e = .returned v ∧ ∃ z : Aft w, w'' = z.x :=
 h.mono fun _ _ ⟨he, hw⟩ => ⟨he, y, hw.symm⟩
end S1
end Go.Proofs.YtgipkikedacmdaaGreat
