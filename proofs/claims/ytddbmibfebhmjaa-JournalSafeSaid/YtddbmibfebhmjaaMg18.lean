/- Lists of numbers of the call's own: sorted, compacted; slices.Sorted of slices.Values, of maps.Keys. Conditions: lists of at most a million numbers. -/
import Derived.Sort.OwnSortedInts
import Derived.Lib.RowBridge
import Derived.Test.YtddbmibfebhmjaaMg17
import Derived.Test.YtddbmibfebhmjaaMg14
import Derived.Test.YtddbmibfebhmjaaMg15
set_option maxRecDepth 100000
set_option maxHeartbeats 16000000
set_option linter.unusedVariables false
namespace Go.Proofs.Ytddbmibfebhmjaa
open S3 S4
namespace S5
open Go.RowKit Go.Sort Go.Shelf Go.Maps
def sortL (l : List Int) : List Int := l.mergeSort fun x y => decide (x ≤ y)
theorem sortL_length (l : List Int) : (sortL l).length = l.length := List.length_mergeSort _
theorem OwnI.cases {w : World} {base : Nat} {v : Value} {l : List Int} (h : OwnI w base v l) :
  (v = .slice none 0 0 ∧ l = []) ∨ ∃ g cap cur, v = .slice (some ⟨g, 0, none⟩) l.length cap ∧ base ≤ g ∧ w.heap[g]? = some (.cells cur 3 (0, 0)) ∧ l.length ≤ cap ∧ cap ≤ maxLen ∧ cur.size = cap * 1 ∧ cur.toList.take l.length = l.map (Value.int .i64) := by
 obtain ⟨h1, ⟨rfl, hl⟩ | ⟨g, cap, cur, hv, hg, hh, hn, hm, hs, hx⟩⟩ := h
 ·exact .inl ⟨rfl, List.eq_nil_of_length_eq_zero hl⟩
 ·rw [Nat.mul_one] at hx
  exact .inr ⟨g, cap, cur, hv, hg, hh, hn, hm, hs, hx⟩
theorem sortI_any (base : Nat) (v : Value) (l : List Int) (w : World) (hlen : l.length ≤ 1000000) (hown : OwnI w base v l) :
  Calls Try.prog 74 #[v] w fun e w' => e = .returned (.tuple #[]) ∧ OwnI w' base v (sortL l) ∧ w.grownBy w' v.ownBlock := by
 rcases OwnI.cases hown with ⟨rfl, rfl⟩ | ⟨g, cap, cur, rfl, hg, hh, hn, hm, hs, hx⟩
 ·refine (Any.slices_Sort_int_none (ρ := Try.sortI_ren) Try.sortI none 0 w).mono ?_
  rintro e w' ⟨rfl, rfl⟩
  exact ⟨rfl, by simpa [sortL] using hown, grown_refl _ _⟩
 ·refine (Any.slices_Sort_int (ρ := Try.sortI_ren) Try.sortI g 0 cap l w (holds_of_blockI hh hx) (lt_of_block hh) (by omega)).mono ?_
  rintro e w' ⟨rfl, n, os, rfl⟩
  refine ⟨rfl, ?_, grownBy_sortedI _⟩
  have h := ownsRow_sortedI (n := n) (os := os) (ss := l) (ts := sortL l) (sortL_length l) hg hh hn hm hs
  show World.ownsRow _ _ _ _ _ _ _
  rw [sortL_length]
  exact h
theorem sortedI_any (f : Value) (S : List Int → Prop) (w : World) (hS : ∀ r, S r → r.length ≤ 1000000)
  (hcol : Calls Try.prog 86 #[.slice none 0 0, f] w fun e w' => ∃ v r, e = .returned v ∧ S r ∧ OwnI w' w.heap.size v r ∧ Below w.heap.size w w') :
  Calls Try.prog 61 #[f] w fun e w' => ∃ v r, e = .returned v ∧ S r ∧ OwnI w' w.heap.size v (sortL r) ∧ Below w.heap.size w w' := by
 have HC : Calls Try.prog 73 #[f] w fun e w' => ∃ v r, e = .returned v ∧ S r ∧ OwnI w' w.heap.size v r ∧ Below w.heap.size w w' := by
  have H := Lib.hid hcol
  clear hcol
  go_enter Try.func73, Try.ntmps73
  go_wp2_with (go_at_call 86; refine H.out.mono ?_; rintro e w' ⟨v, r, rfl, hs, ho, hb⟩)
  go_ret
  exact ⟨v, r, rfl, hs, ho, hb⟩
 have HC := Lib.hid HC
 clear hcol
 have HS := Lib.hid hS
 clear hS
 go_enter Try.func61, Try.ntmps61
 go_wp2_with (first
  | (go_at_call 73; refine HC.out.mono ?_; rintro e w1 ⟨v, r, rfl, hs, ho, hb⟩; have HS1 := Lib.hid hs; have HO := Lib.hid ho; have HB := Lib.hid hb; clear hs ho hb)
  | (go_at_call 74; refine (sortI_any w.heap.size _ r _ (HS.out r HS1.out) HO.out).mono ?_; rintro e w2 ⟨rfl, h1, h2⟩; have H1 := Lib.hid h1; have H2 := Lib.hid (grown_belowI HB.out HO.out (Nat.le_refl _) HB.out.size h2); clear h1 h2))
 go_ret
 exact ⟨v, r, rfl, HS1.out, H1.out, H2.out⟩
theorem sortL_mem (l : List Int) (x : Int) : x ∈ sortL l ↔ x ∈ l := List.mem_mergeSort
theorem sortL_rises (l : List Int) : (sortL l).Pairwise (· ≤ ·) := by
 have h := List.pairwise_mergeSort (le := fun x y : Int => decide (x ≤ y)) (fun a b c h1 h2 => by simp at *; omega) (fun a b => by simp; omega) l
 exact h.imp fun h => by simpa using h
theorem rises_uniq : ∀ {l m : List Int}, l.Pairwise (· < ·) → m.Pairwise (· < ·) → (∀ x, x ∈ l ↔ x ∈ m) → l = m := by
 intro l
 induction l with
 | nil =>
  intro m _ _ h
  cases m with
  | nil => rfl
  | cons y m => exact absurd ((h y).2 (by simp)) (by simp)
 | cons x l ih =>
  intro m hl hm h
  cases m with
  | nil => exact absurd ((h x).1 (by simp)) (by simp)
  | cons y m =>
   rw [List.pairwise_cons] at hl hm
   have e : x = y := by
    have h1 : x ∈ y :: m := (h x).1 (by simp)
    have h2 : y ∈ x :: l := (h y).2 (by simp)
    rcases List.mem_cons.1 h1 with h1 | h1
    ·exact h1
    ·rcases List.mem_cons.1 h2 with h2 | h2
     ·exact h2.symm
     ·have := hm.1 x h1
      have := hl.1 y h2
      omega
   subst e
   congr 1
   refine ih hl.2 hm.2 fun z => ⟨fun hz => ?_, fun hz => ?_⟩
   ·rcases List.mem_cons.1 ((h z).1 (by simp [hz])) with e | e
    ·have := hl.1 z hz
     omega
    ·exact e
   ·rcases List.mem_cons.1 ((h z).2 (by simp [hz])) with e | e
    ·have := hm.1 z hz
     omega
    ·exact e
theorem strict_of {l : List Int} (h : l.Pairwise (· ≤ ·)) (hn : l.Nodup) : l.Pairwise (· < ·) := by
 rw [List.nodup_iff_pairwise_ne] at hn
 exact (h.and hn).imp fun {a b} h => by
  have := h.1
  have := h.2
  omega
end S5
end Go.Proofs.Ytddbmibfebhmjaa
