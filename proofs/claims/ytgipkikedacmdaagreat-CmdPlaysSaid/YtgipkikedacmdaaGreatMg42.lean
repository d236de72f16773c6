/- Eval of package txn. Conditions: at most ten thousand ops, a hundred thousand pairs. -/
import Derived.Sort.Grow
import Derived.Deep.RegionHeld3
import Derived.Test.YtgipkikedacmdaaGreatProg
import Derived.Sort.OwnSorted
import Derived.Lib.RowBridge
import Derived.WalkSpells
import Derived.Deep.QuietTactic
import Derived.Maps.AppendAt
import Derived.Test.YtgipkikedacmdaaGreatMg41
import Derived.Test.YtgipkikedacmdaaGreatMg06
import Derived.Test.YtgipkikedacmdaaGreatMg05
set_option maxRecDepth 100000
set_option maxHeartbeats 16000000
set_option linter.unusedVariables false
namespace Go.Proofs.YtgipkikedacmdaaGreat
open S3 SN
namespace SP
open Go.RowKit
open Go.Sort (grow grow_grow alloc_eq_grow)
def tb (ks : List ByteArray) : List (List UInt8) := ks.map fun k => k.data.toList
theorem OwnT.cases {w : World} {base : Nat} {v : Value} {l : List ByteArray} (h : OwnT w base v l) :
  (v = .slice none 0 0 ∧ l = []) ∨ ∃ g cap cur, v = .slice (some ⟨g, 0, none⟩) l.length cap ∧ base ≤ g ∧ w.heap[g]? = some (.cells cur 9 (0, 0)) ∧ l.length ≤ cap ∧ cap ≤ maxLen ∧ cur.size = cap * 1 ∧ cur.toList.take l.length = cellsT l := by
 obtain ⟨h1, ⟨rfl, hl⟩ | ⟨g, cap, cur, hv, hg, hh, hn, hm, hs, hx⟩⟩ := h
 ·exact .inl ⟨rfl, List.eq_nil_of_length_eq_zero hl⟩
 ·exact .inr ⟨g, cap, cur, hv, hg, hh, hn, hm, hs, by rw [Nat.mul_one] at hx; exact hx⟩
end SP
end Go.Proofs.YtgipkikedacmdaaGreat

set_option linter.unusedSimpArgs false
namespace Go.Proofs.YtgipkikedacmdaaGreat
open S3 SN
namespace SP
open Go.ChangeShapes Go.WideShapes Go.ChangeAt Go.RowKit Go.Joins Go.Deep
theorem cells_four {Y : World} {k : Nat} {x0 x1 x2 x3 : Value} {T : TypeId} (h : Y.heap[k]? = some (.cells #[x0, x1, x2, x3] T (0, 0))) :
  Y.cell? ⟨k, 0, none⟩ = some x0 ∧ Y.cell? ⟨k, 1, none⟩ = some x1 ∧ Y.cell? ⟨k, 2, none⟩ = some x2 ∧ Y.cell? ⟨k, 3, none⟩ = some x3 := by
 simp only [World.cell?, h]
 exact ⟨rfl, rfl, rfl, rfl⟩

theorem opW_small {d : Al Nat} {o : Opr} (ho : okB o = true) : ∀ x ∈ opW d o, x.1.size ≤ 16 := by
 obtain ⟨_, hky, _, h6, _⟩ := ok_kd ho
 have h1 := key_len hky
 intro x hx
 unfold opW at hx
 by_cases e3 : o.1 = 3
 ·rw [if_pos e3, List.mem_singleton] at hx; subst hx; exact h1
 rw [if_neg e3] at hx
 by_cases e4 : o.1 = 4
 ·rw [if_pos e4, List.mem_singleton] at hx; subst hx; exact h1
 rw [if_neg e4] at hx
 by_cases e5 : o.1 = 5
 ·rw [if_pos e5, List.mem_singleton] at hx; subst hx; exact h1
 rw [if_neg e5] at hx
 by_cases e6 : o.1 = 6
 ·rw [if_pos e6] at hx
  by_cases em : movB d o = true
  ·rw [if_pos em] at hx
   simp only [List.mem_cons, List.not_mem_nil, or_false] at hx
   rcases hx with rfl | rfl
   ·exact h1
   ·exact key_len (h6 e6).1
  ·rw [if_neg em] at hx; cases hx
 ·rw [if_neg e6] at hx; cases hx
theorem evalL_small : ∀ (l : List Opr) (d : Al Nat), (∀ o ∈ l, okB o = true) → ∀ x ∈ evalL d l, x.1.size ≤ 16
 | [], _, _, x, hx => by cases hx
 | o :: l, d, h, x, hx => by
  rcases List.mem_append.1 (show x ∈ opW d o ++ evalL (applyP d (opW d o)) l from hx) with h1 | h1
  ·exact opW_small (h o (by simp)) x h1
  ·exact evalL_small l _ (fun o ho => h o (by simp [ho])) x h1
end SP
end Go.Proofs.YtgipkikedacmdaaGreat
