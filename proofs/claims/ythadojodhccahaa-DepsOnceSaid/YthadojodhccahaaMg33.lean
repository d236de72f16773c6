/- The reference's Below, Only, Without of Deps; lists of numbers in memory. Conditions: lists of at most a million. -/
import Derived.Deep.RegionHeld3
import Derived.Deep.RegionLaw
import Derived.Deep.AppendLies
import Derived.Test.YthadojodhccahaaMg32
/- The reference's Below, Only, Without of Deps; lists of numbers in memory. Conditions: lists of at most a million. -/
set_option linter.unusedVariables false
namespace Go.Proofs.Ythadojodhccahaa
open S1
namespace SD
open Go.RowKit

theorem dl_mem {w : World} {a : Option Addr} {l : List Dp} (h : Dl w a l) {s : Dp} (hs : s ∈ l) : IdsAt w s := h.1 s hs
/-- One Dep that has just been laid. -/
theorem one_newD (X : World) (s : Dp) (n : Nat) (h : X.heap.size = n) : RowD (X.alloc (.cells #[.int .i64 s.sh, ilD s] 35)) n 0 [s] := by
  subst h
  have hb : (X.alloc (.cells #[.int .i64 s.sh, ilD s] 35)).heap[X.heap.size]? = some (.cells #[.int .i64 s.sh, ilD s] 35 (0, 0)) := by
    show (X.heap.push _)[X.heap.size]? = _
    simp
  intro i x hi
  cases i with
  | zero =>
    simp only [List.getElem?_cons_zero, Option.some.injEq] at hi
    subst hi
    exact ⟨by simp only [World.cell?, hb]; simp, by simp only [World.cell?, hb]; simp⟩
  | succ i => simp at hi
theorem grown_belowD {B base : Nat} {x w w' : World} {v : Value} {d : List Dp} (h : Below B x w) (hown : OwnD w base v d) (hB : B ≤ base) (hw : B ≤ w.heap.size) (hg : w.grownBy w' v.ownBlock) : Below B x w' :=
  h.grown hg hw (fun k hk => Nat.le_trans hB (hown.block k hk).1)
/-- The numbers of l lie at a. -/
def Nl (w : World) (a : Option Addr) (l : List Int) : Prop := l ≠ [] → ∃ g o, a = some ⟨g, o, none⟩ ∧ g < w.heap.size ∧ ∀ (i : Nat) x, l[i]? = some x → w.cell? ⟨g, o + i, none⟩ = some (.int .i64 x)
theorem Nl.later {W wr : World} {a : Option Addr} {l : List Int} (h : Nl W a l) (hw : Below W.heap.size W wr) : Nl wr a l := by
  intro hne
  obtain ⟨g, o, ha, hg, hl⟩ := h hne
  exact ⟨g, o, ha, Nat.lt_of_lt_of_le hg hw.size, fun i x hi => cell_in hw hg (hl i x hi)⟩
theorem Nl.at {w : World} {a : Option Addr} {l : List Int} (h : Nl w a l) {k : Nat} {x : Int} (hx : l[k]? = some x) : ∃ g o, a = some ⟨g, o, none⟩ ∧ g < w.heap.size ∧ w.cell? ⟨g, o + k, none⟩ = some (.int .i64 x) := by
  obtain ⟨g, o, ha, hg, hl⟩ := h (by rintro rfl; simp at hx)
  exact ⟨g, o, ha, hg, hl k x hx⟩
/-- Those of these shards. -/
def onlyP (P : List Int) (s : Dp) : Bool := P.any (· == s.sh)
theorem toD_only (l : List Dp) (P : List Int) : toD (l.filter (onlyP P)) = onlyD (toD l) P := by
  unfold toD onlyD
  rw [List.filter_map]
  rfl
theorem filterP_take (p : Dp → Bool) {l : List Dp} {k : Nat} {x : Dp} (h : l[k]? = some x) : (l.take (k + 1)).filter p = (l.take k).filter p ++ if p x = true then [x] else [] := by
  rw [List.take_add_one, h, List.filter_append]
  cases h : p x <;> simp [h]
theorem any_take_n {P : List Int} {j : Nat} {x s : Int} (h : P[j]? = some x) (hn : (P.take j).any (· == s) = false) (hne : x ≠ s) : (P.take (j + 1)).any (· == s) = false := by
  rw [List.take_add_one, h, List.any_append, hn]
  simpa using hne
theorem any_hit {P : List Int} {j : Nat} {s : Int} (h : P[j]? = some s) : P.any (· == s) = true := List.any_eq_true.2 ⟨s, List.mem_of_getElem? h, by simp⟩

end SD
end Go.Proofs.Ythadojodhccahaa
