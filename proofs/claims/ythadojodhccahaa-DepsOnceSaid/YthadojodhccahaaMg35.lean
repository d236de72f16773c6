/- The reference's Lay of Deps. Conditions: lists of at most a million, with a million stamps in all. -/
import Derived.Test.YthadojodhccahaaMg34
import Derived.Test.YthadojodhccahaaMg21
/- The reference's Lay of Deps. Conditions: lists of at most a million, with a million stamps in all. -/
set_option linter.unusedVariables false
namespace Go.Proofs.Ythadojodhccahaa
open S1
namespace SD
open Go.RowKit

/-- The bytes of one; of all. -/
def lay1 (x : Int × List (Int × Int)) : List UInt8 := S2.i8 x.1 ++ S2.sts x.2
def layF (d : Dd) : List UInt8 := d.flatMap lay1
def layD (d : Dd) : List UInt8 := S2.i8 d.length ++ layF d
theorem sts_len (l : List (Int × Int)) : (S2.sts l).length = 8 + 16 * l.length := by
  unfold S2.sts
  rw [List.length_append, S2.i8_length, S2.flat_length S2.st 16 S2.st_length]
theorem layF_len (d : Dd) : (layF d).length = 16 * d.length + 16 * idsN d := by
  unfold layF
  induction d with
  | nil => rfl
  | cons x r ih =>
    rw [List.flatMap_cons, List.length_append, ih, idsN_cons, List.length_cons]
    unfold lay1
    rw [List.length_append, S2.i8_length, sts_len]
    omega
theorem layF_take {l : List Dp} {k : Nat} {s : Dp} (h : l[k]? = some s) : layF ((toD l).take (k + 1)) = layF ((toD l).take k) ++ (S2.i8 s.sh ++ S2.sts s.ids) := by
  unfold layF
  rw [List.take_add_one, toD_at h, List.flatMap_append]
  simp [lay1]
/-- Stamps that lay there before the row did. -/
theorem sl_two {w0 w : World} {g : Option Nat} {a : Option Addr} {xs : List (Int × Int)} (h : SL w0 a xs) (hb : Below w0.heap.size w0 w) (hg : ∀ k, g = some k → w0.heap.size ≤ k) : ∃ g2, S2.SL w g2 a xs ∧ g ≠ some g2 := by
  by_cases hne : xs = []
  · refine ⟨g.getD 0 + 1, fun h => absurd hne h, ?_⟩
    cases g <;> simp
  · obtain ⟨b, o, ha, hlt, hl⟩ := h hne
    exact ⟨b, fun _ => ⟨o, ha, fun j x y hx => ⟨cell_in hb hlt (hl j x y hx).1, cell_in hb hlt (hl j x y hx).2⟩⟩, fun e => by have := hg b e; omega⟩
theorem row_ge {B : Nat} {g g' : Option Nat} {w w' : World} (h : S2.RowStep g g' w w') (hB : B ≤ w.heap.size) (hg : ∀ k, g = some k → B ≤ k) : ∀ k, g' = some k → B ≤ k := by
  intro k hk
  rcases h.row with e | e
  · exact hg k (e ▸ hk)
  · exact Nat.le_trans hB (e k hk)

end SD
end Go.Proofs.Ythadojodhccahaa
