/- The arguments of this stage's laws, opened: lists of spans, texts, lists of texts; from a walk to a row, the form's own reach handed to the walk. Conditions: none. -/
import Derived.Test.YtopogdfmbdbimaaKq
import Derived.Test.YtopogdfmbdbimaaKr
import Derived.Test.YtopogdfmbdbimaaKe
import Derived.Test.YtopogdfmbdbimaaProg
import Derived.Test.YtopogdfmbdbimaaRows
import Derived.Lib.SmallJoins
import Derived.Deep.Slices
import Derived.Deep.Fields
import Derived.Deep.Strs
import Derived.ChangeSlices
import Derived.ChangeMaps5
import Derived.SizedLaws
namespace Go.Proofs.Ytopogdfmbdbimaa
open Go.ChangeShapes Go.WideShapes Go.ChangeAt Go.RowKit Go.Joins Go.Deep

theorem cellsSp : Try.prog.cellsOf 38 = 2 := by kernel_rfl
theorem cells_str : Try.prog.cellsOf 9 = 1 := by kernel_rfl

section
variable {H : Type} {enc : TypeId × Value → H}
theorem addr_plain {w : World} {a : Addr} {v : Value} (h : w.cell? a = some v) : ∃ b o, a = ⟨b, o, none⟩ := by
  obtain ⟨b, o, s⟩ := a
  have hs : s = none := World.cell?_spot h
  subst hs
  exact ⟨b, o, rfl⟩
/-- Cells behind an address, at a list of values. -/
theorem at_addr {w : World} {a : Addr} {n : Nat} {V : Nat → Value} (h : ∀ i, i < n → w.cell? (a.add i) = some (V i)) (hn : 0 < n) : ∃ b o, a = ⟨b, o, none⟩ ∧ b < w.heap.size ∧ ∀ i, i < n → w.cell? ⟨b, o + i, none⟩ = some (V i) := by
  have h0 := h 0 hn
  have e : a.add 0 = a := by unfold Addr.add; split <;> simp_all
  rw [e] at h0
  obtain ⟨b, o, rfl⟩ := addr_plain h0
  refine ⟨b, o, rfl, World.block_lt_of_cell? _ _ h0, fun i hi => ?_⟩
  have := h i hi
  rwa [Go.WideShapes.add_plain] at this


end

end Go.Proofs.Ytopogdfmbdbimaa
