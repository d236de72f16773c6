/- What an iterator over spans gives, collected: the list of just these spans, in their order, in a block of the call's own; Cut. Conditions: lists of at most a million spans. -/
import Derived.Test.YtkgfpppbpjinaaaKe
import Derived.Maps.AppendAt
namespace Go.Proofs.Ytkgfpppbpjinaaa
open Go.RowKit Go.Sort Go.Shelf
attribute [local go_sem] Oper.semAt_some

theorem box2_own {β : Type} (B : Nat) (s : Sp) : Own (fun (_ : β) W => Box2 W B s) := fun _ X Y row hs hg hrow =>
  (hg.block B hs.lt (fun e' => by obtain ⟨o, ho, hc⟩ := hrow B e'.symm; rw [show X.heap[B]? = _ from hs] at ho; cases ho; cases hc)).trans hs

theorem box2_cells {W : World} {b : Nat} {s : Sp} (h : Box2 W b s) : ∀ (j : Nat) (u : Value), (cellsL [s])[j]? = some u → W.cell? ((⟨b, 0, none⟩ : Addr).add j) = some u := by
  obtain ⟨a, c, hv, _, hr⟩ := one_sl h 1
  obtain ⟨g, o, ha, _, hrow⟩ := hr (by simp)
  simp only [Value.slice.injEq] at hv
  obtain ⟨rfl, _, _⟩ := hv
  simp only [Option.some.injEq, Addr.mk.injEq, and_true] at ha
  obtain ⟨rfl, rfl⟩ := ha
  exact hrow.cells
/-- The values that AppendSeq's frame holds in a round. -/
def apAct (g : Nat) (lb : Array Value) (Bs Bx : Nat) (s : Sp) : Act := { tmps := #[.slice none 0 0, .func (.func g) #[] lb, .pointer (some ⟨Bs, 0, none⟩), undef, .slice none 0 0, .pointer (some ⟨Bx, 0, none⟩), .func (.func g) #[] lb, .agg #[.string s.1, .string s.2], undef, undef, undef, undef, undef], defers := [] }

end Go.Proofs.Ytkgfpppbpjinaaa
