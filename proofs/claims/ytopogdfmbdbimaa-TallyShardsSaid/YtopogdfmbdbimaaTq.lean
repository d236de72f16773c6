/- live of the law: two shards. Conditions: none. -/
import Derived.Test.YtopogdfmbdbimaaTn
set_option linter.unusedVariables false
namespace Go.Proofs.Ytopogdfmbdbimaa
open Go.RowKit

def tM : ByteArray := ⟨#[109]⟩
def tK : ByteArray := ⟨#[107]⟩
def twoL (A B : Nat) : List Sh := [⟨(⟨#[]⟩, tM), some ⟨A, 0, none⟩, 3, [1, 2, 3]⟩, ⟨(tM, ⟨#[]⟩), some ⟨B, 0, none⟩, 3, [3, 4, 5]⟩]
theorem two_topo (A B : Nat) : topoB (twoL A B) = true := by
  have h : topoB (twoL 0 0) = true := by decide +kernel
  exact h
theorem in0k : inS (⟨#[]⟩, tM) tK = true := by decide +kernel
theorem in1k : inS (tM, ⟨#[]⟩) tK = false := by decide +kernel
theorem in0m : inS (⟨#[]⟩, tM) tM = false := by decide +kernel
theorem in1m : inS (tM, ⟨#[]⟩) tM = true := by decide +kernel
theorem two_at (A B : Nat) (k : ByteArray) (i : Nat) (hi : i < 2) (h0 : inS (⟨#[]⟩, tM) k = decide (0 = i)) (h1 : inS (tM, ⟨#[]⟩) k = decide (1 = i)) : At (twoL A B) k i := by
  refine ⟨hi, fun j s hs => ?_⟩
  match j, hs with
  | 0, hs =>
    simp only [twoL, List.getElem?_cons_zero, Option.some.injEq] at hs
    subst hs
    exact h0
  | 1, hs =>
    simp only [twoL, List.getElem?_cons_succ, List.getElem?_cons_zero, Option.some.injEq] at hs
    subst hs
    exact h1
  | j + 2, hs => simp [twoL] at hs
theorem two_k (A B : Nat) : At (twoL A B) tK 0 := two_at A B tK 0 (by decide) in0k in1k
theorem two_m (A B : Nat) : At (twoL A B) tM 1 := two_at A B tM 1 (by decide) in0m in1m
theorem uni_two : uniL [(⟨#[]⟩, tM), (tM, ⟨#[]⟩)] = [(⟨#[]⟩, ⟨#[]⟩)] := by decide +kernel
theorem two_own (A B : Nat) : ownL (twoL A B) 3 = [(⟨#[]⟩, ⟨#[]⟩)] := uni_two
theorem two_nodes (A B : Nat) : nodesL (twoL A B) [0, 1] = [1, 2, 3, 4, 5] := by
  have h : nodesL (twoL 0 0) [0, 1] = [1, 2, 3, 4, 5] := by decide +kernel
  exact h
theorem two_k1 (A B : Nat) : (nodeB 5 && anyHas (twoL A B) [1] 5) = true := by
  have h : (nodeB 5 && anyHas (twoL 0 0) [1] 5) = true := by decide +kernel
  exact h
theorem two_k0 (A B : Nat) : (nodeB 5 && anyHas (twoL A B) [0] 5) = false := by
  have h : (nodeB 5 && anyHas (twoL 0 0) [0] 5) = false := by decide +kernel
  exact h
theorem two_len (A B : Nat) : (twoL A B).length ≤ 1000000 := by simp [twoL]
theorem two_cells {w : World} {A B C : Nat} (h : Hl w (some ⟨C, 0, none⟩) (twoL A B)) : w.cell? ⟨C, 0, none⟩ = some (.string ⟨#[]⟩) ∧ w.cell? ⟨C, 1, none⟩ = some (.string tM) ∧ w.cell? ⟨C, 2, none⟩ = some (.slice (some ⟨A, 0, none⟩) 3 3) := by
  obtain ⟨g, o, he, _, c0, c1, c2⟩ := h.at (k := 0) rfl
  simp only [Option.some.injEq, Addr.mk.injEq, and_true] at he
  obtain ⟨rfl, rfl⟩ := he
  exact ⟨c0, c1, c2⟩
theorem il_two (X : World) (n : Nat) (h : X.heap.size = n) : Il (X.alloc (.cells #[.int .i64 0, .int .i64 1] 3)) (some ⟨n, 0, none⟩) 2 [0, 1] := by
  subst h
  exact il_row (heap_alloc_new X _) rfl 2
theorem il_five (X : World) (n : Nat) (h : X.heap.size = n) : Il (X.alloc (.cells #[.int .i64 1, .int .i64 2, .int .i64 3, .int .i64 4, .int .i64 5] 3)) (some ⟨n, 0, none⟩) 5 [1, 2, 3, 4, 5] := by
  subst h
  exact il_row (heap_alloc_new X _) rfl 5
theorem topo_n5 {l : List Sh} (h : Topo l) : ∀ s ∈ l, s.nodes.length ≤ 1000000 := fun s hs => Nat.le_trans (h.few s hs).2 (by decide)
theorem topo_sh {l : List Sh} (h : Topo l) (n : Int) : ∀ i, i < l.length → shHas' l n i = shHas l i n := by
  intro i hi
  obtain ⟨s, hs⟩ := at_lt hi
  unfold shHas'
  rw [shHas_at hs]
  cases hh : hasN s.nodes n
  · simp
  · have := h.node s (List.mem_of_getElem? hs) n (hasN_mem.1 hh)
    rw [nodeB_iff.2 this]
    rfl

end Go.Proofs.Ytopogdfmbdbimaa
