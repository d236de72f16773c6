/- Check of the program. Conditions: a topology of less than 2^63 shards. -/
import Derived.Test.YtopogdfmbdbimaaTd
set_option linter.unusedVariables false
namespace Go.Proofs.Ytopogdfmbdbimaa
open Go.RowKit

/-- Of the shards the nodes of the first k are such as may be. -/
def NodesTo (l : List Sh) (k : Nat) : Prop := (l.take k).all (fun s => nodesB s.nodes) = true
theorem nodesTo_next {l : List Sh} {k : Nat} {s : Sh} (h : NodesTo l k) (hs : l[k]? = some s) (h1 : nodesB s.nodes = true) : NodesTo l (k + 1) := by
  unfold NodesTo at *
  rw [List.take_add_one, hs, List.all_append, h]
  simp [h1]
theorem nodes_bad {l : List Sh} {k : Nat} {s : Sh} (hs : l[k]? = some s) (h1 : nodesB s.nodes = false) : topoB l = false := by
  have : l.all (fun s => nodesB s.nodes) = false := by
    rw [List.all_eq_false]
    exact ⟨s, List.mem_of_getElem? hs, by rw [h1]; simp⟩
  unfold topoB
  rw [this]
  simp
theorem nodes_end {l : List Sh} {k : Nat} (h : NodesTo l k) (hk : l.length ≤ k) (h1 : 1 ≤ l.length) (h2 : l.length ≤ 8) (h3 : rowF ⟨#[]⟩ (spans l) = true) : topoB l = true := by
  unfold NodesTo at h
  rw [List.take_of_length_le hk] at h
  unfold topoB
  rw [h, h3, decide_eq_true ⟨h1, h2⟩]
  rfl
theorem topo_few {l : List Sh} (h : l.length < 1 ∨ 8 < l.length) : topoB l = false := by
  unfold topoB
  rw [decide_eq_false (by omega)]
  rfl
theorem topo_row {l : List Sh} (h : rowF ⟨#[]⟩ (spans l) = false) : topoB l = false := by
  unfold topoB
  rw [h]
  simp
def errT (b : Bool) : Int := if b = true then 0 else 40

end Go.Proofs.Ytopogdfmbdbimaa
