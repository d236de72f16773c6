/- The reference's marks: the texts at which spans begin or end, rising, each once. Conditions: a list of at most a million spans. -/
import Derived.Test.YtopogdfmbdbimaaKn
import Derived.Test.YtopogdfmbdbimaaKo
set_option linter.unusedVariables false
set_option linter.unusedSimpArgs false
namespace Go.Proofs.Ytopogdfmbdbimaa
open Go.RowKit

theorem Row1.two {W : World} {b : Nat} {x y : ByteArray} (h : W.heap[b]? = some (.cells #[.string x, .string y] 9 (0, 0))) : W.cell? ⟨b, 0, none⟩ = some (.string x) ∧ W.cell? ⟨b, 1, none⟩ = some (.string y) := by
  constructor <;> simp [World.cell?, h]
theorem keepS {w w' : World} {g o i : Nat} {s1 s2 : Value} (h : Below w.heap.size w w') (hg : g < w.heap.size) (c0 : w.cell? ⟨g, o + i * 2, none⟩ = some s1) (c1 : w.cell? ⟨g, o + i * 2 + 1, none⟩ = some s2) :
    Below w.heap.size w w' ∧ w'.cell? ⟨g, o + i * 2, none⟩ = some s1 ∧ w'.cell? ⟨g, o + i * 2 + 1, none⟩ = some s2 := ⟨h, cell_in h hg c0, cell_in h hg c1⟩
theorem keepT {w w' : World} {b i : Nat} {v : Value} (h : Below w.heap.size w w') (hb : b < w.heap.size) (c : w.cell? ⟨b, i, none⟩ = some v) : Below w.heap.size w w' ∧ w'.cell? ⟨b, i, none⟩ = some v := ⟨h, cell_in h hb c⟩
theorem ins_eq (a b : List ByteArray) (x : ByteArray) : [] ++ a ++ [x] ++ b = a ++ ([x] ++ b) := by simp
/-- Behind q of a span's two edges. -/
def midT (m : List ByteArray) (s : Sp) (q : Nat) : List ByteArray := if q = 0 then m else if q = 1 then insT s.1 m else markS m s
theorem midT_len (m : List ByteArray) (s : Sp) (q : Nat) : (midT m s q).length ≤ m.length + 2 := by
  unfold midT
  have h1 := insT_len s.1 m
  have h2 := markS_len m s
  split
  · omega
  · split <;> omega

end Go.Proofs.Ytopogdfmbdbimaa
