/- What is outside a set. Conditions: a list of at most a million spans. -/
import Derived.Test.YtkgfpppbpjinaaaKj
namespace Go.Proofs.Ytkgfpppbpjinaaa
open Go.RowKit

theorem outF_at {l : List Sp} {k : Nat} {s : Sp} (h : l[k]? = some s) (x : ByteArray) : outF x (l.drop k) = (if ltT x s.1 = true then [(x, s.1)] else []) ++ (if noT s.2 = true then [] else outF s.2 (l.drop (k + 1))) := by
  obtain ⟨h1, rfl⟩ := List.getElem?_eq_some_iff.1 h
  rw [List.drop_eq_getElem_cons h1]
  rfl

theorem box_grown {wr X w' : World} {base : Nat} {v : Value} {d : List Sp} {b : Nat} {s : Sp} (ho : OwnL wr base v d) (hx : Box2 X b s) (hg : X.grownBy w' v.ownBlock) (hb : wr.heap.size ≤ b) : Box2 w' b s :=
  (hg.block b hx.lt (fun e => absurd (ho.blt b e.symm) (by omega))).trans hx
theorem box_under (wr : World) (s : Sp) (o : Obj) : Box2 ((wr.alloc (.cells #[.string s.1, .string s.2] 35)).alloc o) wr.heap.size s :=
  (box2_new wr s).later ((Below.refl _ _).alloc (Nat.le_refl _) _) (by simp)

end Go.Proofs.Ytkgfpppbpjinaaa
