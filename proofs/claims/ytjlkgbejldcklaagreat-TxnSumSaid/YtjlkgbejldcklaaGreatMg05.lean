/- Cut and Meet of two lists of spans. Conditions: lists of at most a million spans. -/
import Derived.Maps.AppendAt
import Derived.Test.YtjlkgbejldcklaaGreatMg04
namespace Go.Proofs.YtjlkgbejldcklaaGreat
namespace S3
open Go.RowKit Go.Sort Go.Shelf
def RetO (w : World) (r : List Sp) (e : Ending) (w' : World) : Prop := ∃ v, e = .returned v ∧ OwnL w' w.heap.size v r ∧ Below w.heap.size w w'
theorem two_boxes (w : World) (va vb : Value) (t u : TypeId) : Box1 ((w.alloc (.cells #[va] t)).alloc (.cells #[vb] u)) w.heap.size t va ∧ Box1 ((w.alloc (.cells #[va] t)).alloc (.cells #[vb] u)) (w.heap.size + 1) u vb := by
  refine ⟨(box1_new w t va).later ((Below.refl _ _).alloc (Nat.le_refl _) _) (by simp), ?_⟩
  have h := box1_new (w.alloc (.cells #[va] t)) u vb
  rwa [World.size_alloc] at h
end S3
end Go.Proofs.YtjlkgbejldcklaaGreat
