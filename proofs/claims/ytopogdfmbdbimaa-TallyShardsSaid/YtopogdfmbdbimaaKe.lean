/- The iterator over what two sets have in common: whatever the loop's body does, so it keeps what lay before, the common spans come, in their order. Conditions: lists of at most a million spans. -/
import Derived.RangeFuncNested
import Derived.RangeFuncBound
import Derived.RangeFuncCalls
import Derived.RangeFuncLeaves
import Derived.Shelf.Abstract
import Derived.Shelf.RegionOpen
import Derived.OwnWalkIn
import Derived.TacticsInMore
import Derived.LoopNIn
import Derived.LoopIn
import Derived.Test.YtopogdfmbdbimaaKd
namespace Go.Proofs.Ytopogdfmbdbimaa
open Go.RowKit Go.Sort Go.Shelf
attribute [local go_sem] Oper.semAt_some

theorem cutF_more {n p q : Nat} {a b : List Sp} {s t : Sp} (hs : a[p]? = some s) (ht : b[q]? = some t) :
    cutF (n + 1) (a.drop p) (b.drop q) = (if fullS (commonS s t) = true then [commonS s t] else []) ++ (if behindT s.2 t.2 = true then cutF n (a.drop p) (b.drop (q + 1)) else cutF n (a.drop (p + 1)) (b.drop q)) := by
  obtain ⟨h1, rfl⟩ := List.getElem?_eq_some_iff.1 hs
  obtain ⟨h2, rfl⟩ := List.getElem?_eq_some_iff.1 ht
  rw [List.drop_eq_getElem_cons h1, List.drop_eq_getElem_cons h2]
  rfl
theorem cutF_end {n p q : Nat} {a b : List Sp} (h : a.length ≤ p ∨ b.length ≤ q) : cutF n (a.drop p) (b.drop q) = [] := by
  rcases h with h | h
  · rw [List.drop_eq_nil_of_le h, cutF_nil1]
  · rw [List.drop_eq_nil_of_le h, cutF_nil2]
theorem bcell {W w1 : World} (hb : Below W.heap.size W w1) : (∀ b o, b < W.heap.size → w1.cell? ⟨b, o, none⟩ = W.cell? ⟨b, o, none⟩) ∧ (∀ b o, b < W.heap.size → w1.frozen? ⟨b, o, none⟩ = W.frozen? ⟨b, o, none⟩) :=
  ⟨fun b o h => hb.cell (p := ⟨b, o, none⟩) h, fun b o h => hb.frozen (p := ⟨b, o, none⟩) h⟩
theorem keep7 {w w' : World} {Ba Bb ga gb oa ob pa pb : Nat} {va vb s1 s2 t1 t2 : Value} (h : Below w.heap.size w w') (ha : Ba < w.heap.size) (hb : Bb < w.heap.size) (hga : ga < w.heap.size) (hgb : gb < w.heap.size)
    (c1 : w.cell? ⟨Ba, 0, none⟩ = some va) (c2 : w.cell? ⟨Bb, 0, none⟩ = some vb) (c3 : w.cell? ⟨ga, oa + pa * 2, none⟩ = some s1) (c4 : w.cell? ⟨ga, oa + pa * 2 + 1, none⟩ = some s2) (c5 : w.cell? ⟨gb, ob + pb * 2, none⟩ = some t1) (c6 : w.cell? ⟨gb, ob + pb * 2 + 1, none⟩ = some t2) :
    Below w.heap.size w w' ∧ w'.cell? ⟨Ba, 0, none⟩ = some va ∧ w'.cell? ⟨Bb, 0, none⟩ = some vb ∧ w'.cell? ⟨ga, oa + pa * 2, none⟩ = some s1 ∧ w'.cell? ⟨ga, oa + pa * 2 + 1, none⟩ = some s2 ∧ w'.cell? ⟨gb, ob + pb * 2, none⟩ = some t1 ∧ w'.cell? ⟨gb, ob + pb * 2 + 1, none⟩ = some t2 :=
  ⟨h, cell_in h ha c1, cell_in h hb c2, cell_in h hga c3, cell_in h hga c4, cell_in h hgb c5, cell_in h hgb c6⟩
theorem block_setCell {w : World} {b i : Nat} {c : Array Value} {t : TypeId} (h : w.heap[b]? = some (.cells c t (0, 0))) (u : Value) : (w.setCell ⟨b, i, none⟩ u).heap[b]? = some (.cells (c.setIfInBounds i u) t (0, 0)) := by
  have hlt := lt_of_block h
  have h' : w.heap[b] = .cells c t (0, 0) := by simpa [Array.getElem?_eq_getElem hlt] using h
  show (w.heap.modify b _)[b]? = _
  rw [Array.getElem?_eq_getElem (by simpa using hlt), Array.getElem_modify_self, h']
  rfl
theorem Box2.set {w : World} {b : Nat} {s : Sp} (h : Box2 w b s) (t : Sp) : Box2 ((w.setCell ⟨b, 0, none⟩ (.string t.1)).setCell ⟨b, 1, none⟩ (.string t.2)) b t :=
  block_setCell (block_setCell h (.string t.1)) (.string t.2)
theorem way2 {wr w1 : World} (s : Sp) (hb : Below (wr.alloc (.cells #[.string ⟨#[]⟩, .string ⟨#[]⟩] 38)).drew.heap.size (wr.alloc (.cells #[.string ⟨#[]⟩, .string ⟨#[]⟩] 38)).drew w1) :
    Below wr.heap.size wr ((w1.setCell ⟨wr.heap.size, 0, none⟩ (.string s.1)).setCell ⟨wr.heap.size, 1, none⟩ (.string s.2)) ∧ Box2 ((w1.setCell ⟨wr.heap.size, 0, none⟩ (.string s.1)).setCell ⟨wr.heap.size, 1, none⟩ (.string s.2)) wr.heap.size s := by
  have h1 : Below wr.heap.size wr w1 := blThen (blAlloc (Below.refl wr.heap.size wr) (.cells #[.string ⟨#[]⟩, .string ⟨#[]⟩] 38)).drew hb
  have h0 : Box2 (wr.alloc (.cells #[.string ⟨#[]⟩, .string ⟨#[]⟩] 38)).drew wr.heap.size (⟨#[]⟩, ⟨#[]⟩) := box2_new wr (⟨#[]⟩, ⟨#[]⟩)
  exact ⟨blSet (blSet h1 (p := ⟨wr.heap.size, 0, none⟩) (Nat.le_refl _) _) (p := ⟨wr.heap.size, 1, none⟩) (Nat.le_refl _) _, (h0.later hb h0.lt).set s⟩
theorem blDrewN {w x : World} (h : Below w.heap.size w x) (n : Nat) : Below w.heap.size w (x.drewN n) := ⟨h.os, h.tape, h.output, h.size, h.block⟩

end Go.Proofs.Ytopogdfmbdbimaa
