/- Rows of lists of stamps of the call's own; the program's All of Deps. Conditions: at most a thousand Deps, a million stamps in all. -/
import Derived.WalkSpells
import Derived.Test.YtpdfcojcmhadnaaGreatMg43
import Derived.Test.YtpdfcojcmhadnaaGreatMg41
import Derived.Test.YtpdfcojcmhadnaaGreatMg40
set_option maxRecDepth 100000
set_option maxHeartbeats 16000000
set_option linter.unusedVariables false
namespace Go.Proofs.YtpdfcojcmhadnaaGreat
open S1
namespace SD
open Go.RowKit
def lrV (r : LRow) : Value := .slice r.1 r.2.1.length r.2.2
def Dp.lr (s : Dp) : LRow := (s.ia, s.ids, s.ic)
def OwnR (w : World) (base : Nat) (v : Value) (ls : List LRow) : Prop := w.ownsRow base 49 1 v ls.length (ls.map lrV)
def LrAt (w : World) (r : LRow) : Prop := SL w r.1 r.2.1 ∧ (r.1 = none → r.2.2 = 0) ∧ r.2.1.length ≤ r.2.2
theorem LrAt.later {W wr : World} {r : LRow} (h : LrAt W r) (hw : Below W.heap.size W wr) : LrAt wr r := ⟨h.1.later hw, h.2⟩
theorem IdsAt.lr {w : World} {s : Dp} (h : IdsAt w s) : LrAt w s.lr := h
theorem OwnR.nil (w : World) (base : Nat) : OwnR w base (.slice none 0 0) [] := World.ownsRow_nil _ _ _ _
theorem OwnR.later {W wr : World} {base : Nat} {v : Value} {l : List LRow} (h : OwnR W base v l) (hb : Below W.heap.size W wr) : OwnR wr base v l := by
 obtain ⟨h1, h2 | ⟨g, cap, cur, hv, hg, hh, r⟩⟩ := h
 ·exact ⟨h1, .inl h2⟩
 ·exact ⟨h1, .inr ⟨g, cap, cur, hv, hg, (hb.block g (lt_of_block hh)).trans hh, r⟩⟩
theorem OwnR.kept {W wr : World} {base : Nat} {v : Value} {l : List LRow} {g : Option Nat} (h : OwnR W base v l) (hb : W.grownBy wr g) (hne : v.ownBlock ≠ g ∨ g = none) : OwnR wr base v l := by
 obtain ⟨h1, h2 | ⟨k, cap, cur, rfl, hg, hh, r⟩⟩ := h
 ·exact ⟨h1, .inl h2⟩
 ·refine ⟨h1, .inr ⟨k, cap, cur, rfl, hg, (hb.block k (lt_of_block hh) (fun e => ?_)).trans hh, r⟩⟩
  rcases hne with hne | hne
  ·exact hne (by simpa [Value.ownBlock] using e)
  ·rw [hne] at e
   cases e
theorem OwnR.block {w : World} {base : Nat} {v : Value} {l : List LRow} (h : OwnR w base v l) : ∀ k, v.ownBlock = some k → base ≤ k ∧ k < w.heap.size := by
 intro k hk
 obtain ⟨h1, ⟨rfl, _⟩ | ⟨g, cap, cur, rfl, hg, hh, _⟩⟩ := h
 ·simp [Value.ownBlock] at hk
 ·simp [Value.ownBlock] at hk
  subst hk
  exact ⟨hg, lt_of_block hh⟩
theorem OwnR.row {w : World} {base : Nat} {v : Value} {l : List LRow} (h : OwnR w base v l) (hne : l ≠ []) : ∃ g cap, v = .slice (some ⟨g, 0, none⟩) l.length cap ∧ l.length ≤ cap ∧ base ≤ g ∧ g < w.heap.size ∧ ∀ (i : Nat) r, l[i]? = some r → w.cell? ⟨g, i, none⟩ = some (lrV r) := by
 obtain ⟨h1, ⟨rfl, hl⟩ | ⟨g, cap, cur, hv, hg, hh, hn, hm, hs, hx⟩⟩ := h
 ·exact absurd (List.eq_nil_of_length_eq_zero hl) hne
 ·refine ⟨g, cap, hv, hn, hg, lt_of_block hh, fun i r hi => ?_⟩
  have hil := (List.getElem?_eq_some_iff.1 hi).1
  have c1 : (l.map lrV)[i]? = some (lrV r) := by rw [List.getElem?_map, hi]; rfl
  rw [← hx, List.getElem?_take_of_lt (by omega)] at c1
  simp only [World.cell?, hh]
  simpa using c1
end SD
end Go.Proofs.YtpdfcojcmhadnaaGreat
