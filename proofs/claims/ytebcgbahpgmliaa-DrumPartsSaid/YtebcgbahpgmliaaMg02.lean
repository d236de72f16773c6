/- A pen in memory, and the contracts of (*Pen).number and (*Pen).letters. Conditions: at most 2^40 bytes are laid. -/
import Derived.Deep.RegionLaw
import Derived.IntWalk
import Derived.LoopTactic
import Derived.Outline
import Derived.Test.YtebcgbahpgmliaaMg01
set_option maxRecDepth 100000
set_option maxHeartbeats 16000000
namespace Go.Proofs.Ytebcgbahpgmliaa
namespace S2
open Go.RowKit
def low (n : Nat) (k : Nat) : List UInt8 := (List.range k).map fun i => UInt8.ofNat (n >>> (8 * i))
def PenAt (w : World) (b : Nat) (r : Option Nat) (l : List UInt8) : Prop := ∃ v T, w.heap[b]? = some (.cells #[v] T (0, 0)) ∧ Row w r v l ∧ r ≠ some b
theorem PenAt.lt {w : World} {b : Nat} {r : Option Nat} {l : List UInt8} (h : PenAt w b r l) : b < w.heap.size := by
 obtain ⟨_, _, h, _⟩ := h
 exact lt_of_block h
theorem PenAt.keep {S : Nat → Prop} {w w' : World} {b : Nat} {r : Option Nat} {l : List UInt8} (h : PenAt w b r l) (k : Keeps S w w') (hb : ¬ S b) (hr : ∀ x, r = some x → ¬ S x) : PenAt w' b r l := by
 obtain ⟨v, T, h1, h2, h3⟩ := h
 exact ⟨v, T, (k.block b (lt_of_block h1) hb).trans h1, h2.keep k hr, h3⟩
def PenS (b : Nat) (r : Option Nat) (x : Nat) : Prop := x = b ∨ r = some x
structure PenStep (b : Nat) (r r' : Option Nat) (w w' : World) : Prop where
 keeps : Keeps (PenS b r) w w'
 row : r' = r ∨ New w r'
theorem PenStep.refl (b : Nat) (r : Option Nat) (w : World) : PenStep b r r w w := ⟨Keeps.refl _ _, .inl rfl⟩
theorem PenStep.trans {b : Nat} {r r' r'' : Option Nat} {u v w : World} (h : PenStep b r r' u v) (k : PenStep b r' r'' v w) : PenStep b r r'' u w := by
 refine ⟨h.keeps.trans k.keeps fun x hx hs => ?_, ?_⟩
 ·rcases hs with rfl | hs
  ·exact .inl rfl
  ·rcases h.row with e | e
   ·exact .inr (by rw [← e]; exact hs)
   ·exact absurd (e x hs) (by omega)
 ·rcases k.row with e | e
  ·rw [e]; exact h.row
  ·exact .inr (e.later h.keeps)
theorem Row.form {w : World} {g : Option Nat} {v : Value} {l : List UInt8} (h : Row w g v l) : ∃ a n c, v = .slice a n c := by
 rcases h.1.2 with ⟨hn, _⟩ | ⟨b, cap, cur, rfl, _⟩
 ·exact ⟨_, _, _, hn⟩
 ·exact ⟨_, _, _, rfl⟩
end S2
end Go.Proofs.Ytebcgbahpgmliaa
