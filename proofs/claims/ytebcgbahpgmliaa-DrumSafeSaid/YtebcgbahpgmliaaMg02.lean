/- A pen in memory, and the contracts of (*Pen).number and (*Pen).letters. Conditions: at most 2^40 bytes are laid. -/
import Derived.Deep.RegionLaw
import Derived.IntWalk
import Derived.LoopTactic
import Derived.Outline
import Derived.Test.YtebcgbahpgmliaaMg01
set_option maxRecDepth 100000
set_option maxHeartbeats 16000000
namespace Go.Proofs.Ytebcgbahpgmliaa
namespace S2
open Go.RowKit
def low (n : Nat) (k : Nat) : List UInt8 := (List.range k).map fun i => UInt8.ofNat (n >>> (8 * i))
def PenAt (w : World) (b : Nat) (r : Option Nat) (l : List UInt8) : Prop := ∃ v T, w.heap[b]? = some (.cells #[v] T (0, 0)) ∧ Row w r v l ∧ r ≠ some b
theorem PenAt.lt {w : World} {b : Nat} {r : Option Nat} {l : List UInt8} (h : PenAt w b r l) : b < w.heap.size := by
 obtain ⟨_, _, h, _⟩ := h
 exact lt_of_block h
theorem PenAt.keep {S : Nat → Prop} {w w' : World} {b : Nat} {r : Option Nat} {l : List UInt8} (h : PenAt w b r l) (k : Keeps S w w') (hb : ¬ S b) (hr : ∀ x, r = some x → ¬ S x) : PenAt w' b r l := by
 obtain ⟨v, T, h1, h2, h3⟩ := h
 exact ⟨v, T, (k.block b (lt_of_block h1) hb).trans h1, h2.keep k hr, h3⟩
def PenS (b : Nat) (r : Option Nat) (x : Nat) : Prop := x = b ∨ r = some x
structure PenStep (b : Nat) (r r' : Option Nat) (w w' : World) : Prop where
 keeps : Keeps (PenS b r) w w'
 row : r' = r ∨ New w r'
theorem PenStep.refl (b : Nat) (r : Option Nat) (w : World) : PenStep b r r w w := ⟨Keeps.refl _ _, .inl rfl⟩
theorem PenStep.trans {b : Nat} {r r' r'' : Option Nat} {u v w : World} (h : PenStep b r r' u v) (k : PenStep b r' r'' v w) : PenStep b r r'' u w := by
 refine ⟨h.keeps.trans k.keeps fun x hx hs => ?_, ?_⟩
 ·rcases hs with rfl | hs
  ·exact .inl rfl
  ·rcases h.row with e | e
   ·exact .inr (by rw [← e]; exact hs)
   ·exact absurd (e x hs) (by omega)
 ·rcases k.row with e | e
  ·rw [e]; exact h.row
  ·exact .inr (e.later h.keeps)
theorem step_app {ops : Array Oper} {o : Oper} {a : Act} {w : World} {K : Act → World → Prop} {Q : Exit → Act → World → Prop} {E : Prop} (hg : o.guard = none) (s x : Operand) (tx : TypeId)
  (ho : o.op = .call { callee := .builtin .append, args := #[s, x], argTypes := #[39, tx] }) (w0 : World) {S : Nat → Prop} {g : Option Nat} {v xv : Value} {l m : List UInt8} (hs : a.eval s = v) (hx : a.eval x = xv)
  (hrow : Row w0 g v l) (hk : Keeps S w0 w) (hS : ∀ x, g = some x → ¬ S x) (hsrc : Src Try.prog 1 tx xv m.length (bvs m) w) (hlen : l.length + m.length ≤ 1099511627776)
  (h : ∀ v' w' g', Row w' g' v' (l ++ m) → w.grownBy w' g → (g' = g ∨ New w g') → K (a.put o.dst v') w') :
  if Region.wanted o (yielded ops a.tmps) = true then Oper.wp Try.prog o a w K Q else E := by
 have hw : Region.wanted o (yielded ops a.tmps) = true := by simp [Region.wanted, hg]
 rw [if_pos hw]
 obtain ⟨v', w', g', hrun, h1, h2, h3⟩ := app_run (hrow.keep hk hS) hsrc hlen o.type
 unfold Oper.wp
 simp [execOp, ho, resolve, invoke, builtin, hs, hx, hrun, Result.andThen]
 exact h v' w' g' h1 h2 h3
theorem Row.form {w : World} {g : Option Nat} {v : Value} {l : List UInt8} (h : Row w g v l) : ∃ a n c, v = .slice a n c := by
 rcases h.1.2 with ⟨hn, _⟩ | ⟨b, cap, cur, rfl, _⟩
 ·exact ⟨_, _, _, hn⟩
 ·exact ⟨_, _, _, rfl⟩
end S2
end Go.Proofs.Ytebcgbahpgmliaa
