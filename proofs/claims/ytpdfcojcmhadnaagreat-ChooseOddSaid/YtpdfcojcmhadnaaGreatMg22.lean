/- Words for stage 2: bytes in memory (rows that the call owns, bytes that are read), blocks that stay as they were, append to a row of bytes. Conditions: as each theorem states. -/
import Derived.Test.YtpdfcojcmhadnaaGreatRows
import Derived.WalkKit
import Derived.ProofKit
import Derived.OneCell
import Derived.Laws.AppendOwn
import Derived.Laws.OwnMore
import Derived.Deep.AppendSrc
import Derived.Deep.Upon
import Derived.Lib.Hide
set_option maxRecDepth 100000
set_option maxHeartbeats 16000000
namespace Go.Proofs.YtpdfcojcmhadnaaGreat
namespace S2
open Go.RowKit
def bv (b : UInt8) : Value := .int .u8 b.toNat
def bvs (l : List UInt8) : List Value := l.map bv
theorem bvs_at {l : List UInt8} {j : Nat} {x : UInt8} (h : l[j]? = some x) : (bvs l)[j]? = some (bv x) := by simp [bvs, h]
theorem add_plain (g o j : Nat) : (⟨g, o, none⟩ : Addr).add j = ⟨g, o + j, none⟩ := by unfold Addr.add; split <;> simp_all
structure Keeps (S : Nat → Prop) (w w' : World) : Prop where
 os : w'.os = w.os
 tape : w'.tape = w.tape
 output : w'.output = w.output
 size : w.heap.size ≤ w'.heap.size
 block : ∀ k, k < w.heap.size → ¬ S k → w'.heap[k]? = w.heap[k]?
theorem Keeps.refl (S : Nat → Prop) (w : World) : Keeps S w w := ⟨rfl, rfl, rfl, Nat.le_refl _, fun _ _ _ => rfl⟩
theorem Keeps.trans {S T : Nat → Prop} {a b c : World} (h : Keeps S a b) (k : Keeps T b c) (hT : ∀ x, x < a.heap.size → T x → S x) : Keeps S a c :=
 ⟨k.os.trans h.os, k.tape.trans h.tape, k.output.trans h.output, Nat.le_trans h.size k.size, fun x hx hs => (k.block x (Nat.lt_of_lt_of_le hx h.size) (fun t => hs (hT x hx t))).trans (h.block x hx hs)⟩
theorem Keeps.then {S : Nat → Prop} {a b c : World} (h : Keeps S a b) (k : Keeps S b c) : Keeps S a c := h.trans k fun _ _ x => x
theorem Keeps.mono {S T : Nat → Prop} {a b : World} (h : Keeps S a b) (hT : ∀ x, x < a.heap.size → S x → T x) : Keeps T a b :=
 ⟨h.os, h.tape, h.output, h.size, fun x hx ht => h.block x hx fun s => ht (hT x hx s)⟩
theorem Keeps.below {S : Nat → Prop} {a b : World} {B : Nat} (h : Keeps S a b) (hB : B ≤ a.heap.size) (hS : ∀ x, x < B → ¬ S x) : Below B a b :=
 ⟨h.os, h.tape, h.output, h.size, fun k hk => h.block k (Nat.lt_of_lt_of_le hk hB) (hS k hk)⟩
theorem Keeps.ofBelow {S : Nat → Prop} {a b : World} (h : Below a.heap.size a b) : Keeps S a b := ⟨h.os, h.tape, h.output, h.size, fun k hk _ => h.block k hk⟩
theorem Keeps.alloc (S : Nat → Prop) (w : World) (o : Obj) : Keeps S w (w.alloc o) := .ofBelow ((Below.refl _ _).alloc (Nat.le_refl _) o)
theorem Keeps.drew (S : Nat → Prop) (w : World) : Keeps S w w.drew := ⟨rfl, rfl, rfl, Nat.le_refl _, fun _ _ _ => rfl⟩
theorem Keeps.setCell {S : Nat → Prop} {w : World} {p : Addr} (hp : p.block < w.heap.size → S p.block) (u : Value) : Keeps S w (w.setCell p u) :=
 ⟨rfl, rfl, rfl, by simp [World.setCell], fun k hk hs => Below.heap_setCell _ _ _ _ (fun e => hs (by rw [e]; exact hp (by rw [← e]; exact hk)))⟩
theorem Keeps.grown {S : Nat → Prop} {w w' : World} {g : Option Nat} (h : w.grownBy w' g) (hg : ∀ k, k < w.heap.size → g = some k → S k) : Keeps S w w' :=
 ⟨h.os, h.tape, h.output, h.size, fun k hk hs => h.block k hk fun e => hs (hg k hk e.symm)⟩
theorem Keeps.cell {S : Nat → Prop} {w w' : World} (h : Keeps S w w') {b o : Nat} {v : Value} (hS : ¬ S b) (hc : w.cell? ⟨b, o, none⟩ = some v) : w'.cell? ⟨b, o, none⟩ = some v := by
 have hlt : b < w.heap.size := World.block_lt_of_cell? _ _ hc
 exact (World.cell?_of_block (w := w) (a := ⟨b, o, none⟩) (h.block b hlt hS)).trans hc
def New (w : World) (g : Option Nat) : Prop := ∀ k, g = some k → w.heap.size ≤ k
theorem New.none (w : World) : New w none := fun _ h => by cases h
theorem New.later {S : Nat → Prop} {a b : World} {g : Option Nat} (h : New b g) (k : Keeps S a b) : New a g := fun x hx => Nat.le_trans k.size (h x hx)
def Row (w : World) (g : Option Nat) (v : Value) (l : List UInt8) : Prop := w.ownsRow 0 5 1 v l.length (bvs l) ∧ v.ownBlock = g
theorem Row.nil (w : World) : Row w none (.slice none 0 0) [] := ⟨World.ownsRow_nil _ _ _ _, rfl⟩
theorem Row.lt {w : World} {g : Option Nat} {v : Value} {l : List UInt8} (h : Row w g v l) {k : Nat} (hk : g = some k) : k < w.heap.size := (h.1.lt k (h.2.trans hk)).2
theorem Row.keep {S : Nat → Prop} {w w' : World} {g : Option Nat} {v : Value} {l : List UInt8} (h : Row w g v l) (k : Keeps S w w') (hg : ∀ x, g = some x → ¬ S x) : Row w' g v l := by
 refine ⟨⟨h.1.1, ?_⟩, h.2⟩
 rcases h.1.2 with hn | ⟨b, cap, cur, rfl, hb, hh, r⟩
 ·exact .inl hn
 ·have e : g = some b := h.2.symm
  exact .inr ⟨b, cap, cur, rfl, hb, (k.block b (lt_of_block hh) (hg b e)).trans hh, r⟩
def Bs (w : World) (g : Nat) (v : Value) (l : List UInt8) : Prop :=
 (v = .slice none 0 0 ∧ l = []) ∨ ∃ o cap, v = .slice (some ⟨g, o, none⟩) l.length cap ∧ l.length ≤ cap ∧ cap ≤ maxLen ∧ ∀ j x, l[j]? = some x → w.cell? ⟨g, o + j, none⟩ = some (bv x)
theorem Bs.keep {S : Nat → Prop} {w w' : World} {g : Nat} {v : Value} {l : List UInt8} (h : Bs w g v l) (k : Keeps S w w') (hg : l ≠ [] → ¬ S g) : Bs w' g v l := by
 rcases h with h | ⟨o, cap, hv, h1, h2, h3⟩
 ·exact .inl h
 ·exact .inr ⟨o, cap, hv, h1, h2, fun j x hx => k.cell (hg (by rintro rfl; simp at hx)) (h3 j x hx)⟩
theorem Bs.lt {w : World} {g : Nat} {v : Value} {l : List UInt8} (h : Bs w g v l) (hne : l ≠ []) : g < w.heap.size := by
 rcases h with ⟨_, h⟩ | ⟨o, cap, _, _, _, h3⟩
 ·exact absurd h hne
 ·exact World.block_lt_of_cell? _ _ (h3 0 _ (List.getElem?_eq_getElem (List.length_pos_iff.2 hne)))
theorem Row.bs {w : World} {g : Option Nat} {v : Value} {l : List UInt8} (h : Row w g v l) : Bs w (g.getD 0) v l := by
 rcases h.1.2 with ⟨hn, h0⟩ | ⟨b, cap, cur, rfl, hb, hh, hc, hm, hs, ht⟩
 ·exact .inl ⟨hn, List.eq_nil_of_length_eq_zero h0⟩
 ·have e : g = some b := h.2.symm
  subst e
  refine .inr ⟨0, cap, rfl, hc, hm, fun j x hx => ?_⟩
  have := h.1.cells (g := b) rfl j _ (bvs_at hx)
  rw [add_plain] at this
  simpa using this
theorem Bs.len {w : World} {g : Nat} {v : Value} {l : List UInt8} (h : Bs w g v l) : l.length ≤ maxLen := by
 rcases h with ⟨_, rfl⟩ | ⟨_, _, _, h1, h2, _⟩
 ·exact Nat.zero_le _
 ·exact Nat.le_trans h1 h2
end S2
end Go.Proofs.YtpdfcojcmhadnaaGreat
