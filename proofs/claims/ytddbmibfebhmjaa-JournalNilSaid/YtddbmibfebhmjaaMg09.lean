/- FlatWidths: how many bytes a number, a text, stamps, a list, a truth have: whatever is laid, the law returns true and leaves its arguments as they were. Conditions: none. -/
import Derived.SizedLaws
import Derived.BigQuiet
import Derived.Deep.QuietTactic
import Derived.Test.YtddbmibfebhmjaaMg08
set_option maxRecDepth 100000
set_option maxHeartbeats 16000000
namespace Go.Proofs.Ytddbmibfebhmjaa
namespace S2
open Go.RowKit
structure Aft (w : World) where
 x : World
 h : Below w.heap.size w x
instance Aft.some (w : World) : Nonempty (Aft w) := ⟨⟨w, Below.refl _ _⟩⟩
theorem Aft.cell {w : World} (y : Aft w) (n i : Nat) (hn : n < w.heap.size) : y.x.cell? ⟨n, i, none⟩ = w.cell? ⟨n, i, none⟩ := y.h.cell (p := ⟨n, i, none⟩) hn
theorem Aft.frozen {w : World} (y : Aft w) (n i : Nat) (hn : n < w.heap.size) : y.x.frozen? ⟨n, i, none⟩ = w.frozen? ⟨n, i, none⟩ := y.h.frozen (p := ⟨n, i, none⟩) hn
theorem Aft.lt {w : World} (y : Aft w) (n : Nat) (hn : n < w.heap.size) : n < y.x.heap.size := Nat.lt_of_lt_of_le hn y.h.size
attribute [go_sem] Aft.cell Aft.frozen
end S2
end Go.Proofs.Ytddbmibfebhmjaa

namespace Go.Proofs.Ytddbmibfebhmjaa
namespace S2
open Go.ChangeShapes Go.WideShapes Go.ChangeAt Go.RowKit Go.Joins Go.Deep
theorem Bw.form {w : World} {g : Nat} {v : Value} {l : List UInt8} (h : Bw w g v l) : ∃ a c, v = .slice a l.length c := by
 obtain ⟨a, c, hv, _⟩ := h
 exact ⟨a, c, hv⟩
theorem Bw.at {w : World} {g : Nat} {v : Value} {l : List UInt8} (h : Bw w g v l) {j : Nat} {x : UInt8} (hx : l[j]? = some x) : ∃ o c, v = .slice (some ⟨g, o, none⟩) l.length c ∧ w.cell? ⟨g, o + j, none⟩ = some (bv x) := by
 obtain ⟨a, c, hv, _, _, hc⟩ := h
 obtain ⟨o, rfl, hcc⟩ := hc (by rintro rfl; simp at hx)
 exact ⟨o, c, hv, hcc j x hx⟩

theorem IL.place {w : World} {g : Nat} {a : Option Addr} {l : List Int} (h : IL w g a l) (hg : l ≠ [] → g < w.heap.size) (k : Nat) : ∃ g', IL w g' a l ∧ (g' < w.heap.size ∨ g' = k) := by
 by_cases hl : l = []
 ·subst hl; exact ⟨k, fun h => absurd rfl h, .inr rfl⟩
 ·exact ⟨g, h, .inl (hg hl)⟩
theorem TL.place {w : World} {g : Nat} {a : Option Addr} {l : List ByteArray} (h : TL w g a l) (hg : l ≠ [] → g < w.heap.size) (k : Nat) : ∃ g', TL w g' a l ∧ (g' < w.heap.size ∨ g' = k) := by
 by_cases hl : l = []
 ·subst hl; exact ⟨k, fun h => absurd rfl h, .inr rfl⟩
 ·exact ⟨g, h, .inl (hg hl)⟩
theorem PenAt.beside {w w' : World} {b b' : Nat} {r r' r'' : Option Nat} {l : List UInt8} (h : PenAt w b r l) (k : PenStep b' r' r'' w w') (h1 : b ≠ b') (h2 : r ≠ some b') (h3 : r' ≠ some b) (h4 : ∀ x, r = some x → r' ≠ some x) : PenAt w' b r l :=
 h.keep k.keeps (fun e => by rcases e with e | e; exact h1 e; exact h3 e) fun x hx e => by
  rcases e with e | e
  ·subst e; exact h2 hx
  ·exact h4 x hx e
theorem PenAt.rowLt {w : World} {b k : Nat} {r : Option Nat} {l : List UInt8} (h : PenAt w b r l) (hr : r = some k) : k < w.heap.size := by
 obtain ⟨_, _, _, h, _⟩ := h
 exact h.lt hr
end S2
end Go.Proofs.Ytddbmibfebhmjaa
