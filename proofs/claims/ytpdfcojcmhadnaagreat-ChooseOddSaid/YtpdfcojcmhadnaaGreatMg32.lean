/- Laying and reading, piece by piece: what a reader gives and where it stands behind; what was read with open eyes is what lies there, and what was laid is read again. No program is named but through stage 2's readings. -/
import Derived.Deep.Draws
import Derived.Test.YtpdfcojcmhadnaaGreatMg31
import Derived.Test.YtpdfcojcmhadnaaGreatMg30
set_option maxRecDepth 100000
set_option maxHeartbeats 16000000
namespace Go.Proofs.YtpdfcojcmhadnaaGreat
namespace S2
open Go.ChangeShapes Go.WideShapes Go.ChangeAt Go.RowKit Go.Joins Go.Deep
theorem ThAt.later {w w' : World} {g o : Nat} {x : Th} (h : ThAt w g o x) (hb : Below w.heap.size w w') (hg : g < w.heap.size) : ThAt w' g o x :=
 ⟨(hb.cell (p := ⟨g, o, none⟩) hg).trans h.k, (hb.cell (p := ⟨g, o + 1, none⟩) hg).trans h.n, (hb.cell (p := ⟨g, o + 2, none⟩) hg).trans h.s, (hb.cell (p := ⟨g, o + 3, none⟩) hg).trans h.b,
  (hb.cell (p := ⟨g, o + 4, none⟩) hg).trans h.t1, (hb.cell (p := ⟨g, o + 5, none⟩) hg).trans h.t2, (hb.cell (p := ⟨g, o + 6, none⟩) hg).trans h.l⟩

structure Lay (w : World) (S : Nat) (rp rb : Option Nat) (v : Value) (L : List UInt8) : Prop where
 pen : PenAt w S rp L
 row : Row w rb v L
 pr : ∀ k, rp = some k → S < k
 br : ∀ k, rb = some k → S < k
 ap : ∀ k, rp = some k → rb ≠ some k
theorem Lay.before {w x : World} {S : Nat} {rp rb : Option Nat} {v : Value} {L : List UInt8} (h : Lay w S rp rb v L) (k : Keeps (fun _ => False) w x) : Lay x S rp rb v L :=
 ⟨h.pen.before k, h.row.before k, h.pr, h.br, h.ap⟩
structure Mid (w : World) (S : Nat) (rp rb : Option Nat) (v : Value) (L M : List UInt8) : Prop where
 pen : PenAt w S rp M
 row : Row w rb v L
 pr : ∀ k, rp = some k → S < k
 br : ∀ k, rb = some k → S < k
 ap : ∀ k, rp = some k → rb ≠ some k
theorem Mid.lay {w w3 : World} {S : Nat} {rp rb rb' : Option Nat} {v v' : Value} {L M : List UInt8} (h : Mid w S rp rb v L M) (hr : Row w3 rb' v' M) (hs : RowStep rb rb' w w3) : Lay w3 S rp rb' v' M := by
 have hS := h.pen.lt
 refine ⟨h.pen.keep hs.keeps (fun e => by have := h.br _ e; omega) (fun x hx e => h.ap x hx e), hr, h.pr, fun k hk => ?_, fun k hk hb => ?_⟩
 ·rcases hs.row with e | e
  ·exact h.br k (by rw [← e]; exact hk)
  ·have := e k hk; omega
 ·rcases hs.row with e | e
  ·exact h.ap k hk (by rw [← e]; exact hb)
  ·have h1 := e k hb
   have h2 := h.pen.rowLt hk
   omega
theorem SL.cells {w : World} {g : Nat} {b : Addr} {l : List (Int × Int)} (h : SL w g (some b) l) : ∀ (j : Nat) (u : Value), (cellsL l)[j]? = some u → w.cell? (b.add j) = some u := by
 intro j u hj
 have hlt : j < l.length * 2 := by
  have := (List.getElem?_eq_some_iff.1 hj).1
  rwa [cellsL_length] at this
 obtain ⟨⟨x, y⟩, hxy⟩ := get_lt (l := l) (j := j / 2) (by omega)
 obtain ⟨o, hb, hc⟩ := h (not_nil (j := j / 2) (by omega))
 simp only [Option.some.injEq] at hb
 subst hb
 obtain ⟨c1, c2⟩ := cellsL_at l (j / 2) x y hxy
 obtain ⟨h1, h2⟩ := hc (j / 2) x y hxy
 rw [Go.WideShapes.add_plain]
 rcases Nat.mod_two_eq_zero_or_one j with hm | hm
 ·have e : j / 2 * 2 = j := by omega
  rw [e] at c1 h1
  rw [h1, ← c1, hj]
 ·have e : j / 2 * 2 + 1 = j := by omega
  rw [e] at c2
  rw [show o + j / 2 * 2 + 1 = o + j by omega] at h2
  rw [h2, ← c2, hj]
theorem SL.later {w x : World} {g : Nat} {a : Option Addr} {l : List (Int × Int)} (h : SL w g a l) (hg : l ≠ [] → g < w.heap.size) (hb : Below w.heap.size w x) : SL x g a l := by
 intro hne
 exact h.keep (ofB (S := fun k => w.heap.size ≤ k) hb) (fun e => by have := hg hne; omega) hne
theorem SL.low {w x : World} {g : Nat} {a : Option Addr} {l : List (Int × Int)} (h : SL w g a l) (hg : l ≠ [] → g < w.heap.size) (hb : Below w.heap.size w x) : ∃ g', SL x g' a l ∧ g' ≤ w.heap.size := by
 by_cases hne : l = []
 ·subst hne; exact ⟨0, fun h => absurd rfl h, Nat.zero_le _⟩
 ·exact ⟨g, h.later hg hb, Nat.le_of_lt (hg hne)⟩
end S2
end Go.Proofs.YtpdfcojcmhadnaaGreat

namespace Go.Proofs.YtpdfcojcmhadnaaGreat
namespace S2
open Go.RowKit Go.Deep
def Cut (r : List UInt8) (bl : Bool) (R : List UInt8) : Prop := bl = true ∨ ∃ t, t ≠ [] ∧ r ++ t = R
theorem Cut.blind {r : List UInt8} {R : List UInt8} : Cut r true R := .inl rfl
end S2
end Go.Proofs.YtpdfcojcmhadnaaGreat

set_option linter.unusedVariables false
namespace Go.Proofs.YtpdfcojcmhadnaaGreat
namespace SP
open Go.RowKit
def u64 (x : Int) : Nat := (IntKind.u64.wrap x).toNat
abbrev Cur := List UInt8 × Bool × Bool
structure Cod (α : Type) where
 lay : α → List UInt8
 val : Cur → α
 fin : Cur → Cur
 good : α → Prop
def cI : Cod Int := ⟨S2.i8, fun c => S2.valI c.1 c.2.1, fun c => (S2.behind (S2.okI c.1 c.2.1) 8 c.1, !S2.okI c.1 c.2.1, c.2.2), fun x => (Lit.int .i64 x).wf = true⟩
def Cod.two {α β : Type} (a : Cod α) (b : Cod β) : Cod (α × β) := ⟨fun x => a.lay x.1 ++ b.lay x.2, fun c => (a.val c, b.val (a.fin c)), fun c => b.fin (a.fin c), fun x => a.good x.1 ∧ b.good x.2⟩
def many {α : Type} (k : Cod α) : Nat → Cur → List α × Cur
 | 0, c => ([], c)
 | n + 1, c => if (k.fin c).1.length = c.1.length then ([], k.fin c) else (k.val c :: (many k n (k.fin c)).1, (many k n (k.fin c)).2)
def said (c : Cur) : Cur := ((cI.fin c).1, (cI.fin c).2.1, c.2.2 || decide (cI.val c < 0))
def Cod.list {α : Type} (k : Cod α) : Cod (List α) :=
 ⟨fun l => S2.i8 l.length ++ l.flatMap k.lay, fun c => (many k (cI.val c).toNat (said c)).1, fun c => (many k (cI.val c).toNat (said c)).2, fun l => l.length ≤ 1000000 ∧ ∀ x ∈ l, k.good x⟩
end SP
end Go.Proofs.YtpdfcojcmhadnaaGreat
