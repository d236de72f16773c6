/- A law's things, opened; the reference's Stamps. Conditions: as each theorem states. -/
import Derived.Deep.RegionWith
import Derived.Test.YtddbmibfebhmjaaMg09
set_option maxRecDepth 100000
set_option maxHeartbeats 16000000
namespace Go.Proofs.Ytddbmibfebhmjaa
namespace S2
open Go.RowKit
structure RowStep (g g' : Option Nat) (w w' : World) : Prop where
 keeps : Keeps (fun x => g = some x) w w'
 row : g' = g ∨ New w g'
theorem RowStep.refl (g : Option Nat) (w : World) : RowStep g g w w := ⟨Keeps.refl _ _, .inl rfl⟩
theorem RowStep.trans {g g' g'' : Option Nat} {u v w : World} (h : RowStep g g' u v) (k : RowStep g' g'' v w) : RowStep g g'' u w := by
 refine ⟨h.keeps.trans k.keeps fun x hx hs => ?_, ?_⟩
 ·rcases h.row with e | e
  ·rw [← e]; exact hs
  ·exact absurd (e x hs) (by omega)
 ·rcases k.row with e | e
  ·rw [e]; exact h.row
  ·exact .inr (e.later h.keeps)
theorem RowStep.below {B : Nat} {g g' : Option Nat} {x y : World} (h : RowStep g g' x y) (hB : B ≤ x.heap.size) (hr : ∀ k, g = some k → B ≤ k) : Below B x y :=
 h.keeps.below hB fun k hk e => by have := hr k e; omega
theorem RowStep.before {g g' : Option Nat} {w x y : World} (h : RowStep g g' x y) (k : Keeps (fun _ => False) w x) : RowStep g g' w y :=
 ⟨(k.mono fun _ _ h => h.elim).then h.keeps, h.row.imp id fun e => e.later k⟩
theorem Row.before {w x : World} {g : Option Nat} {v : Value} {l : List UInt8} (h : Row w g v l) (k : Keeps (fun _ => False) w x) : Row x g v l := h.keep k fun _ _ h => h
end S2
end Go.Proofs.Ytddbmibfebhmjaa

namespace Go.Proofs.Ytddbmibfebhmjaa
namespace S2
open Go.ChangeShapes Go.WideShapes Go.ChangeAt Go.RowKit Go.Joins Go.Deep
structure Th where
 k : Int
 n : Int
 s : ByteArray
 b : Bool
 t : Int × Int
 l : List (Int × Int)
 a : Option Addr
 c : Nat
 g : Nat
structure Th.ok (x : Th) : Prop where
 n : (Lit.int .i64 x.n).wf = true
 t1 : (Lit.int .i64 x.t.1).wf = true
 t2 : (Lit.int .i64 x.t.2).wf = true
 l : ∀ s ∈ x.l, (Lit.int .i64 s.1).wf = true ∧ (Lit.int .i64 s.2).wf = true
 s : x.s.size ≤ 140737488355328
 len : 16 * x.l.length ≤ 140737488355328
structure ThAt (w : World) (g o : Nat) (x : Th) : Prop where
 k : w.cell? ⟨g, o, none⟩ = some (.int .i64 x.k)
 n : w.cell? ⟨g, o + 1, none⟩ = some (.int .i64 x.n)
 s : w.cell? ⟨g, o + 2, none⟩ = some (.string x.s)
 b : w.cell? ⟨g, o + 3, none⟩ = some (.bool x.b)
 t1 : w.cell? ⟨g, o + 4, none⟩ = some (.int .i64 x.t.1)
 t2 : w.cell? ⟨g, o + 5, none⟩ = some (.int .i64 x.t.2)
 l : w.cell? ⟨g, o + 6, none⟩ = some (.slice x.a x.l.length x.c)
section
variable {H : Type} {enc : TypeId × Value → H}
end
end S2
end Go.Proofs.Ytddbmibfebhmjaa
