/- Regions that leave their order open, whose operations read older memory and whose calls give one value each and leave all older memory as it was: one walk, in the text's order, serves every order. Conditions: as each theorem states. -/
import Derived.BigQuiet
import Derived.Deep.QuietTactic
import Derived.Test.YtgipkikedacmdaaGreatMg30
set_option maxRecDepth 100000
set_option maxHeartbeats 16000000
namespace Go.Proofs.YtgipkikedacmdaaGreat
namespace S2
open Go.RowKit
structure Aft (w : World) where
 x : World
 h : Below w.heap.size w x
instance Aft.some (w : World) : Nonempty (Aft w) := ⟨⟨w, Below.refl _ _⟩⟩
theorem Aft.cell {w : World} (y : Aft w) (n i : Nat) (hn : n < w.heap.size) : y.x.cell? ⟨n, i, none⟩ = w.cell? ⟨n, i, none⟩ := y.h.cell (p := ⟨n, i, none⟩) hn
theorem Aft.frozen {w : World} (y : Aft w) (n i : Nat) (hn : n < w.heap.size) : y.x.frozen? ⟨n, i, none⟩ = w.frozen? ⟨n, i, none⟩ := y.h.frozen (p := ⟨n, i, none⟩) hn
theorem Aft.lt {w : World} (y : Aft w) (n : Nat) (hn : n < w.heap.size) : n < y.x.heap.size := Nat.lt_of_lt_of_le hn y.h.size
attribute [go_sem] Aft.cell Aft.frozen
theorem region_aft {P : Program} {id : Nat} {Q : Exit → Act → World → Prop} {a : Act} {w : World} {l : List Oper} (hm : P.follows .mixedOrders = true) (hB : Region.lexB .any l.toArray = true)
  (h : wpQuiet P l.toArray (fun w' => ∃ y : Aft w, w' = y.x) (fun a' => ∀ w', (∃ y : Aft w, w' = y.x) → Q .normal a' w') l a) : (Code.region id l.toArray true).wp P Q a w :=
 wp_region_quiet (C := fun w' => ∃ y : Aft w, w' = y.x) hm hB ⟨⟨{ w with drawn := w.drawn + 1 }, ⟨rfl, rfl, rfl, Nat.le_refl _, fun _ _ => rfl⟩⟩, rfl⟩ (by simpa using h)
theorem aft_of {P : Program} {f : FuncId} {args : Array Value} {w : World} {y : Aft w} {v : Value} (h : Calls P f args y.x fun e w' => e = .returned v ∧ Below y.x.heap.size y.x w') :
  Calls P f args y.x fun e w'' => e = .returned v ∧ ∃ z : Aft w, w'' = z.x :=
 h.mono fun _ w'' ⟨he, hb⟩ => ⟨he, ⟨w'', y.h.trans (hb.mono y.h.size)⟩, rfl⟩
theorem aft_same {P : Program} {f : FuncId} {args : Array Value} {w : World} {y : Aft w} {v : Value} (h : Calls P f args y.x fun e w' => e = .returned v ∧ y.x = w') :
  Calls P f args y.x fun e w'' => e = .returned v ∧ ∃ z : Aft w, w'' = z.x :=
 h.mono fun _ _ ⟨he, hw⟩ => ⟨he, y, hw.symm⟩
end S2
end Go.Proofs.YtgipkikedacmdaaGreat
