/- FlatSums: two texts that are unlike in one byte alone have unlike sums: whatever the bytes, the place and the byte, the law returns true and leaves its arguments as they were. Conditions: none. -/
import Derived.BigQuiet
import Derived.Deep.QuietTactic
import Derived.Test.YtgipkikedacmdaaGreatMg30
set_option maxRecDepth 100000
set_option maxHeartbeats 16000000
namespace Go.Proofs.YtgipkikedacmdaaGreat
namespace S2
open Go.RowKit
structure Aft (w : World) where
 x : World
 h : Below w.heap.size w x
instance Aft.some (w : World) : Nonempty (Aft w) := ⟨⟨w, Below.refl _ _⟩⟩
theorem Aft.cell {w : World} (y : Aft w) (n i : Nat) (hn : n < w.heap.size) : y.x.cell? ⟨n, i, none⟩ = w.cell? ⟨n, i, none⟩ := y.h.cell (p := ⟨n, i, none⟩) hn
theorem Aft.frozen {w : World} (y : Aft w) (n i : Nat) (hn : n < w.heap.size) : y.x.frozen? ⟨n, i, none⟩ = w.frozen? ⟨n, i, none⟩ := y.h.frozen (p := ⟨n, i, none⟩) hn
theorem Aft.lt {w : World} (y : Aft w) (n : Nat) (hn : n < w.heap.size) : n < y.x.heap.size := Nat.lt_of_lt_of_le hn y.h.size
attribute [go_sem] Aft.cell Aft.frozen
theorem region_aft {P : Program} {id : Nat} {Q : Exit → Act → World → Prop} {a : Act} {w : World} {l : List Oper} (hm : P.follows .mixedOrders = true) (hB : Region.lexB .any l.toArray = true)
  (h : wpQuiet P l.toArray (fun w' => ∃ y : Aft w, w' = y.x) (fun a' => ∀ w', (∃ y : Aft w, w' = y.x) → Q .normal a' w') l a) : (Code.region id l.toArray true).wp P Q a w :=
 wp_region_quiet (C := fun w' => ∃ y : Aft w, w' = y.x) hm hB ⟨⟨{ w with drawn := w.drawn + 1 }, ⟨rfl, rfl, rfl, Nat.le_refl _, fun _ _ => rfl⟩⟩, rfl⟩ (by simpa using h)
theorem aft_of {P : Program} {f : FuncId} {args : Array Value} {w : World} {y : Aft w} {v : Value} (h : Calls P f args y.x fun e w' => e = .returned v ∧ Below y.x.heap.size y.x w') :
  Calls P f args y.x fun e w'' => e = .returned v ∧ ∃ z : Aft w, w'' = z.x :=
 h.mono fun _ w'' ⟨he, hb⟩ => ⟨he, ⟨w'', y.h.trans (hb.mono y.h.size)⟩, rfl⟩
theorem aft_same {P : Program} {f : FuncId} {args : Array Value} {w : World} {y : Aft w} {v : Value} (h : Calls P f args y.x fun e w' => e = .returned v ∧ y.x = w') :
  Calls P f args y.x fun e w'' => e = .returned v ∧ ∃ z : Aft w, w'' = z.x :=
 h.mono fun _ _ ⟨he, hw⟩ => ⟨he, y, hw.symm⟩
end S2
end Go.Proofs.YtgipkikedacmdaaGreat

namespace Go.Proofs.YtgipkikedacmdaaGreat
namespace S2
open Go.ChangeShapes Go.WideShapes Go.ChangeAt Go.RowKit Go.Joins Go.Deep
theorem row_set {w : World} {g : Nat} {v : Value} {l : List UInt8} (h : Row w (some g) v l) (k : Nat) (hk : k < l.length) (y : UInt8) :
  Bs (w.setCell ⟨g, k, none⟩ (bv y)) g v (l.set k y) ∧ (∃ u, w.cell? ⟨g, k, none⟩ = some u) ∧ w.frozen? ⟨g, k, none⟩ = false := by
 rcases h.1.2 with ⟨_, h0⟩ | ⟨b, cap, cur, rfl, hb, hh, hc, hm, hs, ht⟩
 ·omega
 ·have e : b = g := by have := h.2; simpa [Value.ownBlock] using this
  subst e
  have hget : ∀ (j : Nat) (x : UInt8), l[j]? = some x → cur[j]? = some (bv x) := by
   intro j x hx
   have h1 : cur.toList.take l.length = bvs l := by simpa using ht
   have h2 := bvs_at hx
   have hj := (List.getElem?_eq_some_iff.1 hx).1
   rw [← h1, List.getElem?_take_of_lt hj] at h2
   simpa using h2
  refine ⟨.inr ⟨0, cap, by rw [List.length_set], by rw [List.length_set]; exact hc, hm, fun j x hx => ?_⟩, ⟨_, by rw [cell_of_row w _ _ _ _ _ hh]; exact hget k _ (List.getElem?_eq_getElem hk)⟩, frozen_of_row w _ _ _ _ hh⟩
  rw [Nat.zero_add, cell_of_row _ _ _ _ _ _ (block_setCell hh (bv y))]
  rw [List.getElem?_set] at hx
  by_cases hjk : k = j
  ·subst hjk
   rw [if_pos rfl, if_pos hk] at hx
   simp only [Option.some.injEq] at hx
   subst hx
   have : k < cur.size := by omega
   simp [this]
  ·rw [if_neg hjk] at hx
   rw [Array.getElem?_setIfInBounds, if_neg hjk]
   exact hget j x hx
end S2
end Go.Proofs.YtgipkikedacmdaaGreat
