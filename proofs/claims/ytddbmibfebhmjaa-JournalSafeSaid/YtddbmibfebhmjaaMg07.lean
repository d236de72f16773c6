/- live, the closed check that every statement of this stage ends with, returns true. Conditions: none. -/
import Derived.Lib.SlBytesConst
import Derived.Test.YtddbmibfebhmjaaMg06
set_option maxRecDepth 100000
set_option maxHeartbeats 16000000
namespace Go.Proofs.Ytddbmibfebhmjaa
namespace S2
open Go.RowKit
theorem text_new (w : World) (s : ByteArray) (b : Nat) (hb : b = w.heap.size) (W : World) (hW : W.heap = (w.alloc (.cells #[.string s] 9)).heap) : TL W b (some ⟨b, 0, none⟩) [s] := by
 subst hb
 have h : W.heap[w.heap.size]? = some (.cells #[.string s] 9 (0, 0)) := by rw [hW]; exact heap_alloc_new w _
 intro _
 refine ⟨0, rfl, fun j z hz => ?_⟩
 rw [cell_of_row W _ _ _ _ _ h]
 match j, hz with
 | 0, hz => simp at hz; simp [hz]
theorem bs_const (w : World) (l : List UInt8) (C : Array Value) (hC : C = (bvs l).toArray) (p : Nat × Nat) (b : Nat) (hb : b = w.heap.size) (n : Nat) (hn : n = l.length) (hl : l.length ≤ maxLen) (W : World) (hW : W.heap = (w.alloc (.cells C 5 p)).heap) : Bs W b (.slice (some ⟨b, 0, none⟩) n n) l := by
 subst hb hn hC
 have h : W.heap[w.heap.size]? = some (.cells (bvs l).toArray 5 p) := by rw [hW]; exact heap_alloc_new w _
 refine .inr ⟨0, l.length, rfl, Nat.le_refl _, hl, fun j x hx => ?_⟩
 rw [cell_of_row W _ _ _ _ _ h]
 simpa using bvs_at hx
theorem PenStep.below {B b : Nat} {r r' : Option Nat} {x y : World} (h : PenStep b r r' x y) (hB : B ≤ x.heap.size) (hb : B ≤ b) (hr : ∀ k, r = some k → B ≤ k) : Below B x y :=
 h.keeps.below hB fun k hk hs => by
  rcases hs with rfl | hs
  ·omega
  ·have := hr k hs; omega
theorem PenStep.from {B b : Nat} {r r' : Option Nat} {x y : World} (h : PenStep b r r' x y) (hB : B ≤ x.heap.size) (hr : ∀ k, r = some k → B ≤ k) : ∀ k, r' = some k → B ≤ k := by
 intro k hk
 rcases h.row with e | e
 ·exact hr k (by rw [← e]; exact hk)
 ·exact Nat.le_trans hB (e k hk)
theorem ofB {S : Nat → Prop} {x y : World} (h : Below x.heap.size x y) : Keeps S x y := .ofBelow h
end S2
end Go.Proofs.Ytddbmibfebhmjaa
