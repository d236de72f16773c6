/- What a set has not of a list of stamps: IndexFunc by has. Conditions: at most a million stamps, each of them of two numbers that an int holds. -/
import Derived.DeepKeys4
import Derived.MapViews
import Derived.Test.YtpdfcojcmhadnaaGreatMg45
set_option maxRecDepth 100000
set_option maxHeartbeats 16000000
set_option linter.unusedVariables false
namespace Go.Proofs.YtpdfcojcmhadnaaGreat
open S1
namespace SD
open Go.RowKit
def MapT (w : World) (b n : Nat) (D : DataW Unit) : Prop := w.ownsMap Tryz.prog 24 unitElem b n D
theorem MapT.lt {w : World} {b n : Nat} {D : DataW Unit} (h : MapT w b n D) : b < w.heap.size := World.ownsMap.lt h
theorem MapT.later {B : Nat} {w wr : World} {b n : Nat} {D : DataW Unit} (h : MapT w b n D) (hw : Below B w wr) (hb : b < B) : MapT wr b n D := by
 obtain ⟨es, clock, hh, r⟩ := h
 exact ⟨es, clock, (hw.block b hb).trans hh, r⟩

def idxQ {α : Type} (p : α → Bool) (l : List α) : Int := if l.any p then (l.findIdx p : Int) else -1
theorem idxQ_hit {α : Type} {p : α → Bool} {l : List α} {k : Nat} {x : α} (hx : l[k]? = some x) (hp : p x = true) (hn : (l.take k).any p = false) : idxQ p l = (k : Int) := by
 have hk := (List.getElem?_eq_some_iff.1 hx).1
 have hm : l.any p = true := List.any_eq_true.2 ⟨x, List.mem_of_getElem? hx, hp⟩
 have hf : l.findIdx p = k := by
  refine (List.findIdx_eq hk).2 ⟨?_, fun j hj => ?_⟩
  ·rw [(List.getElem?_eq_some_iff.1 hx).2]; exact hp
  ·have hj2 : j < (l.take k).length := by rw [List.length_take]; omega
   have := List.any_eq_false.1 hn (l.take k)[j] (List.getElem_mem hj2)
   rw [List.getElem_take] at this
   simpa using this
 simp [idxQ, hm, hf]
theorem idxQ_miss {α : Type} {p : α → Bool} {l : List α} (hn : l.any p = false) : idxQ p l = -1 := by simp [idxQ, hn]
theorem any_take_t {α : Type} {p : α → Bool} {l : List α} {k : Nat} {x : α} (hx : l[k]? = some x) (hn : (l.take k).any p = false) (hp : p x = false) : (l.take (k + 1)).any p = false := by
 rw [List.take_add_one, hx, List.any_append, hn]
 simp [hp]
end SD
end Go.Proofs.YtpdfcojcmhadnaaGreat
