/- What is there while ops are done: a map from keys to nums, in memory; the object stock. Conditions: keys no longer than a text may be. -/
import Derived.Maps.OwnSet
import Derived.Maps.OwnOps
import Derived.Maps.RangeWalk
import Derived.Test.YtgipkikedacmdaaGreatMg39
set_option maxRecDepth 100000
set_option maxHeartbeats 16000000
set_option linter.unusedVariables false
namespace Go.Proofs.YtgipkikedacmdaaGreat
open S3 SN
namespace SP
open Go.ChangeShapes Go.WideShapes Go.ChangeAt Go.RowKit Go.Joins Go.Deep
def numR (v : Value) : Option (DataW Value × List MemPlace) := match v with | .int .u64 i => if 0 ≤ i then some (.held v, []) else none | _ => none
def kK (k : ByteArray) : Lit := .string k.data.toList
def zN : DataW Value := .held (.int .u64 0)
def RepD (D : DataW Value) (d : Al Nat) : Prop := Maps.IsMap D ∧ ∀ k, Maps.has D (kK k) = hasP d k ∧ D.atKey (kK k) zN = .held (.int .u64 (valP d k : Nat))
def MapN (w : World) (b n : Nat) (d : Al Nat) : Prop := ∃ D : DataW Value, w.ownsMap Tryz.prog 9 numR b n D ∧ RepD D d
theorem MapN.lt {w : World} {b n : Nat} {d : Al Nat} (h : MapN w b n d) : b < w.heap.size := by obtain ⟨D, h, _⟩ := h; exact World.ownsMap.lt h
theorem MapN.later {B : Nat} {w wr : World} {b n : Nat} {d : Al Nat} (h : MapN w b n d) (hw : Below B w wr) (hb : b < B) : MapN wr b n d := by
 obtain ⟨D, ⟨es, clock, hh, r⟩, h2⟩ := h
 exact ⟨D, ⟨es, clock, (hw.block b hb).trans hh, r⟩, h2⟩
end SP
end Go.Proofs.YtgipkikedacmdaaGreat
