/- The arguments of this stage's laws, opened: bytes, numbers, texts, stamps that came in; Clone, Open, Sum of bytes that came in. Conditions: as each theorem states. -/
import Derived.Lib.SmallJoins
import Derived.Deep.Slices
import Derived.Deep.Fields
import Derived.Deep.Strs
import Derived.ChangeSlices
import Derived.ChangeMaps5
import Derived.Test.YtpdfcojcmhadnaaGreatMg28
import Derived.Test.YtpdfcojcmhadnaaGreatMg11
set_option maxRecDepth 100000
set_option maxHeartbeats 16000000
namespace Go.Proofs.YtpdfcojcmhadnaaGreat
namespace S2
open Go.ChangeShapes Go.WideShapes Go.ChangeAt Go.RowKit Go.Joins Go.Deep
theorem own0 : ownKnob Tryz.prog.godebug = none := by kernel_rfl
theorem laid0 : laidOutB Tryz.prog = true := by kernel_rfl
theorem cellsSt : Tryz.prog.cellsOf 24 = 2 := by kernel_rfl
theorem cells_int : Tryz.prog.cellsOf 3 = 1 := by kernel_rfl
theorem cells_str : Tryz.prog.cellsOf 9 = 1 := by kernel_rfl
def Bw (w : World) (g : Nat) (v : Value) (l : List UInt8) : Prop :=
 ∃ a c, v = .slice a l.length c ∧ (a = none → l = [] ∧ c = 0) ∧ l.length ≤ maxLen ∧ (l ≠ [] → ∃ o, a = some ⟨g, o, none⟩ ∧ ∀ j x, l[j]? = some x → w.cell? ⟨g, o + j, none⟩ = some (bv x))
theorem Bw.keep {S : Nat → Prop} {w w' : World} {g : Nat} {v : Value} {l : List UInt8} (h : Bw w g v l) (k : Keeps S w w') (hg : l ≠ [] → ¬ S g) : Bw w' g v l := by
 obtain ⟨a, c, hv, h0, hl, hc⟩ := h
 exact ⟨a, c, hv, h0, hl, fun hne => let ⟨o, ha, hx⟩ := hc hne; ⟨o, ha, fun j x hj => k.cell (hg hne) (hx j x hj)⟩⟩
theorem Bw.lt {w : World} {g : Nat} {v : Value} {l : List UInt8} (h : Bw w g v l) (hne : l ≠ []) : g < w.heap.size := by
 obtain ⟨a, c, _, _, _, hc⟩ := h
 obtain ⟨o, _, hx⟩ := hc hne
 exact World.block_lt_of_cell? _ _ (hx 0 _ (List.getElem?_eq_getElem (List.length_pos_iff.2 hne)))
section
variable {H : Type} {enc : TypeId × Value → H}
theorem addr_plain {w : World} {a : Addr} {v : Value} (h : w.cell? a = some v) : ∃ b o, a = ⟨b, o, none⟩ := by
 obtain ⟨b, o, s⟩ := a
 have hs : s = none := World.cell?_spot h
 subst hs
 exact ⟨b, o, rfl⟩
theorem at_addr {w : World} {a : Addr} {n : Nat} {V : Nat → Value} (h : ∀ i, i < n → w.cell? (a.add i) = some (V i)) (hn : 0 < n) : ∃ b o, a = ⟨b, o, none⟩ ∧ b < w.heap.size ∧ ∀ i, i < n → w.cell? ⟨b, o + i, none⟩ = some (V i) := by
 have h0 := h 0 hn
 have e : a.add 0 = a := by unfold Addr.add; split <;> simp_all
 rw [e] at h0
 obtain ⟨b, o, rfl⟩ := addr_plain h0
 refine ⟨b, o, rfl, World.block_lt_of_cell? _ _ h0, fun i hi => ?_⟩
 have := h i hi
 rwa [Go.WideShapes.add_plain] at this
end
end S2
end Go.Proofs.YtpdfcojcmhadnaaGreat
