/- The arguments of this stage's laws, opened: bytes, numbers, texts, stamps that came in; Clone, Open, Sum of bytes that came in. Conditions: as each theorem states. -/
import Derived.Lib.SmallJoins
import Derived.Deep.Slices
import Derived.Deep.Fields
import Derived.Deep.Strs
import Derived.ChangeSlices
import Derived.ChangeMaps5
import Derived.Test.YtddbmibfebhmjaaMg07
import Derived.Test.YtddbmibfebhmjaaMg00
set_option maxRecDepth 100000
set_option maxHeartbeats 16000000
namespace Go.Proofs.Ytddbmibfebhmjaa
namespace S2
open Go.ChangeShapes Go.WideShapes Go.ChangeAt Go.RowKit Go.Joins Go.Deep
theorem own0 : ownKnob Try.prog.godebug = none := by kernel_rfl
theorem laid0 : laidOutB Try.prog = true := by kernel_rfl
theorem cells_u8 : Try.prog.cellsOf 5 = 1 := by kernel_rfl
def Bw (w : World) (g : Nat) (v : Value) (l : List UInt8) : Prop :=
 ∃ a c, v = .slice a l.length c ∧ (a = none → l = [] ∧ c = 0) ∧ l.length ≤ maxLen ∧ (l ≠ [] → ∃ o, a = some ⟨g, o, none⟩ ∧ ∀ j x, l[j]? = some x → w.cell? ⟨g, o + j, none⟩ = some (bv x))
theorem Bw.keep {S : Nat → Prop} {w w' : World} {g : Nat} {v : Value} {l : List UInt8} (h : Bw w g v l) (k : Keeps S w w') (hg : l ≠ [] → ¬ S g) : Bw w' g v l := by
 obtain ⟨a, c, hv, h0, hl, hc⟩ := h
 exact ⟨a, c, hv, h0, hl, fun hne => let ⟨o, ha, hx⟩ := hc hne; ⟨o, ha, fun j x hj => k.cell (hg hne) (hx j x hj)⟩⟩
theorem Bs.bw {w : World} {g : Nat} {v : Value} {l : List UInt8} (h : Bs w g v l) : Bw w g v l := by
 rcases h with ⟨rfl, rfl⟩ | ⟨o, cap, rfl, h1, h2, h3⟩
 ·exact ⟨none, 0, rfl, fun _ => ⟨rfl, rfl⟩, Nat.zero_le _, fun h => absurd rfl h⟩
 ·exact ⟨_, cap, rfl, (fun h => by cases h), Nat.le_trans h1 h2, fun _ => ⟨o, rfl, h3⟩⟩
theorem Bw.src {w : World} {g : Nat} {v : Value} {l : List UInt8} (h : Bw w g v l) : Src Try.prog 1 39 v l.length (bvs l) w := by
 obtain ⟨a, c, rfl, h0, hl, hc⟩ := h
 cases a with
 | none =>
  obtain ⟨rfl, rfl⟩ := h0 rfl
  exact Src.ofNil w Try.underlying39 0
 | some a =>
  refine Src.ofSlice w Try.underlying39 a l.length c (bvs l) (by simp [bvs]) (fun j u hu => ?_) (bvs_one l)
  obtain ⟨x, hx, rfl⟩ := bvs_get hu
  obtain ⟨o, ha, hcc⟩ := hc (by rintro rfl; simp at hx)
  simp only [Option.some.injEq] at ha
  subst ha
  rw [add_plain]
  exact hcc j x hx
theorem Bw.lt {w : World} {g : Nat} {v : Value} {l : List UInt8} (h : Bw w g v l) (hne : l ≠ []) : g < w.heap.size := by
 obtain ⟨a, c, _, _, _, hc⟩ := h
 obtain ⟨o, _, hx⟩ := hc hne
 exact World.block_lt_of_cell? _ _ (hx 0 _ (List.getElem?_eq_getElem (List.length_pos_iff.2 hne)))
section
variable {H : Type} {enc : TypeId × Value → H}
theorem byte_wf {n : Int} (h : (Lit.int .u8 n).wf = true) : ∃ x : UInt8, n = (x.toNat : Int) := by
 simp only [Lit.wf, Bool.and_eq_true, decide_eq_true_eq] at h
 have e1 : IntKind.u8.min = 0 := rfl
 have e2 : IntKind.u8.max = 255 := rfl
 rw [e1, e2] at h
 refine ⟨UInt8.ofNat n.toNat, ?_⟩
 have : (UInt8.ofNat n.toNat).toNat = n.toNat := by simp; omega
 omega
theorem addr_plain {w : World} {a : Addr} {v : Value} (h : w.cell? a = some v) : ∃ b o, a = ⟨b, o, none⟩ := by
 obtain ⟨b, o, s⟩ := a
 have hs : s = none := World.cell?_spot h
 subst hs
 exact ⟨b, o, rfl⟩
theorem at_addr {w : World} {a : Addr} {n : Nat} {V : Nat → Value} (h : ∀ i, i < n → w.cell? (a.add i) = some (V i)) (hn : 0 < n) : ∃ b o, a = ⟨b, o, none⟩ ∧ b < w.heap.size ∧ ∀ i, i < n → w.cell? ⟨b, o + i, none⟩ = some (V i) := by
 have h0 := h 0 hn
 have e : a.add 0 = a := by unfold Addr.add; split <;> simp_all
 rw [e] at h0
 obtain ⟨b, o, rfl⟩ := addr_plain h0
 refine ⟨b, o, rfl, World.block_lt_of_cell? _ _ h0, fun i hi => ?_⟩
 have := h i hi
 rwa [Go.WideShapes.add_plain] at this
end
end S2
end Go.Proofs.Ytddbmibfebhmjaa
