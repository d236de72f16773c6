/- Lists of byte lists that came in, opened with the reach of each; whole, the law's own sum of them. Conditions: none. -/
import Derived.Test.YtddbmibfebhmjaaMg26
import Derived.Test.YtddbmibfebhmjaaMg08
import Derived.Test.YtddbmibfebhmjaaMg09
import Derived.Test.YtddbmibfebhmjaaMg00
set_option maxRecDepth 100000
set_option maxHeartbeats 16000000
set_option linter.unusedVariables false
namespace Go.Proofs.Ytddbmibfebhmjaa
open S2
namespace SZ
open Go.ChangeShapes Go.WideShapes Go.ChangeAt Go.RowKit Go.Joins Go.Deep
theorem cells_bl14 : Try.prog.cellsOf 39 = 1 := by kernel_rfl
theorem bytes_u14 : Try.prog.bytesOf 5 = 1 := by kernel_rfl
section
variable {H : Type} {enc : TypeId × Value → H}
theorem weightsAll_mem14 {P : Program} {e : TypeId} {d : DataW H} {n : Nat} (hn : n ∈ d.weights P e) : ∀ {l : List (DataW H)}, d ∈ l → n ∈ DataW.weightsAll P e l
 | y :: r, h => by
  unfold DataW.weightsAll
  rcases List.mem_cons.1 h with rfl | h
  ·exact List.mem_append_left _ hn
  ·exact List.mem_append_right _ (weightsAll_mem14 hn h)
theorem weights_elem14 {P : Program} {t e : TypeId} (ht : P.underlying t = some (.slice e)) {elems spare : List (DataW H)} {d : DataW H} (hd : d ∈ elems) {n : Nat} (hn : n ∈ d.weights P e) : n ∈ (DataW.slice elems spare : DataW H).weights P t := by
 simp only [DataW.weights, ht]
 exact List.mem_cons_of_mem _ (List.mem_append_left _ (weightsAll_mem14 hn hd))
theorem weightsEach_mem14 {P : Program} {n : Nat} : ∀ {ts : List TypeId} {ds : List (DataW H)} {j : Nat} {t : TypeId} {d : DataW H}, ts[j]? = some t → ds[j]? = some d → n ∈ d.weights P t → n ∈ DataW.weightsEach P ts ds
 | t0 :: ts, d0 :: ds, 0, t, d, ht, hd, hn => by
  simp at ht hd
  subst ht hd
  unfold DataW.weightsEach
  exact List.mem_append_left _ hn
 | t0 :: ts, d0 :: ds, j + 1, t, d, ht, hd, hn => by
  unfold DataW.weightsEach
  exact List.mem_append_right _ (weightsEach_mem14 (by simpa using ht) (by simpa using hd) hn)
theorem bytes_cells14 {w : World} {cs : List Value} {fuel : Nat} {x : DataW H × List MemPlace} (hf' : DataW.trod enc Try.prog w 0 (fun _ => true) true fuel 39 cs = some x) :
  ∃ (a : Option Addr) (l : List UInt8) (cap g : Nat), cs = [.slice a l.length cap] ∧ Bw w g (.slice a l.length cap) l ∧ (l ≠ [] → g < w.heap.size) ∧ (l.length = 0 ∨ ∃ n ∈ x.1.weights Try.prog 39, l.length ≤ n) := by
 rcases open_ints Try.underlying39 Try.underlying5 cells_u8 hf' with ⟨hcs, _⟩ | ⟨a, len, cap, zs, hcs, _, hl, hm, hz, hx, hcell, hwf⟩
 ·exact ⟨none, [], 0, 0, hcs, ⟨none, 0, rfl, fun _ => ⟨rfl, rfl⟩, Nat.zero_le _, fun h => absurd rfl h⟩, fun h => absurd rfl h, .inl rfl⟩
 ·subst hcs
  simp only [if_true] at hz
  have hlen : (zs.take len).length = len := by rw [List.length_take]; omega
  have hL : ∃ l : List UInt8, zs.take len = l.map fun x => (x.toNat : Int) := by
   have hwf2 : ∀ n ∈ zs.take len, (Lit.int .u8 n).wf = true := fun n hn => hwf n (List.mem_of_mem_take hn)
   clear hlen hcell hwf hx hf' hz
   generalize zs.take len = ys at *
   induction ys with
   | nil => exact ⟨[], rfl⟩
   | cons z ys ih =>
    obtain ⟨x, rfl⟩ := byte_wf (hwf2 z (by simp))
    obtain ⟨l, rfl⟩ := ih (fun n hn => hwf2 n (by simp [hn]))
    exact ⟨x :: l, rfl⟩
  obtain ⟨l, hl2⟩ := hL
  have hll : l.length = len := by rw [← hlen, hl2, List.length_map]
  obtain ⟨g, hg⟩ : ∃ g, l ≠ [] → g < w.heap.size ∧ ∃ o, some a = some ⟨g, o, none⟩ ∧ ∀ (j : Nat) (x : UInt8), l[j]? = some x → w.cell? ⟨g, o + j, none⟩ = some (bv x) := by
   by_cases hne : l = []
   ·exact ⟨0, fun h => absurd hne h⟩
   ·have hpos : 0 < len := by rw [← hll]; exact List.length_pos_iff.2 hne
    obtain ⟨b, o, rfl, hb, hx2⟩ := at_addr (n := zs.length) hcell (by omega)
    refine ⟨b, fun _ => ⟨hb, o, rfl, fun j x hj => ?_⟩⟩
    have hjl : j < len := by
     have := (List.getElem?_eq_some_iff.1 hj).1
     omega
    rw [hx2 j (by omega)]
    have h1 : (zs.take len)[j]? = some (x.toNat : Int) := by rw [hl2]; simp [hj]
    rw [List.getElem?_take_of_lt hjl] at h1
    simp [List.getD, h1, bv]
  refine ⟨some a, l, cap, g, by rw [hll], ⟨some a, cap, rfl, (fun h => by cases h), by rw [hll]; omega, fun hne => (hg hne).2⟩, fun hne => (hg hne).1, .inr ⟨zs.length * 1, ?_, ?_⟩⟩
  ·rw [hx]
   simp only [DataW.weights, Try.underlying39, bytes_u14]
   have e : (lits (H := H) .u8 (zs.take len)).length + (lits (H := H) .u8 (zs.drop len)).length = zs.length := by simp [lits]; omega
   rw [e]
   exact List.mem_cons_self
  ·rw [hll, Nat.mul_one]
   rw [List.length_take] at hlen
   omega
end
end SZ
end Go.Proofs.Ytddbmibfebhmjaa
