/- Contracts of Key: eight bytes of a num's place in the order. Conditions: the nums are unsigned numbers of 64 bits. -/
import Derived.Test.YtmhgjijpilhcdaaNe
import Derived.LoopTactic
import Derived.Outline
import Derived.IntWalk
import Derived.Laws.IdiomStrings
namespace Go.Proofs.Ytmhgjijpilhcdaa
open Go.RowKit Go.Sort

/-- The eight bytes of a number, the highest first. -/
def be8 (x : Nat) : List UInt8 := (List.range 8).map fun k => UInt8.ofNat (x >>> (8 * (7 - k)))
/-- Block b has eight bytes. -/
def HasB (w : World) (b : Nat) (f : Nat → Int) : Prop := ∀ k, k < 8 → w.cell? ⟨b, k, none⟩ = some (.int .u8 (f k)) ∧ w.frozen? ⟨b, k, none⟩ = false
theorem HasB.set {w : World} {b : Nat} {f : Nat → Int} (h : HasB w b f) (k : Nat) (hk : k < 8) (v : Int) : HasB (w.setCell ⟨b, k, none⟩ (.int .u8 v)) b (fun i => if i = k then v else f i) := by
  intro i hi
  refine ⟨?_, by rw [World.frozen?_setCell]; exact (h i hi).2⟩
  by_cases e : i = k
  · subst e
    rw [World.cell?_setCell_same _ _ _ (h i hi).1]
    simp only [if_true]
  · rw [World.cell?_setCell_other _ _ _ _ (by intro hh; injection hh with h1 h2; exact e h2.symm), (h i hi).1]
    simp only [if_neg e]
theorem hasB_new (w : World) (t : TypeId) : HasB (w.alloc (.cells #[.int .u8 0, .int .u8 0, .int .u8 0, .int .u8 0, .int .u8 0, .int .u8 0, .int .u8 0, .int .u8 0] t)) w.heap.size (fun _ => 0) := by
  intro k hk
  have h := heap_alloc_new w (.cells #[.int .u8 0, .int .u8 0, .int .u8 0, .int .u8 0, .int .u8 0, .int .u8 0, .int .u8 0, .int .u8 0] t)
  generalize w.alloc (.cells #[.int .u8 0, .int .u8 0, .int .u8 0, .int .u8 0, .int .u8 0, .int .u8 0, .int .u8 0, .int .u8 0] t) = W at *
  have hk' : k = 0 ∨ k = 1 ∨ k = 2 ∨ k = 3 ∨ k = 4 ∨ k = 5 ∨ k = 6 ∨ k = 7 := by omega
  rcases hk' with rfl | rfl | rfl | rfl | rfl | rfl | rfl | rfl <;> exact ⟨by simp [World.cell?, h], by simp [World.frozen?, h]⟩
theorem HasB.congr {w : World} {b : Nat} {f g : Nat → Int} (h : HasB w b f) (e : ∀ k, k < 8 → f k = g k) : HasB w b g := fun k hk => by rw [← e k hk]; exact h k hk
def byteAt (x k : Nat) : Int := ((x >>> (8 * (7 - k)) % 256 : Nat) : Int)
theorem HasB.step {w : World} {b x j : Nat} (hj : j < 8) (h : HasB w b (fun k => if 7 - k < j then byteAt x k else 0)) (v : Int) (hv : v = byteAt x (7 - j)) : HasB (w.setCell ⟨b, 7 - j, none⟩ (.int .u8 v)) b (fun k => if 7 - k < j + 1 then byteAt x k else 0) := by
  refine (h.set (7 - j) (by omega) v).congr fun k hk => ?_
  by_cases e : k = 7 - j
  · subst e
    rw [if_pos rfl, if_pos (by omega), hv]
  · rw [if_neg e]
    by_cases h1 : 7 - k < j
    · rw [if_pos h1, if_pos (by omega)]
    · rw [if_neg h1, if_neg (by omega)]
theorem blNew {w x : World} (h : Below w.heap.size w x) (ob : Obj) : Below w.heap.size w (x.alloc ob) := h.alloc h.size ob
theorem blPut {w x : World} (h : Below w.heap.size w x) {p : Addr} (hp : w.heap.size ≤ p.block) (u : Value) : Below w.heap.size w (x.setCell p u) := h.setCell hp u
theorem blGo {w x y : World} (h : Below w.heap.size w x) (k : Below x.heap.size x y) : Below w.heap.size w y := h.trans (k.mono h.size)

theorem be8_conv (w : World) (b x : Nat) (h : HasB w b (byteAt x)) (src : TypeId) (hs : Try.prog.underlying src = some (.slice 5)) :
    (convert src 9 (.slice (some ⟨b, 0, none⟩) 8 8)).run Try.prog w = .ok (.string ⟨(be8 x).toArray⟩) w := by
  refine run_convert_bytes_back w src 9 5 ⟨b, 0, none⟩ 8 (be8 x) hs Try.underlying5 Try.underlying9 fun j hj => ?_
  have hj8 : j < 8 := by simpa [be8] using hj
  have e : (Addr.mk b 0 none).add j = ⟨b, j, none⟩ := by
    by_cases h0 : j = 0
    · subst h0; simp [Addr.add]
    · simp [Addr.add, h0]
  rw [e, (h j hj8).1]
  simp [be8, byteAt]

set_option maxRecDepth 100000 in
set_option maxHeartbeats 2000000 in
theorem key_any (n : Nat) (hn : n < 18446744073709551616) (w : World) : Calls Try.prog 27 #[.int .u64 (n : Int)] w fun e w' => e = .returned (.string ⟨(be8 (rkN n)).toArray⟩) ∧ Below w.heap.size w w' := by
  have hr := fun w => rank_any n hn w
  have hx := rkN_lt n hn
  generalize rkN n = x at *
  have hb0 := blNew (Below.refl w.heap.size w) (.cells #[.int .u8 0, .int .u8 0, .int .u8 0, .int .u8 0, .int .u8 0, .int .u8 0, .int .u8 0, .int .u8 0] 53)
  have hh0 := hasB_new w 53
  have HB0 := Lib.hid hb0
  have HH0 := Lib.hid hh0
  clear hb0 hh0
  go_enter Try.func27, Try.ntmps27
  go_wp2_with fail
  refine (hr _).mono ?_; rintro e w' ⟨rfl, rfl⟩
  go_wp2
  go_loopw [4, 8] (fun left i wr => ∃ j : Nat, j ≤ 8 ∧ i = .int .i64 j ∧ left = .int .u64 ((x >>> (8 * j) : Nat) : Int) ∧ HasB wr w.heap.size (fun k => if 7 - k < j then byteAt x k else 0) ∧ Below w.heap.size w wr) (fun _ i _ => 8 - (intOf i).toNat)
  case atStart => exact ⟨0, Nat.zero_le _, rfl, rfl, HH0.out.congr (fun k _ => by simp), HB0.out⟩
  case round =>
    obtain ⟨j, hj, rfl, rfl, hh, hb⟩ := hrel
    have HH := Lib.hid hh
    have HB := Lib.hid hb
    clear hb
    by_cases hlt : j < 8
    · have HS : Hid (((x >>> (8 * j) : Nat) : Int) / 256 = ((x >>> (8 * (j + 1)) : Nat) : Int)) := by
        show _ = _
        rw [Nat.mul_add, Nat.shiftRight_add, Nat.shiftRight_eq_div_pow _ (8 * 1)]
        simp
      have HV : Hid (((x >>> (8 * j) : Nat) : Int) % 256 = byteAt x (7 - j)) := by
        show _ = _
        unfold byteAt
        have : 7 - (7 - j) = j := by omega
        rw [this]
        simp
      generalize x >>> (8 * j) = y at *
      have hj' : j = 0 ∨ j = 1 ∨ j = 2 ∨ j = 3 ∨ j = 4 ∨ j = 5 ∨ j = 6 ∨ j = 7 := by omega
      rcases hj' with rfl | rfl | rfl | rfl | rfl | rfl | rfl | rfl
      · obtain ⟨c, f⟩ := hh 7 (by decide)
        clear hh
        go_wp2
        exact ⟨⟨1, by decide, rfl, by rw [HS.out], HasB.step (j := 0) (by decide) HH.out _ HV.out, blPut HB.out (Nat.le_refl _) _⟩, by simp [intOf]⟩
      · obtain ⟨c, f⟩ := hh 6 (by decide)
        clear hh
        go_wp2
        exact ⟨⟨2, by decide, rfl, by rw [HS.out], HasB.step (j := 1) (by decide) HH.out _ HV.out, blPut HB.out (Nat.le_refl _) _⟩, by simp [intOf]⟩
      · obtain ⟨c, f⟩ := hh 5 (by decide)
        clear hh
        go_wp2
        exact ⟨⟨3, by decide, rfl, by rw [HS.out], HasB.step (j := 2) (by decide) HH.out _ HV.out, blPut HB.out (Nat.le_refl _) _⟩, by simp [intOf]⟩
      · obtain ⟨c, f⟩ := hh 4 (by decide)
        clear hh
        go_wp2
        exact ⟨⟨4, by decide, rfl, by rw [HS.out], HasB.step (j := 3) (by decide) HH.out _ HV.out, blPut HB.out (Nat.le_refl _) _⟩, by simp [intOf]⟩
      · obtain ⟨c, f⟩ := hh 3 (by decide)
        clear hh
        go_wp2
        exact ⟨⟨5, by decide, rfl, by rw [HS.out], HasB.step (j := 4) (by decide) HH.out _ HV.out, blPut HB.out (Nat.le_refl _) _⟩, by simp [intOf]⟩
      · obtain ⟨c, f⟩ := hh 2 (by decide)
        clear hh
        go_wp2
        exact ⟨⟨6, by decide, rfl, by rw [HS.out], HasB.step (j := 5) (by decide) HH.out _ HV.out, blPut HB.out (Nat.le_refl _) _⟩, by simp [intOf]⟩
      · obtain ⟨c, f⟩ := hh 1 (by decide)
        clear hh
        go_wp2
        exact ⟨⟨7, by decide, rfl, by rw [HS.out], HasB.step (j := 6) (by decide) HH.out _ HV.out, blPut HB.out (Nat.le_refl _) _⟩, by simp [intOf]⟩
      · obtain ⟨c, f⟩ := hh 0 (by decide)
        clear hh
        go_wp2
        exact ⟨⟨8, by decide, rfl, by rw [HS.out], HasB.step (j := 7) (by decide) HH.out _ HV.out, blPut HB.out (Nat.le_refl _) _⟩, by simp [intOf]⟩
    · obtain rfl : j = 8 := by omega
      have hc := be8_conv wr w.heap.size x (HH.out.congr fun k hk => by rw [if_pos (by omega)])
      have h54 := hc 54 Try.underlying54
      clear hc hh
      go_wp2
      go_ret
      exact ⟨rfl, HB.out⟩

end Go.Proofs.Ytmhgjijpilhcdaa
