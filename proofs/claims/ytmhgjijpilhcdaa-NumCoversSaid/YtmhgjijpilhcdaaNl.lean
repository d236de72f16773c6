/- Contracts of the reference's Key. Conditions: the nums are unsigned numbers of 64 bits. -/
import Derived.Test.YtmhgjijpilhcdaaNk
namespace Go.Proofs.Ytmhgjijpilhcdaa
open Go.RowKit Go.Sort

theorem HasB.up {w : World} {b x j : Nat} (hj : j < 8) (h : HasB w b (fun k => if k < j then byteAt x k else 0)) (v : Int) (hv : v = byteAt x j) : HasB (w.setCell ⟨b, j, none⟩ (.int .u8 v)) b (fun k => if k < j + 1 then byteAt x k else 0) := by
  refine (h.set j hj v).congr fun k hk => ?_
  by_cases e : k = j
  · subst e
    rw [if_pos rfl, if_pos (by omega), hv]
  · rw [if_neg e]
    by_cases h1 : k < j
    · rw [if_pos h1, if_pos (by omega)]
    · rw [if_neg h1, if_neg (by omega)]
theorem info_u8 : (Try.prog.info? 5).map (fun i => (i.zero, i.size, i.bytes)) = some (some (.int .u8 0), 1, 1) := by kernel_rfl
theorem made8 (w : World) : (Instr.makeSlice 54 (.int .i64 8) (.int .i64 8)).run Try.prog w = .ok (.slice (some ⟨w.heap.size, 0, none⟩) 8 8) (w.alloc (.cells #[.int .u8 0, .int .u8 0, .int .u8 0, .int .u8 0, .int .u8 0, .int .u8 0, .int .u8 0, .int .u8 0] 5)) := by
  cases hi : Try.prog.info? 5 with
  | none => have h := info_u8; rw [hi] at h; cases h
  | some i =>
    have h := info_u8
    rw [hi] at h
    simp only [Option.map_some, Option.some.injEq, Prod.mk.injEq] at h
    obtain ⟨hz, hs, hb⟩ := h
    have hm := run_make (P := Try.prog) w 54 5 i _ Try.underlying54 hi hz .i64 .i64 8 8 (by decide) (by decide) (by rw [hb]; decide) (by decide)
    rw [hs] at hm
    have e : madeCells (Value.int .u8 0).cells (Int.toNat 8 * 1) = #[.int .u8 0, .int .u8 0, .int .u8 0, .int .u8 0, .int .u8 0, .int .u8 0, .int .u8 0, .int .u8 0] := by kernel_rfl
    rw [e] at hm
    exact hm

set_option maxRecDepth 100000 in
set_option maxHeartbeats 2000000 in
theorem rkey_any (n : Nat) (hn : n < 18446744073709551616) (w : World) : Calls Try.prog 28 #[.int .u64 (n : Int)] w fun e w' => e = .returned (.string ⟨(be8 (rkN n)).toArray⟩) ∧ Below w.heap.size w w' := by
  have hr := fun w => rrank_any n hn w
  have hx := rkN_lt n hn
  generalize rkN n = x at *
  have hmk := made8
  have hb0 := blNew (Below.refl w.heap.size w) (.cells #[.int .u8 0, .int .u8 0, .int .u8 0, .int .u8 0, .int .u8 0, .int .u8 0, .int .u8 0, .int .u8 0] 5)
  have hh0 := hasB_new w 5
  have HB0 := Lib.hid hb0
  have HH0 := Lib.hid hh0
  clear hb0 hh0
  go_enter Try.func28, Try.ntmps28
  go_wp2_with fail
  refine (hr _).mono ?_; rintro e w' ⟨rfl, rfl⟩
  go_wp2
  clear hmk
  go_loopw [5] (fun i wr => ∃ j : Nat, j ≤ 8 ∧ i = .int .i64 j ∧ HasB wr w.heap.size (fun k => if k < j then byteAt x k else 0) ∧ Below w.heap.size w wr) (fun i _ => 8 - (intOf i).toNat)
  case atStart => exact ⟨0, Nat.zero_le _, rfl, HH0.out.congr (fun k _ => by simp), HB0.out⟩
  case round =>
    obtain ⟨j, hj, rfl, hh, hb⟩ := hrel
    have HH := Lib.hid hh
    have HB := Lib.hid hb
    clear hb
    by_cases hlt : j < 8
    · have hj' : j = 0 ∨ j = 1 ∨ j = 2 ∨ j = 3 ∨ j = 4 ∨ j = 5 ∨ j = 6 ∨ j = 7 := by omega
      rcases hj' with rfl | rfl | rfl | rfl | rfl | rfl | rfl | rfl
      · obtain ⟨c, f⟩ := hh 0 (by decide)
        clear hh
        go_wp2
        exact ⟨⟨1, by decide, rfl, HasB.up (j := 0) (by decide) HH.out _ (by simp [byteAt, Nat.shiftRight_eq_div_pow] <;> omega), blPut HB.out (Nat.le_refl _) _⟩, by simp [intOf]⟩
      · obtain ⟨c, f⟩ := hh 1 (by decide)
        clear hh
        go_wp2
        exact ⟨⟨2, by decide, rfl, HasB.up (j := 1) (by decide) HH.out _ (by simp [byteAt, Nat.shiftRight_eq_div_pow] <;> omega), blPut HB.out (Nat.le_refl _) _⟩, by simp [intOf]⟩
      · obtain ⟨c, f⟩ := hh 2 (by decide)
        clear hh
        go_wp2
        exact ⟨⟨3, by decide, rfl, HasB.up (j := 2) (by decide) HH.out _ (by simp [byteAt, Nat.shiftRight_eq_div_pow] <;> omega), blPut HB.out (Nat.le_refl _) _⟩, by simp [intOf]⟩
      · obtain ⟨c, f⟩ := hh 3 (by decide)
        clear hh
        go_wp2
        exact ⟨⟨4, by decide, rfl, HasB.up (j := 3) (by decide) HH.out _ (by simp [byteAt, Nat.shiftRight_eq_div_pow] <;> omega), blPut HB.out (Nat.le_refl _) _⟩, by simp [intOf]⟩
      · obtain ⟨c, f⟩ := hh 4 (by decide)
        clear hh
        go_wp2
        exact ⟨⟨5, by decide, rfl, HasB.up (j := 4) (by decide) HH.out _ (by simp [byteAt, Nat.shiftRight_eq_div_pow] <;> omega), blPut HB.out (Nat.le_refl _) _⟩, by simp [intOf]⟩
      · obtain ⟨c, f⟩ := hh 5 (by decide)
        clear hh
        go_wp2
        exact ⟨⟨6, by decide, rfl, HasB.up (j := 5) (by decide) HH.out _ (by simp [byteAt, Nat.shiftRight_eq_div_pow] <;> omega), blPut HB.out (Nat.le_refl _) _⟩, by simp [intOf]⟩
      · obtain ⟨c, f⟩ := hh 6 (by decide)
        clear hh
        go_wp2
        exact ⟨⟨7, by decide, rfl, HasB.up (j := 6) (by decide) HH.out _ (by simp [byteAt, Nat.shiftRight_eq_div_pow] <;> omega), blPut HB.out (Nat.le_refl _) _⟩, by simp [intOf]⟩
      · obtain ⟨c, f⟩ := hh 7 (by decide)
        clear hh
        go_wp2
        exact ⟨⟨8, by decide, rfl, HasB.up (j := 7) (by decide) HH.out _ (by simp [byteAt, Nat.shiftRight_eq_div_pow] <;> omega), blPut HB.out (Nat.le_refl _) _⟩, by simp [intOf]⟩
    · obtain rfl : j = 8 := by omega
      have hc := be8_conv wr w.heap.size x (HH.out.congr fun k hk => by rw [if_pos (by omega)])
      have h54 := hc 54 Try.underlying54
      clear hc hh
      go_wp2
      go_ret
      exact ⟨rfl, HB.out⟩

end Go.Proofs.Ytmhgjijpilhcdaa
