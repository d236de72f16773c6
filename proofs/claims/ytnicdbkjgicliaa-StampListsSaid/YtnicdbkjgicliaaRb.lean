/- The reference's Below: the stamps of l that are less than s, in l's order. Conditions: a list of at most a million stamps. -/
import Derived.Test.YtnicdbkjgicliaaSl
namespace Go.Proofs.Ytnicdbkjgicliaa
open Go.Sort (grow)
open Go.RowKit

set_option maxRecDepth 100000 in
set_option maxHeartbeats 1000000 in
theorem refbelow_any (a : Option Addr) (cap : Nat) (l : List (Int × Int)) (t n : Int) (w : World) (hlen : l.length ≤ 1000000) (hl : SL w a l) :
    Calls Try.prog 31 #[.slice a l.length cap, .agg #[.int .i64 t, .int .i64 n]] w (RetC w (l.filter fun x => ltS x (t, n))) := by
  have HL := Lib.hid hl
  have HLEN := Lib.hid hlen
  clear hl
  generalize hp : (fun x => ltS x (t, n)) = p
  have HP := Lib.hid hp
  clear hp
  generalize hv : l.filter p = r
  have HV := Lib.hid hv
  clear hv
  go_enter Try.func31, Try.ntmps31
  go_wp2
  have hB1 : Hid (Below w.heap.size w (w.alloc (Obj.cells #[Value.int IntKind.i64 t, Value.int IntKind.i64 n] 23))) := (Below.refl _ _).alloc (Nat.le_refl _) _
  have hN : Own2 (w.alloc (Obj.cells #[Value.int IntKind.i64 t, Value.int IntKind.i64 n] 23)) w.heap.size t n := own2_new _ _ _
  generalize w.alloc (Obj.cells #[Value.int IntKind.i64 t, Value.int IntKind.i64 n] 23) = W at *
  have HN := Lib.hid hN
  have hS := hN.lt
  clear hN
  go_loopw [6, 5] (fun i v wr => ∃ k : Nat, k ≤ l.length ∧ i = .int .i64 k ∧ Below W.heap.size W wr ∧ OwnL wr W.heap.size v ((l.take k).filter p)) (fun i _ _ => l.length - (intOf i).toNat)
  case atStart => exact ⟨0, Nat.zero_le _, rfl, Below.refl _ _, OwnL.nil _ _⟩
  case round =>
    obtain ⟨k, hk, rfl, hbel, hown⟩ := hrel
    have HB := Lib.hid hbel
    have HO := Lib.hid hown
    have hN2 := HN.out.later hbel hS
    have hc0 := hN2.c0
    have hc1 := hN2.c1
    have hsz : w.heap.size < wr.heap.size := hN2.lt
    have HBW := Lib.hid (hB1.out.trans (hbel.mono (Nat.le_of_lt hS)))
    clear hbel hown hN2
    by_cases hlt : k < l.length
    · obtain ⟨x, y, hxy⟩ := at_lt hlt
      obtain ⟨b, o, rfl, hb, hl⟩ := HL.out (ne_of_lt hlt)
      obtain ⟨hx, hy⟩ := hl.later hb HBW.out k x y hxy
      have hbw : b < wr.heap.size := Nat.lt_of_lt_of_le hb HBW.out.size
      have HXY := Lib.hid hxy
      have HST := Lib.hid (filter_take p l k _ hxy)
      have HFC := Lib.hid (filter_full p l k (x, y) HXY.out)
      have HLK := Lib.hid (hl.later hb HBW.out k x y hxy)
      clear hxy hl
      cases hc : ltS (x, y) (t, n)
      · have HC : Hid (p (x, y) = false) := by rw [← HP.out]; exact hc
        have HLT := Lib.hid hc
        clear hc
        go_wp2_with fail
        refine region_aft (by kernel_rfl) (by kernel_rfl) ?_
        repeat (go_big_quiet_step (first | (go_at_call 13; exact aft_grown ((less_any _ _ _ _ _).mono fun e w' h => by rw [HLT.out] at h; exact h))))
        refine wpQuiet_nil ?_
        rintro w2 ⟨z, rfl⟩
        go_wp2
        go_roundw
        case rel => exact ⟨k + 1, hlt, by go_num, HB.out.trans (z.h.mono HB.out.size), by
          rw [HST.out, if_neg (by rw [HC.out]; simp), List.append_nil]
          exact HO.out.later z.h⟩
        case measure => simp [intOf]; omega
      · have HC : Hid (p (x, y) = true) := by rw [← HP.out]; exact hc
        have HLT := Lib.hid hc
        clear hc
        go_wp2_with fail
        refine region_aft (by kernel_rfl) (by kernel_rfl) ?_
        repeat (go_big_quiet_step (first | (go_at_call 13; exact aft_grown ((less_any _ _ _ _ _).mono fun e w' h => by rw [HLT.out] at h; exact h))))
        refine wpQuiet_nil ?_
        rintro w2 ⟨z, rfl⟩
        have HB3 := Lib.hid (HB.out.trans (z.h.mono HB.out.size))
        have HO3 := Lib.hid ((HO.out.later z.h).later (blAlloc (Below.refl _ _) (Obj.cells #[Value.int IntKind.i64 x, Value.int IntKind.i64 y] 23)))
        have HS3 := Lib.hid (one_sl _ x y _ (own2_new z.x x y))
        go_wp2_with (at_builtin; refine append_st rfl _ _ rfl W.heap.size _ _ rfl HO3.out (some ⟨z.x.heap.size, 0, none⟩) 1 [(x, y)] rfl HS3.out (fun h => (by cases h)) (by have := HFC.out; have := HLEN.out; simp only [List.length_singleton]; omega) (blAlloc HB3.out _).size ?_)
        · intro v' w' hown hgrow
          have HB4 := Lib.hid (grown_below (blAlloc HB3.out _) HO3.out (Nat.le_refl _) (blAlloc HB3.out _).size hgrow)
          have HO4 : Hid (OwnL w' W.heap.size v' ((l.take (k + 1)).filter p)) := by
            show OwnL _ _ _ _
            rw [HST.out, if_pos HC.out]
            exact hown
          clear hown hgrow
          go_wp2
          go_roundw
          case rel => exact ⟨k + 1, hlt, by go_num, HB4.out, HO4.out⟩
          case measure => simp [intOf]; omega
    · go_wp2
      go_ret
      refine OwnL.retc ?_ (Nat.le_of_lt hS) HBW.out
      have := HO.out
      rwa [List.take_of_length_le (by omega), HV.out] at this

end Go.Proofs.Ytnicdbkjgicliaa
