/- The reference's Same at two slices that hold the same stamps, and its List at a rising one: both return true. Conditions: lists of at most a million stamps. -/
import Derived.Test.YtnicdbkjgicliaaSh
namespace Go.Proofs.Ytnicdbkjgicliaa
open Go.Sort (grow)
open Go.RowKit

set_option maxRecDepth 100000 in
set_option maxHeartbeats 1000000 in
theorem same_yes (a a' : Option Addr) (cap cap' : Nat) (l : List (Int × Int)) (w : World) (hlen : l.length ≤ 1000000) (hl : SL w a l) (hl' : SL w a' l) :
    Calls Try.prog 25 #[.slice a l.length cap, .slice a' l.length cap'] w fun e w' => e = .returned (.bool true) ∧ Below w.heap.size w w' := by
  have HL := Lib.hid hl
  have HL' := Lib.hid hl'
  clear hl hl'
  go_enter Try.func25, Try.ntmps25
  go_wp2
  go_loopw [5] (fun i wr => ∃ k : Nat, k ≤ l.length ∧ i = .int .i64 k ∧ Below w.heap.size w wr) (fun i _ => l.length - (intOf i).toNat)
  case atStart => exact ⟨0, Nat.zero_le _, rfl, Below.refl _ _⟩
  case round =>
    obtain ⟨k, hk, rfl, hbel⟩ := hrel
    have HB := Lib.hid hbel
    by_cases hlt : k < l.length
    · obtain ⟨x, y, hxy⟩ := at_lt hlt
      obtain ⟨b, o, rfl, hb, hl⟩ := HL.out (ne_of_lt hlt)
      obtain ⟨b', o', rfl, hb', hl'⟩ := HL'.out (ne_of_lt hlt)
      obtain ⟨hx, hy⟩ := hl.later hb HB.out k x y hxy
      obtain ⟨hx', hy'⟩ := hl'.later hb' HB.out k x y hxy
      have hbw : b < wr.heap.size := Nat.lt_of_lt_of_le hb HB.out.size
      have hbw' : b' < wr.heap.size := Nat.lt_of_lt_of_le hb' HB.out.size
      clear hl hl' hxy hbel
      go_wp2_with fail
      refine region_aft (by kernel_rfl) (by kernel_rfl) ?_
      repeat (go_big_quiet_step (fail))
      refine wpQuiet_nil ?_
      rintro w2 ⟨z, rfl⟩
      go_wp2
      go_roundw
      case rel => exact ⟨k + 1, hlt, by go_num, blThen HB.out z.h⟩
      case measure => simp [intOf]; omega
    · go_wp2
      go_ret
      exact ⟨rfl, HB.out⟩

theorem SS.next {l : List (Int × Int)} (h : SS l) {k : Nat} {x y : Int × Int} (hx : l[k]? = some x) (hy : l[k + 1]? = some y) : ltS x y = true := by
  obtain ⟨h1, rfl⟩ := List.getElem?_eq_some_iff.1 hx
  obtain ⟨h2, rfl⟩ := List.getElem?_eq_some_iff.1 hy
  exact List.pairwise_iff_getElem.1 h k (k + 1) h1 h2 (by omega)

set_option maxRecDepth 100000 in
set_option maxHeartbeats 1000000 in
theorem list_yes (a : Option Addr) (cap : Nat) (l : List (Int × Int)) (w : World) (hlen : l.length ≤ 1000000) (hl : SL w a l) (hs : SS l) :
    Calls Try.prog 40 #[.slice a l.length cap] w fun e w' => e = .returned (.bool true) ∧ Below w.heap.size w w' := by
  have HL := Lib.hid hl
  have HS := Lib.hid hs
  clear hl hs
  go_enter Try.func40, Try.ntmps40
  go_wp2
  go_loopw [3] (fun i wr => ∃ k : Nat, i = .int .i64 ((k : Int) + 1) ∧ k ≤ l.length ∧ Below w.heap.size w wr) (fun i _ => l.length + 1 - (intOf i).toNat)
  case atStart => exact ⟨0, rfl, Nat.zero_le _, Below.refl _ _⟩
  case round =>
    obtain ⟨k, rfl, hk, hbel⟩ := hrel
    have HB := Lib.hid hbel
    by_cases hlt : k + 1 < l.length
    · obtain ⟨x, y, hxy⟩ := at_lt (l := l) (k := k) (by omega)
      obtain ⟨u, v, huv⟩ := at_lt hlt
      obtain ⟨b, o, rfl, hb, hl⟩ := HL.out (ne_of_lt hlt)
      obtain ⟨hx, hy⟩ := hl.later hb HB.out k x y hxy
      obtain ⟨hx', hy'⟩ := hl.later hb HB.out (k + 1) u v huv
      have hbw : b < wr.heap.size := Nat.lt_of_lt_of_le hb HB.out.size
      have HLT := Lib.hid (SS.next HS.out hxy huv)
      have hltI : (k : Int) + 1 < (l.length : Int) := by omega
      clear hl hxy huv hbel
      go_wp2_with fail
      refine region_aft (by kernel_rfl) (by kernel_rfl) ?_
      repeat (go_big_quiet_step (first | (go_at_call 13; exact aft_grown ((less_any _ _ _ _ _).mono fun e w' h => by rw [HLT.out] at h; exact h))))
      refine wpQuiet_nil ?_
      rintro w2 ⟨z, rfl⟩
      go_wp2
      go_roundw
      case rel => exact ⟨k + 1, by go_num, by omega, blThen HB.out z.h⟩
      case measure => simp [intOf]; omega
    · have hge : ¬ (k : Int) + 1 < (l.length : Int) := by omega
      go_wp2
      go_ret
      exact ⟨rfl, HB.out⟩

end Go.Proofs.Ytnicdbkjgicliaa
