/- The reference's Sort: the list of these, each once, rising. Conditions: a list of at most a million stamps. -/
import Derived.Test.YtnicdbkjgicliaaAd
namespace Go.Proofs.Ytnicdbkjgicliaa
open Go.Sort (grow)
open Go.RowKit

theorem fold_take (l : List (Int × Int)) (k : Nat) (x : Int × Int) (h : l[k]? = some x) : (l.take (k + 1)).foldl addL [] = addL ((l.take k).foldl addL []) x := by
  rw [List.take_add_one, h, List.foldl_append]
  rfl
theorem fold_len (l : List (Int × Int)) (k : Nat) : ((l.take k).foldl addL []).length ≤ l.length := by
  refine Nat.le_trans (sortL_length (l.take k)) ?_
  simp
  omega

set_option maxRecDepth 100000 in
set_option maxHeartbeats 1000000 in
theorem refsort_any (a : Option Addr) (cap : Nat) (l : List (Int × Int)) (w : World) (hlen : l.length ≤ 1000000) (hl : SL w a l) :
    Calls Try.prog 24 #[.slice a l.length cap] w (RetA w (sortL l)) := by
  have HL := Lib.hid hl
  have HLEN := Lib.hid hlen
  clear hl
  go_enter Try.func24, Try.ntmps24
  go_wp2
  go_loopw [4, 3] (fun i v wr => ∃ (k : Nat) (d : List (Int × Int)) (a' : Option Addr) (c' : Nat), k ≤ l.length ∧ i = .int .i64 k ∧ d = (l.take k).foldl addL [] ∧ v = .slice a' d.length c' ∧ SL wr a' d ∧ (a' = none → c' = 0) ∧ d.length ≤ c' ∧ Below w.heap.size w wr) (fun i _ _ => l.length - (intOf i).toNat)
  case atStart => exact ⟨0, [], none, 0, Nat.zero_le _, rfl, rfl, rfl, SL.nil_ok _ _, fun _ => rfl, Nat.le_refl _, Below.refl _ _⟩
  case round =>
    obtain ⟨k, d, a', c', hk, rfl, hd, rfl, hsl, hn, hc, hbel⟩ := hrel
    have HB := Lib.hid hbel
    have HS := Lib.hid hsl
    have HN := Lib.hid hn
    have HC := Lib.hid hc
    have HD := Lib.hid hd
    clear hbel hsl hn hc hd
    by_cases hlt : k < l.length
    · obtain ⟨x, y, hxy⟩ := at_lt hlt
      obtain ⟨b, o, rfl, hb, hl⟩ := HL.out (ne_of_lt hlt)
      obtain ⟨hx, hy⟩ := hl.later hb HB.out k x y hxy
      have hbw : b < wr.heap.size := Nat.lt_of_lt_of_le hb HB.out.size
      have HFT : Hid ((l.take (k + 1)).foldl addL [] = addL d (x, y)) := by
        show _ = _
        rw [fold_take l k _ hxy, HD.out]
      have HDL : Hid (d.length ≤ 1000000) := by
        show d.length ≤ _
        rw [HD.out]
        exact Nat.le_trans (fold_len l k) HLEN.out
      clear hxy hl
      go_wp2_with fail
      refine (add_any a' c' d x y _ HDL.out HS.out HN.out HC.out).mono ?_
      rintro e w2 ⟨a2, c2, rfl, hs2, hn2, hc2, hb2⟩
      have HB2 := Lib.hid (blThen HB.out hb2)
      have HS2 := Lib.hid hs2
      have HN2 := Lib.hid hn2
      have HC2 := Lib.hid hc2
      clear hb2 hs2 hn2 hc2
      go_wp2
      go_roundw
      case rel => exact ⟨k + 1, addL d (x, y), a2, c2, hlt, by go_num, HFT.out.symm, rfl, HS2.out, HN2.out, HC2.out, HB2.out⟩
      case measure => simp [intOf]; omega
    · have hfin : Hid (d = sortL l) := by
        show d = sortL l
        rw [HD.out, List.take_of_length_le (by omega)]
        rfl
      go_wp2
      go_ret
      rw [← hfin.out]
      exact ⟨_, _, rfl, HS.out, HN.out, HC.out, HB.out⟩

end Go.Proofs.Ytnicdbkjgicliaa
