/- maps.Keys of a set of numbers: whatever the loop's body does, so it leaves maps and iterators alone, its numbers come, each once, in some order. Conditions: none. -/
import Derived.Test.YtopogdfmbdbimaaWa
import Derived.Lib.SlKeysI
import Derived.Maps.OwnSet
import Derived.Sort.MapsRangeIn
set_option linter.unusedVariables false
namespace Go.Proofs.Ytopogdfmbdbimaa
open Go.RowKit Go.Sort Go.Shelf Go.Maps
attribute [local go_sem] Oper.semAt_some

theorem lawI : Keyed Try.prog 3 := int_keyed Try.underlying3
/-- Block b is a map of at most k numbers that reads as D. -/
def MapI (w : World) (b k : Nat) (D : DataW Unit) : Prop := w.ownsMap Try.prog 3 unitElem b k D
theorem MapI.lt {w : World} {b k : Nat} {D : DataW Unit} (h : MapI w b k D) : b < w.heap.size := World.ownsMap.lt h
theorem MapI.later {B : Nat} {w wr : World} {b k : Nat} {D : DataW Unit} (h : MapI w b k D) (hw : Below B w wr) (hb : b < B) : MapI wr b k D := by
  obtain ⟨es, clock, hh, r⟩ := h
  exact ⟨es, clock, (hw.block b hb).trans hh, r⟩

set_option maxRecDepth 100000 in
set_option maxHeartbeats 2000000 in
theorem keys1_stops (n : Nat) (hn : 1 ≤ n) (Bm b nn : Nat) (D0 : DataW Unit) (w0 w : World) (hm : Box1 w0 Bm 46 (.map (some b))) (hown : MapI w0 b nn D0) (hbel : Below w0.heap.size w0 w) :
    SeqStopsK Fence.wide n Try.prog 49 #[.pointer (some ⟨Bm, 0, none⟩)] (fun s : Int => #[.int .i64 s]) KeepsWalks (fun ss => ss.Perm (intKeys D0)) (fun _ => True) (Maps.size D0) w := by
  intro y J Jx W hW hJ hJx hY h0
  have hb0 := hbel.trans (hW.mono hbel.size)
  have hownW : W.ownsMap Try.prog 3 unitElem b nn D0 := hown.later hb0 hown.lt
  have hc0 := cell_in hb0 hm.lt hm.c
  have hbl := Nat.lt_of_lt_of_le hm.lt hb0.size
  have HY := Lib.hid hY
  have HJ := Lib.hid hJ
  have HOWN := Lib.hid hownW
  clear hY hJ hJx hW hbel hm hown hb0 hownW
  refine callsIn_of_wp Try.func49 rfl trivial ?_ rfl
  simp only [Try.ntmps49, List.size_toArray, List.length_cons, List.length_nil, Nat.reduceAdd, Nat.reduceSub, Array.replicate_succ, Array.replicate_zero, List.push_toArray, List.append_toArray, List.nil_append, List.cons_append]
  gi_wp2_with (first
    | (gi_at_range; refine wpListIn_range_own _ rfl _ 46 rfl 3 58 lawI Try.underlying46 _ b nn _ rfl HOWN.out ?_; intro w0 hrg0 hg0 hs0)
    | gi_in)
  try go_frame
  gi_loopw [3] (fun _ wr => ∃ (left : Lit → Bool) (cnt : Nat) (ss : List Int), wr.ranges Try.prog 3 unitElem b W.heap.size nn D0 left cnt ∧ ss.length + cnt ≤ Maps.size D0 ∧ CollectedI D0 left ss ∧ J ss wr)
    (fun _ wr => wr.rangeLeft b W.heap.size)
  case atStart =>
    exact ⟨_, _, [], hrg0, by simp, CollectedI.start D0, HJ.out [] W _ none h0 hg0 (fun r e => by cases e)⟩
  case round =>
    obtain ⟨left, cnt, ss, hrg, hcs, hC, hJs⟩ := hrel
    gi_wp2_with (first
      | (gi_at_next; refine wpListIn_next_ranges _ rfl _ rfl 3 lawI unitElem encZ id (fun key kl hk => by obtain ⟨x, hx, _⟩ := Maps.keyOf_i64 Try.underlying3 hk; exact ⟨x, hx⟩) (fun v _ _ => ⟨v, rfl⟩) b W.heap.size nn _ _ _ rfl hrg ?_ ?_)
      | gi_in)
    · intro hc0 hl0
      gi_wp2
      go_end0
      exact ⟨⟨_, rfl⟩, .inl ⟨ss, hC.perm HOWN.out lawI Try.underlying3 hl0, hJs⟩⟩
    · intro x c kl yd yp w2 cnt2 hkey hlk hv hat hrg2 hlt hg2 hs2 hen
      obtain ⟨x', ex, rfl, _⟩ := Maps.keyOf_i64 Try.underlying3 hkey
      obtain rfl : x = x' := encZ_inj ex
      have hJ2 : J ss w2 := HJ.out ss wr w2 (some W.heap.size) hJs hg2 (fun r e => by cases e; exact ⟨Nat.le_refl _, hrg.iter_walk⟩)
      obtain ⟨fn, tmps, assign, body, hy, hR⟩ := HY.out ss x w2 hJ2 (by omega)
      clear hs2
      gi_wp2
      refine hR.mono ?_
      rintro e W3 (⟨rfl, hJ3, hk3⟩ | ⟨rfl, hJx3⟩)
      · gi_wp2
        have hrg3 := hrg2.of_walks hk3
        go_roundw
        case rel => exact ⟨_, cnt2, ss ++ [x], hrg3, by simp; omega, hC.step hlk hat, hJ3⟩
        case measure => rw [hrg3.left_eq, hrg.left_eq]; exact hlt
      · gi_wp2
        refine bodyPost_ret (results_none rfl _ _ _) rfl ?_
        exact ⟨⟨_, rfl⟩, .inr ⟨_, trivial, hJx3⟩⟩

end Go.Proofs.Ytopogdfmbdbimaa
