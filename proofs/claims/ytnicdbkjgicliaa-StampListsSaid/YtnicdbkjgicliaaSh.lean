/- stamp.Below and the reference's Below: the stamps of l that are less than s, in l's order. Conditions: a list of at most a million stamps. -/
import Derived.Test.YtnicdbkjgicliaaSg
namespace Go.Proofs.Ytnicdbkjgicliaa
open Go.Sort (grow)
open Go.RowKit

theorem OwnL.later {W wr : World} {base : Nat} {v : Value} {l : List (Int × Int)} (h : OwnL W base v l) (hb : Below W.heap.size W wr) : OwnL wr base v l := by
  obtain ⟨h1, h2 | ⟨g, cap, cur, hv, hg, hh, hn, hm, hs, hx⟩⟩ := h
  · exact ⟨h1, .inl h2⟩
  · exact ⟨h1, .inr ⟨g, cap, cur, hv, hg, (hb.block g (lt_of_block hh)).trans hh, hn, hm, hs, hx⟩⟩
theorem OwnL.nil (w : World) (base : Nat) : OwnL w base (.slice none 0 0) [] := World.ownsRow_nil _ _ _ _
theorem OwnL.retc {w w' : World} {base : Nat} {v : Value} {l : List (Int × Int)} (h : OwnL w' base v l) (hb : w.heap.size ≤ base) (hB : Below w.heap.size w w') : RetC w l (.returned v) w' := by
  obtain ⟨h1, h2 | ⟨g, cap, cur, hv, hg, hh, hn, hm, hs, hx⟩⟩ := id h
  · obtain ⟨rfl, hl⟩ := h2
    obtain rfl := List.eq_nil_of_length_eq_zero hl
    exact retc_nil _ _ hB
  · obtain ⟨a, c, hv2, hsl, hn2, hge, hlc⟩ := h.sl
    rw [hv] at hv2
    simp only [Value.slice.injEq] at hv2
    obtain ⟨rfl, _, rfl⟩ := hv2
    refine ⟨_, _, by rw [hv], hsl, hn2, fun b o hbo => Nat.le_trans hb (hge b o hbo), hlc, by unfold maxLen at hm; omega, hB⟩
theorem filter_take (p : Int × Int → Bool) (l : List (Int × Int)) (k : Nat) (x : Int × Int) (h : l[k]? = some x) : (l.take (k + 1)).filter p = (l.take k).filter p ++ if p x then [x] else [] := by
  rw [List.take_add_one, h, List.filter_append]
  cases hp : p x <;> simp [hp]
theorem filter_len (p : Int × Int → Bool) (l : List (Int × Int)) (k : Nat) : ((l.take k).filter p).length ≤ l.length := Nat.le_trans (List.length_filter_le _ _) (by simp; omega)
theorem filter_full (p : Int × Int → Bool) (l : List (Int × Int)) (k : Nat) (x : Int × Int) (h : l[k]? = some x) : ((l.take k).filter p).length < l.length := by
  have := List.length_filter_le p (l.take k)
  have := (List.getElem?_eq_some_iff.1 h).1
  simp only [List.length_take] at *
  omega
theorem one_lst {W : World} {x y : Int} {b : Nat} (h : Own2 W b x y) : Lst W b 0 [(x, y)] := fun i x' y' hi => by
  cases i with
  | zero =>
    simp only [List.getElem?_cons_zero, Option.some.injEq, Prod.mk.injEq] at hi
    obtain ⟨rfl, rfl⟩ := hi
    exact ⟨h.c0, h.c1⟩
  | succ i => simp at hi
theorem OwnL.block {w : World} {base : Nat} {v : Value} {l : List (Int × Int)} (h : OwnL w base v l) : ∀ k, v.ownBlock = some k → base ≤ k := by
  intro k hk
  obtain ⟨h1, ⟨rfl, _⟩ | ⟨g, cap, cur, rfl, hg, _⟩⟩ := h
  · simp [Value.ownBlock] at hk
  · simp [Value.ownBlock] at hk
    omega

set_option maxRecDepth 100000 in
set_option maxHeartbeats 1000000 in
theorem below_any (a : Option Addr) (cap : Nat) (l : List (Int × Int)) (t n : Int) (w : World) (hlen : l.length ≤ 1000000) (hl : SL w a l) :
    Calls Try.prog 30 #[.slice a l.length cap, .agg #[.int .i64 t, .int .i64 n]] w (RetC w (l.filter fun x => ltS x (t, n))) := by
  obtain ⟨i0, hi, hz0, hz1, hz2⟩ := info_parts info_st
  have HI := Lib.hid hi
  have HZ0 := Lib.hid hz0
  have HZ1 := Lib.hid hz1
  have HZ2 := Lib.hid hz2
  have HL := Lib.hid hl
  have HLEN := Lib.hid hlen
  clear hl hi hz0 hz1 hz2
  generalize hp : (fun x => ltS x (t, n)) = p
  have HP := Lib.hid hp
  clear hp
  generalize hv : l.filter p = r
  have HV := Lib.hid hv
  clear hv
  go_enter Try.func30, Try.ntmps30
  go_wp2
  have hB1 : Hid (Below w.heap.size w (w.alloc (Obj.cells #[Value.int IntKind.i64 t, Value.int IntKind.i64 n] 23))) := (Below.refl _ _).alloc (Nat.le_refl _) _
  have hN : Own2 (w.alloc (Obj.cells #[Value.int IntKind.i64 t, Value.int IntKind.i64 n] 23)) w.heap.size t n := own2_new _ _ _
  generalize w.alloc (Obj.cells #[Value.int IntKind.i64 t, Value.int IntKind.i64 n] 23) = W at *
  have HN := Lib.hid hN
  have hS := hN.lt
  clear hN
  go_loopw [10, 5, 7] (fun i v _ wr => ∃ k : Nat, k ≤ l.length ∧ i = .int .i64 k ∧ Below W.heap.size W wr ∧ OwnL wr W.heap.size v ((l.take k).filter p)) (fun i _ _ _ => l.length - (intOf i).toNat)
  case atStart => exact ⟨0, Nat.zero_le _, rfl, Below.refl _ _, OwnL.nil _ _⟩
  case round =>
    obtain ⟨k, hk, rfl, hbel, hown⟩ := hrel
    have HB := Lib.hid hbel
    have HO := Lib.hid hown
    have hN2 := HN.out.later hbel hS
    have hc0 := hN2.c0
    have hc1 := hN2.c1
    have hsz : w.heap.size < wr.heap.size := hN2.lt
    have HBW := Lib.hid (hB1.out.trans (hbel.mono (Nat.le_of_lt hS)))
    clear hbel hown hN2
    by_cases hlt : k < l.length
    · obtain ⟨x, y, hxy⟩ := at_lt hlt
      obtain ⟨b, o, rfl, hb, hl⟩ := HL.out (ne_of_lt hlt)
      obtain ⟨hx, hy⟩ := hl.later hb HBW.out k x y hxy
      have hbw : b < wr.heap.size := Nat.lt_of_lt_of_le hb HBW.out.size
      have HXY := Lib.hid hxy
      have HST := Lib.hid (filter_take p l k _ hxy)
      clear hxy hl
      go_wp2_with fail
      refine (compare_any _ _ _ _ _).mono ?_
      rintro e w2 ⟨rfl, hb2⟩
      have HB2 : Hid (Below wr.heap.size wr w2) := (blAlloc (Below.refl _ _) _).trans (hb2.mono (by simp))
      have hM : Own2 w2 wr.heap.size x y := (own2_new wr x y).later hb2 (by simp)
      have hm0 := hM.c0
      have hm1 := hM.c1
      have hs2 : wr.heap.size < w2.heap.size := hM.lt
      have HO2 := Lib.hid ((HO.out.later HB2.out).later (blAlloc (Below.refl _ _) (Obj.cells #[Value.int IntKind.i64 x, Value.int IntKind.i64 y] 23)))
      have HO3 := Lib.hid (HO.out.later HB2.out)
      have HB3 := Lib.hid (HB.out.trans (HB2.out.mono HB.out.size))
      have HNS := Lib.hid (one_lst (own2_new w2 x y)).cells
      have HFL := Lib.hid (filter_len p l k)
      have HFC := Lib.hid (filter_full p l k (x, y) HXY.out)
      clear hb2 hM HO
      cases hc : ltS (x, y) (t, n)
      · have hge : ¬ cmpS x y t n < 0 := by rw [cmpS_neg, hc]; simp
        have HC : Hid (p (x, y) = false) := by rw [← HP.out]; exact hc
        clear hc
        go_wp2
        go_roundw
        case rel => exact ⟨k + 1, hlt, by go_num, HB3.out, by
          rw [HST.out, if_neg (by rw [HC.out]; simp), List.append_nil]
          exact HO3.out⟩
        case measure => simp [intOf]; omega
      · have hneg : cmpS x y t n < 0 := (cmpS_neg _ _ _ _).2 hc
        have HC : Hid (p (x, y) = true) := by rw [← HP.out]; exact hc
        clear hc
        go_wp2_with (at_builtin; refine wpList_append_own _ rfl _ _ 31 rfl W.heap.size 23 i0 (.agg #[.int .i64 0, .int .i64 0]) 2 16 Try.underlying31 HI.out HZ0.out HZ1.out HZ2.out rfl (by decide) _ _ _ rfl HO2.out ⟨w2.heap.size, 0, none⟩ 1 1 (cellsL [(x, y)]) rfl rfl HNS.out (cellsL_one _) (by unfold maxLen; have := HFL.out; omega) (by have := HFL.out; omega) (by have := HB3.out.size; simp; omega) ?_)
        · intro v' w' hown hgrow _
          have hO : OwnL w' W.heap.size v' ((l.take (k + 1)).filter p) := by
            rw [HST.out, if_pos HC.out]
            show w'.ownsRow W.heap.size _ 2 v' _ _
            rw [List.length_append, cellsL_append]
            exact hown
          have HO4 := Lib.hid hO
          have HB4 : Hid (Below W.heap.size W w') := (blAlloc HB3.out _).grown hgrow (by have := HB3.out.size; simp; omega) (OwnL.block HO2.out)
          clear hown hgrow hO
          go_wp2
          go_roundw
          case rel => exact ⟨k + 1, hlt, by go_num, HB4.out, HO4.out⟩
          case measure => simp [intOf]; omega
    · go_wp2
      go_ret
      refine OwnL.retc ?_ (Nat.le_of_lt hS) HBW.out
      have := HO.out
      rwa [List.take_of_length_le (by omega), HV.out] at this

end Go.Proofs.Ytnicdbkjgicliaa
