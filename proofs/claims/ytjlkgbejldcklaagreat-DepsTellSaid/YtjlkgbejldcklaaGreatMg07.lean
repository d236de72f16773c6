/- The reference's Same at two slices that hold the same stamps, and its List at a rising one: both return true. Conditions: lists of at most a million stamps. -/
import Derived.Shelf.SlSortCmp.NoneTotal
import Derived.Test.YtjlkgbejldcklaaGreatMg06
import Derived.Test.YtjlkgbejldcklaaGreatMg05
import Derived.Test.YtjlkgbejldcklaaGreatMg02
/- stamp.Sort: it returns a list of its own, in which the stamps of l rise, each once. Conditions: a list of at most a million stamps. -/
namespace Go.Proofs.YtjlkgbejldcklaaGreat
namespace S1
open Go.Sort (grow)
open Go.RowKit (Hid)

theorem sortfunc_none (a : Option Addr) (cap : Nat) (w : World) :
    Calls Tryz.prog 201 #[.slice a 0 cap, .func (.func 185) #[] #[]] w fun e w' => e = .returned (.tuple #[]) ∧ w = w' :=
  (AnyF.slices_SortFunc_none (P := Tryz.prog) (ρ := Tryz.sortSt_ren) { Tryz.sortSt with } a cap (.func (.func 185) #[] #[]) w).mono fun _ _ ⟨he, hw⟩ => ⟨he, hw.symm⟩

theorem compact_none (a : Option Addr) (cap : Nat) (w : World) :
    Calls Tryz.prog 202 #[.slice a 0 cap] w fun e w' => e = .returned (.slice a 0 cap) ∧ w = w' := by
  go_enter Tryz.func202, Tryz.ntmps202
  go_wp2
  go_ret
  exact ⟨rfl, rfl⟩

set_option maxHeartbeats 1000000 in
theorem sort_any (a : Option Addr) (cap : Nat) (l : List (Int × Int)) (w : World) (hlen : l.length ≤ 1000000) (hl : SL w a l) (hn : a = none → cap = 0) :
    Calls Tryz.prog 112 #[.slice a l.length cap] w (RetC w (sortL l)) := by
  obtain ⟨i0, hi, hz0, hz1, hz2⟩ := info_parts info_st
  have HI := Lib.hid hi
  have HZ0 := Lib.hid hz0
  have HZ1 := Lib.hid hz1
  have HZ2 := Lib.hid hz2
  rcases src_of hl with rfl | ⟨ad, rfl, hs⟩
  · obtain rfl : cap = 0 := hn rfl
    obtain rfl : l = [] := by
      apply Classical.byContradiction
      intro hne
      obtain ⟨_, _, h, _⟩ := hl hne
      cases h
    clear hi hz0 hz1 hz2 hl hn hlen
    show Calls Tryz.prog 112 #[.slice none 0 0] w (RetC w [])
    go_enter Tryz.func112, Tryz.ntmps112
    go_wp2_with (first | (at_builtin; refine wpList_append_own_none rfl _ _ 24 rfl w.heap.size 42 i0 2 Tryz.underlying24 HI.out _ 0 [] rfl (World.ownsRow_nil _ _ _ _) rfl ?_) | (go_at_call 201; refine (sortfunc_none _ _ _).mono ?_; rintro e w' ⟨rfl, rfl⟩) | (go_at_call 202; refine (compact_none _ _ _).mono ?_; rintro e w' ⟨rfl, rfl⟩))
    go_ret
    exact retc_nil _ _ (RowKit.Below.refl _ _)
  · have HS := Lib.hid (hs w (RowKit.Below.refl _ _))
    have hlc := cellsL_length l
    have HC := Lib.hid hlc
    have HLEN := Lib.hid hlen
    clear hi hz0 hz1 hz2 hl hn hs hlc
    by_cases hne : l = []
    · subst hne
      clear hlen
      show Calls Tryz.prog 112 #[.slice (some ad) 0 cap] w (RetC w [])
      go_enter Tryz.func112, Tryz.ntmps112
      go_wp2_with (at_builtin; refine wpList_append_own _ rfl _ _ 24 rfl w.heap.size 42 i0 (.agg #[.int .i64 0, .int .i64 0]) 2 16 Tryz.underlying24 HI.out HZ0.out HZ1.out HZ2.out rfl (by decide) (.slice none 0 0) 0 [] rfl (World.ownsRow_nil _ _ _ _) ad 0 cap [] rfl rfl (fun j u h => (by simp at h)) (fun u h => (by simp at h)) (by decide) (by decide) (Nat.le_refl _) ?_)
      · intro v' w' _ hgrow hiff
        obtain rfl := hiff
        have HB : Hid (RowKit.Below w.heap.size w w') := (RowKit.Below.refl _ _).grown hgrow (Nat.le_refl _) (fun k hk => by simp [Value.ownBlock] at hk)
        clear hgrow
        go_wp2_with (first | (go_at_call 201; refine (sortfunc_none _ _ _).mono ?_; rintro e w' ⟨rfl, rfl⟩) | (go_at_call 202; refine (compact_none _ _ _).mono ?_; rintro e w' ⟨rfl, rfl⟩))
        go_ret
        exact retc_nil _ _ HB.out
    · go_enter Tryz.func112, Tryz.ntmps112
      go_wp2_with (at_builtin; refine wpList_append_own _ rfl _ _ 24 rfl w.heap.size 42 i0 (.agg #[.int .i64 0, .int .i64 0]) 2 16 Tryz.underlying24 HI.out HZ0.out HZ1.out HZ2.out rfl (by decide) (.slice none 0 0) 0 [] rfl (World.ownsRow_nil _ _ _ _) ad l.length cap (cellsL l) rfl HC.out HS.out (cellsL_one l) (by unfold maxLen; omega) (by omega) (Nat.le_refl _) ?_)
      · intro v' w' hown hgrow _
        have HO : OwnL w' w.heap.size v' l := hown
        have HB : Hid (RowKit.Below w.heap.size w w') := (RowKit.Below.refl _ _).grown hgrow (Nat.le_refl _) (fun k hk => by simp [Value.ownBlock] at hk)
        obtain ⟨g, cap', rfl, hg, hgw, hnc, hcm, hrow⟩ := HO.row hne
        clear hown hgrow HO
        go_wp2_with fail
        refine (sortfunc_any g cap' l _ HLEN.out hgw hrow).mono ?_
        rintro e w2 ⟨rfl, d, hperm, hpw, hbut, hrow2⟩
        have hdl : d.length = l.length := hperm.length_eq
        have hg2 : g < w2.heap.size := Nat.lt_of_lt_of_le hgw hbut.size
        have HB2 : Hid (RowKit.Below w.heap.size w w2) := But.below HB.out hbut hg HB.out.size
        have HCS : Hid (cmpct d = sortL l) := cmpct_sort hperm hpw
        clear hbut hrow hperm hpw
        go_wp2_with fail
        rw [← hdl]
        refine (compact_any g cap' d _ (by rw [hdl]; exact HLEN.out) (by rw [hdl]; exact hnc) hcm hg2 hrow2).mono ?_
        rintro e w3 ⟨rfl, hbut, hrow3⟩
        have HB3 : Hid (RowKit.Below w.heap.size w w3) := But.below HB2.out hbut hg HB2.out.size
        have hg3 : g < w3.heap.size := Nat.lt_of_lt_of_le hg2 hbut.size
        have HR3 := Lib.hid hrow3
        clear hbut hrow3 hrow2
        go_wp2
        go_ret
        refine ⟨some ⟨g, 0, none⟩, cap', by rw [← HCS.out]; rfl, by rw [← HCS.out]; exact HR3.out.sl hg3, fun h => (by cases h), fun b o hb => ?_, Nat.le_trans (sortL_length l) hnc, hcm, HB3.out⟩
        simp only [Option.some.injEq, Addr.mk.injEq] at hb
        omega

end S1
end Go.Proofs.YtjlkgbejldcklaaGreat

/- stamp.Below and the reference's Below: the stamps of l that are less than s, in l's order. Conditions: a list of at most a million stamps. -/
namespace Go.Proofs.YtjlkgbejldcklaaGreat
namespace S1
open Go.Sort (grow)
open Go.RowKit

theorem OwnL.later {W wr : World} {base : Nat} {v : Value} {l : List (Int × Int)} (h : OwnL W base v l) (hb : Below W.heap.size W wr) : OwnL wr base v l := by
  obtain ⟨h1, h2 | ⟨g, cap, cur, hv, hg, hh, hn, hm, hs, hx⟩⟩ := h
  · exact ⟨h1, .inl h2⟩
  · exact ⟨h1, .inr ⟨g, cap, cur, hv, hg, (hb.block g (lt_of_block hh)).trans hh, hn, hm, hs, hx⟩⟩
theorem OwnL.nil (w : World) (base : Nat) : OwnL w base (.slice none 0 0) [] := World.ownsRow_nil _ _ _ _
theorem OwnL.retc {w w' : World} {base : Nat} {v : Value} {l : List (Int × Int)} (h : OwnL w' base v l) (hb : w.heap.size ≤ base) (hB : Below w.heap.size w w') : RetC w l (.returned v) w' := by
  obtain ⟨h1, h2 | ⟨g, cap, cur, hv, hg, hh, hn, hm, hs, hx⟩⟩ := id h
  · obtain ⟨rfl, hl⟩ := h2
    obtain rfl := List.eq_nil_of_length_eq_zero hl
    exact retc_nil _ _ hB
  · obtain ⟨a, c, hv2, hsl, hn2, hge, hlc⟩ := h.sl
    rw [hv] at hv2
    simp only [Value.slice.injEq] at hv2
    obtain ⟨rfl, _, rfl⟩ := hv2
    refine ⟨_, _, by rw [hv], hsl, hn2, fun b o hbo => Nat.le_trans hb (hge b o hbo), hlc, by unfold maxLen at hm; omega, hB⟩
theorem filter_take (p : Int × Int → Bool) (l : List (Int × Int)) (k : Nat) (x : Int × Int) (h : l[k]? = some x) : (l.take (k + 1)).filter p = (l.take k).filter p ++ if p x then [x] else [] := by
  rw [List.take_add_one, h, List.filter_append]
  cases hp : p x <;> simp [hp]
theorem filter_len (p : Int × Int → Bool) (l : List (Int × Int)) (k : Nat) : ((l.take k).filter p).length ≤ l.length := Nat.le_trans (List.length_filter_le _ _) (by simp; omega)
theorem filter_full (p : Int × Int → Bool) (l : List (Int × Int)) (k : Nat) (x : Int × Int) (h : l[k]? = some x) : ((l.take k).filter p).length < l.length := by
  have := List.length_filter_le p (l.take k)
  have := (List.getElem?_eq_some_iff.1 h).1
  simp only [List.length_take] at *
  omega
theorem one_lst {W : World} {x y : Int} {b : Nat} (h : Own2 W b x y) : Lst W b 0 [(x, y)] := fun i x' y' hi => by
  cases i with
  | zero =>
    simp only [List.getElem?_cons_zero, Option.some.injEq, Prod.mk.injEq] at hi
    obtain ⟨rfl, rfl⟩ := hi
    exact ⟨h.c0, h.c1⟩
  | succ i => simp at hi
theorem OwnL.block {w : World} {base : Nat} {v : Value} {l : List (Int × Int)} (h : OwnL w base v l) : ∀ k, v.ownBlock = some k → base ≤ k := by
  intro k hk
  obtain ⟨h1, ⟨rfl, _⟩ | ⟨g, cap, cur, rfl, hg, _⟩⟩ := h
  · simp [Value.ownBlock] at hk
  · simp [Value.ownBlock] at hk
    omega

set_option maxRecDepth 100000 in
set_option maxHeartbeats 1000000 in
theorem below_any (a : Option Addr) (cap : Nat) (l : List (Int × Int)) (t n : Int) (w : World) (hlen : l.length ≤ 1000000) (hl : SL w a l) :
    Calls Tryz.prog 124 #[.slice a l.length cap, .agg #[.int .i64 t, .int .i64 n]] w (RetC w (l.filter fun x => ltS x (t, n))) := by
  obtain ⟨i0, hi, hz0, hz1, hz2⟩ := info_parts info_st
  have HI := Lib.hid hi
  have HZ0 := Lib.hid hz0
  have HZ1 := Lib.hid hz1
  have HZ2 := Lib.hid hz2
  have HL := Lib.hid hl
  have HLEN := Lib.hid hlen
  clear hl hi hz0 hz1 hz2
  generalize hp : (fun x => ltS x (t, n)) = p
  have HP := Lib.hid hp
  clear hp
  generalize hv : l.filter p = r
  have HV := Lib.hid hv
  clear hv
  go_enter Tryz.func124, Tryz.ntmps124
  go_wp2
  have hB1 : Hid (Below w.heap.size w (w.alloc (Obj.cells #[Value.int IntKind.i64 t, Value.int IntKind.i64 n] 42))) := (Below.refl _ _).alloc (Nat.le_refl _) _
  have hN : Own2 (w.alloc (Obj.cells #[Value.int IntKind.i64 t, Value.int IntKind.i64 n] 42)) w.heap.size t n := own2_new _ _ _
  generalize w.alloc (Obj.cells #[Value.int IntKind.i64 t, Value.int IntKind.i64 n] 42) = W at *
  have HN := Lib.hid hN
  have hS := hN.lt
  clear hN
  go_loopw [10, 5, 7] (fun i v _ wr => ∃ k : Nat, k ≤ l.length ∧ i = .int .i64 k ∧ Below W.heap.size W wr ∧ OwnL wr W.heap.size v ((l.take k).filter p)) (fun i _ _ _ => l.length - (intOf i).toNat)
  case atStart => exact ⟨0, Nat.zero_le _, rfl, Below.refl _ _, OwnL.nil _ _⟩
  case round =>
    obtain ⟨k, hk, rfl, hbel, hown⟩ := hrel
    have HB := Lib.hid hbel
    have HO := Lib.hid hown
    have hN2 := HN.out.later hbel hS
    have hc0 := hN2.c0
    have hc1 := hN2.c1
    have hsz : w.heap.size < wr.heap.size := hN2.lt
    have HBW := Lib.hid (hB1.out.trans (hbel.mono (Nat.le_of_lt hS)))
    clear hbel hown hN2
    by_cases hlt : k < l.length
    · obtain ⟨x, y, hxy⟩ := at_lt hlt
      obtain ⟨b, o, rfl, hb, hl⟩ := HL.out (ne_of_lt hlt)
      obtain ⟨hx, hy⟩ := hl.later hb HBW.out k x y hxy
      have hbw : b < wr.heap.size := Nat.lt_of_lt_of_le hb HBW.out.size
      have HXY := Lib.hid hxy
      have HST := Lib.hid (filter_take p l k _ hxy)
      clear hxy hl
      go_wp2_with fail
      refine (compare_any _ _ _ _ _).mono ?_
      rintro e w2 ⟨rfl, hb2⟩
      have HB2 : Hid (Below wr.heap.size wr w2) := (blAlloc (Below.refl _ _) _).trans (hb2.mono (by simp))
      have hM : Own2 w2 wr.heap.size x y := (own2_new wr x y).later hb2 (by simp)
      have hm0 := hM.c0
      have hm1 := hM.c1
      have hs2 : wr.heap.size < w2.heap.size := hM.lt
      have HO2 := Lib.hid ((HO.out.later HB2.out).later (blAlloc (Below.refl _ _) (Obj.cells #[Value.int IntKind.i64 x, Value.int IntKind.i64 y] 42)))
      have HO3 := Lib.hid (HO.out.later HB2.out)
      have HB3 := Lib.hid (HB.out.trans (HB2.out.mono HB.out.size))
      have HNS := Lib.hid (one_lst (own2_new w2 x y)).cells
      have HFL := Lib.hid (filter_len p l k)
      have HFC := Lib.hid (filter_full p l k (x, y) HXY.out)
      clear hb2 hM HO
      cases hc : ltS (x, y) (t, n)
      · have hge : ¬ cmpS x y t n < 0 := by rw [cmpS_neg, hc]; simp
        have HC : Hid (p (x, y) = false) := by rw [← HP.out]; exact hc
        clear hc
        go_wp2
        go_roundw
        case rel => exact ⟨k + 1, hlt, by go_num, HB3.out, by
          rw [HST.out, if_neg (by rw [HC.out]; simp), List.append_nil]
          exact HO3.out⟩
        case measure => simp [intOf]; omega
      · have hneg : cmpS x y t n < 0 := (cmpS_neg _ _ _ _).2 hc
        have HC : Hid (p (x, y) = true) := by rw [← HP.out]; exact hc
        clear hc
        go_wp2_with (at_builtin; refine wpList_append_own _ rfl _ _ 24 rfl W.heap.size 42 i0 (.agg #[.int .i64 0, .int .i64 0]) 2 16 Tryz.underlying24 HI.out HZ0.out HZ1.out HZ2.out rfl (by decide) _ _ _ rfl HO2.out ⟨w2.heap.size, 0, none⟩ 1 1 (cellsL [(x, y)]) rfl rfl HNS.out (cellsL_one _) (by unfold maxLen; have := HFL.out; omega) (by have := HFL.out; omega) (by have := HB3.out.size; simp; omega) ?_)
        · intro v' w' hown hgrow _
          have hO : OwnL w' W.heap.size v' ((l.take (k + 1)).filter p) := by
            rw [HST.out, if_pos HC.out]
            show w'.ownsRow W.heap.size _ 2 v' _ _
            rw [List.length_append, cellsL_append]
            exact hown
          have HO4 := Lib.hid hO
          have HB4 : Hid (Below W.heap.size W w') := (blAlloc HB3.out _).grown hgrow (by have := HB3.out.size; simp; omega) (OwnL.block HO2.out)
          clear hown hgrow hO
          go_wp2
          go_roundw
          case rel => exact ⟨k + 1, hlt, by go_num, HB4.out, HO4.out⟩
          case measure => simp [intOf]; omega
    · go_wp2
      go_ret
      refine OwnL.retc ?_ (Nat.le_of_lt hS) HBW.out
      have := HO.out
      rwa [List.take_of_length_le (by omega), HV.out] at this

end S1
end Go.Proofs.YtjlkgbejldcklaaGreat

/- The reference's Same at two slices that hold the same stamps, and its List at a rising one: both return true. Conditions: lists of at most a million stamps. -/
namespace Go.Proofs.YtjlkgbejldcklaaGreat
namespace S1
open Go.Sort (grow)
open Go.RowKit

set_option maxRecDepth 100000 in
set_option maxHeartbeats 1000000 in
theorem same_yes (a a' : Option Addr) (cap cap' : Nat) (l : List (Int × Int)) (w : World) (hlen : l.length ≤ 1000000) (hl : SL w a l) (hl' : SL w a' l) :
    Calls Tryz.prog 28 #[.slice a l.length cap, .slice a' l.length cap'] w fun e w' => e = .returned (.bool true) ∧ Below w.heap.size w w' := by
  have HL := Lib.hid hl
  have HL' := Lib.hid hl'
  clear hl hl'
  go_enter Tryz.func28, Tryz.ntmps28
  go_wp2
  go_loopw [5] (fun i wr => ∃ k : Nat, k ≤ l.length ∧ i = .int .i64 k ∧ Below w.heap.size w wr) (fun i _ => l.length - (intOf i).toNat)
  case atStart => exact ⟨0, Nat.zero_le _, rfl, Below.refl _ _⟩
  case round =>
    obtain ⟨k, hk, rfl, hbel⟩ := hrel
    have HB := Lib.hid hbel
    by_cases hlt : k < l.length
    · obtain ⟨x, y, hxy⟩ := at_lt hlt
      obtain ⟨b, o, rfl, hb, hl⟩ := HL.out (ne_of_lt hlt)
      obtain ⟨b', o', rfl, hb', hl'⟩ := HL'.out (ne_of_lt hlt)
      obtain ⟨hx, hy⟩ := hl.later hb HB.out k x y hxy
      obtain ⟨hx', hy'⟩ := hl'.later hb' HB.out k x y hxy
      have hbw : b < wr.heap.size := Nat.lt_of_lt_of_le hb HB.out.size
      have hbw' : b' < wr.heap.size := Nat.lt_of_lt_of_le hb' HB.out.size
      clear hl hl' hxy hbel
      go_wp2_with fail
      refine region_aft (by kernel_rfl) (by kernel_rfl) ?_
      repeat (go_big_quiet_step (fail))
      refine wpQuiet_nil ?_
      rintro w2 ⟨z, rfl⟩
      go_wp2
      go_roundw
      case rel => exact ⟨k + 1, hlt, by go_num, blThen HB.out z.h⟩
      case measure => simp [intOf]; omega
    · go_wp2
      go_ret
      exact ⟨rfl, HB.out⟩

theorem SS.next {l : List (Int × Int)} (h : SS l) {k : Nat} {x y : Int × Int} (hx : l[k]? = some x) (hy : l[k + 1]? = some y) : ltS x y = true := by
  obtain ⟨h1, rfl⟩ := List.getElem?_eq_some_iff.1 hx
  obtain ⟨h2, rfl⟩ := List.getElem?_eq_some_iff.1 hy
  exact List.pairwise_iff_getElem.1 h k (k + 1) h1 h2 (by omega)

set_option maxRecDepth 100000 in
set_option maxHeartbeats 1000000 in
theorem list_yes (a : Option Addr) (cap : Nat) (l : List (Int × Int)) (w : World) (hlen : l.length ≤ 1000000) (hl : SL w a l) (hs : SS l) :
    Calls Tryz.prog 104 #[.slice a l.length cap] w fun e w' => e = .returned (.bool true) ∧ Below w.heap.size w w' := by
  have HL := Lib.hid hl
  have HS := Lib.hid hs
  clear hl hs
  go_enter Tryz.func104, Tryz.ntmps104
  go_wp2
  go_loopw [3] (fun i wr => ∃ k : Nat, i = .int .i64 ((k : Int) + 1) ∧ k ≤ l.length ∧ Below w.heap.size w wr) (fun i _ => l.length + 1 - (intOf i).toNat)
  case atStart => exact ⟨0, rfl, Nat.zero_le _, Below.refl _ _⟩
  case round =>
    obtain ⟨k, rfl, hk, hbel⟩ := hrel
    have HB := Lib.hid hbel
    by_cases hlt : k + 1 < l.length
    · obtain ⟨x, y, hxy⟩ := at_lt (l := l) (k := k) (by omega)
      obtain ⟨u, v, huv⟩ := at_lt hlt
      obtain ⟨b, o, rfl, hb, hl⟩ := HL.out (ne_of_lt hlt)
      obtain ⟨hx, hy⟩ := hl.later hb HB.out k x y hxy
      obtain ⟨hx', hy'⟩ := hl.later hb HB.out (k + 1) u v huv
      have hbw : b < wr.heap.size := Nat.lt_of_lt_of_le hb HB.out.size
      have HLT := Lib.hid (SS.next HS.out hxy huv)
      have hltI : (k : Int) + 1 < (l.length : Int) := by omega
      clear hl hxy huv hbel
      go_wp2_with fail
      refine region_aft (by kernel_rfl) (by kernel_rfl) ?_
      repeat (go_big_quiet_step (first | (go_at_call 83; exact aft_grown ((less_any _ _ _ _ _).mono fun e w' h => by rw [HLT.out] at h; exact h))))
      refine wpQuiet_nil ?_
      rintro w2 ⟨z, rfl⟩
      go_wp2
      go_roundw
      case rel => exact ⟨k + 1, by go_num, by omega, blThen HB.out z.h⟩
      case measure => simp [intOf]; omega
    · have hge : ¬ (k : Int) + 1 < (l.length : Int) := by omega
      go_wp2
      go_ret
      exact ⟨rfl, HB.out⟩

end S1
end Go.Proofs.YtjlkgbejldcklaaGreat
