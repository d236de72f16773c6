/- StampSorts: a sorted list rises; its order, and what comes twice, have no part. Conditions: none. -/
import Derived.Test.YtnicdbkjgicliaaSl
namespace Go.Proofs.Ytnicdbkjgicliaa
open Go.ChangeShapes Go.WideShapes Go.ChangeAt Go.RowKit Go.Joins Go.Deep
open Go.Sort (grow)

theorem turn_index (k m n : Nat) (hk : k < n) (hn : n ≤ 60) : ∃ j : Nat, (wrap64 ((k : Int) + (m : Int) % (n : Int))).tmod (n : Int) = j ∧ j < n := by
  have h0 : (m : Int) % (n : Int) = ((m % n : Nat) : Int) := by simp
  have h1 : m % n < n := Nat.mod_lt _ (by omega)
  refine ⟨(k + m % n) % n, ?_, Nat.mod_lt _ (by omega)⟩
  rw [h0, IntWalk.wrap64_in _ (by omega), ← Int.natCast_add, Int.tmod_eq_emod_of_nonneg (by omega)]
  simp
theorem OwnL.blt {w : World} {base : Nat} {v : Value} {l : List (Int × Int)} (h : OwnL w base v l) : ∀ k, v.ownBlock = some k → k < w.heap.size := by
  intro k hk
  obtain ⟨h1, ⟨rfl, _⟩ | ⟨g, cap, cur, rfl, hg, hh, _⟩⟩ := h
  · simp [Value.ownBlock] at hk
  · simp [Value.ownBlock] at hk
    subst hk
    exact lt_of_block hh
/-- What a row of the call's own takes on leaves the lists that lie in other blocks. -/
theorem sl_grown {w w' : World} {v : Value} {l : List (Int × Int)} {a : Option Addr} (h : SL w a l) (hx : ∀ b o, a = some ⟨b, o, none⟩ → v.ownBlock ≠ some b) (hg : w.grownBy w' v.ownBlock) : SL w' a l := by
  intro hne
  obtain ⟨b, o, rfl, hb, hl⟩ := h hne
  refine ⟨b, o, rfl, Nat.lt_of_lt_of_le hb hg.size, fun i x y hi => ?_⟩
  have hbl := hg.block b hb (fun e => hx b o rfl e.symm)
  obtain ⟨c0, c1⟩ := hl i x y hi
  simp only [World.cell?, hbl] at *
  exact ⟨c0, c1⟩

set_option maxRecDepth 100000 in
set_option maxHeartbeats 4000000 in
theorem stampSorts_walk (a : Option Addr) (cap : Nat) (l : List (Int × Int)) (by_ : Int) (w : World) (hl : SL w a l) (hn : a = none → cap = 0) :
    Calls Try.prog 9 #[.slice a l.length cap, .int .i64 by_] w fun e w' => e = .returned (.bool true) ∧ Below w.heap.size w w' := by
  have HL := Lib.hid hl
  have HN := Lib.hid hn
  clear hl hn
  by_cases hlen : 60 < l.length
  · have hlenI : (60 : Int) < (l.length : Int) := by omega
    clear hlen
    go_enter Try.func9, Try.ntmps9
    go_wp2_with (go_at_call 18; refine (live_any _).mono ?_; rintro e w9 ⟨rfl, hb⟩; have HB9 := Lib.hid hb; clear hb)
    go_ret
    exact ⟨rfl, HB9.out⟩
  by_cases hneg : by_ < 0
  · go_enter Try.func9, Try.ntmps9
    go_wp2_with (go_at_call 18; refine (live_any _).mono ?_; rintro e w9 ⟨rfl, hb⟩; have HB9 := Lib.hid hb; clear hb)
    go_ret
    exact ⟨rfl, HB9.out⟩
  · have hle : l.length ≤ 1000000 := by omega
    have HLE := Lib.hid hle
    obtain ⟨m, rfl⟩ : ∃ m : Nat, by_ = m := ⟨by_.toNat, by omega⟩
    go_enter Try.func9, Try.ntmps9
    go_wp2_with fail
    go_loopw [6, 5] (fun i v wr => ∃ (k : Nat) (d : List (Int × Int)), k ≤ l.length ∧ i = .int .i64 k ∧ d.length = k ∧ (∀ s ∈ d, s ∈ l) ∧ OwnL wr w.heap.size v d ∧ Below w.heap.size w wr) (fun i _ _ => l.length - (intOf i).toNat)
    case atStart => exact ⟨0, [], Nat.zero_le _, rfl, rfl, fun s h => (by simp at h), OwnL.nil _ _, Below.refl _ _⟩
    case round =>
      obtain ⟨k, d, hk, rfl, hdl, hds, hown, hbel⟩ := hrel
      have HB := Lib.hid hbel
      have HO := Lib.hid hown
      have HDS := Lib.hid hds
      have HDL := Lib.hid hdl
      clear hbel hown hds hdl
      by_cases hlt : k < l.length
      · obtain ⟨j, hj, hjl⟩ := turn_index k m l.length (by omega) (by omega)
        obtain ⟨x, y, hxy⟩ := at_lt hjl
        obtain ⟨b, o, rfl, hb, hl⟩ := HL.out (ne_of_lt hlt)
        obtain ⟨hx, hy⟩ := hl.later hb HB.out j x y hxy
        have hbw : b < wr.heap.size := Nat.lt_of_lt_of_le hb HB.out.size
        have hjI : (0 : Int) ≤ (j : Int) ∧ (j : Int) < (l.length : Int) := by omega
        have HXY := Lib.hid hxy
        have HOA := Lib.hid (HO.out.later (blAlloc (Below.refl _ _) (Obj.cells #[Value.int IntKind.i64 x, Value.int IntKind.i64 y] 23)))
        have HSA := Lib.hid (one_sl _ x y _ (own2_new wr x y))
        have hlz : (l.length : Int) ≠ 0 := by omega
        have hlz2 : ((l.length : Int) == 0) = false := by simpa using hlz
        clear hxy hl
        go_wp2_with (at_builtin; refine append_st rfl _ _ rfl w.heap.size _ d rfl HOA.out (some ⟨wr.heap.size, 0, none⟩) 1 [(x, y)] rfl HSA.out (fun h => (by cases h)) (by have := HDL.out; simp; omega) (blAlloc HB.out _).size ?_)
        · intro v' w' hown hgrow
          have HB2 := Lib.hid (grown_below (blAlloc HB.out _) HOA.out (Nat.le_refl _) (blAlloc HB.out _).size hgrow)
          have HO2 := Lib.hid hown
          clear hown hgrow
          go_wp2
          go_roundw
          case rel => exact ⟨k + 1, d ++ [(x, y)], hlt, by go_num, by rw [List.length_append, HDL.out]; rfl, fun s hs => by
            rcases List.mem_append.1 hs with h | h
            · exact HDS.out s h
            · rw [List.mem_singleton.1 h]; exact List.mem_of_getElem? HXY.out, HO2.out, HB2.out⟩
          case measure => simp [intOf]; omega
      · have hkl : k = l.length := by omega
        subst hkl
        clear hlt hk
        go_wp2_with fail
        refine (sort_any a cap l _ HLE.out (HL.out.later HB.out) HN.out).mono ?_
        obtain ⟨q, hq⟩ : ∃ q, sortL l = q := ⟨_, rfl⟩
        have HQS : Hid (SS q) := by rw [← hq]; exact sortL_ss l
        have HQL : Hid (q.length ≤ l.length) := by rw [← hq]; exact sortL_length l
        have HQM : Hid (∀ s ∈ l, s ∈ q) := by rw [← hq]; exact fun s hs => (mem_sortL l s).2 hs
        have HQE : Hid (sortL (d ++ l) = q) := by
          rw [← hq]
          exact sortL_congr fun s => by
            rw [List.mem_append]
            exact ⟨fun h => h.elim (HDS.out s) id, .inr⟩
        rw [hq]
        clear hq
        rintro e w1 ⟨a1, c1, rfl, hsl1, hn1, hf1, _, _, hb1⟩
        have HB1 := Lib.hid (blThen HB.out hb1)
        have HO1 := Lib.hid (HO.out.later hb1)
        have HSL1 := Lib.hid hsl1
        have HN1 := Lib.hid hn1
        have HF1 : Hid (∀ b o, a1 = some ⟨b, o, none⟩ → u5.ownBlock ≠ some b) := fun b o h he => Nat.lt_irrefl _ (Nat.lt_of_lt_of_le (HO.out.blt b he) (hf1 b o h))
        clear hb1 hsl1 hn1 hf1
        go_wp2_with (at_builtin; refine append_st rfl _ _ rfl w.heap.size _ d rfl HO1.out a cap l rfl (HL.out.later HB1.out) HN.out (by have := HDL.out; omega) HB1.out.size ?_)
        · intro v' w2 hown hgrow
          have HB2 := Lib.hid (grown_below HB1.out HO1.out (Nat.le_refl _) HB1.out.size hgrow)
          have HSL2 := Lib.hid (sl_grown HSL1.out HF1.out hgrow)
          have HLD : Hid ((d ++ l).length ≤ 1000000) := by have := HDL.out; show (d ++ l).length ≤ _; rw [List.length_append]; omega
          generalize d ++ l = dl at hown HQE HLD
          obtain ⟨a2, c2, rfl, hsl2, hn2, _, _⟩ := hown.sl
          have HSD2 := Lib.hid hsl2
          have HN2 := Lib.hid hn2
          clear hown hgrow hsl2 hn2
          go_wp2_with fail
          refine (sort_any a2 c2 dl _ HLD.out HSD2.out HN2.out).mono ?_
          rw [HQE.out]
          rintro e w3 ⟨a3, c3, rfl, hsl3, _, _, _, _, hb3⟩
          have HB3 := Lib.hid (blThen HB2.out hb3)
          have HSA3 := Lib.hid (HSL2.out.later hb3)
          have HSB3 := Lib.hid hsl3
          have HQI : q.length ≤ 1000000 := Nat.le_trans HQL.out HLE.out
          clear hb3 hsl3
          go_wp2_with fail
          go_loopw [9] (fun i wr => ∃ k : Nat, k ≤ l.length ∧ i = .int .i64 k ∧ Below w3.heap.size w3 wr) (fun i _ => l.length - (intOf i).toNat)
          case atStart => exact ⟨0, Nat.zero_le _, rfl, Below.refl _ _⟩
          case round =>
            obtain ⟨k, hk, rfl, hbel⟩ := hrel
            have HBr := Lib.hid hbel
            have HBW := Lib.hid (blThen HB3.out hbel)
            have HSAr := Lib.hid (HSA3.out.later hbel)
            have HSBr := Lib.hid (HSB3.out.later hbel)
            clear hbel
            by_cases hlt : k < l.length
            · obtain ⟨x, y, hxy⟩ := at_lt hlt
              obtain ⟨b, o, rfl, hb, hl⟩ := HL.out (ne_of_lt hlt)
              obtain ⟨hx, hy⟩ := hl.later hb HBW.out k x y hxy
              have HIN : Hid (decide ((x, y) ∈ q) = true) := by
                show decide ((x, y) ∈ q) = true
                simpa using HQM.out _ (List.mem_of_getElem? hxy)
              clear hxy hl
              go_wp2_with fail
              refine (has_any a1 c1 q x y _ HQI HSAr.out).mono ?_
              rw [HIN.out]
              rintro e w4 ⟨rfl, hb4⟩
              have HB4 := Lib.hid (HBr.out.trans (hb4.mono HBr.out.size))
              clear hb4
              go_wp2
              go_roundw
              case rel => exact ⟨k + 1, hlt, by go_num, HB4.out⟩
              case measure => simp [intOf]; omega
            · have HQI2 : (q.length : Int) ≤ (l.length : Int) := by exact_mod_cast HQL.out
              go_wp2_with fail
              refine (list_yes a1 c1 q _ HQI HSAr.out HQS.out).mono ?_
              rintro e w4 ⟨rfl, hb4⟩
              have HB4 := Lib.hid (blThen HBW.out hb4)
              have HSA4 := Lib.hid (HSAr.out.later hb4)
              have HSB4 := Lib.hid (HSBr.out.later hb4)
              clear hb4
              go_wp2_with fail
              refine (same_yes a1 a3 c1 c3 q _ HQI HSA4.out HSB4.out).mono ?_
              rintro e w5 ⟨rfl, hb5⟩
              have HB5 := Lib.hid (blThen HB4.out hb5)
              have HSA5 := Lib.hid (HSA4.out.later hb5)
              clear hb5
              go_wp2_with fail
              refine (sort_any a1 c1 q _ HQI HSA5.out HN1.out).mono ?_
              rw [sortL_self HQS.out]
              rintro e w6 ⟨a6, c6, rfl, hsl6, _, _, _, _, hb6⟩
              have HB6 := Lib.hid (blThen HB5.out hb6)
              have HSA6 := Lib.hid (HSA5.out.later hb6)
              have HSC6 := Lib.hid hsl6
              clear hb6 hsl6
              go_wp2_with fail
              refine (same_yes a6 a1 c6 c1 q _ HQI HSC6.out HSA6.out).mono ?_
              rintro e w7 ⟨rfl, hb7⟩
              have HB7 := Lib.hid (blThen HB6.out hb7)
              clear hb7
              go_wp2_with (go_at_call 18; refine (live_any _).mono ?_; rintro e w9 ⟨rfl, hb⟩; have HB9 := Lib.hid hb; clear hb)
              go_ret
              exact ⟨rfl, blThen HB7.out HB9.out⟩

set_option maxRecDepth 100000 in
theorem stampSorts_lifted (os : Os) (started : os.Started) (H : Type) (enc : TypeId × Value → H) :
    ReturnsInHanded {} Try.checked os 9 .any (Rows.stampSortsSpec.pre6 enc Try.prog Try.f9 Rows.stampSortsRow.domain false) (Rows.stampSortsSpec.post enc Try.prog Try.f9 false true false false) := by
  refine law_lift (C := Try.checked) own0 started (by kernel_rfl) Try.func9 laid0 rfl (by kernel_rfl) (fun _ _ _ _ => trodAll_mk1 (shut_bool Try.underlying4 true)) (fun ds h => match ds, h with | [_, _], _ => ⟨rfl, rfl, rfl⟩)
    (ChangeSpec.witness6 (enc := enc) (C := Try.checked) false ⟨#[], #[.slice none 0 0, .int .i64 0], []⟩ 8 (by kernel_rfl) (by kernel_rfl) (by kernel_rfl) (by kernel_rfl)) ?_
  intro W base args ds before hval0 hA0 hlt
  have hval : ∀ (j : Nat) t v, Try.f9.params[j]? = some t → args[j]? = some v → Value.okWide Try.prog W .any base t v := hval0
  have hA : DataW.TrodAll enc Try.prog W 0 (fun _ => true) true Try.f9.params.toList args.toList ds before := hA0
  rw [Try.params9] at hA hval
  obtain ⟨v0, v1, d0, d1, p0, p1, rfl, rfl, rfl, h0, h1⟩ := trodAll_two hA
  obtain ⟨a, l, cap, rfl, hl0, hm0, hn0, hb0, hw0⟩ := open_stamps (hval 0 31 v0 rfl rfl) h0
  obtain ⟨by_, rfl, rfl, rfl, wby_⟩ := open_int Try.underlying3 (hval 1 3 v1 rfl rfl) h1
  exact stampSorts_walk a cap l by_ W hl0 hn0

theorem stampSorts_holds : Rows.StampSortsSaid :=
  OpenClaim.holds_of_wide 9 Try.f9 rfl rfl rfl rfl rfl rfl rfl ⟨rfl, rfl, rfl, rfl, rfl⟩ rfl rfl rfl rfl rfl (by kernel_rfl) Try.func9 (by kernel_rfl)
    (of_decide_eq_true (by kernel_rfl)) (by unfold Func.isWrapper; rw [if_neg (of_decide_eq_false (by kernel_rfl))]; exact ⟨rfl, rfl⟩)
    (fun os started H enc _ => stampSorts_lifted os started H enc)

#print axioms stampSorts_holds

end Go.Proofs.Ytnicdbkjgicliaa
