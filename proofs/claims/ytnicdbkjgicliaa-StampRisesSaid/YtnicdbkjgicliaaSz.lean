/- StampRises: the stamps of a clock rise, and each is greater than all that were seen ahead of it. Conditions: none. -/
import Derived.Test.YtnicdbkjgicliaaSw
namespace Go.Proofs.Ytnicdbkjgicliaa
open Go.ChangeShapes Go.WideShapes Go.ChangeAt Go.RowKit Go.Joins Go.Deep Go.Sort

theorem see_one (b c : Nat) (n t x y : Int) (w : World) (h : Clk w b n t) (ho : Own2 w c x y) (hne : c ≠ b) :
    Calls Try.prog 35 #[.pointer (some ⟨b, 0, none⟩), .slice (some ⟨c, 0, none⟩) 1 1] w fun e w' => e = .returned (.tuple #[]) ∧ But b w w' ∧ Clk w' b n (tickT t x) :=
  see_any b n t (some ⟨c, 0, none⟩) 1 [(x, y)] w (by simp) (one_sl w x y c ho) (by
    intro bl o he
    simp only [Option.some.injEq, Addr.mk.injEq] at he
    rw [← he.1]
    exact hne) h
theorem tickT_ge (t x : Int) : t ≤ tickT t x ∧ (x ≤ 1099511627776 → x ≤ tickT t x) ∧ (t ≤ 1099511627776 → tickT t x ≤ 1099511627776) := by
  unfold tickT
  split <;> omega

set_option maxRecDepth 100000 in
set_option maxHeartbeats 2000000 in
theorem stampRises_walk (n last : Int) (a : Option Addr) (cap : Nat) (l : List (Int × Int)) (w : World) (hl : SL w a l) (hm : l.length ≤ 9223372036854775807) :
    Calls Try.prog 7 #[.int .i64 n, .int .i64 last, .slice a l.length cap] w fun e w' => e = .returned (.bool true) ∧ Below w.heap.size w w' := by
  have HL := Lib.hid hl
  clear hl
  by_cases hlen : 60 < l.length
  · have hlenI : (60 : Int) < (l.length : Int) := by omega
    clear hlen
    go_enter Try.func7, Try.ntmps7
    go_wp2_with (go_at_call 18; refine (live_any _).mono ?_; rintro e w3 ⟨rfl, hb⟩; have HB3 := Lib.hid hb; clear hb)
    go_ret
    exact ⟨rfl, HB3.out⟩
  have hlenI : ¬ (60 : Int) < (l.length : Int) := by omega
  by_cases n1 : n < 1
  · go_enter Try.func7, Try.ntmps7
    go_wp2_with (go_at_call 18; refine (live_any _).mono ?_; rintro e w3 ⟨rfl, hb⟩; have HB3 := Lib.hid hb; clear hb)
    go_ret
    exact ⟨rfl, HB3.out⟩
  by_cases n2 : 7 < n
  · go_enter Try.func7, Try.ntmps7
    go_wp2_with (go_at_call 18; refine (live_any _).mono ?_; rintro e w3 ⟨rfl, hb⟩; have HB3 := Lib.hid hb; clear hb)
    go_ret
    exact ⟨rfl, HB3.out⟩
  by_cases n3 : last < 0
  · go_enter Try.func7, Try.ntmps7
    go_wp2_with (go_at_call 18; refine (live_any _).mono ?_; rintro e w3 ⟨rfl, hb⟩; have HB3 := Lib.hid hb; clear hb)
    go_ret
    exact ⟨rfl, HB3.out⟩
  by_cases n4 : 1099511627776 < last
  · go_enter Try.func7, Try.ntmps7
    go_wp2_with (go_at_call 18; refine (live_any _).mono ?_; rintro e w3 ⟨rfl, hb⟩; have HB3 := Lib.hid hb; clear hb)
    go_ret
    exact ⟨rfl, HB3.out⟩
  have hok : newOk n last = true := by simp only [newOk, decide_eq_true_eq]; omega
  have HOK := Lib.hid hok
  have hle : l.length ≤ 1000000 := by omega
  clear hok hlen
  go_enter Try.func7, Try.ntmps7
  go_wp2_with fail
  refine (new_yes n last HOK.out _).mono ?_
  rintro e w1 ⟨rfl, rfl⟩
  go_wp2_with (go_at_call 14; refine (num_any _ _).mono ?_; rintro e w' ⟨rfl, rfl⟩)
  have hC0 : Clk ((w.alloc (Obj.cells #[Value.int IntKind.i64 n, Value.int IntKind.i64 last] 76)).alloc (Obj.cells #[Value.int IntKind.i64 last, Value.int IntKind.i64 0] 23)) w.heap.size n last := (clk_new w n last).alloc _
  have hW0 : Own2 ((w.alloc (Obj.cells #[Value.int IntKind.i64 n, Value.int IntKind.i64 last] 76)).alloc (Obj.cells #[Value.int IntKind.i64 last, Value.int IntKind.i64 0] 23)) (w.heap.size + 1) last 0 := own2_new1 _ _ _ _
  have hB0 : Below w.heap.size w ((w.alloc (Obj.cells #[Value.int IntKind.i64 n, Value.int IntKind.i64 last] 76)).alloc (Obj.cells #[Value.int IntKind.i64 last, Value.int IntKind.i64 0] 23)) := blAlloc (blAlloc (Below.refl _ _) _) _
  generalize (w.alloc (Obj.cells #[Value.int IntKind.i64 n, Value.int IntKind.i64 last] 76)).alloc (Obj.cells #[Value.int IntKind.i64 last, Value.int IntKind.i64 0] 23) = W at *
  have HC0 := Lib.hid hC0
  have HW0 := Lib.hid hW0
  have HB0 := Lib.hid hB0
  clear hC0 hW0 hB0
  go_loopw [10, 11, 12] (fun i _ _ wr => ∃ (k : Nat) (T wt wn : Int), k ≤ l.length ∧ i = .int .i64 k ∧ wt ≤ T ∧ 0 ≤ T ∧ T ≤ 1099511627776 ∧ Below w.heap.size w wr ∧ Clk wr w.heap.size n T ∧ Own2 wr (w.heap.size + 1) wt wn) (fun i _ _ _ => l.length - (intOf i).toNat)
  case atStart => exact ⟨0, last, last, 0, Nat.zero_le _, rfl, Int.le_refl _, by omega, by omega, HB0.out, HC0.out, HW0.out⟩
  case round =>
    obtain ⟨k, T, wt, wn, hk, rfl, hwt, hT0, hTM, hbel, hclk, hown⟩ := hrel
    have HB := Lib.hid hbel
    have HC := Lib.hid hclk
    have HW := Lib.hid hown
    clear hbel hclk hown
    by_cases hlt : k < l.length
    · obtain ⟨x, y, hxy⟩ := at_lt hlt
      obtain ⟨b, o, rfl, hb, hl⟩ := HL.out (ne_of_lt hlt)
      obtain ⟨hx, hy⟩ := hl.later hb HB.out k x y hxy
      have hxy2 := Lib.hid hxy
      have hl2 := Lib.hid hl
      clear hxy hl
      obtain ⟨ht1, ht2, ht3⟩ := tickT_ge T x
      have ht4 := ht3 hTM
      have hsee := see_one w.heap.size wr.heap.size n T x y (wr.alloc (Obj.cells #[Value.int IntKind.i64 x, Value.int IntKind.i64 y] 23)) (HC.out.alloc _) (own2_new _ _ _) (by have := HC.out.lt; omega)
      have HT2 := Lib.hid ht2
      clear ht3 ht2
      generalize tickT T x = T1 at *
      have HSEE := Lib.hid hsee
      clear hsee
      go_wp2_with fail
      refine HSEE.out.mono ?_
      rintro e w2 ⟨rfl, hbut, hclk⟩
      have HW2 : Hid (Own2 w2 (w.heap.size + 1) wt wn) := (HW.out.later ((Below.refl _ _).alloc (Nat.le_refl _) _) HW.out.lt).but hbut (by omega)
      have HB2 : Hid (Below w.heap.size w w2) := But.below (blAlloc HB.out _) hbut (Nat.le_refl _) (by have := HB.out.size; simp; omega)
      have HC2 : Hid (Clk w2 w.heap.size n T1) := hclk
      clear hbut hclk HSEE HB HC HW hx hy
      have hT10 : 0 ≤ T1 := by omega
      by_cases hc : 1099511627776 ≤ T1
      · have hv : nextS n T1 = (0, 0, 11) := by simp [nextS, hc]
        have hnow := now_any w.heap.size n T1 w2 HC2.out hT10
        rw [hv, if_pos hc] at hnow
        have HN := Lib.hid hnow
        obtain rfl : T1 = 1099511627776 := by omega
        clear hnow hv hc
        go_wp2_with fail
        refine HN.out.mono ?_
        rintro e w3 ⟨rfl, hbut, hclk⟩
        have HB3 : Hid (Below w.heap.size w w3) := But.below HB2.out hbut (Nat.le_refl _) HB2.out.size
        have HC3 : Hid (Clk (w3.alloc (Obj.cells #[Value.int IntKind.i64 0, Value.int IntKind.i64 0] 23)) w.heap.size n 1099511627776) := hclk.alloc _
        clear hbut hclk HN
        go_wp2_with (first | (go_at_call 14; refine (num_any _ _).mono ?_; rintro e w' ⟨rfl, rfl⟩) | (go_at_call 39; refine (last_any _ _ _ _ HC3.out).mono ?_; rintro e w' ⟨rfl, rfl⟩) | (go_at_call 18; refine (live_any _).mono ?_; rintro e w6 ⟨rfl, hb⟩; have HB6 : Hid (Below w.heap.size w w6) := blThen (blAlloc HB3.out _) hb; clear hb))
        go_ret
        exact ⟨rfl, HB6.out⟩
      · have hv : nextS n T1 = (T1 + 1, n, 0) := by simp [nextS, hc]
        have hnow := now_any w.heap.size n T1 w2 HC2.out hT10
        rw [hv, if_neg hc] at hnow
        have HN := Lib.hid hnow
        have HL1 : Hid (ltS (wt, wn) (T1 + 1, n) = true) := by show ltS (wt, wn) (T1 + 1, n) = true; simp only [ltS_iff]; omega
        have HK : Hid (checkS (T1 + 1, n) = 0) := by
          show checkS (T1 + 1, n) = 0
          have : isS (T1 + 1, n) = true := by simp only [isS, decide_eq_true_eq]; omega
          simp [checkS, this]
        clear hnow hv
        go_wp2_with fail
        refine HN.out.mono ?_
        rintro e w3 ⟨rfl, hbut, hclk⟩
        have hW3 : Own2 w3 (w.heap.size + 1) wt wn := HW2.out.but hbut (by omega)
        have hB3 : Below w.heap.size w w3 := But.below HB2.out hbut (Nat.le_refl _) HB2.out.size
        have hS4 : Own2 (w3.alloc (Obj.cells #[Value.int IntKind.i64 (T1 + 1), Value.int IntKind.i64 n] 23)) w3.heap.size (T1 + 1) n := own2_new _ _ _
        have hW4 : Own2 (w3.alloc (Obj.cells #[Value.int IntKind.i64 (T1 + 1), Value.int IntKind.i64 n] 23)) (w.heap.size + 1) wt wn := hW3.later ((Below.refl _ _).alloc (Nat.le_refl _) _) hW3.lt
        have hB4 : Below w.heap.size w (w3.alloc (Obj.cells #[Value.int IntKind.i64 (T1 + 1), Value.int IntKind.i64 n] 23)) := blAlloc hB3 _
        have hC4 : Clk (w3.alloc (Obj.cells #[Value.int IntKind.i64 (T1 + 1), Value.int IntKind.i64 n] 23)) w.heap.size n (T1 + 1) := hclk.alloc _
        clear hbut hclk HN HW2 HB2 HC2
        go_wp2_with fail
        obtain ⟨S, hSeq⟩ : ∃ S, w3.heap.size = S := ⟨_, rfl⟩
        have hS3 : Hid (w.heap.size + 1 < S) := by rw [← hSeq]; exact hW3.lt
        rw [hSeq] at hS4 ⊢
        clear hSeq hW3 hB3
        generalize w3.alloc (Obj.cells #[Value.int IntKind.i64 (T1 + 1), Value.int IntKind.i64 n] 23) = W4 at *
        have HS4 := Lib.hid hS4
        have HW4 := Lib.hid hW4
        have HB4 := Lib.hid hB4
        have HC4 := Lib.hid hC4
        obtain ⟨hx, hy⟩ := hl2.out.later hb hB4 k x y hxy2.out
        have hbw : b < W4.heap.size := Nat.lt_of_lt_of_le hb hB4.size
        have a0 := hS4.c0
        have a1 := hS4.c1
        have b0 := hW4.c0
        have b1 := hW4.c1
        have bf0 := hW4.f0
        have bf1 := hW4.f1
        have hSw : S < W4.heap.size := hS4.lt
        have hWw : w.heap.size + 1 < W4.heap.size := hW4.lt
        clear hS4 hW4 hB4 hC4
        go_wp2_with (go_at_call 14; refine (num_any _ _).mono ?_; rintro e w' ⟨rfl, rfl⟩)
        by_cases hxm : x ≤ 1099511627776
        · have hxb : decide (x ≤ 1099511627776) = true := by simpa using hxm
          have HL2 : Hid (ltS (x, y) (T1 + 1, n) = true) := by
            show ltS (x, y) (T1 + 1, n) = true
            have := HT2.out hxm
            simp only [ltS_iff]
            omega
          refine region_aft (by kernel_rfl) (by kernel_rfl) ?_
          repeat (go_big_quiet_step (first | (go_at_call 13; exact aft_grown ((less_any _ _ _ _ _).mono fun e w' h => by first | (rw [HL1.out] at h; exact h) | (rw [HL2.out] at h; exact h))) | (go_at_call 14; exact aft_same (num_any _ _)) | (go_at_call 15; exact aft_grown ((check_any _ _ _).mono fun e w' h => by rw [HK.out] at h; exact h))))
          refine wpQuiet_nil ?_
          rintro w5 ⟨z, rfl⟩
          go_wp2
          go_roundw
          case rel => exact ⟨k + 1, T1 + 1, T1 + 1, n, hlt, by go_num, Int.le_refl _, by omega, by omega, ((blThen HB4.out z.h).setCell (by simp) _).setCell (by simp) _, ((HC4.out.later z.h HC4.out.lt).set_other (by simp) _).set_other (by simp) _, (HW4.out.later z.h HW4.out.lt).set _ _⟩
          case measure => simp [intOf]; omega
        · have hxb : decide (x ≤ 1099511627776) = false := by simpa using hxm
          refine region_aft (by kernel_rfl) (by kernel_rfl) ?_
          repeat (go_big_quiet_step (first | (go_at_call 13; exact aft_grown ((less_any _ _ _ _ _).mono fun e w' h => by rw [HL1.out] at h; exact h)) | (go_at_call 14; exact aft_same (num_any _ _)) | (go_at_call 15; exact aft_grown ((check_any _ _ _).mono fun e w' h => by rw [HK.out] at h; exact h))))
          refine wpQuiet_nil ?_
          rintro w5 ⟨z, rfl⟩
          go_wp2
          go_roundw
          case rel => exact ⟨k + 1, T1 + 1, T1 + 1, n, hlt, by go_num, Int.le_refl _, by omega, by omega, ((blThen HB4.out z.h).setCell (by simp) _).setCell (by simp) _, ((HC4.out.later z.h HC4.out.lt).set_other (by simp) _).set_other (by simp) _, (HW4.out.later z.h HW4.out.lt).set _ _⟩
          case measure => simp [intOf]; omega
    · go_wp2_with (go_at_call 18; refine (live_any _).mono ?_; rintro e w6 ⟨rfl, hb⟩; have HB6 : Hid (Below w.heap.size w w6) := blThen HB.out hb; clear hb)
      go_ret
      exact ⟨rfl, HB6.out⟩

set_option maxRecDepth 100000 in
theorem stampRises_lifted (os : Os) (started : os.Started) (H : Type) (enc : TypeId × Value → H) :
    ReturnsInHanded {} Try.checked os 7 .any (Rows.stampRisesSpec.pre6 enc Try.prog Try.f7 Rows.stampRisesRow.domain false) (Rows.stampRisesSpec.post enc Try.prog Try.f7 false true false false) := by
  refine law_lift (C := Try.checked) own0 started (by kernel_rfl) Try.func7 laid0 rfl (by kernel_rfl) (fun _ _ _ _ => trodAll_mk1 (shut_bool Try.underlying4 true)) (fun ds h => match ds, h with | [_, _, _], _ => ⟨rfl, rfl, rfl⟩)
    (ChangeSpec.witness6 (enc := enc) (C := Try.checked) false ⟨#[], #[.int .i64 0, .int .i64 0, .slice none 0 0], []⟩ 8 (by kernel_rfl) (by kernel_rfl) (by kernel_rfl) (by kernel_rfl)) ?_
  intro W base args ds before hval0 hA0 hlt
  have hval : ∀ (j : Nat) t v, Try.f7.params[j]? = some t → args[j]? = some v → Value.okWide Try.prog W .any base t v := hval0
  have hA : DataW.TrodAll enc Try.prog W 0 (fun _ => true) true Try.f7.params.toList args.toList ds before := hA0
  rw [Try.params7] at hA hval
  obtain ⟨v0, v1, v2, d0, d1, d2, p0, p1, p2, rfl, rfl, rfl, h0, h1, h2⟩ := trodAll_three hA
  obtain ⟨n, rfl, rfl, rfl, wn⟩ := open_int Try.underlying3 (hval 0 3 v0 rfl rfl) h0
  obtain ⟨last, rfl, rfl, rfl, wlast⟩ := open_int Try.underlying2 (hval 1 2 v1 rfl rfl) h1
  obtain ⟨a, l, cap, rfl, hl2, hm2, hn2, hb2, hw2⟩ := open_stamps (hval 2 31 v2 rfl rfl) h2
  exact stampRises_walk n last a cap l W hl2 hm2

theorem stampRises_holds : Rows.StampRisesSaid :=
  OpenClaim.holds_of_wide 7 Try.f7 rfl rfl rfl rfl rfl rfl rfl ⟨rfl, rfl, rfl, rfl, rfl⟩ rfl rfl rfl rfl rfl (by kernel_rfl) Try.func7 (by kernel_rfl)
    (of_decide_eq_true (by kernel_rfl)) (by unfold Func.isWrapper; rw [if_neg (of_decide_eq_false (by kernel_rfl))]; exact ⟨rfl, rfl⟩)
    (fun os started H enc _ => stampRises_lifted os started H enc)

#print axioms stampRises_holds

end Go.Proofs.Ytnicdbkjgicliaa
