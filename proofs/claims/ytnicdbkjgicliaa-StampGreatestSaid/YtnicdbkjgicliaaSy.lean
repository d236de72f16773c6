/- StampGreatest: the greatest of a list is one of them and none is greater, and what comes behind is greater than all. Conditions: none. -/
import Derived.Test.YtnicdbkjgicliaaSw
namespace Go.Proofs.Ytnicdbkjgicliaa
open Go.ChangeShapes Go.WideShapes Go.ChangeAt Go.RowKit Go.Joins Go.Deep Go.Sort

theorem not_greater {l : List (Int × Int)} {k : Nat} {x y mx my : Int} (hm : maxL l = (mx, my)) (h : l[k]? = some (x, y)) : ¬ 0 < cmpS x y mx my := by
  rw [cmpS_pos, ← hm, maxL_ge l (x, y) (List.mem_of_getElem? h)]
  simp
theorem after_greater {l : List (Int × Int)} {k : Nat} {vt vn x y : Int} {m : Int} (hv : afterS m l = (vt, vn, 0)) (h : l[k]? = some (x, y)) : x < vt := by
  unfold afterS at hv
  split at hv
  · split at hv
    · rename_i hall
      have hge := maxL_ge l (x, y) (List.mem_of_getElem? h)
      rw [ltS_not] at hge
      unfold nextS at hv
      split at hv
      · simp at hv
      · simp only [Prod.mk.injEq] at hv
        have := hv.1
        simp only at hge
        omega
    · simp at hv
  · simp at hv
theorem after_ok {l : List (Int × Int)} {vt vn m : Int} (hv : afterS m l = (vt, vn, 0)) : isS (vt, vn) = true ∧ vn = m := by
  unfold afterS at hv
  split at hv
  · rename_i hn
    split at hv
    · rename_i hall
      have h0 := max_nonneg hall
      unfold nextS at hv
      split at hv
      · simp at hv
      · simp only [Prod.mk.injEq] at hv
        obtain ⟨h1, h2, _⟩ := hv
        simp only [nodeS, decide_eq_true_eq] at hn
        subst h2
        refine ⟨?_, rfl⟩
        simp only [isS, decide_eq_true_eq]
        omega
    · simp at hv
  · simp at hv
theorem after_none {l : List (Int × Int)} {vt vn ve m : Int} (hv : afterS m l = (vt, vn, ve)) (h : ve ≠ 0) : vt = 0 ∧ vn = 0 := by
  unfold afterS at hv
  split at hv
  · split at hv
    · unfold nextS at hv
      split at hv
      · simp only [Prod.mk.injEq] at hv; exact ⟨hv.1.symm, hv.2.1.symm⟩
      · simp only [Prod.mk.injEq] at hv; exact absurd hv.2.2.symm h
    · simp only [Prod.mk.injEq] at hv; exact ⟨hv.1.symm, hv.2.1.symm⟩
  · simp only [Prod.mk.injEq] at hv; exact ⟨hv.1.symm, hv.2.1.symm⟩

set_option maxHeartbeats 2000000 in
theorem stampGreatest_walk (n : Int) (a : Option Addr) (cap : Nat) (l : List (Int × Int)) (w : World) (hl : SL w a l) (hm : l.length ≤ 9223372036854775807) :
    Calls Try.prog 12 #[.int .i64 n, .slice a l.length cap] w fun e w' => e = .returned (.bool true) ∧ Below w.heap.size w w' := by
  have HL := Lib.hid hl
  clear hl
  by_cases hlen : 60 < l.length
  · have hlenI : (60 : Int) < (l.length : Int) := by omega
    clear hlen
    go_enter Try.func12, Try.ntmps12
    go_wp2_with (go_at_call 18; refine (live_any _).mono ?_; rintro e w3 ⟨rfl, hb⟩; have HB3 := Lib.hid hb; clear hb)
    go_ret
    exact ⟨rfl, HB3.out⟩
  · obtain ⟨vt, vn, ve, hvv⟩ : ∃ vt vn ve, afterS n l = (vt, vn, ve) := ⟨_, _, _, rfl⟩
    obtain ⟨mx, my, hmm⟩ : ∃ mx my, maxL l = (mx, my) := ⟨_, _, rfl⟩
    have HV := Lib.hid hvv
    have HM := Lib.hid hmm
    have hle : l.length ≤ 1000000 := by omega
    clear hvv hmm
    go_enter Try.func12, Try.ntmps12
    go_wp2_with fail
    refine (max_any a cap l _ hle HL.out).mono ?_
    rw [HM.out]
    rintro e w1 ⟨rfl, hb⟩
    have hM0 : Own2 (w1.alloc (Obj.cells #[Value.int IntKind.i64 mx, Value.int IntKind.i64 my] 23)) w1.heap.size mx my := own2_new _ _ _
    have hB0 : Below w.heap.size w (w1.alloc (Obj.cells #[Value.int IntKind.i64 mx, Value.int IntKind.i64 my] 23)) := blAlloc hb _
    have hMge : Hid (w.heap.size ≤ w1.heap.size) := hb.size
    clear hb
    go_wp2_with fail
    obtain ⟨M, hMeq⟩ : ∃ M, w1.heap.size = M := ⟨_, rfl⟩
    rw [hMeq] at hM0 hMge ⊢
    clear hMeq
    generalize w1.alloc (Obj.cells #[Value.int IntKind.i64 mx, Value.int IntKind.i64 my] 23) = W at *
    have HM0 := Lib.hid hM0
    have HB0 := Lib.hid hB0
    clear hM0 hB0
    go_loopw [6] (fun i wr => ∃ k : Nat, k ≤ l.length ∧ i = .int .i64 k ∧ Below W.heap.size W wr) (fun i _ => l.length - (intOf i).toNat)
    case atStart => exact ⟨0, Nat.zero_le _, rfl, Below.refl _ _⟩
    case round =>
      obtain ⟨k, hk, rfl, hbel⟩ := hrel
      have HB := Lib.hid hbel
      have HBW : Hid (Below w.heap.size w wr) := blThen HB0.out hbel
      have HM1 : Hid (Own2 wr M mx my) := HM0.out.later hbel HM0.out.lt
      have m0 := HM1.out.c0
      have m1 := HM1.out.c1
      have hMw : M < wr.heap.size := HM1.out.lt
      clear hbel
      by_cases hlt : k < l.length
      · obtain ⟨x, y, hxy⟩ := at_lt hlt
        obtain ⟨b, o, rfl, hb, hl⟩ := HL.out (ne_of_lt hlt)
        obtain ⟨hx, hy⟩ := hl.later hb HBW.out k x y hxy
        have hbw : b < wr.heap.size := Nat.lt_of_lt_of_le hb HBW.out.size
        have hc : ¬ 0 < cmpS x y mx my := not_greater HM.out hxy
        clear hxy hl
        go_wp2_with fail
        refine region_aft (by kernel_rfl) (by kernel_rfl) ?_
        repeat (go_big_quiet_step (first | (go_at_call 17; exact aft_of (compare_any _ _ _ _ _))))
        refine wpQuiet_nil ?_
        rintro w2 ⟨z, rfl⟩
        go_wp2
        go_roundw
        case rel => exact ⟨k + 1, hlt, by go_num, HB.out.trans (z.h.mono HB.out.size)⟩
        case measure => simp [intOf]; omega
      · have hkl : k = l.length := by omega
        subst hkl
        clear hlt hk
        clear m0 m1 hMw
        by_cases hne : l = []
        · have hz : (l.length : Int) = 0 := by simp [hne]
          have HNE := Lib.hid hne
          have HB3 := HBW
          clear hne
          have hz2 : ¬ (0 : Int) < (l.length : Int) := by omega
          clear hz
          go_wp2_with fail
          refine (after_any n a cap l _ hle (HL.out.later HB3.out)).mono ?_
          rw [HV.out]
          rintro e w4 ⟨rfl, hb⟩
          have HB4 : Hid (Below w.heap.size w w4) := blThen HB3.out hb
          clear hb
          by_cases hve : ve = 0
          · subst hve
            obtain ⟨his, hvn⟩ := after_ok HV.out
            subst hvn
            have HIS := Lib.hid (show checkS (vt, vn) = 0 by simp [checkS, his])
            clear his
            go_wp2_with (go_at_call 14; refine (num_any _ _).mono ?_; rintro e w' ⟨rfl, rfl⟩)
            have hS0 : Own2 (w4.alloc (Obj.cells #[Value.int IntKind.i64 vt, Value.int IntKind.i64 vn] 23)) w4.heap.size vt vn := own2_new _ _ _
            have hB5 : Below w.heap.size w (w4.alloc (Obj.cells #[Value.int IntKind.i64 vt, Value.int IntKind.i64 vn] 23)) := blAlloc HB4.out _
            obtain ⟨S, hSeq⟩ : ∃ S, w4.heap.size = S := ⟨_, rfl⟩
            rw [hSeq] at hS0 ⊢
            clear hSeq
            generalize w4.alloc (Obj.cells #[Value.int IntKind.i64 vt, Value.int IntKind.i64 vn] 23) = W5 at *
            have HS0 := Lib.hid hS0
            have HB5 := Lib.hid hB5
            clear hS0 hB5
            go_loopw [9] (fun i wr => ∃ k : Nat, k ≤ l.length ∧ i = .int .i64 k ∧ Below W5.heap.size W5 wr) (fun i _ => l.length - (intOf i).toNat)
            case atStart => exact ⟨0, Nat.zero_le _, rfl, Below.refl _ _⟩
            case round =>
              obtain ⟨k, hk, rfl, hbel⟩ := hrel
              have HBq := Lib.hid hbel
              have HBX : Hid (Below w.heap.size w wr) := blThen HB5.out hbel
              have HS1 : Hid (Own2 wr S vt vn) := HS0.out.later hbel HS0.out.lt
              have s0 := HS1.out.c0
              have s1 := HS1.out.c1
              have hSw : S < wr.heap.size := HS1.out.lt
              clear hbel
              by_cases hlt : k < l.length
              · exfalso
                omega
              · go_wp2_with (first | (go_at_call 15; refine (check_any _ _ _).mono ?_; rintro e w' ⟨rfl, q, os, rfl⟩; rw [HIS.out]) | (go_at_call 14; refine (num_any _ _).mono ?_; rintro e w' ⟨rfl, rfl⟩) | (go_at_call 18; refine (live_any _).mono ?_; rintro e w6 ⟨rfl, hb⟩; have HB6 : Hid (Below w.heap.size w w6) := blThen (blGrown HBX.out _ _) hb; clear hb))
                go_ret
                exact ⟨rfl, HB6.out⟩
          · obtain ⟨rfl, rfl⟩ := after_none HV.out hve
            have hvb : (ve != 0) = true := by simpa using hve
            go_wp2_with (first | (go_at_call 14; refine (num_any _ _).mono ?_; rintro e w' ⟨rfl, rfl⟩) | (go_at_call 18; refine (live_any _).mono ?_; rintro e w6 ⟨rfl, hb⟩; have HB6 : Hid (Below w.heap.size w w6) := blThen (blAlloc HB4.out _) hb; clear hb))
            go_ret
            exact ⟨rfl, HB6.out⟩
        · have hpos : (0 : Int) < (l.length : Int) := by
            have := List.length_pos_iff.2 hne
            omega
          have hmem : decide ((mx, my) ∈ l) = true := by
            have := maxL_mem l hne
            rw [HM.out] at this
            simpa using this
          have HME := Lib.hid hmem
          have m0 := HM1.out.c0
          have m1 := HM1.out.c1
          clear hmem hne
          go_wp2_with fail
          refine (refhas_any a cap l mx my _ hle (HL.out.later HBW.out)).mono ?_
          rw [HME.out]
          rintro e w3 ⟨rfl, hb⟩
          have HB3 : Hid (Below w.heap.size w w3) := blThen HBW.out hb
          clear hb m0 m1
          go_wp2_with fail
          refine (after_any n a cap l _ hle (HL.out.later HB3.out)).mono ?_
          rw [HV.out]
          rintro e w4 ⟨rfl, hb⟩
          have HB4 : Hid (Below w.heap.size w w4) := blThen HB3.out hb
          clear hb
          by_cases hve : ve = 0
          · subst hve
            obtain ⟨his, hvn⟩ := after_ok HV.out
            subst hvn
            have HIS := Lib.hid (show checkS (vt, vn) = 0 by simp [checkS, his])
            clear his
            go_wp2_with (go_at_call 14; refine (num_any _ _).mono ?_; rintro e w' ⟨rfl, rfl⟩)
            have hS0 : Own2 (w4.alloc (Obj.cells #[Value.int IntKind.i64 vt, Value.int IntKind.i64 vn] 23)) w4.heap.size vt vn := own2_new _ _ _
            have hB5 : Below w.heap.size w (w4.alloc (Obj.cells #[Value.int IntKind.i64 vt, Value.int IntKind.i64 vn] 23)) := blAlloc HB4.out _
            obtain ⟨S, hSeq⟩ : ∃ S, w4.heap.size = S := ⟨_, rfl⟩
            rw [hSeq] at hS0 ⊢
            clear hSeq
            generalize w4.alloc (Obj.cells #[Value.int IntKind.i64 vt, Value.int IntKind.i64 vn] 23) = W5 at *
            have HS0 := Lib.hid hS0
            have HB5 := Lib.hid hB5
            clear hS0 hB5
            go_loopw [9] (fun i wr => ∃ k : Nat, k ≤ l.length ∧ i = .int .i64 k ∧ Below W5.heap.size W5 wr) (fun i _ => l.length - (intOf i).toNat)
            case atStart => exact ⟨0, Nat.zero_le _, rfl, Below.refl _ _⟩
            case round =>
              obtain ⟨k, hk, rfl, hbel⟩ := hrel
              have HBq := Lib.hid hbel
              have HBX : Hid (Below w.heap.size w wr) := blThen HB5.out hbel
              have HS1 : Hid (Own2 wr S vt vn) := HS0.out.later hbel HS0.out.lt
              have s0 := HS1.out.c0
              have s1 := HS1.out.c1
              have hSw : S < wr.heap.size := HS1.out.lt
              clear hbel
              by_cases hlt : k < l.length
              · obtain ⟨x, y, hxy⟩ := at_lt hlt
                obtain ⟨b, o, rfl, hb, hl⟩ := HL.out (ne_of_lt hlt)
                obtain ⟨hx, hy⟩ := hl.later hb HBX.out k x y hxy
                have hbw : b < wr.heap.size := Nat.lt_of_lt_of_le hb HBX.out.size
                have ht : x < vt := after_greater HV.out hxy
                have hc : cmpS x y vt vn < 0 := (cmpS_neg x y vt vn).2 (by simp only [ltS_iff]; omega)
                have hc2 : ¬ 0 ≤ cmpS x y vt vn := by omega
                have ht2 : ¬ vt ≤ x := by omega
                have hcb : decide (0 ≤ cmpS x y vt vn) = false := by simpa using hc
                have htb : decide (vt ≤ x) = false := by simpa using ht
                clear hxy hl
                go_wp2_with fail
                refine region_aft (by kernel_rfl) (by kernel_rfl) ?_
                repeat (go_big_quiet_step (first | (go_at_call 17; exact aft_of (compare_any _ _ _ _ _))))
                refine wpQuiet_nil ?_
                rintro w2 ⟨z, rfl⟩
                go_wp2
                go_roundw
                case rel => exact ⟨k + 1, hlt, by go_num, HBq.out.trans (z.h.mono HBq.out.size)⟩
                case measure => simp [intOf]; omega
              · go_wp2_with (first | (go_at_call 15; refine (check_any _ _ _).mono ?_; rintro e w' ⟨rfl, q, os, rfl⟩; rw [HIS.out]) | (go_at_call 14; refine (num_any _ _).mono ?_; rintro e w' ⟨rfl, rfl⟩) | (go_at_call 18; refine (live_any _).mono ?_; rintro e w6 ⟨rfl, hb⟩; have HB6 : Hid (Below w.heap.size w w6) := blThen (blGrown HBX.out _ _) hb; clear hb))
                go_ret
                exact ⟨rfl, HB6.out⟩
          · obtain ⟨rfl, rfl⟩ := after_none HV.out hve
            have hvb : (ve != 0) = true := by simpa using hve
            go_wp2_with (first | (go_at_call 14; refine (num_any _ _).mono ?_; rintro e w' ⟨rfl, rfl⟩) | (go_at_call 18; refine (live_any _).mono ?_; rintro e w6 ⟨rfl, hb⟩; have HB6 : Hid (Below w.heap.size w w6) := blThen (blAlloc HB4.out _) hb; clear hb))
            go_ret
            exact ⟨rfl, HB6.out⟩

set_option maxRecDepth 100000 in
theorem stampGreatest_lifted (os : Os) (started : os.Started) (H : Type) (enc : TypeId × Value → H) :
    ReturnsInHanded {} Try.checked os 12 .any (Rows.stampGreatestSpec.pre6 enc Try.prog Try.f12 Rows.stampGreatestRow.domain false) (Rows.stampGreatestSpec.post enc Try.prog Try.f12 false true false false) := by
  refine law_lift (C := Try.checked) own0 started (by kernel_rfl) Try.func12 laid0 rfl (by kernel_rfl) (fun _ _ _ _ => trodAll_mk1 (shut_bool Try.underlying4 true)) (fun ds h => match ds, h with | [_, _], _ => ⟨rfl, rfl, rfl⟩)
    (ChangeSpec.witness6 (enc := enc) (C := Try.checked) false ⟨#[], #[.int .i64 0, .slice none 0 0], []⟩ 8 (by kernel_rfl) (by kernel_rfl) (by kernel_rfl) (by kernel_rfl)) ?_
  intro W base args ds before hval0 hA0 hlt
  have hval : ∀ (j : Nat) t v, Try.f12.params[j]? = some t → args[j]? = some v → Value.okWide Try.prog W .any base t v := hval0
  have hA : DataW.TrodAll enc Try.prog W 0 (fun _ => true) true Try.f12.params.toList args.toList ds before := hA0
  rw [Try.params12] at hA hval
  obtain ⟨v0, v1, d0, d1, p0, p1, rfl, rfl, rfl, h0, h1⟩ := trodAll_two hA
  obtain ⟨n, rfl, rfl, rfl, wn⟩ := open_int Try.underlying3 (hval 0 3 v0 rfl rfl) h0
  obtain ⟨a, l, cap, rfl, hl1, hm1, hn1, hb1, hw1⟩ := open_stamps (hval 1 31 v1 rfl rfl) h1
  exact stampGreatest_walk n a cap l W hl1 hm1

theorem stampGreatest_holds : Rows.StampGreatestSaid :=
  OpenClaim.holds_of_wide 12 Try.f12 rfl rfl rfl rfl rfl rfl rfl ⟨rfl, rfl, rfl, rfl, rfl⟩ rfl rfl rfl rfl rfl (by kernel_rfl) Try.func12 (by kernel_rfl)
    (of_decide_eq_true (by kernel_rfl)) (by unfold Func.isWrapper; rw [if_neg (of_decide_eq_false (by kernel_rfl))]; exact ⟨rfl, rfl⟩)
    (fun os started H enc _ => stampGreatest_lifted os started H enc)

#print axioms stampGreatest_holds

end Go.Proofs.Ytnicdbkjgicliaa
