/- NumWhole: sums of whole numbers of at most 2^51 are the whole numbers that they are; their order is that of numbers. Conditions: none. -/
import Derived.Test.YtmhgjijpilhcdaaNu
import Derived.Test.YtmhgjijpilhcdaaNr
namespace Go.Proofs.Ytmhgjijpilhcdaa
open Go.ChangeShapes Go.WideShapes Go.ChangeAt Go.RowKit Go.Sort

set_option maxRecDepth 100000 in
set_option maxHeartbeats 8000000 in
theorem numWhole_walk (a b : Int) (w : World) :
    Calls Try.prog 7 #[.int .i64 a, .int .i64 b] w fun e w' => e = .returned (.bool true) ∧ Below w.heap.size w w' := by
  by_cases r1 : a < -2251799813685248
  · go_enter Try.func7, Try.ntmps7
    go_wp2_with fail
    refine (live_any _).mono ?_; rintro e w1 ⟨rfl, h1⟩
    have H1 := Lib.hid (blGo (Below.refl w.heap.size w) h1)
    clear h1
    go_wp2
    go_ret
    first | exact ⟨rfl, H1.out⟩ | (refine ⟨?_, H1.out⟩; simp; done) | (refine ⟨?_, H1.out⟩; simp; omega)
  · by_cases r2 : 2251799813685248 < a
    · go_enter Try.func7, Try.ntmps7
      go_wp2_with fail
      refine (live_any _).mono ?_; rintro e w1 ⟨rfl, h1⟩
      have H1 := Lib.hid (blGo (Below.refl w.heap.size w) h1)
      clear h1
      go_wp2
      go_ret
      first | exact ⟨rfl, H1.out⟩ | (refine ⟨?_, H1.out⟩; simp; done) | (refine ⟨?_, H1.out⟩; simp; omega)
    · by_cases r3 : b < -2251799813685248
      · go_enter Try.func7, Try.ntmps7
        go_wp2_with fail
        refine (live_any _).mono ?_; rintro e w1 ⟨rfl, h1⟩
        have H1 := Lib.hid (blGo (Below.refl w.heap.size w) h1)
        clear h1
        go_wp2
        go_ret
        first | exact ⟨rfl, H1.out⟩ | (refine ⟨?_, H1.out⟩; simp; done) | (refine ⟨?_, H1.out⟩; simp; omega)
      · by_cases r4 : 2251799813685248 < b
        · go_enter Try.func7, Try.ntmps7
          go_wp2_with fail
          refine (live_any _).mono ?_; rintro e w1 ⟨rfl, h1⟩
          have H1 := Lib.hid (blGo (Below.refl w.heap.size w) h1)
          clear h1
          go_wp2
          go_ret
          first | exact ⟨rfl, H1.out⟩ | (refine ⟨?_, H1.out⟩; simp; done) | (refine ⟨?_, H1.out⟩; simp; omega)
        · have la : a.natAbs ≤ 2251799813685248 := by omega
          have lb : b.natAbs ≤ 2251799813685248 := by omega
          have o1 := fun w => of_any a w
          have o2 := fun w => of_any b w
          have o3 := fun w => of_any (a + b) w
          have o4 := fun w => of_any (-a) w
          have s1 := fun w => add_any (ofN a) (ofN b) w
          have q1 := fun w => compare_any (ofN a) (ofN b) (ofN_lt a) (ofN_lt b) w
          have q2 := fun w => covers_any (ofN a) (ofN b) w
          have n1 := fun w => neg_any (ofN a) (ofN_lt a) w
          rw [add_whole a b la lb] at s1
          rw [cmp_whole a b la lb] at q1
          rw [cov_whole a b la lb] at q2
          have w1 : wrap64 (a + b) = a + b := by unfold wrap64; omega
          have w2 : wrap64 (-a) = -a := by unfold wrap64; omega
          by_cases h0 : a = 0
          · by_cases h : a < b
            · have g1 : a < b := h
              have g3 : ¬ b ≤ a := by omega
              rw [if_pos g1] at q1
              rw [decide_eq_false g3] at q2
              subst h0
              clear n1 o4 w2
              simp only [Int.zero_add] at *
              go_enter Try.func7, Try.ntmps7
              go_wp2_with fail
              refine (o1 _).mono ?_; rintro e w' ⟨rfl, rfl⟩
              go_wp2_with fail
              refine (o2 _).mono ?_; rintro e w' ⟨rfl, rfl⟩
              go_wp2_with fail
              refine (s1 _).mono ?_; rintro e w1 ⟨rfl, h1⟩
              have H1 := Lib.hid (blGo (Below.refl w.heap.size w) h1)
              clear h1
              go_wp2_with fail
              refine (o3 _).mono ?_; rintro e w' ⟨rfl, rfl⟩
              go_wp2_with fail
              refine (q1 _).mono ?_; rintro e w' ⟨rfl, rfl⟩
              go_wp2_with fail
              refine (q2 _).mono ?_; rintro e w' ⟨rfl, rfl⟩
              go_wp2_with fail
              refine (live_any _).mono ?_; rintro e w2 ⟨rfl, h2⟩
              have H2 := Lib.hid (blGo (H1.out) h2)
              clear h2
              go_wp2
              go_ret
              first | exact ⟨rfl, H2.out⟩ | (refine ⟨?_, H2.out⟩; simp; done) | (refine ⟨?_, H2.out⟩; simp; omega)
            · by_cases h2 : b < a
              · have g1 : ¬ a < b := by omega
                have g2 : b < a := h2
                have g3 : b ≤ a := by omega
                rw [if_neg g1, if_pos g2] at q1
                rw [decide_eq_true g3] at q2
                subst h0
                clear n1 o4 w2
                simp only [Int.zero_add] at *
                go_enter Try.func7, Try.ntmps7
                go_wp2_with fail
                refine (o1 _).mono ?_; rintro e w' ⟨rfl, rfl⟩
                go_wp2_with fail
                refine (o2 _).mono ?_; rintro e w' ⟨rfl, rfl⟩
                go_wp2_with fail
                refine (s1 _).mono ?_; rintro e w1 ⟨rfl, h1⟩
                have H1 := Lib.hid (blGo (Below.refl w.heap.size w) h1)
                clear h1
                go_wp2_with fail
                refine (o3 _).mono ?_; rintro e w' ⟨rfl, rfl⟩
                go_wp2_with fail
                refine (q1 _).mono ?_; rintro e w' ⟨rfl, rfl⟩
                go_wp2_with fail
                refine (q2 _).mono ?_; rintro e w' ⟨rfl, rfl⟩
                go_wp2_with fail
                refine (live_any _).mono ?_; rintro e w2 ⟨rfl, h2⟩
                have H2 := Lib.hid (blGo (H1.out) h2)
                clear h2
                go_wp2
                go_ret
                first | exact ⟨rfl, H2.out⟩ | (refine ⟨?_, H2.out⟩; simp; done) | (refine ⟨?_, H2.out⟩; simp; omega)
              · have g1 : b = a := by omega
                subst g1
                rw [if_neg (by omega), if_neg (by omega)] at q1
                rw [decide_eq_true (Int.le_refl _)] at q2
                subst h0
                clear n1 o4 w2
                clear la lb
                simp only [Int.zero_add] at *
                go_enter Try.func7, Try.ntmps7
                go_wp2_with fail
                refine (o1 _).mono ?_; rintro e w' ⟨rfl, rfl⟩
                go_wp2_with fail
                refine (o2 _).mono ?_; rintro e w' ⟨rfl, rfl⟩
                go_wp2_with fail
                refine (s1 _).mono ?_; rintro e w1 ⟨rfl, h1⟩
                have H1 := Lib.hid (blGo (Below.refl w.heap.size w) h1)
                clear h1
                go_wp2_with fail
                refine (o3 _).mono ?_; rintro e w' ⟨rfl, rfl⟩
                go_wp2_with fail
                refine (q1 _).mono ?_; rintro e w' ⟨rfl, rfl⟩
                go_wp2_with fail
                refine (q2 _).mono ?_; rintro e w' ⟨rfl, rfl⟩
                go_wp2_with fail
                refine (live_any _).mono ?_; rintro e w2 ⟨rfl, h2⟩
                have H2 := Lib.hid (blGo (H1.out) h2)
                clear h2
                go_wp2
                go_ret
                first | exact ⟨rfl, H2.out⟩ | (refine ⟨?_, H2.out⟩; simp; done) | (refine ⟨?_, H2.out⟩; simp; omega)
          · by_cases h : a < b
            · have g1 : a < b := h
              have g3 : ¬ b ≤ a := by omega
              rw [if_pos g1] at q1
              rw [decide_eq_false g3] at q2
              have g0 : ¬ a = 0 := h0
              rw [neg_whole a h0] at n1
              clear la lb
              generalize ofN (-a) = x4 at *
              go_enter Try.func7, Try.ntmps7
              go_wp2_with fail
              refine (o1 _).mono ?_; rintro e w' ⟨rfl, rfl⟩
              go_wp2_with fail
              refine (o2 _).mono ?_; rintro e w' ⟨rfl, rfl⟩
              go_wp2_with fail
              refine (s1 _).mono ?_; rintro e w1 ⟨rfl, h1⟩
              have H1 := Lib.hid (blGo (Below.refl w.heap.size w) h1)
              clear h1
              go_wp2_with fail
              refine (o3 _).mono ?_; rintro e w' ⟨rfl, rfl⟩
              go_wp2_with fail
              refine (q1 _).mono ?_; rintro e w' ⟨rfl, rfl⟩
              go_wp2_with fail
              refine (q2 _).mono ?_; rintro e w' ⟨rfl, rfl⟩
              go_wp2_with fail
              refine (n1 _).mono ?_; rintro e w' ⟨rfl, rfl⟩
              go_wp2_with fail
              refine (o4 _).mono ?_; rintro e w' ⟨rfl, rfl⟩
              go_wp2_with fail
              refine (live_any _).mono ?_; rintro e w2 ⟨rfl, h2⟩
              have H2 := Lib.hid (blGo (H1.out) h2)
              clear h2
              go_wp2
              go_ret
              first | exact ⟨rfl, H2.out⟩ | (refine ⟨?_, H2.out⟩; simp; done) | (refine ⟨?_, H2.out⟩; simp; omega)
            · by_cases h2 : b < a
              · have g1 : ¬ a < b := by omega
                have g2 : b < a := h2
                have g3 : b ≤ a := by omega
                rw [if_neg g1, if_pos g2] at q1
                rw [decide_eq_true g3] at q2
                have g0 : ¬ a = 0 := h0
                rw [neg_whole a h0] at n1
                clear la lb
                generalize ofN (-a) = x4 at *
                go_enter Try.func7, Try.ntmps7
                go_wp2_with fail
                refine (o1 _).mono ?_; rintro e w' ⟨rfl, rfl⟩
                go_wp2_with fail
                refine (o2 _).mono ?_; rintro e w' ⟨rfl, rfl⟩
                go_wp2_with fail
                refine (s1 _).mono ?_; rintro e w1 ⟨rfl, h1⟩
                have H1 := Lib.hid (blGo (Below.refl w.heap.size w) h1)
                clear h1
                go_wp2_with fail
                refine (o3 _).mono ?_; rintro e w' ⟨rfl, rfl⟩
                go_wp2_with fail
                refine (q1 _).mono ?_; rintro e w' ⟨rfl, rfl⟩
                go_wp2_with fail
                refine (q2 _).mono ?_; rintro e w' ⟨rfl, rfl⟩
                go_wp2_with fail
                refine (n1 _).mono ?_; rintro e w' ⟨rfl, rfl⟩
                go_wp2_with fail
                refine (o4 _).mono ?_; rintro e w' ⟨rfl, rfl⟩
                go_wp2_with fail
                refine (live_any _).mono ?_; rintro e w2 ⟨rfl, h2⟩
                have H2 := Lib.hid (blGo (H1.out) h2)
                clear h2
                go_wp2
                go_ret
                first | exact ⟨rfl, H2.out⟩ | (refine ⟨?_, H2.out⟩; simp; done) | (refine ⟨?_, H2.out⟩; simp; omega)
              · have g1 : b = a := by omega
                subst g1
                rw [if_neg (by omega), if_neg (by omega)] at q1
                rw [decide_eq_true (Int.le_refl _)] at q2
                have g0 : ¬ b = 0 := h0
                rw [neg_whole b h0] at n1
                clear la lb
                generalize ofN (-b) = x4 at *
                go_enter Try.func7, Try.ntmps7
                go_wp2_with fail
                refine (o1 _).mono ?_; rintro e w' ⟨rfl, rfl⟩
                go_wp2_with fail
                refine (o2 _).mono ?_; rintro e w' ⟨rfl, rfl⟩
                go_wp2_with fail
                refine (s1 _).mono ?_; rintro e w1 ⟨rfl, h1⟩
                have H1 := Lib.hid (blGo (Below.refl w.heap.size w) h1)
                clear h1
                go_wp2_with fail
                refine (o3 _).mono ?_; rintro e w' ⟨rfl, rfl⟩
                go_wp2_with fail
                refine (q1 _).mono ?_; rintro e w' ⟨rfl, rfl⟩
                go_wp2_with fail
                refine (q2 _).mono ?_; rintro e w' ⟨rfl, rfl⟩
                go_wp2_with fail
                refine (n1 _).mono ?_; rintro e w' ⟨rfl, rfl⟩
                go_wp2_with fail
                refine (o4 _).mono ?_; rintro e w' ⟨rfl, rfl⟩
                go_wp2_with fail
                refine (live_any _).mono ?_; rintro e w2 ⟨rfl, h2⟩
                have H2 := Lib.hid (blGo (H1.out) h2)
                clear h2
                go_wp2
                go_ret
                first | exact ⟨rfl, H2.out⟩ | (refine ⟨?_, H2.out⟩; simp; done) | (refine ⟨?_, H2.out⟩; simp; omega)

set_option maxRecDepth 100000 in
theorem numWhole_lifted (os : Os) (started : os.Started) (H : Type) (enc : TypeId × Value → H) :
    ReturnsInHanded {} Try.checked os 7 .any (Rows.numWholeSpec.pre6 enc Try.prog Try.f7 Rows.numWholeRow.domain false) (Rows.numWholeSpec.post enc Try.prog Try.f7 false true false false) := by
  refine law_lift (C := Try.checked) own0 started (by kernel_rfl) Try.func7 laid0 rfl (by kernel_rfl) (fun _ _ _ _ => trodAll_mk1 (shut_bool Try.underlying4 true)) (fun ds h => match ds, h with | [_, _], _ => ⟨rfl, rfl, rfl⟩)
    (ChangeSpec.witness6 (enc := enc) (C := Try.checked) false ⟨#[], #[.int .i64 0, .int .i64 0], []⟩ 8 (by kernel_rfl) (by kernel_rfl) (by kernel_rfl) (by kernel_rfl)) ?_
  intro W base args ds before hval0 hA0 hlt
  have hval : ∀ (j : Nat) t v, Try.f7.params[j]? = some t → args[j]? = some v → Value.okWide Try.prog W .any base t v := hval0
  have hA : DataW.TrodAll enc Try.prog W 0 (fun _ => true) true Try.f7.params.toList args.toList ds before := hA0
  rw [Try.params7] at hA hval
  obtain ⟨v0, v1, d0, d1, p0, p1, rfl, rfl, rfl, h0, h1⟩ := trodAll_two hA
  obtain ⟨a, rfl, rfl, rfl, wa⟩ := open_int Try.underlying2 (hval 0 2 v0 rfl rfl) h0
  obtain ⟨b, rfl, rfl, rfl, wb⟩ := open_int Try.underlying2 (hval 1 2 v1 rfl rfl) h1
  exact numWhole_walk a b W

theorem numWhole_holds : Rows.NumWholeSaid :=
  OpenClaim.holds_of_wide 7 Try.f7 rfl rfl rfl rfl rfl rfl rfl ⟨rfl, rfl, rfl, rfl, rfl⟩ rfl rfl rfl rfl rfl (by kernel_rfl) Try.func7 (by kernel_rfl)
    (of_decide_eq_true (by kernel_rfl)) (by unfold Func.isWrapper; rw [if_neg (of_decide_eq_false (by kernel_rfl))]; exact ⟨rfl, rfl⟩)
    (fun os started H enc _ => numWhole_lifted os started H enc)

#print axioms numWhole_holds

end Go.Proofs.Ytmhgjijpilhcdaa
