/- NumEdges: what is beyond numbers swallows each number; what is no number swallows all; it covers nothing. Conditions: none. -/
import Derived.Test.YtmhgjijpilhcdaaNu
import Derived.Test.YtmhgjijpilhcdaaNr
namespace Go.Proofs.Ytmhgjijpilhcdaa
open Go.ChangeShapes Go.WideShapes Go.ChangeAt Go.RowKit Go.Sort

theorem l_adNan (a : Nat) (w : World) : Calls Try.prog 16 #[.int .u64 (a : Int), .int .u64 9221120237041090561] w fun e w' => e = .returned (.int .u64 9221120237041090561) ∧ Below w.heap.size w w' := by
  have h := add_any a 9221120237041090561 w
  rw [ad_nan] at h
  exact h
theorem l_coNanL (a : Nat) (w : World) : Calls Try.prog 22 #[.int .u64 9221120237041090561, .int .u64 (a : Int)] w fun e w' => e = .returned (.bool false) ∧ w = w' := by
  have h := covers_any 9221120237041090561 a w
  rw [co_nan_l] at h
  exact h
theorem l_coNanR (a : Nat) (w : World) : Calls Try.prog 22 #[.int .u64 (a : Int), .int .u64 9221120237041090561] w fun e w' => e = .returned (.bool false) ∧ w = w' := by
  have h := covers_any a 9221120237041090561 w
  rw [co_nan_r] at h
  exact h
theorem l_cmNan (a : Nat) (ha : a < 18446744073709551616) (w : World) : Calls Try.prog 20 #[.int .u64 (a : Int), .int .u64 9221120237041090561] w fun e w' => e = .returned (.int .i64 (cmN a 9221120237041090561)) ∧ w = w' := compare_any a 9221120237041090561 ha (by decide) w
theorem l_cmMin (a : Nat) (ha : a < 18446744073709551616) (w : World) : Calls Try.prog 20 #[.int .u64 18442240474082181120, .int .u64 (a : Int)] w fun e w' => e = .returned (.int .i64 (cmN 18442240474082181120 a)) ∧ w = w' := compare_any 18442240474082181120 a (by decide) ha w
theorem l_adInf (a : Nat) (h : rg a < 9218868437227405312) (w : World) : Calls Try.prog 16 #[.int .u64 (a : Int), .int .u64 9218868437227405312] w fun e w' => e = .returned (.int .u64 9218868437227405312) ∧ Below w.heap.size w w' := by
  have k := add_any a 9218868437227405312 w
  rw [(ad_inf a h).1] at k
  exact k
theorem l_adMin (a : Nat) (h : rg a < 9218868437227405312) (w : World) : Calls Try.prog 16 #[.int .u64 (a : Int), .int .u64 18442240474082181120] w fun e w' => e = .returned (.int .u64 18442240474082181120) ∧ Below w.heap.size w w' := by
  have k := add_any a 18442240474082181120 w
  rw [(ad_inf a h).2] at k
  exact k
theorem l_coInf (a : Nat) (ha : a < 18446744073709551616) (hn : nanB a = false) (w : World) : Calls Try.prog 22 #[.int .u64 9218868437227405312, .int .u64 (a : Int)] w fun e w' => e = .returned (.bool true) ∧ w = w' := by
  have h := covers_any 9218868437227405312 a w
  rw [(co_inf a ha hn).1] at h
  exact h
theorem l_coMin (a : Nat) (ha : a < 18446744073709551616) (hn : nanB a = false) (w : World) : Calls Try.prog 22 #[.int .u64 (a : Int), .int .u64 18442240474082181120] w fun e w' => e = .returned (.bool true) ∧ w = w' := by
  have h := covers_any a 18442240474082181120 w
  rw [(co_inf a ha hn).2] at h
  exact h

set_option maxRecDepth 100000 in
set_option maxHeartbeats 8000000 in
theorem numEdges_walk (a : Nat) (ha : a < 18446744073709551616) (w : World) :
    Calls Try.prog 8 #[.int .u64 (a : Int)] w fun e w' => e = .returned (.bool true) ∧ Below w.heap.size w w' := by
  have k1 := fun w => check_any a w
  by_cases hz : chN a = 0
  · have na := (chN_iff a).1 hz
    rw [hz] at k1
    have s1 := fun w => l_adNan a w
    have p1 := fun w => l_coNanL a w
    have p2 := fun w => l_coNanR a w
    have q1 := fun w => l_cmNan a ha w
    have q2 := fun w => l_cmMin a ha w
    have h1 := cm_nan a ha na
    have h2 := cm_minus a ha na
    generalize cmN a 9221120237041090561 = x1 at *
    generalize cmN 18442240474082181120 a = x2 at *
    have nc := num_cases a na
    clear hz na
    by_cases ea : a = 9221120237041090561
    · subst ea
      have L : ((9221120237041090561 : Nat) : Int) = 9221120237041090561 := rfl
      simp only [L] at *
      clear L nc
      go_enter Try.func8, Try.ntmps8
      go_wp2_with fail
      refine (k1 _).mono ?_; rintro e w' ⟨rfl, rfl⟩
      go_wp2_with fail
      refine (l_negI _).mono ?_; rintro e w' ⟨rfl, rfl⟩
      go_wp2_with fail
      refine (s1 _).mono ?_; rintro e w1 ⟨rfl, h1⟩
      have H1 := Lib.hid (blGo (Below.refl w.heap.size w) h1)
      clear h1
      go_wp2_with fail
      refine (p1 _).mono ?_; rintro e w' ⟨rfl, rfl⟩
      go_wp2_with fail
      refine (p2 _).mono ?_; rintro e w' ⟨rfl, rfl⟩
      go_wp2_with fail
      refine (q1 _).mono ?_; rintro e w' ⟨rfl, rfl⟩
      go_wp2_with fail
      refine (q2 _).mono ?_; rintro e w' ⟨rfl, rfl⟩
      go_wp2_with fail
      refine (live_any _).mono ?_; rintro e w2 ⟨rfl, h2⟩
      have H2 := Lib.hid (blGo (H1.out) h2)
      clear h2
      go_wp2
      go_ret
      first | exact ⟨rfl, H2.out⟩ | (refine ⟨?_, H2.out⟩; simp; done) | (refine ⟨?_, H2.out⟩; simp; omega)
    · by_cases eb : a = 9218868437227405312
      · subst eb
        have L : ((9218868437227405312 : Nat) : Int) = 9218868437227405312 := rfl
        simp only [L] at *
        clear L nc ea
        go_enter Try.func8, Try.ntmps8
        go_wp2_with fail
        refine (k1 _).mono ?_; rintro e w' ⟨rfl, rfl⟩
        go_wp2_with fail
        refine (l_negI _).mono ?_; rintro e w' ⟨rfl, rfl⟩
        go_wp2_with fail
        refine (s1 _).mono ?_; rintro e w1 ⟨rfl, h1⟩
        have H1 := Lib.hid (blGo (Below.refl w.heap.size w) h1)
        clear h1
        go_wp2_with fail
        refine (p1 _).mono ?_; rintro e w' ⟨rfl, rfl⟩
        go_wp2_with fail
        refine (p2 _).mono ?_; rintro e w' ⟨rfl, rfl⟩
        go_wp2_with fail
        refine (q1 _).mono ?_; rintro e w' ⟨rfl, rfl⟩
        go_wp2_with fail
        refine (q2 _).mono ?_; rintro e w' ⟨rfl, rfl⟩
        go_wp2_with fail
        refine (live_any _).mono ?_; rintro e w2 ⟨rfl, h2⟩
        have H2 := Lib.hid (blGo (H1.out) h2)
        clear h2
        go_wp2
        go_ret
        first | exact ⟨rfl, H2.out⟩ | (refine ⟨?_, H2.out⟩; simp; done) | (refine ⟨?_, H2.out⟩; simp; omega)
      · by_cases ec : a = 18442240474082181120
        · subst ec
          have L : ((18442240474082181120 : Nat) : Int) = 18442240474082181120 := rfl
          simp only [L] at *
          clear L nc ea eb
          go_enter Try.func8, Try.ntmps8
          go_wp2_with fail
          refine (k1 _).mono ?_; rintro e w' ⟨rfl, rfl⟩
          go_wp2_with fail
          refine (l_negI _).mono ?_; rintro e w' ⟨rfl, rfl⟩
          go_wp2_with fail
          refine (s1 _).mono ?_; rintro e w1 ⟨rfl, h1⟩
          have H1 := Lib.hid (blGo (Below.refl w.heap.size w) h1)
          clear h1
          go_wp2_with fail
          refine (p1 _).mono ?_; rintro e w' ⟨rfl, rfl⟩
          go_wp2_with fail
          refine (p2 _).mono ?_; rintro e w' ⟨rfl, rfl⟩
          go_wp2_with fail
          refine (q1 _).mono ?_; rintro e w' ⟨rfl, rfl⟩
          go_wp2_with fail
          refine (q2 _).mono ?_; rintro e w' ⟨rfl, rfl⟩
          go_wp2_with fail
          refine (live_any _).mono ?_; rintro e w2 ⟨rfl, h2⟩
          have H2 := Lib.hid (blGo (H1.out) h2)
          clear h2
          go_wp2
          go_ret
          first | exact ⟨rfl, H2.out⟩ | (refine ⟨?_, H2.out⟩; simp; done) | (refine ⟨?_, H2.out⟩; simp; omega)
        · have na := nc.resolve_left ea
          have hf := fin_of a ha na eb ec
          have g1 : ¬ (a : Int) = 9221120237041090561 := by omega
          have g2 : ¬ (a : Int) = 9218868437227405312 := by omega
          have g3 : ¬ (a : Int) = 18442240474082181120 := by omega
          have f1 : ((a : Int) == 9221120237041090561) = false := by simpa using g1
          have f2 : ((a : Int) == 9218868437227405312) = false := by simpa using g2
          have f3 : ((a : Int) == 18442240474082181120) = false := by simpa using g3
          have t1 := fun w => l_adInf a hf w
          have t2 := fun w => l_adMin a hf w
          have t3 := fun w => l_coInf a ha na w
          have t4 := fun w => l_coMin a ha na w
          have t5 := fun w => neg_any a ha w
          have t6 := fun w => add_any a (ngN a) w
          rw [ad_self a ha na hf] at t6
          clear nc na hf ea eb ec
          generalize ngN a = m at *
          go_enter Try.func8, Try.ntmps8
          go_wp2_with fail
          refine (k1 _).mono ?_; rintro e w' ⟨rfl, rfl⟩
          go_wp2_with fail
          refine (l_negI _).mono ?_; rintro e w' ⟨rfl, rfl⟩
          go_wp2_with fail
          refine (s1 _).mono ?_; rintro e w1 ⟨rfl, h1⟩
          have H1 := Lib.hid (blGo (Below.refl w.heap.size w) h1)
          clear h1
          go_wp2_with fail
          refine (p1 _).mono ?_; rintro e w' ⟨rfl, rfl⟩
          go_wp2_with fail
          refine (p2 _).mono ?_; rintro e w' ⟨rfl, rfl⟩
          go_wp2_with fail
          refine (q1 _).mono ?_; rintro e w' ⟨rfl, rfl⟩
          go_wp2_with fail
          refine (q2 _).mono ?_; rintro e w' ⟨rfl, rfl⟩
          go_wp2_with fail
          refine (t1 _).mono ?_; rintro e w2 ⟨rfl, h2⟩
          have H2 := Lib.hid (blGo (H1.out) h2)
          clear h2
          go_wp2_with fail
          refine (t2 _).mono ?_; rintro e w3 ⟨rfl, h3⟩
          have H3 := Lib.hid (blGo (H2.out) h3)
          clear h3
          go_wp2_with fail
          refine (t3 _).mono ?_; rintro e w' ⟨rfl, rfl⟩
          go_wp2_with fail
          refine (t4 _).mono ?_; rintro e w' ⟨rfl, rfl⟩
          go_wp2_with fail
          refine (t5 _).mono ?_; rintro e w' ⟨rfl, rfl⟩
          go_wp2_with fail
          refine (t6 _).mono ?_; rintro e w4 ⟨rfl, h4⟩
          have H4 := Lib.hid (blGo (H3.out) h4)
          clear h4
          go_wp2_with fail
          refine (live_any _).mono ?_; rintro e w5 ⟨rfl, h5⟩
          have H5 := Lib.hid (blGo (H4.out) h5)
          clear h5
          go_wp2
          go_ret
          first | exact ⟨rfl, H5.out⟩ | (refine ⟨?_, H5.out⟩; simp; done) | (refine ⟨?_, H5.out⟩; simp; omega)
  · have hz' : ¬ chN a = 0 := hz
    clear hz
    generalize chN a = x at *
    go_enter Try.func8, Try.ntmps8
    go_wp2_with fail
    refine (k1 _).mono ?_; rintro e w' ⟨rfl, rfl⟩
    go_wp2_with fail
    refine (live_any _).mono ?_; rintro e w1 ⟨rfl, h1⟩
    have H1 := Lib.hid (blGo (Below.refl w.heap.size w) h1)
    clear h1
    go_wp2
    go_ret
    first | exact ⟨rfl, H1.out⟩ | (refine ⟨?_, H1.out⟩; simp; done) | (refine ⟨?_, H1.out⟩; simp; omega)

set_option maxRecDepth 100000 in
theorem numEdges_lifted (os : Os) (started : os.Started) (H : Type) (enc : TypeId × Value → H) :
    ReturnsInHanded {} Try.checked os 8 .any (Rows.numEdgesSpec.pre6 enc Try.prog Try.f8 Rows.numEdgesRow.domain false) (Rows.numEdgesSpec.post enc Try.prog Try.f8 false true false false) := by
  refine law_lift (C := Try.checked) own0 started (by kernel_rfl) Try.func8 laid0 rfl (by kernel_rfl) (fun _ _ _ _ => trodAll_mk1 (shut_bool Try.underlying4 true)) (fun ds h => match ds, h with | [_], _ => ⟨rfl, rfl, rfl⟩)
    (ChangeSpec.witness6 (enc := enc) (C := Try.checked) false ⟨#[], #[.int .u64 0], []⟩ 8 (by kernel_rfl) (by kernel_rfl) (by kernel_rfl) (by kernel_rfl)) ?_
  intro W base args ds before hval0 hA0 hlt
  have hval : ∀ (j : Nat) t v, Try.f8.params[j]? = some t → args[j]? = some v → Value.okWide Try.prog W .any base t v := hval0
  have hA : DataW.TrodAll enc Try.prog W 0 (fun _ => true) true Try.f8.params.toList args.toList ds before := hA0
  rw [Try.params8] at hA hval
  obtain ⟨v0, d0, rfl, rfl, h0⟩ := trodAll_one hA
  obtain ⟨ai, rfl, rfl, rfl, wa⟩ := open_int Try.underlying23 (hval 0 23 v0 rfl rfl) h0
  obtain ⟨a, ha, rfl⟩ := nat_of wa
  exact numEdges_walk a ha W

theorem numEdges_holds : Rows.NumEdgesSaid :=
  OpenClaim.holds_of_wide 8 Try.f8 rfl rfl rfl rfl rfl rfl rfl ⟨rfl, rfl, rfl, rfl, rfl⟩ rfl rfl rfl rfl rfl (by kernel_rfl) Try.func8 (by kernel_rfl)
    (of_decide_eq_true (by kernel_rfl)) (by unfold Func.isWrapper; rw [if_neg (of_decide_eq_false (by kernel_rfl))]; exact ⟨rfl, rfl⟩)
    (fun os started H enc _ => numEdges_lifted os started H enc)

#print axioms numEdges_holds

end Go.Proofs.Ytmhgjijpilhcdaa
