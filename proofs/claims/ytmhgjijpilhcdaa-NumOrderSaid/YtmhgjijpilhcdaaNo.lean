/- The small truth that each law of this stage asks besides ('live'). Conditions: none. -/
import Derived.Test.YtmhgjijpilhcdaaNn
namespace Go.Proofs.Ytmhgjijpilhcdaa
open Go.RowKit Go.Sort

theorem l_of1 (w : World) : Calls Try.prog 14 #[.int .i64 1] w fun e w' => e = .returned (.int .u64 4607182418800017408) ∧ w = w' := by
  have h := of_any 1 w
  rw [show ofN 1 = 4607182418800017408 from by decide +kernel] at h
  exact h
theorem l_of0 (w : World) : Calls Try.prog 14 #[.int .i64 0] w fun e w' => e = .returned (.int .u64 0) ∧ w = w' := by
  have h := of_any 0 w
  rw [show ofN 0 = 0 from by decide +kernel] at h
  exact h
theorem l_neg0 (w : World) : Calls Try.prog 18 #[.int .u64 0] w fun e w' => e = .returned (.int .u64 9223372036854775808) ∧ w = w' := by
  have h := neg_any 0 (by decide) w
  rw [show ngN 0 = 9223372036854775808 from by decide +kernel] at h
  exact h
theorem l_neg1 (w : World) : Calls Try.prog 18 #[.int .u64 4607182418800017408] w fun e w' => e = .returned (.int .u64 13830554455654793216) ∧ w = w' := by
  have h := neg_any 4607182418800017408 (by decide) w
  rw [show ngN 4607182418800017408 = 13830554455654793216 from by decide +kernel] at h
  exact h
theorem l_negI (w : World) : Calls Try.prog 18 #[.int .u64 9218868437227405312] w fun e w' => e = .returned (.int .u64 18442240474082181120) ∧ w = w' := by
  have h := neg_any 9218868437227405312 (by decide) w
  rw [show ngN 9218868437227405312 = 18442240474082181120 from by decide +kernel] at h
  exact h
theorem l_add (w : World) : Calls Try.prog 16 #[.int .u64 4607182418800017408, .int .u64 13830554455654793216] w fun e w' => e = .returned (.int .u64 0) ∧ Below w.heap.size w w' := by
  have h := add_any 4607182418800017408 13830554455654793216 w
  rw [show adN 4607182418800017408 13830554455654793216 = 0 from by decide +kernel] at h
  exact h
theorem l_addI (w : World) : Calls Try.prog 16 #[.int .u64 9218868437227405312, .int .u64 18442240474082181120] w fun e w' => e = .returned (.int .u64 9221120237041090561) ∧ Below w.heap.size w w' := by
  have h := add_any 9218868437227405312 18442240474082181120 w
  rw [show adN 9218868437227405312 18442240474082181120 = 9221120237041090561 from by decide +kernel] at h
  exact h
theorem l_cmp (w : World) : Calls Try.prog 20 #[.int .u64 9223372036854775808, .int .u64 0] w fun e w' => e = .returned (.int .i64 (-1)) ∧ w = w' := by
  have h := compare_any 9223372036854775808 0 (by decide) (by decide) w
  rw [show cmN 9223372036854775808 0 = -1 from by decide +kernel] at h
  exact h
theorem l_cov (w : World) : Calls Try.prog 22 #[.int .u64 9223372036854775808, .int .u64 0] w fun e w' => e = .returned (.bool true) ∧ w = w' := by
  have h := covers_any 9223372036854775808 0 w
  rw [show coN 9223372036854775808 0 = true from by decide +kernel] at h
  exact h
theorem l_chk (w : World) : Calls Try.prog 10 #[.int .u64 9221120237041090562] w fun e w' => e = .returned (.int .i64 70) ∧ w = w' := by
  have h := check_any 9221120237041090562 w
  rw [show chN 9221120237041090562 = 70 from by decide +kernel] at h
  exact h
theorem l_key (w : World) : Calls Try.prog 27 #[.int .u64 0] w fun e w' => e = .returned (.string { data := #[128, 0, 0, 0, 0, 0, 0, 0] }) ∧ Below w.heap.size w w' := by
  have h := key_any 0 (by decide) w
  rw [show (be8 (rkN 0)).toArray = #[128, 0, 0, 0, 0, 0, 0, 0] from by decide +kernel] at h
  exact h

set_option maxRecDepth 100000 in
set_option maxHeartbeats 2000000 in
theorem live_any (w : World) : Calls Try.prog 24 #[] w fun e w' => e = .returned (.bool true) ∧ Below w.heap.size w w' := by
  go_enter Try.func24, Try.ntmps24
  go_wp2_with fail
  refine (l_of1 _).mono ?_; rintro e w' ⟨rfl, rfl⟩
  go_wp2_with fail
  refine (l_of0 _).mono ?_; rintro e w' ⟨rfl, rfl⟩
  go_wp2_with fail
  refine (l_neg0 _).mono ?_; rintro e w' ⟨rfl, rfl⟩
  go_wp2_with fail
  refine (l_neg1 _).mono ?_; rintro e w' ⟨rfl, rfl⟩
  go_wp2_with fail
  refine (l_add _).mono ?_; rintro e w1 ⟨rfl, h1⟩
  have H1 := Lib.hid h1
  clear h1
  go_wp2_with fail
  refine (l_cmp _).mono ?_; rintro e w' ⟨rfl, rfl⟩
  go_wp2_with fail
  refine (l_cov _).mono ?_; rintro e w' ⟨rfl, rfl⟩
  go_wp2_with fail
  refine (l_negI _).mono ?_; rintro e w' ⟨rfl, rfl⟩
  go_wp2_with fail
  refine (l_addI _).mono ?_; rintro e w2 ⟨rfl, h2⟩
  have H2 := Lib.hid (blGo H1.out h2)
  clear h2
  go_wp2_with fail
  refine (l_chk _).mono ?_; rintro e w' ⟨rfl, rfl⟩
  go_wp2_with fail
  refine (l_key _).mono ?_; rintro e w3 ⟨rfl, h3⟩
  have H3 := Lib.hid (blGo H2.out h3)
  clear h3
  go_wp2
  go_ret
  exact ⟨rfl, H3.out⟩

end Go.Proofs.Ytmhgjijpilhcdaa
