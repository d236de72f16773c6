/- StampOrders: for every two stamps, Check and Compare answer as the document says. Conditions: none. -/
import Derived.Test.YtnicdbkjgicliaaSo
import Derived.Test.YtnicdbkjgicliaaReg
namespace Go.Proofs.Ytnicdbkjgicliaa
open Go.ChangeShapes Go.WideShapes Go.ChangeAt Go.RowKit Go.Joins Go.Deep Go.Sort
set_option linter.unusedSimpArgs false

set_option maxHeartbeats 1000000 in
theorem stampOrders_nns (t n t' n' : Int) (w : World) (H1 : Hid (ltS (t, n) (t', n') = false)) (H2 : Hid (ltS (t', n') (t, n) = false)) (H3 : Hid (isS (t, n) = true)) (HC : Hid (cmpS t n t' n' = 0)) (HK : Hid (checkS (t, n) = 0)) :
    Calls Try.prog 3 #[.agg #[.int .i64 t, .int .i64 n], .agg #[.int .i64 t', .int .i64 n']] w fun e w' => e = .returned (.bool true) ∧ Below w.heap.size w w' := by
  go_enter Try.func3, Try.ntmps3
  go_wp2_with fail
  refine (less_any _ _ _ _ _).mono ?_
  rintro e w1 ⟨rfl, q1, os1, hw1⟩
  rw [H1.out]
  have HA1 : Hid (Own2 w1 w.heap.size t n) := by rw [hw1]; exact (own2_new0 w t n _).later (grow_below _ _ _) (own2_new0 w t n _).lt
  have HX1 : Hid (Own2 w1 (w.heap.size + 1) t' n') := by rw [hw1]; exact (own2_new1 w t' n' _).later (grow_below _ _ _) (own2_new1 w t' n' _).lt
  have HB1 : Hid (Below w.heap.size w w1) := by rw [hw1]; exact blGrown (blAlloc (blAlloc (Below.refl _ _) _) _) _ _
  clear hw1
  have b0 := HA1.out.c0
  have b1 := HA1.out.c1
  have z0 := HX1.out.c0
  have z1 := HX1.out.c1
  go_wp2_with fail
  refine (less_any _ _ _ _ _).mono ?_
  rintro e w2 ⟨rfl, q2, os2, hw2⟩
  rw [H2.out]
  have HA2 : Hid (Own2 w2 w.heap.size t n) := by rw [hw2]; exact HA1.out.later (grow_below _ _ _) HA1.out.lt
  have HX2 : Hid (Own2 w2 (w.heap.size + 1) t' n') := by rw [hw2]; exact HX1.out.later (grow_below _ _ _) HX1.out.lt
  have HB2 : Hid (Below w.heap.size w w2) := by rw [hw2]; exact blGrown HB1.out _ _
  clear hw2 b0 b1 z0 z1
  have a0 := HA2.out.c0
  have a1 := HA2.out.c1
  have x0 := HX2.out.c0
  have x1 := HX2.out.c1
  have s3 : w.heap.size < w2.heap.size := by have := HX2.out.lt; omega
  have s4 : w.heap.size + 1 < w2.heap.size := by have := HX2.out.lt; omega
  go_wp2_with fail
  refine region_aft (by kernel_rfl) (by kernel_rfl) ?_
  repeat (go_big_quiet_step (first | (go_at_call 15; exact aft_grown ((check_any _ _ _).mono fun e w' h => by rw [HK.out] at h; exact h)) | (go_at_call 16; exact aft_grown ((is_any _ _ _).mono fun e w' h => by rw [H3.out] at h; exact h)) | (go_at_call 14; exact aft_same (num_any _ _)) | (go_at_call 17; exact aft_grown ((compare_grow _ _ _ _ _).mono fun e w' h => by rw [HC.out] at h; exact h)) | (go_at_call 18; exact aft_of (live_any _))))
  refine wpQuiet_nil ?_
  rintro w3 ⟨y, rfl⟩
  go_wp2
  go_ret
  exact ⟨rfl, blThen HB2.out y.h⟩

set_option maxHeartbeats 1000000 in
theorem stampOrders_nnn (t n t' n' : Int) (w : World) (H1 : Hid (ltS (t, n) (t', n') = false)) (H2 : Hid (ltS (t', n') (t, n) = false)) (H3 : Hid (isS (t, n) = false)) (HC : Hid (cmpS t n t' n' = 0)) (HK : Hid (checkS (t, n) = 10)) :
    Calls Try.prog 3 #[.agg #[.int .i64 t, .int .i64 n], .agg #[.int .i64 t', .int .i64 n']] w fun e w' => e = .returned (.bool true) ∧ Below w.heap.size w w' := by
  go_enter Try.func3, Try.ntmps3
  go_wp2_with fail
  refine (less_any _ _ _ _ _).mono ?_
  rintro e w1 ⟨rfl, q1, os1, hw1⟩
  rw [H1.out]
  have HA1 : Hid (Own2 w1 w.heap.size t n) := by rw [hw1]; exact (own2_new0 w t n _).later (grow_below _ _ _) (own2_new0 w t n _).lt
  have HX1 : Hid (Own2 w1 (w.heap.size + 1) t' n') := by rw [hw1]; exact (own2_new1 w t' n' _).later (grow_below _ _ _) (own2_new1 w t' n' _).lt
  have HB1 : Hid (Below w.heap.size w w1) := by rw [hw1]; exact blGrown (blAlloc (blAlloc (Below.refl _ _) _) _) _ _
  clear hw1
  have b0 := HA1.out.c0
  have b1 := HA1.out.c1
  have z0 := HX1.out.c0
  have z1 := HX1.out.c1
  go_wp2_with fail
  refine (less_any _ _ _ _ _).mono ?_
  rintro e w2 ⟨rfl, q2, os2, hw2⟩
  rw [H2.out]
  have HA2 : Hid (Own2 w2 w.heap.size t n) := by rw [hw2]; exact HA1.out.later (grow_below _ _ _) HA1.out.lt
  have HX2 : Hid (Own2 w2 (w.heap.size + 1) t' n') := by rw [hw2]; exact HX1.out.later (grow_below _ _ _) HX1.out.lt
  have HB2 : Hid (Below w.heap.size w w2) := by rw [hw2]; exact blGrown HB1.out _ _
  clear hw2 b0 b1 z0 z1
  have a0 := HA2.out.c0
  have a1 := HA2.out.c1
  have x0 := HX2.out.c0
  have x1 := HX2.out.c1
  have s3 : w.heap.size < w2.heap.size := by have := HX2.out.lt; omega
  have s4 : w.heap.size + 1 < w2.heap.size := by have := HX2.out.lt; omega
  go_wp2_with fail
  refine region_aft (by kernel_rfl) (by kernel_rfl) ?_
  repeat (go_big_quiet_step (first | (go_at_call 15; exact aft_grown ((check_any _ _ _).mono fun e w' h => by rw [HK.out] at h; exact h)) | (go_at_call 16; exact aft_grown ((is_any _ _ _).mono fun e w' h => by rw [H3.out] at h; exact h)) | (go_at_call 14; exact aft_same (num_any _ _)) | (go_at_call 17; exact aft_grown ((compare_grow _ _ _ _ _).mono fun e w' h => by rw [HC.out] at h; exact h)) | (go_at_call 18; exact aft_of (live_any _))))
  refine wpQuiet_nil ?_
  rintro w3 ⟨y, rfl⟩
  go_wp2
  go_ret
  exact ⟨rfl, blThen HB2.out y.h⟩

set_option maxHeartbeats 1000000 in
theorem stampOrders_ngs (t n t' n' : Int) (w : World) (H1 : Hid (ltS (t, n) (t', n') = false)) (H2 : Hid (ltS (t', n') (t, n) = true)) (H3 : Hid (isS (t, n) = true)) (HC : Hid (cmpS t n t' n' = 1)) (HK : Hid (checkS (t, n) = 0)) :
    Calls Try.prog 3 #[.agg #[.int .i64 t, .int .i64 n], .agg #[.int .i64 t', .int .i64 n']] w fun e w' => e = .returned (.bool true) ∧ Below w.heap.size w w' := by
  go_enter Try.func3, Try.ntmps3
  go_wp2_with fail
  refine (less_any _ _ _ _ _).mono ?_
  rintro e w1 ⟨rfl, q1, os1, hw1⟩
  rw [H1.out]
  have HA1 : Hid (Own2 w1 w.heap.size t n) := by rw [hw1]; exact (own2_new0 w t n _).later (grow_below _ _ _) (own2_new0 w t n _).lt
  have HX1 : Hid (Own2 w1 (w.heap.size + 1) t' n') := by rw [hw1]; exact (own2_new1 w t' n' _).later (grow_below _ _ _) (own2_new1 w t' n' _).lt
  have HB1 : Hid (Below w.heap.size w w1) := by rw [hw1]; exact blGrown (blAlloc (blAlloc (Below.refl _ _) _) _) _ _
  clear hw1
  have b0 := HA1.out.c0
  have b1 := HA1.out.c1
  have z0 := HX1.out.c0
  have z1 := HX1.out.c1
  go_wp2_with fail
  refine (less_any _ _ _ _ _).mono ?_
  rintro e w2 ⟨rfl, q2, os2, hw2⟩
  rw [H2.out]
  have HA2 : Hid (Own2 w2 w.heap.size t n) := by rw [hw2]; exact HA1.out.later (grow_below _ _ _) HA1.out.lt
  have HX2 : Hid (Own2 w2 (w.heap.size + 1) t' n') := by rw [hw2]; exact HX1.out.later (grow_below _ _ _) HX1.out.lt
  have HB2 : Hid (Below w.heap.size w w2) := by rw [hw2]; exact blGrown HB1.out _ _
  clear hw2 b0 b1 z0 z1
  have a0 := HA2.out.c0
  have a1 := HA2.out.c1
  have x0 := HX2.out.c0
  have x1 := HX2.out.c1
  have s3 : w.heap.size < w2.heap.size := by have := HX2.out.lt; omega
  have s4 : w.heap.size + 1 < w2.heap.size := by have := HX2.out.lt; omega
  go_wp2_with fail
  refine region_aft (by kernel_rfl) (by kernel_rfl) ?_
  repeat (go_big_quiet_step (first | (go_at_call 15; exact aft_grown ((check_any _ _ _).mono fun e w' h => by rw [HK.out] at h; exact h)) | (go_at_call 16; exact aft_grown ((is_any _ _ _).mono fun e w' h => by rw [H3.out] at h; exact h)) | (go_at_call 14; exact aft_same (num_any _ _)) | (go_at_call 17; exact aft_grown ((compare_grow _ _ _ _ _).mono fun e w' h => by rw [HC.out] at h; exact h)) | (go_at_call 18; exact aft_of (live_any _))))
  refine wpQuiet_nil ?_
  rintro w3 ⟨y, rfl⟩
  go_wp2
  go_ret
  exact ⟨rfl, blThen HB2.out y.h⟩

set_option maxHeartbeats 1000000 in
theorem stampOrders_ngn (t n t' n' : Int) (w : World) (H1 : Hid (ltS (t, n) (t', n') = false)) (H2 : Hid (ltS (t', n') (t, n) = true)) (H3 : Hid (isS (t, n) = false)) (HC : Hid (cmpS t n t' n' = 1)) (HK : Hid (checkS (t, n) = 10)) :
    Calls Try.prog 3 #[.agg #[.int .i64 t, .int .i64 n], .agg #[.int .i64 t', .int .i64 n']] w fun e w' => e = .returned (.bool true) ∧ Below w.heap.size w w' := by
  go_enter Try.func3, Try.ntmps3
  go_wp2_with fail
  refine (less_any _ _ _ _ _).mono ?_
  rintro e w1 ⟨rfl, q1, os1, hw1⟩
  rw [H1.out]
  have HA1 : Hid (Own2 w1 w.heap.size t n) := by rw [hw1]; exact (own2_new0 w t n _).later (grow_below _ _ _) (own2_new0 w t n _).lt
  have HX1 : Hid (Own2 w1 (w.heap.size + 1) t' n') := by rw [hw1]; exact (own2_new1 w t' n' _).later (grow_below _ _ _) (own2_new1 w t' n' _).lt
  have HB1 : Hid (Below w.heap.size w w1) := by rw [hw1]; exact blGrown (blAlloc (blAlloc (Below.refl _ _) _) _) _ _
  clear hw1
  have b0 := HA1.out.c0
  have b1 := HA1.out.c1
  have z0 := HX1.out.c0
  have z1 := HX1.out.c1
  go_wp2_with fail
  refine (less_any _ _ _ _ _).mono ?_
  rintro e w2 ⟨rfl, q2, os2, hw2⟩
  rw [H2.out]
  have HA2 : Hid (Own2 w2 w.heap.size t n) := by rw [hw2]; exact HA1.out.later (grow_below _ _ _) HA1.out.lt
  have HX2 : Hid (Own2 w2 (w.heap.size + 1) t' n') := by rw [hw2]; exact HX1.out.later (grow_below _ _ _) HX1.out.lt
  have HB2 : Hid (Below w.heap.size w w2) := by rw [hw2]; exact blGrown HB1.out _ _
  clear hw2 b0 b1 z0 z1
  have a0 := HA2.out.c0
  have a1 := HA2.out.c1
  have x0 := HX2.out.c0
  have x1 := HX2.out.c1
  have s3 : w.heap.size < w2.heap.size := by have := HX2.out.lt; omega
  have s4 : w.heap.size + 1 < w2.heap.size := by have := HX2.out.lt; omega
  go_wp2_with fail
  refine region_aft (by kernel_rfl) (by kernel_rfl) ?_
  repeat (go_big_quiet_step (first | (go_at_call 15; exact aft_grown ((check_any _ _ _).mono fun e w' h => by rw [HK.out] at h; exact h)) | (go_at_call 16; exact aft_grown ((is_any _ _ _).mono fun e w' h => by rw [H3.out] at h; exact h)) | (go_at_call 14; exact aft_same (num_any _ _)) | (go_at_call 17; exact aft_grown ((compare_grow _ _ _ _ _).mono fun e w' h => by rw [HC.out] at h; exact h)) | (go_at_call 18; exact aft_of (live_any _))))
  refine wpQuiet_nil ?_
  rintro w3 ⟨y, rfl⟩
  go_wp2
  go_ret
  exact ⟨rfl, blThen HB2.out y.h⟩

set_option maxHeartbeats 1000000 in
theorem stampOrders_lns (t n t' n' : Int) (w : World) (H1 : Hid (ltS (t, n) (t', n') = true)) (H2 : Hid (ltS (t', n') (t, n) = false)) (H3 : Hid (isS (t, n) = true)) (HC : Hid (cmpS t n t' n' = (-1))) (HK : Hid (checkS (t, n) = 0)) :
    Calls Try.prog 3 #[.agg #[.int .i64 t, .int .i64 n], .agg #[.int .i64 t', .int .i64 n']] w fun e w' => e = .returned (.bool true) ∧ Below w.heap.size w w' := by
  go_enter Try.func3, Try.ntmps3
  go_wp2_with fail
  refine (less_any _ _ _ _ _).mono ?_
  rintro e w1 ⟨rfl, q1, os1, hw1⟩
  rw [H1.out]
  have HA1 : Hid (Own2 w1 w.heap.size t n) := by rw [hw1]; exact (own2_new0 w t n _).later (grow_below _ _ _) (own2_new0 w t n _).lt
  have HX1 : Hid (Own2 w1 (w.heap.size + 1) t' n') := by rw [hw1]; exact (own2_new1 w t' n' _).later (grow_below _ _ _) (own2_new1 w t' n' _).lt
  have HB1 : Hid (Below w.heap.size w w1) := by rw [hw1]; exact blGrown (blAlloc (blAlloc (Below.refl _ _) _) _) _ _
  clear hw1
  have b0 := HA1.out.c0
  have b1 := HA1.out.c1
  have z0 := HX1.out.c0
  have z1 := HX1.out.c1
  go_wp2_with fail
  refine (less_any _ _ _ _ _).mono ?_
  rintro e w2 ⟨rfl, q2, os2, hw2⟩
  rw [H2.out]
  have HA2 : Hid (Own2 w2 w.heap.size t n) := by rw [hw2]; exact HA1.out.later (grow_below _ _ _) HA1.out.lt
  have HX2 : Hid (Own2 w2 (w.heap.size + 1) t' n') := by rw [hw2]; exact HX1.out.later (grow_below _ _ _) HX1.out.lt
  have HB2 : Hid (Below w.heap.size w w2) := by rw [hw2]; exact blGrown HB1.out _ _
  clear hw2 b0 b1 z0 z1
  have a0 := HA2.out.c0
  have a1 := HA2.out.c1
  have x0 := HX2.out.c0
  have x1 := HX2.out.c1
  have s3 : w.heap.size < w2.heap.size := by have := HX2.out.lt; omega
  have s4 : w.heap.size + 1 < w2.heap.size := by have := HX2.out.lt; omega
  go_wp2_with fail
  refine region_aft (by kernel_rfl) (by kernel_rfl) ?_
  repeat (go_big_quiet_step (first | (go_at_call 15; exact aft_grown ((check_any _ _ _).mono fun e w' h => by rw [HK.out] at h; exact h)) | (go_at_call 16; exact aft_grown ((is_any _ _ _).mono fun e w' h => by rw [H3.out] at h; exact h)) | (go_at_call 14; exact aft_same (num_any _ _)) | (go_at_call 17; exact aft_grown ((compare_grow _ _ _ _ _).mono fun e w' h => by rw [HC.out] at h; exact h)) | (go_at_call 18; exact aft_of (live_any _))))
  refine wpQuiet_nil ?_
  rintro w3 ⟨y, rfl⟩
  go_wp2
  go_ret
  exact ⟨rfl, blThen HB2.out y.h⟩

set_option maxHeartbeats 1000000 in
theorem stampOrders_lnn (t n t' n' : Int) (w : World) (H1 : Hid (ltS (t, n) (t', n') = true)) (H2 : Hid (ltS (t', n') (t, n) = false)) (H3 : Hid (isS (t, n) = false)) (HC : Hid (cmpS t n t' n' = (-1))) (HK : Hid (checkS (t, n) = 10)) :
    Calls Try.prog 3 #[.agg #[.int .i64 t, .int .i64 n], .agg #[.int .i64 t', .int .i64 n']] w fun e w' => e = .returned (.bool true) ∧ Below w.heap.size w w' := by
  go_enter Try.func3, Try.ntmps3
  go_wp2_with fail
  refine (less_any _ _ _ _ _).mono ?_
  rintro e w1 ⟨rfl, q1, os1, hw1⟩
  rw [H1.out]
  have HA1 : Hid (Own2 w1 w.heap.size t n) := by rw [hw1]; exact (own2_new0 w t n _).later (grow_below _ _ _) (own2_new0 w t n _).lt
  have HX1 : Hid (Own2 w1 (w.heap.size + 1) t' n') := by rw [hw1]; exact (own2_new1 w t' n' _).later (grow_below _ _ _) (own2_new1 w t' n' _).lt
  have HB1 : Hid (Below w.heap.size w w1) := by rw [hw1]; exact blGrown (blAlloc (blAlloc (Below.refl _ _) _) _) _ _
  clear hw1
  have b0 := HA1.out.c0
  have b1 := HA1.out.c1
  have z0 := HX1.out.c0
  have z1 := HX1.out.c1
  go_wp2_with fail
  refine (less_any _ _ _ _ _).mono ?_
  rintro e w2 ⟨rfl, q2, os2, hw2⟩
  rw [H2.out]
  have HA2 : Hid (Own2 w2 w.heap.size t n) := by rw [hw2]; exact HA1.out.later (grow_below _ _ _) HA1.out.lt
  have HX2 : Hid (Own2 w2 (w.heap.size + 1) t' n') := by rw [hw2]; exact HX1.out.later (grow_below _ _ _) HX1.out.lt
  have HB2 : Hid (Below w.heap.size w w2) := by rw [hw2]; exact blGrown HB1.out _ _
  clear hw2 b0 b1 z0 z1
  have a0 := HA2.out.c0
  have a1 := HA2.out.c1
  have x0 := HX2.out.c0
  have x1 := HX2.out.c1
  have s3 : w.heap.size < w2.heap.size := by have := HX2.out.lt; omega
  have s4 : w.heap.size + 1 < w2.heap.size := by have := HX2.out.lt; omega
  go_wp2_with fail
  refine region_aft (by kernel_rfl) (by kernel_rfl) ?_
  repeat (go_big_quiet_step (first | (go_at_call 15; exact aft_grown ((check_any _ _ _).mono fun e w' h => by rw [HK.out] at h; exact h)) | (go_at_call 16; exact aft_grown ((is_any _ _ _).mono fun e w' h => by rw [H3.out] at h; exact h)) | (go_at_call 14; exact aft_same (num_any _ _)) | (go_at_call 17; exact aft_grown ((compare_grow _ _ _ _ _).mono fun e w' h => by rw [HC.out] at h; exact h)) | (go_at_call 18; exact aft_of (live_any _))))
  refine wpQuiet_nil ?_
  rintro w3 ⟨y, rfl⟩
  go_wp2
  go_ret
  exact ⟨rfl, blThen HB2.out y.h⟩

theorem stampOrders_walk (t n t' n' : Int) (w : World) :
    Calls Try.prog 3 #[.agg #[.int .i64 t, .int .i64 n], .agg #[.int .i64 t', .int .i64 n']] w fun e w' => e = .returned (.bool true) ∧ Below w.heap.size w w' := by
  have hk : ∀ k, isS (t, n) = k → checkS (t, n) = if k then 0 else 10 := fun k h => by subst h; rfl
  rcases cmpS_eq t n t' n' with ⟨h, h1, h2⟩ | ⟨h, h1, h2⟩ | ⟨h, h1, h2⟩
  · cases h3 : isS (t, n)
    · exact stampOrders_lnn t n t' n' w h1 h2 h3 h (hk _ h3)
    · exact stampOrders_lns t n t' n' w h1 h2 h3 h (hk _ h3)
  · have e1 : ltS (t, n) (t', n') = false := by subst h1; subst h2; simp [ltS]
    have e2 : ltS (t', n') (t, n) = false := by subst h1; subst h2; simp [ltS]
    cases h3 : isS (t, n)
    · exact stampOrders_nnn t n t' n' w e1 e2 h3 h (hk _ h3)
    · exact stampOrders_nns t n t' n' w e1 e2 h3 h (hk _ h3)
  · cases h3 : isS (t, n)
    · exact stampOrders_ngn t n t' n' w h2 h1 h3 h (hk _ h3)
    · exact stampOrders_ngs t n t' n' w h2 h1 h3 h (hk _ h3)

set_option maxRecDepth 100000 in
theorem stampOrders_lifted (os : Os) (started : os.Started) (H : Type) (enc : TypeId × Value → H) :
    ReturnsInHanded {} Try.checked os 3 .any (Rows.stampOrdersSpec.pre6 enc Try.prog Try.f3 Rows.stampOrdersRow.domain false) (Rows.stampOrdersSpec.post enc Try.prog Try.f3 false true false false) := by
  refine law_lift (C := Try.checked) own0 started (by kernel_rfl) Try.func3 laid0 rfl (by kernel_rfl) (fun _ _ _ _ => trodAll_mk1 (shut_bool Try.underlying4 true)) (fun ds h => match ds, h with | [_, _], _ => ⟨rfl, rfl, rfl⟩)
    (ChangeSpec.witness6 (enc := enc) (C := Try.checked) false ⟨#[], #[.agg #[.int .i64 0, .int .i64 0], .agg #[.int .i64 0, .int .i64 0]], []⟩ 8 (by kernel_rfl) (by kernel_rfl) (by kernel_rfl) (by kernel_rfl)) ?_
  intro W base args ds before hval0 hA0 hlt
  have hval : ∀ (j : Nat) t v, Try.f3.params[j]? = some t → args[j]? = some v → Value.okWide Try.prog W .any base t v := hval0
  have hA : DataW.TrodAll enc Try.prog W 0 (fun _ => true) true Try.f3.params.toList args.toList ds before := hA0
  rw [Try.params3] at hA hval
  obtain ⟨v0, v1, d0, d1, p0, p1, rfl, rfl, rfl, h0, h1⟩ := trodAll_two hA
  obtain ⟨t, n, rfl, _, _⟩ := open_stamp (hval 0 23 v0 rfl rfl) h0
  obtain ⟨t', n', rfl, _, _⟩ := open_stamp (hval 1 23 v1 rfl rfl) h1
  exact stampOrders_walk t n t' n' W

theorem stampOrders_holds : Rows.StampOrdersSaid :=
  OpenClaim.holds_of_wide 3 Try.f3 rfl rfl rfl rfl rfl rfl rfl ⟨rfl, rfl, rfl, rfl, rfl⟩ rfl rfl rfl rfl rfl (by kernel_rfl) Try.func3 (by kernel_rfl)
    (of_decide_eq_true (by kernel_rfl)) (by unfold Func.isWrapper; rw [if_neg (of_decide_eq_false (by kernel_rfl))]; exact ⟨rfl, rfl⟩)
    (fun os started H enc _ => stampOrders_lifted os started H enc)

#print axioms stampOrders_holds
end Go.Proofs.Ytnicdbkjgicliaa
