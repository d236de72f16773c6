/- NumOrder: one order, that of the keys; sums either way round; 0 adds nothing. Conditions: none. -/
import Derived.Test.YtmhgjijpilhcdaaNp
import Derived.Test.YtmhgjijpilhcdaaNr
namespace Go.Proofs.Ytmhgjijpilhcdaa
open Go.ChangeShapes Go.WideShapes Go.ChangeAt Go.RowKit Go.Sort

theorem bt_list (l : List UInt8) : (ByteArray.mk l.toArray).toList = l := by
  rw [ByteArray.toList_eq]

set_option maxRecDepth 100000 in
set_option maxHeartbeats 8000000 in
theorem numOrder_walk (a b c : Nat) (ha : a < 18446744073709551616) (hb : b < 18446744073709551616) (hc : c < 18446744073709551616) (w : World) :
    Calls Try.prog 5 #[.int .u64 (a : Int), .int .u64 (b : Int), .int .u64 (c : Int)] w fun e w' => e = .returned (.bool true) ∧ Below w.heap.size w w' := by
  have k1 := fun w => check_any a w
  have k2 := fun w => check_any b w
  have k3 := fun w => check_any c w
  by_cases hsum : chN a + chN b + chN c = 0
  · have za : chN a = 0 := by have := chN_two a; have := chN_two b; have := chN_two c; omega
    have zb : chN b = 0 := by have := chN_two a; have := chN_two b; have := chN_two c; omega
    have zc : chN c = 0 := by have := chN_two a; have := chN_two b; have := chN_two c; omega
    have na := (chN_iff a).1 za
    have nb := (chN_iff b).1 zb
    have nc := (chN_iff c).1 zc
    rw [za] at k1
    rw [zb] at k2
    rw [zc] at k3
    clear hsum za zb zc
    have g1 := fun w => key_any a ha w
    have g2 := fun w => key_any b hb w
    have hless : Op.bytesLess (ByteArray.mk (be8 (rkN a)).toArray).toList (ByteArray.mk (be8 (rkN b)).toArray).toList = decide (rkN a < rkN b) := by
      rw [bt_list, bt_list]
      exact less_key _ _ (rkN_lt a ha) (rkN_lt b hb)
    generalize (⟨(be8 (rkN a)).toArray⟩ : ByteArray) = x at *
    generalize (⟨(be8 (rkN b)).toArray⟩ : ByteArray) = y at *
    have o1 := fun w => compare_any a b ha hb w
    have o2 := fun w => compare_any b a hb ha w
    have o3 := fun w => compare_any b c hb hc w
    have o4 := fun w => compare_any a c ha hc w
    have s1 := fun w => add_any a 0 w
    have s2 := fun w => add_any a b w
    have s3 := fun w => add_any b a w
    have n1 := fun w => neg_any a ha w
    have n2 := fun w => neg_any (ngN a) (ngN_lt a ha) w
    have q1 := fun w => check_any (adN a b) w
    rw [ngN_ngN a ha na] at n2
    rw [adN_comm b a] at s3
    rw [(chN_iff _).2 (rtN_adN a b)] at q1
    rw [adN_zero a ha na] at s1
    generalize ngN a = m at *
    generalize adN a b = s at *
    have e1 : cmN a b < 0 ↔ rkN a < rkN b := cmU_lt _ _
    have e2 : cmN a b = 0 ↔ a = b := (cmU_eq _ _).trans (rk_inj a b ha hb na nb)
    have e3 : cmN a b = -cmN b a := cmU_neg _ _
    have e4 : cmN b c < 0 ↔ rkN b < rkN c := cmU_lt _ _
    have e5 : cmN a c < 0 ↔ rkN a < rkN c := cmU_lt _ _
    have d1 : decide (cmN a b < 0) = decide (rkN a < rkN b) := decide_eq_decide.2 e1
    rw [← d1] at hless
    have tri : cmN a b < 0 → cmN b c < 0 → cmN a c < 0 := fun h1 h2 => e5.2 (Nat.lt_trans (e1.1 h1) (e4.1 h2))
    clear d1 e1 e4 e5
    have lim : cmN b a = -1 ∨ cmN b a = 0 ∨ cmN b a = 1 := by
      show cmpU _ _ = _ ∨ cmpU _ _ = _ ∨ cmpU _ _ = _
      unfold cmpU
      split <;> (try split) <;> simp
    generalize cmN a b = u at *
    generalize cmN b a = v at *
    generalize cmN b c = p at *
    generalize cmN a c = q at *
    subst e3
    rcases lim with rfl | rfl | rfl
    · by_cases hs : a = 9223372036854775808
      · have hab : ¬ (a : Int) = (b : Int) := fun h => absurd (e2.2 (by omega)) (by decide)
        have hless' : Op.bytesLess x.toList y.toList = false := hless
        clear hless e2
        clear tri
        rw [if_pos hs] at s1
        subst hs
        have L : ((9223372036854775808 : Nat) : Int) = 9223372036854775808 := rfl
        have hx0 : ¬ (0 : Int) = 9223372036854775808 := by decide
        simp only [L] at *
        clear L
        go_enter Try.func5, Try.ntmps5
        go_wp2_with fail
        refine (k1 _).mono ?_; rintro e w' ⟨rfl, rfl⟩
        go_wp2_with fail
        refine (k2 _).mono ?_; rintro e w' ⟨rfl, rfl⟩
        go_wp2_with fail
        refine (k3 _).mono ?_; rintro e w' ⟨rfl, rfl⟩
        go_wp2_with fail
        refine (g1 _).mono ?_; rintro e w1 ⟨rfl, h1⟩
        have H1 := Lib.hid (blGo (Below.refl w.heap.size w) h1)
        clear h1
        go_wp2_with fail
        refine (g2 _).mono ?_; rintro e w2 ⟨rfl, h2⟩
        have H2 := Lib.hid (blGo (H1.out) h2)
        clear h2
        go_wp2_with fail
        refine (o1 _).mono ?_; rintro e w' ⟨rfl, rfl⟩
        go_wp2_with fail
        refine (o1 _).mono ?_; rintro e w' ⟨rfl, rfl⟩
        go_wp2_with fail
        refine (o1 _).mono ?_; rintro e w' ⟨rfl, rfl⟩
        go_wp2_with fail
        refine (o2 _).mono ?_; rintro e w' ⟨rfl, rfl⟩
        go_wp2_with fail
        refine (o1 _).mono ?_; rintro e w' ⟨rfl, rfl⟩
        go_wp2_with fail
        refine (s1 _).mono ?_; rintro e w3 ⟨rfl, h3⟩
        have H3 := Lib.hid (blGo (H2.out) h3)
        clear h3
        go_wp2_with fail
        refine (s2 _).mono ?_; rintro e w4 ⟨rfl, h4⟩
        have H4 := Lib.hid (blGo (H3.out) h4)
        clear h4
        go_wp2_with fail
        refine (s3 _).mono ?_; rintro e w5 ⟨rfl, h5⟩
        have H5 := Lib.hid (blGo (H4.out) h5)
        clear h5
        go_wp2_with fail
        refine (n1 _).mono ?_; rintro e w' ⟨rfl, rfl⟩
        go_wp2_with fail
        refine (n2 _).mono ?_; rintro e w' ⟨rfl, rfl⟩
        go_wp2_with fail
        refine (s2 _).mono ?_; rintro e w6 ⟨rfl, h6⟩
        have H6 := Lib.hid (blGo (H5.out) h6)
        clear h6
        go_wp2_with fail
        refine (q1 _).mono ?_; rintro e w' ⟨rfl, rfl⟩
        go_wp2_with fail
        refine (live_any _).mono ?_; rintro e w7 ⟨rfl, h7⟩
        have H7 := Lib.hid (blGo (H6.out) h7)
        clear h7
        go_wp2
        go_ret
        exact ⟨rfl, H7.out⟩
      · have hab : ¬ (a : Int) = (b : Int) := fun h => absurd (e2.2 (by omega)) (by decide)
        have hless' : Op.bytesLess x.toList y.toList = false := hless
        clear hless e2
        clear tri
        have h0 : ¬ (a : Int) = 9223372036854775808 := by omega
        rw [if_neg hs] at s1
        clear hs
        go_enter Try.func5, Try.ntmps5
        go_wp2_with fail
        refine (k1 _).mono ?_; rintro e w' ⟨rfl, rfl⟩
        go_wp2_with fail
        refine (k2 _).mono ?_; rintro e w' ⟨rfl, rfl⟩
        go_wp2_with fail
        refine (k3 _).mono ?_; rintro e w' ⟨rfl, rfl⟩
        go_wp2_with fail
        refine (g1 _).mono ?_; rintro e w1 ⟨rfl, h1⟩
        have H1 := Lib.hid (blGo (Below.refl w.heap.size w) h1)
        clear h1
        go_wp2_with fail
        refine (g2 _).mono ?_; rintro e w2 ⟨rfl, h2⟩
        have H2 := Lib.hid (blGo (H1.out) h2)
        clear h2
        go_wp2_with fail
        refine (o1 _).mono ?_; rintro e w' ⟨rfl, rfl⟩
        go_wp2_with fail
        refine (o1 _).mono ?_; rintro e w' ⟨rfl, rfl⟩
        go_wp2_with fail
        refine (o1 _).mono ?_; rintro e w' ⟨rfl, rfl⟩
        go_wp2_with fail
        refine (o2 _).mono ?_; rintro e w' ⟨rfl, rfl⟩
        go_wp2_with fail
        refine (o1 _).mono ?_; rintro e w' ⟨rfl, rfl⟩
        go_wp2_with fail
        refine (s1 _).mono ?_; rintro e w3 ⟨rfl, h3⟩
        have H3 := Lib.hid (blGo (H2.out) h3)
        clear h3
        go_wp2_with fail
        refine (s2 _).mono ?_; rintro e w4 ⟨rfl, h4⟩
        have H4 := Lib.hid (blGo (H3.out) h4)
        clear h4
        go_wp2_with fail
        refine (s3 _).mono ?_; rintro e w5 ⟨rfl, h5⟩
        have H5 := Lib.hid (blGo (H4.out) h5)
        clear h5
        go_wp2_with fail
        refine (n1 _).mono ?_; rintro e w' ⟨rfl, rfl⟩
        go_wp2_with fail
        refine (n2 _).mono ?_; rintro e w' ⟨rfl, rfl⟩
        go_wp2_with fail
        refine (s2 _).mono ?_; rintro e w6 ⟨rfl, h6⟩
        have H6 := Lib.hid (blGo (H5.out) h6)
        clear h6
        go_wp2_with fail
        refine (q1 _).mono ?_; rintro e w' ⟨rfl, rfl⟩
        go_wp2_with fail
        refine (live_any _).mono ?_; rintro e w7 ⟨rfl, h7⟩
        have H7 := Lib.hid (blGo (H6.out) h7)
        clear h7
        go_wp2
        go_ret
        exact ⟨rfl, H7.out⟩
    · by_cases hs : a = 9223372036854775808
      · have hab : a = b := e2.1 rfl
        have hless' : Op.bytesLess x.toList y.toList = false := hless
        clear hless e2
        subst hab
        clear tri
        rw [if_pos hs] at s1
        subst hs
        have L : ((9223372036854775808 : Nat) : Int) = 9223372036854775808 := rfl
        have hx0 : ¬ (0 : Int) = 9223372036854775808 := by decide
        simp only [L] at *
        clear L
        go_enter Try.func5, Try.ntmps5
        go_wp2_with fail
        refine (k1 _).mono ?_; rintro e w' ⟨rfl, rfl⟩
        go_wp2_with fail
        refine (k2 _).mono ?_; rintro e w' ⟨rfl, rfl⟩
        go_wp2_with fail
        refine (k3 _).mono ?_; rintro e w' ⟨rfl, rfl⟩
        go_wp2_with fail
        refine (g1 _).mono ?_; rintro e w1 ⟨rfl, h1⟩
        have H1 := Lib.hid (blGo (Below.refl w.heap.size w) h1)
        clear h1
        go_wp2_with fail
        refine (g2 _).mono ?_; rintro e w2 ⟨rfl, h2⟩
        have H2 := Lib.hid (blGo (H1.out) h2)
        clear h2
        go_wp2_with fail
        refine (o1 _).mono ?_; rintro e w' ⟨rfl, rfl⟩
        go_wp2_with fail
        refine (o1 _).mono ?_; rintro e w' ⟨rfl, rfl⟩
        go_wp2_with fail
        refine (o1 _).mono ?_; rintro e w' ⟨rfl, rfl⟩
        go_wp2_with fail
        refine (o2 _).mono ?_; rintro e w' ⟨rfl, rfl⟩
        go_wp2_with fail
        refine (o1 _).mono ?_; rintro e w' ⟨rfl, rfl⟩
        go_wp2_with fail
        refine (s1 _).mono ?_; rintro e w3 ⟨rfl, h3⟩
        have H3 := Lib.hid (blGo (H2.out) h3)
        clear h3
        go_wp2_with fail
        refine (s2 _).mono ?_; rintro e w4 ⟨rfl, h4⟩
        have H4 := Lib.hid (blGo (H3.out) h4)
        clear h4
        go_wp2_with fail
        refine (s3 _).mono ?_; rintro e w5 ⟨rfl, h5⟩
        have H5 := Lib.hid (blGo (H4.out) h5)
        clear h5
        go_wp2_with fail
        refine (n1 _).mono ?_; rintro e w' ⟨rfl, rfl⟩
        go_wp2_with fail
        refine (n2 _).mono ?_; rintro e w' ⟨rfl, rfl⟩
        go_wp2_with fail
        refine (s2 _).mono ?_; rintro e w6 ⟨rfl, h6⟩
        have H6 := Lib.hid (blGo (H5.out) h6)
        clear h6
        go_wp2_with fail
        refine (q1 _).mono ?_; rintro e w' ⟨rfl, rfl⟩
        go_wp2_with fail
        refine (live_any _).mono ?_; rintro e w7 ⟨rfl, h7⟩
        have H7 := Lib.hid (blGo (H6.out) h7)
        clear h7
        go_wp2
        go_ret
        exact ⟨rfl, H7.out⟩
      · have hab : a = b := e2.1 rfl
        have hless' : Op.bytesLess x.toList y.toList = false := hless
        clear hless e2
        subst hab
        clear tri
        have h0 : ¬ (a : Int) = 9223372036854775808 := by omega
        rw [if_neg hs] at s1
        clear hs
        go_enter Try.func5, Try.ntmps5
        go_wp2_with fail
        refine (k1 _).mono ?_; rintro e w' ⟨rfl, rfl⟩
        go_wp2_with fail
        refine (k2 _).mono ?_; rintro e w' ⟨rfl, rfl⟩
        go_wp2_with fail
        refine (k3 _).mono ?_; rintro e w' ⟨rfl, rfl⟩
        go_wp2_with fail
        refine (g1 _).mono ?_; rintro e w1 ⟨rfl, h1⟩
        have H1 := Lib.hid (blGo (Below.refl w.heap.size w) h1)
        clear h1
        go_wp2_with fail
        refine (g2 _).mono ?_; rintro e w2 ⟨rfl, h2⟩
        have H2 := Lib.hid (blGo (H1.out) h2)
        clear h2
        go_wp2_with fail
        refine (o1 _).mono ?_; rintro e w' ⟨rfl, rfl⟩
        go_wp2_with fail
        refine (o1 _).mono ?_; rintro e w' ⟨rfl, rfl⟩
        go_wp2_with fail
        refine (o1 _).mono ?_; rintro e w' ⟨rfl, rfl⟩
        go_wp2_with fail
        refine (o2 _).mono ?_; rintro e w' ⟨rfl, rfl⟩
        go_wp2_with fail
        refine (o1 _).mono ?_; rintro e w' ⟨rfl, rfl⟩
        go_wp2_with fail
        refine (s1 _).mono ?_; rintro e w3 ⟨rfl, h3⟩
        have H3 := Lib.hid (blGo (H2.out) h3)
        clear h3
        go_wp2_with fail
        refine (s2 _).mono ?_; rintro e w4 ⟨rfl, h4⟩
        have H4 := Lib.hid (blGo (H3.out) h4)
        clear h4
        go_wp2_with fail
        refine (s3 _).mono ?_; rintro e w5 ⟨rfl, h5⟩
        have H5 := Lib.hid (blGo (H4.out) h5)
        clear h5
        go_wp2_with fail
        refine (n1 _).mono ?_; rintro e w' ⟨rfl, rfl⟩
        go_wp2_with fail
        refine (n2 _).mono ?_; rintro e w' ⟨rfl, rfl⟩
        go_wp2_with fail
        refine (s2 _).mono ?_; rintro e w6 ⟨rfl, h6⟩
        have H6 := Lib.hid (blGo (H5.out) h6)
        clear h6
        go_wp2_with fail
        refine (q1 _).mono ?_; rintro e w' ⟨rfl, rfl⟩
        go_wp2_with fail
        refine (live_any _).mono ?_; rintro e w7 ⟨rfl, h7⟩
        have H7 := Lib.hid (blGo (H6.out) h7)
        clear h7
        go_wp2
        go_ret
        exact ⟨rfl, H7.out⟩
    · by_cases hp : p < 0
      · by_cases hs : a = 9223372036854775808
        · have hab : ¬ (a : Int) = (b : Int) := fun h => absurd (e2.2 (by omega)) (by decide)
          have hless' : Op.bytesLess x.toList y.toList = true := hless
          clear hless e2
          have hq : q < 0 := tri (by decide) hp
          have hq0 : ¬ 0 ≤ q := by omega
          clear tri
          rw [if_pos hs] at s1
          subst hs
          have L : ((9223372036854775808 : Nat) : Int) = 9223372036854775808 := rfl
          have hx0 : ¬ (0 : Int) = 9223372036854775808 := by decide
          simp only [L] at *
          clear L
          go_enter Try.func5, Try.ntmps5
          go_wp2_with fail
          refine (k1 _).mono ?_; rintro e w' ⟨rfl, rfl⟩
          go_wp2_with fail
          refine (k2 _).mono ?_; rintro e w' ⟨rfl, rfl⟩
          go_wp2_with fail
          refine (k3 _).mono ?_; rintro e w' ⟨rfl, rfl⟩
          go_wp2_with fail
          refine (g1 _).mono ?_; rintro e w1 ⟨rfl, h1⟩
          have H1 := Lib.hid (blGo (Below.refl w.heap.size w) h1)
          clear h1
          go_wp2_with fail
          refine (g2 _).mono ?_; rintro e w2 ⟨rfl, h2⟩
          have H2 := Lib.hid (blGo (H1.out) h2)
          clear h2
          go_wp2_with fail
          refine (o1 _).mono ?_; rintro e w' ⟨rfl, rfl⟩
          go_wp2_with fail
          refine (o1 _).mono ?_; rintro e w' ⟨rfl, rfl⟩
          go_wp2_with fail
          refine (o1 _).mono ?_; rintro e w' ⟨rfl, rfl⟩
          go_wp2_with fail
          refine (o2 _).mono ?_; rintro e w' ⟨rfl, rfl⟩
          go_wp2_with fail
          refine (o1 _).mono ?_; rintro e w' ⟨rfl, rfl⟩
          go_wp2_with fail
          refine (o3 _).mono ?_; rintro e w' ⟨rfl, rfl⟩
          go_wp2_with fail
          refine (o4 _).mono ?_; rintro e w' ⟨rfl, rfl⟩
          go_wp2_with fail
          refine (s1 _).mono ?_; rintro e w3 ⟨rfl, h3⟩
          have H3 := Lib.hid (blGo (H2.out) h3)
          clear h3
          go_wp2_with fail
          refine (s2 _).mono ?_; rintro e w4 ⟨rfl, h4⟩
          have H4 := Lib.hid (blGo (H3.out) h4)
          clear h4
          go_wp2_with fail
          refine (s3 _).mono ?_; rintro e w5 ⟨rfl, h5⟩
          have H5 := Lib.hid (blGo (H4.out) h5)
          clear h5
          go_wp2_with fail
          refine (n1 _).mono ?_; rintro e w' ⟨rfl, rfl⟩
          go_wp2_with fail
          refine (n2 _).mono ?_; rintro e w' ⟨rfl, rfl⟩
          go_wp2_with fail
          refine (s2 _).mono ?_; rintro e w6 ⟨rfl, h6⟩
          have H6 := Lib.hid (blGo (H5.out) h6)
          clear h6
          go_wp2_with fail
          refine (q1 _).mono ?_; rintro e w' ⟨rfl, rfl⟩
          go_wp2_with fail
          refine (live_any _).mono ?_; rintro e w7 ⟨rfl, h7⟩
          have H7 := Lib.hid (blGo (H6.out) h7)
          clear h7
          go_wp2
          go_ret
          exact ⟨rfl, H7.out⟩
        · have hab : ¬ (a : Int) = (b : Int) := fun h => absurd (e2.2 (by omega)) (by decide)
          have hless' : Op.bytesLess x.toList y.toList = true := hless
          clear hless e2
          have hq : q < 0 := tri (by decide) hp
          have hq0 : ¬ 0 ≤ q := by omega
          clear tri
          have h0 : ¬ (a : Int) = 9223372036854775808 := by omega
          rw [if_neg hs] at s1
          clear hs
          go_enter Try.func5, Try.ntmps5
          go_wp2_with fail
          refine (k1 _).mono ?_; rintro e w' ⟨rfl, rfl⟩
          go_wp2_with fail
          refine (k2 _).mono ?_; rintro e w' ⟨rfl, rfl⟩
          go_wp2_with fail
          refine (k3 _).mono ?_; rintro e w' ⟨rfl, rfl⟩
          go_wp2_with fail
          refine (g1 _).mono ?_; rintro e w1 ⟨rfl, h1⟩
          have H1 := Lib.hid (blGo (Below.refl w.heap.size w) h1)
          clear h1
          go_wp2_with fail
          refine (g2 _).mono ?_; rintro e w2 ⟨rfl, h2⟩
          have H2 := Lib.hid (blGo (H1.out) h2)
          clear h2
          go_wp2_with fail
          refine (o1 _).mono ?_; rintro e w' ⟨rfl, rfl⟩
          go_wp2_with fail
          refine (o1 _).mono ?_; rintro e w' ⟨rfl, rfl⟩
          go_wp2_with fail
          refine (o1 _).mono ?_; rintro e w' ⟨rfl, rfl⟩
          go_wp2_with fail
          refine (o2 _).mono ?_; rintro e w' ⟨rfl, rfl⟩
          go_wp2_with fail
          refine (o1 _).mono ?_; rintro e w' ⟨rfl, rfl⟩
          go_wp2_with fail
          refine (o3 _).mono ?_; rintro e w' ⟨rfl, rfl⟩
          go_wp2_with fail
          refine (o4 _).mono ?_; rintro e w' ⟨rfl, rfl⟩
          go_wp2_with fail
          refine (s1 _).mono ?_; rintro e w3 ⟨rfl, h3⟩
          have H3 := Lib.hid (blGo (H2.out) h3)
          clear h3
          go_wp2_with fail
          refine (s2 _).mono ?_; rintro e w4 ⟨rfl, h4⟩
          have H4 := Lib.hid (blGo (H3.out) h4)
          clear h4
          go_wp2_with fail
          refine (s3 _).mono ?_; rintro e w5 ⟨rfl, h5⟩
          have H5 := Lib.hid (blGo (H4.out) h5)
          clear h5
          go_wp2_with fail
          refine (n1 _).mono ?_; rintro e w' ⟨rfl, rfl⟩
          go_wp2_with fail
          refine (n2 _).mono ?_; rintro e w' ⟨rfl, rfl⟩
          go_wp2_with fail
          refine (s2 _).mono ?_; rintro e w6 ⟨rfl, h6⟩
          have H6 := Lib.hid (blGo (H5.out) h6)
          clear h6
          go_wp2_with fail
          refine (q1 _).mono ?_; rintro e w' ⟨rfl, rfl⟩
          go_wp2_with fail
          refine (live_any _).mono ?_; rintro e w7 ⟨rfl, h7⟩
          have H7 := Lib.hid (blGo (H6.out) h7)
          clear h7
          go_wp2
          go_ret
          exact ⟨rfl, H7.out⟩
      · by_cases hs : a = 9223372036854775808
        · have hab : ¬ (a : Int) = (b : Int) := fun h => absurd (e2.2 (by omega)) (by decide)
          have hless' : Op.bytesLess x.toList y.toList = true := hless
          clear hless e2
          clear tri
          rw [if_pos hs] at s1
          subst hs
          have L : ((9223372036854775808 : Nat) : Int) = 9223372036854775808 := rfl
          have hx0 : ¬ (0 : Int) = 9223372036854775808 := by decide
          simp only [L] at *
          clear L
          go_enter Try.func5, Try.ntmps5
          go_wp2_with fail
          refine (k1 _).mono ?_; rintro e w' ⟨rfl, rfl⟩
          go_wp2_with fail
          refine (k2 _).mono ?_; rintro e w' ⟨rfl, rfl⟩
          go_wp2_with fail
          refine (k3 _).mono ?_; rintro e w' ⟨rfl, rfl⟩
          go_wp2_with fail
          refine (g1 _).mono ?_; rintro e w1 ⟨rfl, h1⟩
          have H1 := Lib.hid (blGo (Below.refl w.heap.size w) h1)
          clear h1
          go_wp2_with fail
          refine (g2 _).mono ?_; rintro e w2 ⟨rfl, h2⟩
          have H2 := Lib.hid (blGo (H1.out) h2)
          clear h2
          go_wp2_with fail
          refine (o1 _).mono ?_; rintro e w' ⟨rfl, rfl⟩
          go_wp2_with fail
          refine (o1 _).mono ?_; rintro e w' ⟨rfl, rfl⟩
          go_wp2_with fail
          refine (o1 _).mono ?_; rintro e w' ⟨rfl, rfl⟩
          go_wp2_with fail
          refine (o2 _).mono ?_; rintro e w' ⟨rfl, rfl⟩
          go_wp2_with fail
          refine (o1 _).mono ?_; rintro e w' ⟨rfl, rfl⟩
          go_wp2_with fail
          refine (o3 _).mono ?_; rintro e w' ⟨rfl, rfl⟩
          go_wp2_with fail
          refine (s1 _).mono ?_; rintro e w3 ⟨rfl, h3⟩
          have H3 := Lib.hid (blGo (H2.out) h3)
          clear h3
          go_wp2_with fail
          refine (s2 _).mono ?_; rintro e w4 ⟨rfl, h4⟩
          have H4 := Lib.hid (blGo (H3.out) h4)
          clear h4
          go_wp2_with fail
          refine (s3 _).mono ?_; rintro e w5 ⟨rfl, h5⟩
          have H5 := Lib.hid (blGo (H4.out) h5)
          clear h5
          go_wp2_with fail
          refine (n1 _).mono ?_; rintro e w' ⟨rfl, rfl⟩
          go_wp2_with fail
          refine (n2 _).mono ?_; rintro e w' ⟨rfl, rfl⟩
          go_wp2_with fail
          refine (s2 _).mono ?_; rintro e w6 ⟨rfl, h6⟩
          have H6 := Lib.hid (blGo (H5.out) h6)
          clear h6
          go_wp2_with fail
          refine (q1 _).mono ?_; rintro e w' ⟨rfl, rfl⟩
          go_wp2_with fail
          refine (live_any _).mono ?_; rintro e w7 ⟨rfl, h7⟩
          have H7 := Lib.hid (blGo (H6.out) h7)
          clear h7
          go_wp2
          go_ret
          exact ⟨rfl, H7.out⟩
        · have hab : ¬ (a : Int) = (b : Int) := fun h => absurd (e2.2 (by omega)) (by decide)
          have hless' : Op.bytesLess x.toList y.toList = true := hless
          clear hless e2
          clear tri
          have h0 : ¬ (a : Int) = 9223372036854775808 := by omega
          rw [if_neg hs] at s1
          clear hs
          go_enter Try.func5, Try.ntmps5
          go_wp2_with fail
          refine (k1 _).mono ?_; rintro e w' ⟨rfl, rfl⟩
          go_wp2_with fail
          refine (k2 _).mono ?_; rintro e w' ⟨rfl, rfl⟩
          go_wp2_with fail
          refine (k3 _).mono ?_; rintro e w' ⟨rfl, rfl⟩
          go_wp2_with fail
          refine (g1 _).mono ?_; rintro e w1 ⟨rfl, h1⟩
          have H1 := Lib.hid (blGo (Below.refl w.heap.size w) h1)
          clear h1
          go_wp2_with fail
          refine (g2 _).mono ?_; rintro e w2 ⟨rfl, h2⟩
          have H2 := Lib.hid (blGo (H1.out) h2)
          clear h2
          go_wp2_with fail
          refine (o1 _).mono ?_; rintro e w' ⟨rfl, rfl⟩
          go_wp2_with fail
          refine (o1 _).mono ?_; rintro e w' ⟨rfl, rfl⟩
          go_wp2_with fail
          refine (o1 _).mono ?_; rintro e w' ⟨rfl, rfl⟩
          go_wp2_with fail
          refine (o2 _).mono ?_; rintro e w' ⟨rfl, rfl⟩
          go_wp2_with fail
          refine (o1 _).mono ?_; rintro e w' ⟨rfl, rfl⟩
          go_wp2_with fail
          refine (o3 _).mono ?_; rintro e w' ⟨rfl, rfl⟩
          go_wp2_with fail
          refine (s1 _).mono ?_; rintro e w3 ⟨rfl, h3⟩
          have H3 := Lib.hid (blGo (H2.out) h3)
          clear h3
          go_wp2_with fail
          refine (s2 _).mono ?_; rintro e w4 ⟨rfl, h4⟩
          have H4 := Lib.hid (blGo (H3.out) h4)
          clear h4
          go_wp2_with fail
          refine (s3 _).mono ?_; rintro e w5 ⟨rfl, h5⟩
          have H5 := Lib.hid (blGo (H4.out) h5)
          clear h5
          go_wp2_with fail
          refine (n1 _).mono ?_; rintro e w' ⟨rfl, rfl⟩
          go_wp2_with fail
          refine (n2 _).mono ?_; rintro e w' ⟨rfl, rfl⟩
          go_wp2_with fail
          refine (s2 _).mono ?_; rintro e w6 ⟨rfl, h6⟩
          have H6 := Lib.hid (blGo (H5.out) h6)
          clear h6
          go_wp2_with fail
          refine (q1 _).mono ?_; rintro e w' ⟨rfl, rfl⟩
          go_wp2_with fail
          refine (live_any _).mono ?_; rintro e w7 ⟨rfl, h7⟩
          have H7 := Lib.hid (blGo (H6.out) h7)
          clear h7
          go_wp2
          go_ret
          exact ⟨rfl, H7.out⟩
  · have hsum' : ¬ wrap64 (wrap64 (chN a + chN b) + chN c) = 0 := by
      rcases chN_two a with h1 | h1 <;> rcases chN_two b with h2 | h2 <;> rcases chN_two c with h3 | h3 <;> rw [h1, h2, h3] at hsum ⊢ <;> first | exact absurd rfl hsum | (unfold wrap64; omega)
    clear hsum
    generalize chN a = x at *
    generalize chN b = y at *
    generalize chN c = z at *
    go_enter Try.func5, Try.ntmps5
    go_wp2_with fail
    refine (k1 _).mono ?_; rintro e w' ⟨rfl, rfl⟩
    go_wp2_with fail
    refine (k2 _).mono ?_; rintro e w' ⟨rfl, rfl⟩
    go_wp2_with fail
    refine (k3 _).mono ?_; rintro e w' ⟨rfl, rfl⟩
    go_wp2_with fail
    refine (live_any _).mono ?_; rintro e w1 ⟨rfl, h1⟩
    have H1 := Lib.hid (blGo (Below.refl w.heap.size w) h1)
    clear h1
    go_wp2
    go_ret
    exact ⟨rfl, H1.out⟩

set_option maxRecDepth 100000 in
theorem numOrder_lifted (os : Os) (started : os.Started) (H : Type) (enc : TypeId × Value → H) :
    ReturnsInHanded {} Try.checked os 5 .any (Rows.numOrderSpec.pre6 enc Try.prog Try.f5 Rows.numOrderRow.domain false) (Rows.numOrderSpec.post enc Try.prog Try.f5 false true false false) := by
  refine law_lift (C := Try.checked) own0 started (by kernel_rfl) Try.func5 laid0 rfl (by kernel_rfl) (fun _ _ _ _ => trodAll_mk1 (shut_bool Try.underlying4 true)) (fun ds h => match ds, h with | [_, _, _], _ => ⟨rfl, rfl, rfl⟩)
    (ChangeSpec.witness6 (enc := enc) (C := Try.checked) false ⟨#[], #[.int .u64 0, .int .u64 0, .int .u64 0], []⟩ 8 (by kernel_rfl) (by kernel_rfl) (by kernel_rfl) (by kernel_rfl)) ?_
  intro W base args ds before hval0 hA0 hlt
  have hval : ∀ (j : Nat) t v, Try.f5.params[j]? = some t → args[j]? = some v → Value.okWide Try.prog W .any base t v := hval0
  have hA : DataW.TrodAll enc Try.prog W 0 (fun _ => true) true Try.f5.params.toList args.toList ds before := hA0
  rw [Try.params5] at hA hval
  obtain ⟨v0, v1, v2, d0, d1, d2, p0, p1, p2, rfl, rfl, rfl, h0, h1, h2⟩ := trodAll_three hA
  obtain ⟨ai, rfl, rfl, rfl, wa⟩ := open_int Try.underlying23 (hval 0 23 v0 rfl rfl) h0
  obtain ⟨a, ha, rfl⟩ := nat_of wa
  obtain ⟨bi, rfl, rfl, rfl, wb⟩ := open_int Try.underlying23 (hval 1 23 v1 rfl rfl) h1
  obtain ⟨b, hb, rfl⟩ := nat_of wb
  obtain ⟨ci, rfl, rfl, rfl, wc⟩ := open_int Try.underlying23 (hval 2 23 v2 rfl rfl) h2
  obtain ⟨c, hc, rfl⟩ := nat_of wc
  exact numOrder_walk a b c ha hb hc W

theorem numOrder_holds : Rows.NumOrderSaid :=
  OpenClaim.holds_of_wide 5 Try.f5 rfl rfl rfl rfl rfl rfl rfl ⟨rfl, rfl, rfl, rfl, rfl⟩ rfl rfl rfl rfl rfl (by kernel_rfl) Try.func5 (by kernel_rfl)
    (of_decide_eq_true (by kernel_rfl)) (by unfold Func.isWrapper; rw [if_neg (of_decide_eq_false (by kernel_rfl))]; exact ⟨rfl, rfl⟩)
    (fun os started H enc _ => numOrder_lifted os started H enc)

#print axioms numOrder_holds

end Go.Proofs.Ytmhgjijpilhcdaa
