/- NumCovers: of two that are numbers one covers the other; both do just if they are the same, or both 0. Conditions: none. -/
import Derived.Test.YtmhgjijpilhcdaaNu
import Derived.Test.YtmhgjijpilhcdaaNr
namespace Go.Proofs.Ytmhgjijpilhcdaa
open Go.ChangeShapes Go.WideShapes Go.ChangeAt Go.RowKit Go.Sort

set_option maxRecDepth 100000 in
set_option maxHeartbeats 8000000 in
theorem numCovers_walk (a b : Nat) (ha : a < 18446744073709551616) (hb : b < 18446744073709551616) (w : World) :
    Calls Try.prog 6 #[.int .u64 (a : Int), .int .u64 (b : Int)] w fun e w' => e = .returned (.bool true) ∧ Below w.heap.size w w' := by
  have k1 := fun w => check_any a w
  have k2 := fun w => check_any b w
  by_cases hsum : chN a + chN b = 0
  · have za : chN a = 0 := by have := chN_two a; have := chN_two b; omega
    have zb : chN b = 0 := by have := chN_two a; have := chN_two b; omega
    have na := num_cases a ((chN_iff a).1 za)
    have nb := num_cases b ((chN_iff b).1 zb)
    rw [za] at k1
    rw [zb] at k2
    clear hsum za zb
    have p1 := fun w => covers_any a b w
    have p2 := fun w => covers_any b a w
    by_cases ea : a = 9221120237041090561
    · have e1 : coN a b = false := by rw [ea]; exact co_nan_l b
      have e2 : coN b a = false := by rw [ea]; exact co_nan_r b
      rw [e1] at p1
      rw [e2] at p2
      clear e1 e2 na nb
      subst ea
      have L : ((9221120237041090561 : Nat) : Int) = 9221120237041090561 := rfl
      simp only [L] at *
      clear L
      go_enter Try.func6, Try.ntmps6
      go_wp2_with fail
      refine (k1 _).mono ?_; rintro e w' ⟨rfl, rfl⟩
      go_wp2_with fail
      refine (k2 _).mono ?_; rintro e w' ⟨rfl, rfl⟩
      go_wp2_with fail
      refine (p1 _).mono ?_; rintro e w' ⟨rfl, rfl⟩
      go_wp2_with fail
      refine (p2 _).mono ?_; rintro e w' ⟨rfl, rfl⟩
      go_wp2_with fail
      refine (live_any _).mono ?_; rintro e w1 ⟨rfl, h1⟩
      have H1 := Lib.hid (blGo (Below.refl w.heap.size w) h1)
      clear h1
      go_wp2
      go_ret
      first | exact ⟨rfl, H1.out⟩ | (refine ⟨?_, H1.out⟩; simp; done) | (refine ⟨?_, H1.out⟩; simp; omega)
    · have ea' : ¬ (a : Int) = 9221120237041090561 := by omega
      by_cases eb : b = 9221120237041090561
      · have e1 : coN a b = false := by rw [eb]; exact co_nan_r a
        have e2 : coN b a = false := by rw [eb]; exact co_nan_l a
        rw [e1] at p1
        rw [e2] at p2
        clear e1 e2 na nb
        subst eb
        have L : ((9221120237041090561 : Nat) : Int) = 9221120237041090561 := rfl
        simp only [L] at *
        clear L
        go_enter Try.func6, Try.ntmps6
        go_wp2_with fail
        refine (k1 _).mono ?_; rintro e w' ⟨rfl, rfl⟩
        go_wp2_with fail
        refine (k2 _).mono ?_; rintro e w' ⟨rfl, rfl⟩
        go_wp2_with fail
        refine (p1 _).mono ?_; rintro e w' ⟨rfl, rfl⟩
        go_wp2_with fail
        refine (p2 _).mono ?_; rintro e w' ⟨rfl, rfl⟩
        go_wp2_with fail
        refine (live_any _).mono ?_; rintro e w1 ⟨rfl, h1⟩
        have H1 := Lib.hid (blGo (Below.refl w.heap.size w) h1)
        clear h1
        go_wp2
        go_ret
        first | exact ⟨rfl, H1.out⟩ | (refine ⟨?_, H1.out⟩; simp; done) | (refine ⟨?_, H1.out⟩; simp; omega)
      · have eb' : ¬ (b : Int) = 9221120237041090561 := by omega
        have na := na.resolve_left ea
        have nb := nb.resolve_left eb
        have c1 := coN_eq a b ha hb na nb
        have c2 := coN_eq b a hb ha nb na
        have inj := rk_inj a b ha hb (rtN_of a na) (rtN_of b nb)
        have ra : rg a = 0 ↔ a = 0 ∨ a = 9223372036854775808 := by unfold rg; omega
        have rb : rg b = 0 ↔ b = 0 ∨ b = 9223372036854775808 := by unfold rg; omega
        simp only [ra, rb] at c1 c2
        clear na nb ea eb ra rb
        generalize rkN a = r at *
        generalize rkN b = s at *
        by_cases ea : a = 0
        · by_cases eb : b = 0
          · have v1 : coN a b = true := by rw [c1]; exact decide_eq_true (.inl ⟨by omega, by omega⟩)
            have v2 : coN b a = true := by rw [c2]; exact decide_eq_true (.inl ⟨by omega, by omega⟩)
            rw [v1] at p1
            rw [v2] at p2
            clear v1 v2 c1 c2
            clear inj
            subst ea
            subst eb
            have L0 : ((0 : Nat) : Int) = 0 := rfl
            have L : ((9223372036854775808 : Nat) : Int) = 9223372036854775808 := rfl
            simp only [L0, L] at *
            clear L0 L
            go_enter Try.func6, Try.ntmps6
            go_wp2_with fail
            refine (k1 _).mono ?_; rintro e w' ⟨rfl, rfl⟩
            go_wp2_with fail
            refine (k2 _).mono ?_; rintro e w' ⟨rfl, rfl⟩
            go_wp2_with fail
            refine (p1 _).mono ?_; rintro e w' ⟨rfl, rfl⟩
            go_wp2_with fail
            refine (p2 _).mono ?_; rintro e w' ⟨rfl, rfl⟩
            go_wp2_with fail
            refine (live_any _).mono ?_; rintro e w1 ⟨rfl, h1⟩
            have H1 := Lib.hid (blGo (Below.refl w.heap.size w) h1)
            clear h1
            go_wp2
            go_ret
            first | exact ⟨rfl, H1.out⟩ | (refine ⟨?_, H1.out⟩; simp; done) | (refine ⟨?_, H1.out⟩; simp; omega)
          · by_cases eb2 : b = 9223372036854775808
            · have v1 : coN a b = true := by rw [c1]; exact decide_eq_true (.inl ⟨by omega, by omega⟩)
              have v2 : coN b a = true := by rw [c2]; exact decide_eq_true (.inl ⟨by omega, by omega⟩)
              rw [v1] at p1
              rw [v2] at p2
              clear v1 v2 c1 c2
              clear inj eb
              subst ea
              subst eb2
              have L0 : ((0 : Nat) : Int) = 0 := rfl
              have L : ((9223372036854775808 : Nat) : Int) = 9223372036854775808 := rfl
              simp only [L0, L] at *
              clear L0 L
              go_enter Try.func6, Try.ntmps6
              go_wp2_with fail
              refine (k1 _).mono ?_; rintro e w' ⟨rfl, rfl⟩
              go_wp2_with fail
              refine (k2 _).mono ?_; rintro e w' ⟨rfl, rfl⟩
              go_wp2_with fail
              refine (p1 _).mono ?_; rintro e w' ⟨rfl, rfl⟩
              go_wp2_with fail
              refine (p2 _).mono ?_; rintro e w' ⟨rfl, rfl⟩
              go_wp2_with fail
              refine (live_any _).mono ?_; rintro e w1 ⟨rfl, h1⟩
              have H1 := Lib.hid (blGo (Below.refl w.heap.size w) h1)
              clear h1
              go_wp2
              go_ret
              first | exact ⟨rfl, H1.out⟩ | (refine ⟨?_, H1.out⟩; simp; done) | (refine ⟨?_, H1.out⟩; simp; omega)
            · by_cases hlt : r < s
              · have v1 : coN a b = false := by rw [c1]; exact decide_eq_false (by omega)
                have v2 : coN b a = true := by rw [c2]; exact decide_eq_true (.inr (by omega))
                rw [v1] at p1
                rw [v2] at p2
                clear v1 v2 c1 c2
                have g1 : ¬ (b : Int) = 0 := by omega
                have g2 : ¬ (b : Int) = 9223372036854775808 := by omega
                have g3 : ¬ (0 : Int) = (b : Int) := by omega
                clear inj eb eb2 hlt
                subst ea
                have L0 : ((0 : Nat) : Int) = 0 := rfl
                have L : ((9223372036854775808 : Nat) : Int) = 9223372036854775808 := rfl
                simp only [L0, L] at *
                clear L0 L
                go_enter Try.func6, Try.ntmps6
                go_wp2_with fail
                refine (k1 _).mono ?_; rintro e w' ⟨rfl, rfl⟩
                go_wp2_with fail
                refine (k2 _).mono ?_; rintro e w' ⟨rfl, rfl⟩
                go_wp2_with fail
                refine (p1 _).mono ?_; rintro e w' ⟨rfl, rfl⟩
                go_wp2_with fail
                refine (p2 _).mono ?_; rintro e w' ⟨rfl, rfl⟩
                go_wp2_with fail
                refine (live_any _).mono ?_; rintro e w1 ⟨rfl, h1⟩
                have H1 := Lib.hid (blGo (Below.refl w.heap.size w) h1)
                clear h1
                go_wp2
                go_ret
                first | exact ⟨rfl, H1.out⟩ | (refine ⟨?_, H1.out⟩; simp; done) | (refine ⟨?_, H1.out⟩; simp; omega)
              · have hne : ¬ r = s := fun h => absurd (inj.1 h) (by omega)
                have v1 : coN a b = true := by rw [c1]; exact decide_eq_true (.inr (by omega))
                have v2 : coN b a = false := by rw [c2]; exact decide_eq_false (by omega)
                rw [v1] at p1
                rw [v2] at p2
                clear v1 v2 c1 c2
                have g1 : ¬ (b : Int) = 0 := by omega
                have g2 : ¬ (b : Int) = 9223372036854775808 := by omega
                have g3 : ¬ (0 : Int) = (b : Int) := by omega
                clear inj eb eb2 hlt
                subst ea
                have L0 : ((0 : Nat) : Int) = 0 := rfl
                have L : ((9223372036854775808 : Nat) : Int) = 9223372036854775808 := rfl
                simp only [L0, L] at *
                clear L0 L
                go_enter Try.func6, Try.ntmps6
                go_wp2_with fail
                refine (k1 _).mono ?_; rintro e w' ⟨rfl, rfl⟩
                go_wp2_with fail
                refine (k2 _).mono ?_; rintro e w' ⟨rfl, rfl⟩
                go_wp2_with fail
                refine (p1 _).mono ?_; rintro e w' ⟨rfl, rfl⟩
                go_wp2_with fail
                refine (p2 _).mono ?_; rintro e w' ⟨rfl, rfl⟩
                go_wp2_with fail
                refine (live_any _).mono ?_; rintro e w1 ⟨rfl, h1⟩
                have H1 := Lib.hid (blGo (Below.refl w.heap.size w) h1)
                clear h1
                go_wp2
                go_ret
                first | exact ⟨rfl, H1.out⟩ | (refine ⟨?_, H1.out⟩; simp; done) | (refine ⟨?_, H1.out⟩; simp; omega)
        · by_cases ea2 : a = 9223372036854775808
          · by_cases eb : b = 0
            · have v1 : coN a b = true := by rw [c1]; exact decide_eq_true (.inl ⟨by omega, by omega⟩)
              have v2 : coN b a = true := by rw [c2]; exact decide_eq_true (.inl ⟨by omega, by omega⟩)
              rw [v1] at p1
              rw [v2] at p2
              clear v1 v2 c1 c2
              clear inj ea
              subst ea2
              subst eb
              have L0 : ((0 : Nat) : Int) = 0 := rfl
              have L : ((9223372036854775808 : Nat) : Int) = 9223372036854775808 := rfl
              simp only [L0, L] at *
              clear L0 L
              go_enter Try.func6, Try.ntmps6
              go_wp2_with fail
              refine (k1 _).mono ?_; rintro e w' ⟨rfl, rfl⟩
              go_wp2_with fail
              refine (k2 _).mono ?_; rintro e w' ⟨rfl, rfl⟩
              go_wp2_with fail
              refine (p1 _).mono ?_; rintro e w' ⟨rfl, rfl⟩
              go_wp2_with fail
              refine (p2 _).mono ?_; rintro e w' ⟨rfl, rfl⟩
              go_wp2_with fail
              refine (live_any _).mono ?_; rintro e w1 ⟨rfl, h1⟩
              have H1 := Lib.hid (blGo (Below.refl w.heap.size w) h1)
              clear h1
              go_wp2
              go_ret
              first | exact ⟨rfl, H1.out⟩ | (refine ⟨?_, H1.out⟩; simp; done) | (refine ⟨?_, H1.out⟩; simp; omega)
            · by_cases eb2 : b = 9223372036854775808
              · have v1 : coN a b = true := by rw [c1]; exact decide_eq_true (.inl ⟨by omega, by omega⟩)
                have v2 : coN b a = true := by rw [c2]; exact decide_eq_true (.inl ⟨by omega, by omega⟩)
                rw [v1] at p1
                rw [v2] at p2
                clear v1 v2 c1 c2
                clear inj ea eb
                subst ea2
                subst eb2
                have L0 : ((0 : Nat) : Int) = 0 := rfl
                have L : ((9223372036854775808 : Nat) : Int) = 9223372036854775808 := rfl
                simp only [L0, L] at *
                clear L0 L
                go_enter Try.func6, Try.ntmps6
                go_wp2_with fail
                refine (k1 _).mono ?_; rintro e w' ⟨rfl, rfl⟩
                go_wp2_with fail
                refine (k2 _).mono ?_; rintro e w' ⟨rfl, rfl⟩
                go_wp2_with fail
                refine (p1 _).mono ?_; rintro e w' ⟨rfl, rfl⟩
                go_wp2_with fail
                refine (p2 _).mono ?_; rintro e w' ⟨rfl, rfl⟩
                go_wp2_with fail
                refine (live_any _).mono ?_; rintro e w1 ⟨rfl, h1⟩
                have H1 := Lib.hid (blGo (Below.refl w.heap.size w) h1)
                clear h1
                go_wp2
                go_ret
                first | exact ⟨rfl, H1.out⟩ | (refine ⟨?_, H1.out⟩; simp; done) | (refine ⟨?_, H1.out⟩; simp; omega)
              · by_cases hlt : r < s
                · have v1 : coN a b = false := by rw [c1]; exact decide_eq_false (by omega)
                  have v2 : coN b a = true := by rw [c2]; exact decide_eq_true (.inr (by omega))
                  rw [v1] at p1
                  rw [v2] at p2
                  clear v1 v2 c1 c2
                  have g1 : ¬ (b : Int) = 0 := by omega
                  have g2 : ¬ (b : Int) = 9223372036854775808 := by omega
                  have g3 : ¬ (9223372036854775808 : Int) = (b : Int) := by omega
                  clear inj ea eb eb2 hlt
                  subst ea2
                  have L0 : ((0 : Nat) : Int) = 0 := rfl
                  have L : ((9223372036854775808 : Nat) : Int) = 9223372036854775808 := rfl
                  simp only [L0, L] at *
                  clear L0 L
                  go_enter Try.func6, Try.ntmps6
                  go_wp2_with fail
                  refine (k1 _).mono ?_; rintro e w' ⟨rfl, rfl⟩
                  go_wp2_with fail
                  refine (k2 _).mono ?_; rintro e w' ⟨rfl, rfl⟩
                  go_wp2_with fail
                  refine (p1 _).mono ?_; rintro e w' ⟨rfl, rfl⟩
                  go_wp2_with fail
                  refine (p2 _).mono ?_; rintro e w' ⟨rfl, rfl⟩
                  go_wp2_with fail
                  refine (live_any _).mono ?_; rintro e w1 ⟨rfl, h1⟩
                  have H1 := Lib.hid (blGo (Below.refl w.heap.size w) h1)
                  clear h1
                  go_wp2
                  go_ret
                  first | exact ⟨rfl, H1.out⟩ | (refine ⟨?_, H1.out⟩; simp; done) | (refine ⟨?_, H1.out⟩; simp; omega)
                · have hne : ¬ r = s := fun h => absurd (inj.1 h) (by omega)
                  have v1 : coN a b = true := by rw [c1]; exact decide_eq_true (.inr (by omega))
                  have v2 : coN b a = false := by rw [c2]; exact decide_eq_false (by omega)
                  rw [v1] at p1
                  rw [v2] at p2
                  clear v1 v2 c1 c2
                  have g1 : ¬ (b : Int) = 0 := by omega
                  have g2 : ¬ (b : Int) = 9223372036854775808 := by omega
                  have g3 : ¬ (9223372036854775808 : Int) = (b : Int) := by omega
                  clear inj ea eb eb2 hlt
                  subst ea2
                  have L0 : ((0 : Nat) : Int) = 0 := rfl
                  have L : ((9223372036854775808 : Nat) : Int) = 9223372036854775808 := rfl
                  simp only [L0, L] at *
                  clear L0 L
                  go_enter Try.func6, Try.ntmps6
                  go_wp2_with fail
                  refine (k1 _).mono ?_; rintro e w' ⟨rfl, rfl⟩
                  go_wp2_with fail
                  refine (k2 _).mono ?_; rintro e w' ⟨rfl, rfl⟩
                  go_wp2_with fail
                  refine (p1 _).mono ?_; rintro e w' ⟨rfl, rfl⟩
                  go_wp2_with fail
                  refine (p2 _).mono ?_; rintro e w' ⟨rfl, rfl⟩
                  go_wp2_with fail
                  refine (live_any _).mono ?_; rintro e w1 ⟨rfl, h1⟩
                  have H1 := Lib.hid (blGo (Below.refl w.heap.size w) h1)
                  clear h1
                  go_wp2
                  go_ret
                  first | exact ⟨rfl, H1.out⟩ | (refine ⟨?_, H1.out⟩; simp; done) | (refine ⟨?_, H1.out⟩; simp; omega)
          · by_cases hlt : r < s
            · have v1 : coN a b = false := by rw [c1]; exact decide_eq_false (by omega)
              have v2 : coN b a = true := by rw [c2]; exact decide_eq_true (.inr (by omega))
              rw [v1] at p1
              rw [v2] at p2
              clear v1 v2 c1 c2
              have f1 : ((a : Int) == 9221120237041090561) = false := by simpa using ea'
              have f2 : ((b : Int) == 9221120237041090561) = false := by simpa using eb'
              have g1 : ¬ (a : Int) = 0 := by omega
              have g2 : ¬ (a : Int) = 9223372036854775808 := by omega
              have g3 : ¬ (a : Int) = (b : Int) := fun h => absurd (inj.2 (by omega)) (by omega)
              clear inj ea ea2 hlt
              go_enter Try.func6, Try.ntmps6
              go_wp2_with fail
              refine (k1 _).mono ?_; rintro e w' ⟨rfl, rfl⟩
              go_wp2_with fail
              refine (k2 _).mono ?_; rintro e w' ⟨rfl, rfl⟩
              go_wp2_with fail
              refine (p1 _).mono ?_; rintro e w' ⟨rfl, rfl⟩
              go_wp2_with fail
              refine (p2 _).mono ?_; rintro e w' ⟨rfl, rfl⟩
              go_wp2_with fail
              refine (live_any _).mono ?_; rintro e w1 ⟨rfl, h1⟩
              have H1 := Lib.hid (blGo (Below.refl w.heap.size w) h1)
              clear h1
              go_wp2
              go_ret
              first | exact ⟨rfl, H1.out⟩ | (refine ⟨?_, H1.out⟩; simp; done) | (refine ⟨?_, H1.out⟩; simp; omega)
            · by_cases hgt : s < r
              · have v1 : coN a b = true := by rw [c1]; exact decide_eq_true (.inr (by omega))
                have v2 : coN b a = false := by rw [c2]; exact decide_eq_false (by omega)
                rw [v1] at p1
                rw [v2] at p2
                clear v1 v2 c1 c2
                have f1 : ((a : Int) == 9221120237041090561) = false := by simpa using ea'
                have f2 : ((b : Int) == 9221120237041090561) = false := by simpa using eb'
                have g1 : ¬ (a : Int) = 0 := by omega
                have g2 : ¬ (a : Int) = 9223372036854775808 := by omega
                have g3 : ¬ (a : Int) = (b : Int) := fun h => absurd (inj.2 (by omega)) (by omega)
                clear inj ea ea2 hlt hgt
                go_enter Try.func6, Try.ntmps6
                go_wp2_with fail
                refine (k1 _).mono ?_; rintro e w' ⟨rfl, rfl⟩
                go_wp2_with fail
                refine (k2 _).mono ?_; rintro e w' ⟨rfl, rfl⟩
                go_wp2_with fail
                refine (p1 _).mono ?_; rintro e w' ⟨rfl, rfl⟩
                go_wp2_with fail
                refine (p2 _).mono ?_; rintro e w' ⟨rfl, rfl⟩
                go_wp2_with fail
                refine (live_any _).mono ?_; rintro e w1 ⟨rfl, h1⟩
                have H1 := Lib.hid (blGo (Below.refl w.heap.size w) h1)
                clear h1
                go_wp2
                go_ret
                first | exact ⟨rfl, H1.out⟩ | (refine ⟨?_, H1.out⟩; simp; done) | (refine ⟨?_, H1.out⟩; simp; omega)
              · have v1 : coN a b = true := by rw [c1]; exact decide_eq_true (.inr (by omega))
                have v2 : coN b a = true := by rw [c2]; exact decide_eq_true (.inr (by omega))
                rw [v1] at p1
                rw [v2] at p2
                clear v1 v2 c1 c2
                have f1 : ((a : Int) == 9221120237041090561) = false := by simpa using ea'
                have f2 : ((b : Int) == 9221120237041090561) = false := by simpa using eb'
                have g1 : ¬ (a : Int) = 0 := by omega
                have g2 : ¬ (a : Int) = 9223372036854775808 := by omega
                have hab : a = b := inj.1 (by omega)
                clear inj ea ea2 hlt hgt
                subst hab
                go_enter Try.func6, Try.ntmps6
                go_wp2_with fail
                refine (k1 _).mono ?_; rintro e w' ⟨rfl, rfl⟩
                go_wp2_with fail
                refine (k2 _).mono ?_; rintro e w' ⟨rfl, rfl⟩
                go_wp2_with fail
                refine (p1 _).mono ?_; rintro e w' ⟨rfl, rfl⟩
                go_wp2_with fail
                refine (p2 _).mono ?_; rintro e w' ⟨rfl, rfl⟩
                go_wp2_with fail
                refine (live_any _).mono ?_; rintro e w1 ⟨rfl, h1⟩
                have H1 := Lib.hid (blGo (Below.refl w.heap.size w) h1)
                clear h1
                go_wp2
                go_ret
                first | exact ⟨rfl, H1.out⟩ | (refine ⟨?_, H1.out⟩; simp; done) | (refine ⟨?_, H1.out⟩; simp; omega)
  · have hsum' : ¬ wrap64 (chN a + chN b) = 0 := by
      rcases chN_two a with h1 | h1 <;> rcases chN_two b with h2 | h2 <;> rw [h1, h2] at hsum ⊢ <;> first | exact absurd rfl hsum | (unfold wrap64; omega)
    clear hsum
    generalize chN a = x at *
    generalize chN b = y at *
    go_enter Try.func6, Try.ntmps6
    go_wp2_with fail
    refine (k1 _).mono ?_; rintro e w' ⟨rfl, rfl⟩
    go_wp2_with fail
    refine (k2 _).mono ?_; rintro e w' ⟨rfl, rfl⟩
    go_wp2_with fail
    refine (live_any _).mono ?_; rintro e w1 ⟨rfl, h1⟩
    have H1 := Lib.hid (blGo (Below.refl w.heap.size w) h1)
    clear h1
    go_wp2
    go_ret
    first | exact ⟨rfl, H1.out⟩ | (refine ⟨?_, H1.out⟩; simp; done) | (refine ⟨?_, H1.out⟩; simp; omega)

set_option maxRecDepth 100000 in
theorem numCovers_lifted (os : Os) (started : os.Started) (H : Type) (enc : TypeId × Value → H) :
    ReturnsInHanded {} Try.checked os 6 .any (Rows.numCoversSpec.pre6 enc Try.prog Try.f6 Rows.numCoversRow.domain false) (Rows.numCoversSpec.post enc Try.prog Try.f6 false true false false) := by
  refine law_lift (C := Try.checked) own0 started (by kernel_rfl) Try.func6 laid0 rfl (by kernel_rfl) (fun _ _ _ _ => trodAll_mk1 (shut_bool Try.underlying4 true)) (fun ds h => match ds, h with | [_, _], _ => ⟨rfl, rfl, rfl⟩)
    (ChangeSpec.witness6 (enc := enc) (C := Try.checked) false ⟨#[], #[.int .u64 0, .int .u64 0], []⟩ 8 (by kernel_rfl) (by kernel_rfl) (by kernel_rfl) (by kernel_rfl)) ?_
  intro W base args ds before hval0 hA0 hlt
  have hval : ∀ (j : Nat) t v, Try.f6.params[j]? = some t → args[j]? = some v → Value.okWide Try.prog W .any base t v := hval0
  have hA : DataW.TrodAll enc Try.prog W 0 (fun _ => true) true Try.f6.params.toList args.toList ds before := hA0
  rw [Try.params6] at hA hval
  obtain ⟨v0, v1, d0, d1, p0, p1, rfl, rfl, rfl, h0, h1⟩ := trodAll_two hA
  obtain ⟨ai, rfl, rfl, rfl, wa⟩ := open_int Try.underlying23 (hval 0 23 v0 rfl rfl) h0
  obtain ⟨a, ha, rfl⟩ := nat_of wa
  obtain ⟨bi, rfl, rfl, rfl, wb⟩ := open_int Try.underlying23 (hval 1 23 v1 rfl rfl) h1
  obtain ⟨b, hb, rfl⟩ := nat_of wb
  exact numCovers_walk a b ha hb W

theorem numCovers_holds : Rows.NumCoversSaid :=
  OpenClaim.holds_of_wide 6 Try.f6 rfl rfl rfl rfl rfl rfl rfl ⟨rfl, rfl, rfl, rfl, rfl⟩ rfl rfl rfl rfl rfl (by kernel_rfl) Try.func6 (by kernel_rfl)
    (of_decide_eq_true (by kernel_rfl)) (by unfold Func.isWrapper; rw [if_neg (of_decide_eq_false (by kernel_rfl))]; exact ⟨rfl, rfl⟩)
    (fun os started H enc _ => numCovers_lifted os started H enc)

#print axioms numCovers_holds

end Go.Proofs.Ytmhgjijpilhcdaa
