/- NumTurns: turned round, the order is turned round, but for what is no number; so are sums. Conditions: none. -/
import Derived.Test.YtmhgjijpilhcdaaNu
import Derived.Test.YtmhgjijpilhcdaaNr
namespace Go.Proofs.Ytmhgjijpilhcdaa
open Go.ChangeShapes Go.WideShapes Go.ChangeAt Go.RowKit Go.Sort

theorem cmU_one (x y : Nat) : cmpU x y = -1 ∨ cmpU x y = 0 ∨ cmpU x y = 1 := by
  unfold cmpU
  split <;> (try split) <;> simp

set_option maxRecDepth 100000 in
set_option maxHeartbeats 8000000 in
theorem numTurns_walk (a b : Nat) (ha : a < 18446744073709551616) (hb : b < 18446744073709551616) (w : World) :
    Calls Try.prog 9 #[.int .u64 (a : Int), .int .u64 (b : Int)] w fun e w' => e = .returned (.bool true) ∧ Below w.heap.size w w' := by
  have k1 := fun w => check_any a w
  have k2 := fun w => check_any b w
  by_cases hsum : chN a + chN b = 0
  · have za : chN a = 0 := by have := chN_two a; have := chN_two b; omega
    have zb : chN b = 0 := by have := chN_two a; have := chN_two b; omega
    have na := num_cases a ((chN_iff a).1 za)
    have nb := num_cases b ((chN_iff b).1 zb)
    rw [za] at k1
    rw [zb] at k2
    clear hsum za zb
    by_cases ea : a = 9221120237041090561
    · clear na nb
      subst ea
      have L : ((9221120237041090561 : Nat) : Int) = 9221120237041090561 := rfl
      simp only [L] at *
      clear L
      go_enter Try.func9, Try.ntmps9
      go_wp2_with fail
      refine (k1 _).mono ?_; rintro e w' ⟨rfl, rfl⟩
      go_wp2_with fail
      refine (k2 _).mono ?_; rintro e w' ⟨rfl, rfl⟩
      go_wp2_with fail
      refine (live_any _).mono ?_; rintro e w1 ⟨rfl, h1⟩
      have H1 := Lib.hid (blGo (Below.refl w.heap.size w) h1)
      clear h1
      go_wp2
      go_ret
      first | exact ⟨rfl, H1.out⟩ | (refine ⟨?_, H1.out⟩; simp; done) | (refine ⟨?_, H1.out⟩; simp; omega)
    · by_cases eb : b = 9221120237041090561
      · have f1 : ((a : Int) == 9221120237041090561) = false := by simp; omega
        clear na nb
        subst eb
        have L : ((9221120237041090561 : Nat) : Int) = 9221120237041090561 := rfl
        simp only [L] at *
        clear L
        go_enter Try.func9, Try.ntmps9
        go_wp2_with fail
        refine (k1 _).mono ?_; rintro e w' ⟨rfl, rfl⟩
        go_wp2_with fail
        refine (k2 _).mono ?_; rintro e w' ⟨rfl, rfl⟩
        go_wp2_with fail
        refine (live_any _).mono ?_; rintro e w1 ⟨rfl, h1⟩
        have H1 := Lib.hid (blGo (Below.refl w.heap.size w) h1)
        clear h1
        go_wp2
        go_ret
        first | exact ⟨rfl, H1.out⟩ | (refine ⟨?_, H1.out⟩; simp; done) | (refine ⟨?_, H1.out⟩; simp; omega)
      · have ea' : ¬ (a : Int) = 9221120237041090561 := by omega
        have eb' : ¬ (b : Int) = 9221120237041090561 := by omega
        have f1 : ((a : Int) == 9221120237041090561) = false := by simpa using ea'
        have f2 : ((b : Int) == 9221120237041090561) = false := by simpa using eb'
        have na := na.resolve_left ea
        have nb := nb.resolve_left eb
        have s1 := fun w => add_any a b w
        have n1 := fun w => neg_any a ha w
        have n2 := fun w => neg_any b hb w
        have s2 := fun w => add_any (ngN a) (ngN b) w
        have q1 := fun w => compare_any (ngN a) (ngN b) (ngN_lt a ha) (ngN_lt b hb) w
        have q2 := fun w => compare_any a b ha hb w
        have p1 := fun w => covers_any (ngN a) (ngN b) w
        have p2 := fun w => covers_any b a w
        have n3 := fun w => neg_any (adN a b) (adN_lt a b) w
        rw [cm_ng a b ha hb na nb] at q1
        rw [co_ng a b ha hb na nb] at p1
        have hs := ad_ng a b ha hb na nb
        have hc : cmN a b = -1 ∨ cmN a b = 0 ∨ cmN a b = 1 := cmU_one _ _
        have hw : wrap64 (-cmN a b) = -cmN a b := by rcases hc with h | h | h <;> rw [h] <;> unfold wrap64 <;> omega
        clear na nb ea eb hc
        generalize cmN a b = c at *
        generalize coN b a = d at *
        generalize adN (ngN a) (ngN b) = t at *
        generalize ngN (adN a b) = m at *
        generalize adN a b = s at *
        generalize ngN a = x at *
        generalize ngN b = y at *
        by_cases e : t = m
        · subst e
          go_enter Try.func9, Try.ntmps9
          go_wp2_with fail
          refine (k1 _).mono ?_; rintro e w' ⟨rfl, rfl⟩
          go_wp2_with fail
          refine (k2 _).mono ?_; rintro e w' ⟨rfl, rfl⟩
          go_wp2_with fail
          refine (s1 _).mono ?_; rintro e w1 ⟨rfl, h1⟩
          have H1 := Lib.hid (blGo (Below.refl w.heap.size w) h1)
          clear h1
          go_wp2_with fail
          refine (n1 _).mono ?_; rintro e w' ⟨rfl, rfl⟩
          go_wp2_with fail
          refine (n2 _).mono ?_; rintro e w' ⟨rfl, rfl⟩
          go_wp2_with fail
          refine (s2 _).mono ?_; rintro e w2 ⟨rfl, h2⟩
          have H2 := Lib.hid (blGo (H1.out) h2)
          clear h2
          go_wp2_with fail
          refine (n1 _).mono ?_; rintro e w' ⟨rfl, rfl⟩
          go_wp2_with fail
          refine (n2 _).mono ?_; rintro e w' ⟨rfl, rfl⟩
          go_wp2_with fail
          refine (q1 _).mono ?_; rintro e w' ⟨rfl, rfl⟩
          go_wp2_with fail
          refine (q2 _).mono ?_; rintro e w' ⟨rfl, rfl⟩
          go_wp2_with fail
          refine (n1 _).mono ?_; rintro e w' ⟨rfl, rfl⟩
          go_wp2_with fail
          refine (n2 _).mono ?_; rintro e w' ⟨rfl, rfl⟩
          go_wp2_with fail
          refine (p1 _).mono ?_; rintro e w' ⟨rfl, rfl⟩
          go_wp2_with fail
          refine (p2 _).mono ?_; rintro e w' ⟨rfl, rfl⟩
          go_wp2_with fail
          refine (n3 _).mono ?_; rintro e w' ⟨rfl, rfl⟩
          go_wp2_with fail
          refine (live_any _).mono ?_; rintro e w3 ⟨rfl, h3⟩
          have H3 := Lib.hid (blGo (H2.out) h3)
          clear h3
          go_wp2
          go_ret
          first | exact ⟨rfl, H3.out⟩ | (refine ⟨?_, H3.out⟩; simp; done) | (refine ⟨?_, H3.out⟩; simp; omega)
        · have e' : ¬ (t : Int) = (m : Int) := by omega
          obtain ⟨z1, z2⟩ := hs.resolve_left e
          clear hs e
          subst z1 z2
          have L : ((0 : Nat) : Int) = 0 := rfl
          simp only [L] at *
          clear L
          go_enter Try.func9, Try.ntmps9
          go_wp2_with fail
          refine (k1 _).mono ?_; rintro e w' ⟨rfl, rfl⟩
          go_wp2_with fail
          refine (k2 _).mono ?_; rintro e w' ⟨rfl, rfl⟩
          go_wp2_with fail
          refine (s1 _).mono ?_; rintro e w1 ⟨rfl, h1⟩
          have H1 := Lib.hid (blGo (Below.refl w.heap.size w) h1)
          clear h1
          go_wp2_with fail
          refine (n1 _).mono ?_; rintro e w' ⟨rfl, rfl⟩
          go_wp2_with fail
          refine (n2 _).mono ?_; rintro e w' ⟨rfl, rfl⟩
          go_wp2_with fail
          refine (s2 _).mono ?_; rintro e w2 ⟨rfl, h2⟩
          have H2 := Lib.hid (blGo (H1.out) h2)
          clear h2
          go_wp2_with fail
          refine (n1 _).mono ?_; rintro e w' ⟨rfl, rfl⟩
          go_wp2_with fail
          refine (n2 _).mono ?_; rintro e w' ⟨rfl, rfl⟩
          go_wp2_with fail
          refine (q1 _).mono ?_; rintro e w' ⟨rfl, rfl⟩
          go_wp2_with fail
          refine (q2 _).mono ?_; rintro e w' ⟨rfl, rfl⟩
          go_wp2_with fail
          refine (n1 _).mono ?_; rintro e w' ⟨rfl, rfl⟩
          go_wp2_with fail
          refine (n2 _).mono ?_; rintro e w' ⟨rfl, rfl⟩
          go_wp2_with fail
          refine (p1 _).mono ?_; rintro e w' ⟨rfl, rfl⟩
          go_wp2_with fail
          refine (p2 _).mono ?_; rintro e w' ⟨rfl, rfl⟩
          go_wp2_with fail
          refine (n3 _).mono ?_; rintro e w' ⟨rfl, rfl⟩
          go_wp2_with fail
          refine (live_any _).mono ?_; rintro e w3 ⟨rfl, h3⟩
          have H3 := Lib.hid (blGo (H2.out) h3)
          clear h3
          go_wp2
          go_ret
          first | exact ⟨rfl, H3.out⟩ | (refine ⟨?_, H3.out⟩; simp; done) | (refine ⟨?_, H3.out⟩; simp; omega)
  · have hsum' : ¬ wrap64 (chN a + chN b) = 0 := by
      rcases chN_two a with h1 | h1 <;> rcases chN_two b with h2 | h2 <;> rw [h1, h2] at hsum ⊢ <;> first | exact absurd rfl hsum | (unfold wrap64; omega)
    clear hsum
    generalize chN a = x at *
    generalize chN b = y at *
    go_enter Try.func9, Try.ntmps9
    go_wp2_with fail
    refine (k1 _).mono ?_; rintro e w' ⟨rfl, rfl⟩
    go_wp2_with fail
    refine (k2 _).mono ?_; rintro e w' ⟨rfl, rfl⟩
    go_wp2_with fail
    refine (live_any _).mono ?_; rintro e w1 ⟨rfl, h1⟩
    have H1 := Lib.hid (blGo (Below.refl w.heap.size w) h1)
    clear h1
    go_wp2
    go_ret
    first | exact ⟨rfl, H1.out⟩ | (refine ⟨?_, H1.out⟩; simp; done) | (refine ⟨?_, H1.out⟩; simp; omega)

set_option maxRecDepth 100000 in
theorem numTurns_lifted (os : Os) (started : os.Started) (H : Type) (enc : TypeId × Value → H) :
    ReturnsInHanded {} Try.checked os 9 .any (Rows.numTurnsSpec.pre6 enc Try.prog Try.f9 Rows.numTurnsRow.domain false) (Rows.numTurnsSpec.post enc Try.prog Try.f9 false true false false) := by
  refine law_lift (C := Try.checked) own0 started (by kernel_rfl) Try.func9 laid0 rfl (by kernel_rfl) (fun _ _ _ _ => trodAll_mk1 (shut_bool Try.underlying4 true)) (fun ds h => match ds, h with | [_, _], _ => ⟨rfl, rfl, rfl⟩)
    (ChangeSpec.witness6 (enc := enc) (C := Try.checked) false ⟨#[], #[.int .u64 0, .int .u64 0], []⟩ 8 (by kernel_rfl) (by kernel_rfl) (by kernel_rfl) (by kernel_rfl)) ?_
  intro W base args ds before hval0 hA0 hlt
  have hval : ∀ (j : Nat) t v, Try.f9.params[j]? = some t → args[j]? = some v → Value.okWide Try.prog W .any base t v := hval0
  have hA : DataW.TrodAll enc Try.prog W 0 (fun _ => true) true Try.f9.params.toList args.toList ds before := hA0
  rw [Try.params9] at hA hval
  obtain ⟨v0, v1, d0, d1, p0, p1, rfl, rfl, rfl, h0, h1⟩ := trodAll_two hA
  obtain ⟨ai, rfl, rfl, rfl, wa⟩ := open_int Try.underlying23 (hval 0 23 v0 rfl rfl) h0
  obtain ⟨a, ha, rfl⟩ := nat_of wa
  obtain ⟨bi, rfl, rfl, rfl, wb⟩ := open_int Try.underlying23 (hval 1 23 v1 rfl rfl) h1
  obtain ⟨b, hb, rfl⟩ := nat_of wb
  exact numTurns_walk a b ha hb W

theorem numTurns_holds : Rows.NumTurnsSaid :=
  OpenClaim.holds_of_wide 9 Try.f9 rfl rfl rfl rfl rfl rfl rfl ⟨rfl, rfl, rfl, rfl, rfl⟩ rfl rfl rfl rfl rfl (by kernel_rfl) Try.func9 (by kernel_rfl)
    (of_decide_eq_true (by kernel_rfl)) (by unfold Func.isWrapper; rw [if_neg (of_decide_eq_false (by kernel_rfl))]; exact ⟨rfl, rfl⟩)
    (fun os started H enc _ => numTurns_lifted os started H enc)

#print axioms numTurns_holds

end Go.Proofs.Ytmhgjijpilhcdaa
