/- NumKeys: every num's key, every text as a key, as the reference has them; a num's key is that of the num. Conditions: none. -/
import Derived.Test.YtmhgjijpilhcdaaNp
import Derived.Test.YtmhgjijpilhcdaaNr
import Derived.ChangeMaps5
namespace Go.Proofs.Ytmhgjijpilhcdaa
open Go.ChangeShapes Go.WideShapes Go.ChangeAt Go.RowKit Go.Sort

set_option maxRecDepth 100000 in
set_option maxHeartbeats 2000000 in
theorem numKeys_walk (n : Nat) (s : ByteArray) (hn : n < 18446744073709551616) (w : World) :
    Calls Try.prog 4 #[.int .u64 (n : Int), .string s] w fun e w' => e = .returned (.bool true) ∧ Below w.heap.size w w' := by
  by_cases hs : 1000 < s.size
  · have hs' : (1000 : Int) < (s.size : Int) := by omega
    go_enter Try.func4, Try.ntmps4
    go_wp2_with fail
    refine (live_any _).mono ?_; rintro e w1 ⟨rfl, h1⟩
    have H1 := Lib.hid (blGo (Below.refl w.heap.size w) h1)
    clear h1
    go_wp2
    go_ret
    exact ⟨rfl, H1.out⟩
  · have hs' : ¬ (1000 : Int) < (s.size : Int) := by omega
    have c1 := fun w => fromKey_any s w
    have c2 := fun w => rfromKey_any s w
    have c3 := fun w => key_any n hn w
    have c4 := fun w => rkey_any n hn w
    have c5 := fun w => fromKey_any ⟨(be8 (rkN n)).toArray⟩ w
    have c6 := fun w => rright_any n hn w
    have e1 : fkN (be8 (rkN n)).toArray.toList = rtN n := (fk_key n hn).1
    have e2 : fkE (be8 (rkN n)).toArray.toList = 0 := (fk_key n hn).2
    change ∀ w, Calls _ _ _ w fun e w' => e = .returned (.tuple #[.int .u64 ((fkN (be8 (rkN n)).toArray.toList : Nat) : Int), .int .i64 (fkE (be8 (rkN n)).toArray.toList)]) ∧ w = w' at c5
    rw [e1, e2] at c5
    clear e1 e2
    generalize fkN s.data.toList = x1 at *
    generalize fkE s.data.toList = x2 at *
    generalize (⟨(be8 (rkN n)).toArray⟩ : ByteArray) = k at *
    generalize rtN n = x3 at *
    go_enter Try.func4, Try.ntmps4
    go_wp2_with fail
    refine (c1 _).mono ?_; rintro e w' ⟨rfl, rfl⟩
    go_wp2_with fail
    refine (c2 _).mono ?_; rintro e w' ⟨rfl, rfl⟩
    go_wp2_with fail
    refine (c3 _).mono ?_; rintro e w1 ⟨rfl, h1⟩
    have H1 := Lib.hid (blGo (Below.refl w.heap.size w) h1)
    clear h1
    go_wp2_with fail
    refine (c4 _).mono ?_; rintro e w2 ⟨rfl, h2⟩
    have H2 := Lib.hid (blGo (H1.out) h2)
    clear h2
    go_wp2_with fail
    refine (c3 _).mono ?_; rintro e w3 ⟨rfl, h3⟩
    have H3 := Lib.hid (blGo (H2.out) h3)
    clear h3
    go_wp2_with fail
    refine (c5 _).mono ?_; rintro e w' ⟨rfl, rfl⟩
    go_wp2_with fail
    refine (c6 _).mono ?_; rintro e w' ⟨rfl, rfl⟩
    go_wp2_with fail
    refine (live_any _).mono ?_; rintro e w4 ⟨rfl, h4⟩
    have H4 := Lib.hid (blGo (H3.out) h4)
    clear h4
    go_wp2
    go_ret
    exact ⟨rfl, H4.out⟩

set_option maxRecDepth 100000 in
theorem numKeys_lifted (os : Os) (started : os.Started) (H : Type) (enc : TypeId × Value → H) :
    ReturnsInHanded {} Try.checked os 4 .any (Rows.numKeysSpec.pre6 enc Try.prog Try.f4 Rows.numKeysRow.domain false) (Rows.numKeysSpec.post enc Try.prog Try.f4 false true false false) := by
  refine law_lift (C := Try.checked) own0 started (by kernel_rfl) Try.func4 laid0 rfl (by kernel_rfl) (fun _ _ _ _ => trodAll_mk1 (shut_bool Try.underlying4 true)) (fun ds h => match ds, h with | [_, _], _ => ⟨rfl, rfl, rfl⟩)
    (ChangeSpec.witness6 (enc := enc) (C := Try.checked) false ⟨#[], #[.int .u64 0, .string { data := #[] }], []⟩ 8 (by kernel_rfl) (by kernel_rfl) (by kernel_rfl) (by kernel_rfl)) ?_
  intro W base args ds before hval0 hA0 hlt
  have hval : ∀ (j : Nat) t v, Try.f4.params[j]? = some t → args[j]? = some v → Value.okWide Try.prog W .any base t v := hval0
  have hA : DataW.TrodAll enc Try.prog W 0 (fun _ => true) true Try.f4.params.toList args.toList ds before := hA0
  rw [Try.params4] at hA hval
  obtain ⟨v0, v1, d0, d1, p0, p1, rfl, rfl, rfl, h0, h1⟩ := trodAll_two hA
  obtain ⟨ni, rfl, rfl, rfl, wn⟩ := open_int Try.underlying23 (hval 0 23 v0 rfl rfl) h0
  obtain ⟨n, hn, rfl⟩ := nat_of wn
  obtain ⟨s, rfl, rfl, rfl, ws⟩ := ChangeMaps.open_string Try.underlying9 (hval 1 9 v1 rfl rfl) h1
  exact numKeys_walk n s hn W

theorem numKeys_holds : Rows.NumKeysSaid :=
  OpenClaim.holds_of_wide 4 Try.f4 rfl rfl rfl rfl rfl rfl rfl ⟨rfl, rfl, rfl, rfl, rfl⟩ rfl rfl rfl rfl rfl (by kernel_rfl) Try.func4 (by kernel_rfl)
    (of_decide_eq_true (by kernel_rfl)) (by unfold Func.isWrapper; rw [if_neg (of_decide_eq_false (by kernel_rfl))]; exact ⟨rfl, rfl⟩)
    (fun os started H enc _ => numKeys_lifted os started H enc)

#print axioms numKeys_holds

end Go.Proofs.Ytmhgjijpilhcdaa
