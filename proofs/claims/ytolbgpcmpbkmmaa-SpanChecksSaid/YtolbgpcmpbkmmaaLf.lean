/- SpanChecks: whether a text may be a key, spans may be asked for, what a key's point is; whatever the text and the spans, the law returns true and leaves its arguments as they were. Conditions: none. -/
import Derived.Test.YtolbgpcmpbkmmaaKw
set_option linter.unusedVariables false
set_option linter.unusedSimpArgs false
namespace Go.Proofs.Ytolbgpcmpbkmmaa
open Go.ChangeShapes Go.WideShapes Go.ChangeAt Go.RowKit Go.Joins Go.Deep

set_option maxRecDepth 100000 in
set_option maxHeartbeats 8000000 in
theorem spanChecks_walk (k : ByteArray) (va : Value) (la : List Sp) (w : World) (hsa : Sl w va la) (hla : la.length ≤ 9223372036854775807) :
    Calls Try.prog 3 #[.string k, va] w fun e w' => e = .returned (.bool true) ∧ Below w.heap.size w w' := by
  obtain ⟨aa, ca, rfl⟩ := hsa.form
  have HSa := Lib.hid hsa
  have HLa := Lib.hid hla
  have HB := Lib.hid (Below.refl w.heap.size w)
  clear hsa hla
  go_enter Try.func3, Try.ntmps3
  go_wp2
  go_loopw [5, 6] (fun n i wr => ∃ (m : Int) (j : Nat), n = .int .i64 m ∧ j ≤ la.length ∧ j ≤ 101 ∧ i = .int .i64 j ∧ Below w.heap.size w wr) (fun _ i _ => 101 - (intOf i).toNat)
  case atStart => exact ⟨0, 0, rfl, Nat.zero_le _, Nat.zero_le _, rfl, Below.refl _ _⟩
  case round =>
    obtain ⟨m, j, rfl, hj, hj9, rfl, hb⟩ := hrel
    replace HB := Lib.hid hb
    by_cases hlt : j < la.length
    · by_cases h100 : j ≤ 100
      · obtain ⟨s, hs⟩ := at_lt hlt
        obtain ⟨g, o, rfl, hg, c0, c1⟩ := HSa.out.at hs
        replace c0 := cell_in hb hg c0
        replace c1 := cell_in hb hg c1
        have hgw := Nat.lt_of_lt_of_le hg hb.size
        have hj0 : (0 : Int) ≤ (j : Int) := by omega
        have hj1 : (j : Int) < (la.length : Int) := by omega
        have hj2 : (j : Int) ≤ 100 := by omega
        have hd1 : decide ((j : Int) < (la.length : Int)) = true := decide_eq_true hj1
        have hd2 : decide ((j : Int) ≤ 100) = true := decide_eq_true hj2
        clear hs hb
        go_wp2
        go_quiet (fail)
        go_wp2
        go_roundw
        case rel => exact ⟨_, j + 1, rfl, hlt, by omega, by go_num, HB.out.trans ⟨rfl, rfl, rfl, Nat.le_refl _, fun _ _ => rfl⟩⟩
        case measure => simp [intOf]; omega
      · have hj1 : (j : Int) < (la.length : Int) := by omega
        have hj2 : ¬ (j : Int) ≤ 100 := by omega
        have hd1 : decide ((j : Int) < (la.length : Int)) = true := decide_eq_true hj1
        have hd2 : decide ((j : Int) ≤ 100) = false := decide_eq_false hj2
        have hl : (100 : Int) < (la.length : Int) := by omega
        have hd3 : decide ((100 : Int) < (la.length : Int)) = true := decide_eq_true hl
        clear hb
        by_cases hk : 4000 < k.size
        · have hkI : (4000 : Int) < (k.size : Int) := by omega
          have hd4 : decide ((4000 : Int) < (k.size : Int)) = true := decide_eq_true hkI
          go_wp2_with fail
          refine (live_any _).mono ?_
          rintro e _ ⟨rfl, hb⟩
          go_wp2
          go_ret
          exact ⟨rfl, blThen HB.out hb⟩
        · have hkI : ¬ (4000 : Int) < (k.size : Int) := by omega
          have hd4 : decide ((4000 : Int) < (k.size : Int)) = false := decide_eq_false hkI
          go_wp2_with fail
          refine (live_any _).mono ?_
          rintro e _ ⟨rfl, hb⟩
          go_wp2
          go_ret
          exact ⟨rfl, blThen HB.out hb⟩
    · have hj1 : ¬ (j : Int) < (la.length : Int) := by omega
      have hd1 : decide ((j : Int) < (la.length : Int)) = false := decide_eq_false hj1
      replace HSa := Lib.hid (HSa.out.later hb)
      clear hb
      by_cases hk : 4000 < k.size
      · have hkI : (4000 : Int) < (k.size : Int) := by omega
        have hd4 : decide ((4000 : Int) < (k.size : Int)) = true := decide_eq_true hkI
        go_wp2_with fail
        refine (live_any _).mono ?_
        rintro e _ ⟨rfl, hb⟩
        go_wp2
        go_ret
        exact ⟨rfl, blThen HB.out hb⟩
      · have hkI : ¬ (4000 : Int) < (k.size : Int) := by omega
        have hd4 : decide ((4000 : Int) < (k.size : Int)) = false := decide_eq_false hkI
        by_cases hl : 100 < la.length
        · have hlI : (100 : Int) < (la.length : Int) := by omega
          have hd3 : decide ((100 : Int) < (la.length : Int)) = true := decide_eq_true hlI
          go_wp2_with fail
          refine (live_any _).mono ?_
          rintro e _ ⟨rfl, hb⟩
          go_wp2
          go_ret
          exact ⟨rfl, blThen HB.out hb⟩
        · have hlI : ¬ (100 : Int) < (la.length : Int) := by omega
          have hd3 : decide ((100 : Int) < (la.length : Int)) = false := decide_eq_false hlI
          by_cases hm : 4000 < m
          · have hd5 : decide ((4000 : Int) < m) = true := decide_eq_true hm
            go_wp2_with fail
            refine (live_any _).mono ?_
            rintro e _ ⟨rfl, hb⟩
            go_wp2
            go_ret
            exact ⟨rfl, blThen HB.out hb⟩
          · have hd5 : decide ((4000 : Int) < m) = false := decide_eq_false hm
            have LA : Hid (la.length ≤ 1000000) := Nat.le_trans (Nat.le_of_not_lt hl) (by decide)
            have LK : Hid (k.size ≤ 1000000000) := Nat.le_trans (Nat.le_of_not_lt hk) (by decide)
            have hkw : (k.size : Int) + 1 ≤ 9223372036854775807 := by omega
            cases hkb : keyB k
            · have HKB := Lib.hid hkb
              clear hkb
              go_wp2_with fail
              refine (key_any k _).mono ?_
              rintro e _ ⟨rfl, rfl⟩
              rw [HKB.out]
              try simp only [if_true, if_false, Bool.false_eq_true]
              go_wp2_with fail
              refine (num_any _ _).mono ?_
              rintro e _ ⟨rfl, rfl⟩
              go_wp2_with fail
              refine (refkey_any k _).mono ?_
              rintro e _ ⟨rfl, rfl⟩
              rw [HKB.out]
              go_wp2_with fail
              refine (own_any _ la _ LA.out HSa.out).mono ?_
              rintro e _ ⟨_, rfl, ho, hb⟩
              obtain ⟨a_p, c_p, rfl⟩ := ho.form
              replace HB := Lib.hid (blThen HB.out hb)
              replace HSa := Lib.hid (HSa.out.later hb)
              clear hb
              have HSp := Lib.hid ho.sl
              clear ho
              go_wp2_with fail
              refine (check_any _ la _ LA.out HSp.out).mono ?_
              rintro e _ ⟨rfl, hb⟩
              replace HB := Lib.hid (blThen HB.out hb)
              replace HSa := Lib.hid (HSa.out.later hb)
              replace HSp := Lib.hid (HSp.out.later hb)
              clear hb
              go_wp2_with fail
              refine (num_any _ _).mono ?_
              rintro e _ ⟨rfl, rfl⟩
              go_wp2_with fail
              refine (refcheck_any _ la _ LA.out HSa.out).mono ?_
              rintro e _ ⟨rfl, hb⟩
              replace HB := Lib.hid (blThen HB.out hb)
              replace HSa := Lib.hid (HSa.out.later hb)
              replace HSp := Lib.hid (HSp.out.later hb)
              clear hb
              go_wp2_with fail
              refine (point_any k _ LK.out).mono ?_
              rintro e _ ⟨rfl, hb⟩
              replace HB := Lib.hid (blThen HB.out hb)
              replace HSa := Lib.hid (HSa.out.later hb)
              replace HSp := Lib.hid (HSp.out.later hb)
              clear hb
              go_wp2_with fail
              refine (live_any _).mono ?_
              rintro e _ ⟨rfl, hb⟩
              go_wp2
              go_ret
              exact ⟨rfl, blThen HB.out hb⟩
            · have HKB := Lib.hid hkb
              clear hkb
              go_wp2_with fail
              refine (key_any k _).mono ?_
              rintro e _ ⟨rfl, rfl⟩
              rw [HKB.out]
              try simp only [if_true, if_false, Bool.false_eq_true]
              go_wp2_with fail
              refine (num_any _ _).mono ?_
              rintro e _ ⟨rfl, rfl⟩
              go_wp2_with fail
              refine (refkey_any k _).mono ?_
              rintro e _ ⟨rfl, rfl⟩
              rw [HKB.out]
              go_wp2_with fail
              refine (own_any _ la _ LA.out HSa.out).mono ?_
              rintro e _ ⟨_, rfl, ho, hb⟩
              obtain ⟨a_p, c_p, rfl⟩ := ho.form
              replace HB := Lib.hid (blThen HB.out hb)
              replace HSa := Lib.hid (HSa.out.later hb)
              clear hb
              have HSp := Lib.hid ho.sl
              clear ho
              go_wp2_with fail
              refine (check_any _ la _ LA.out HSp.out).mono ?_
              rintro e _ ⟨rfl, hb⟩
              replace HB := Lib.hid (blThen HB.out hb)
              replace HSa := Lib.hid (HSa.out.later hb)
              replace HSp := Lib.hid (HSp.out.later hb)
              clear hb
              go_wp2_with fail
              refine (num_any _ _).mono ?_
              rintro e _ ⟨rfl, rfl⟩
              go_wp2_with fail
              refine (refcheck_any _ la _ LA.out HSa.out).mono ?_
              rintro e _ ⟨rfl, hb⟩
              replace HB := Lib.hid (blThen HB.out hb)
              replace HSa := Lib.hid (HSa.out.later hb)
              replace HSp := Lib.hid (HSp.out.later hb)
              clear hb
              go_wp2_with fail
              refine (point_any k _ LK.out).mono ?_
              rintro e _ ⟨rfl, hb⟩
              replace HB := Lib.hid (blThen HB.out hb)
              replace HSa := Lib.hid (HSa.out.later hb)
              replace HSp := Lib.hid (HSp.out.later hb)
              clear hb
              go_wp2_with fail
              refine (live_any _).mono ?_
              rintro e _ ⟨rfl, hb⟩
              go_wp2
              go_ret
              exact ⟨rfl, blThen HB.out hb⟩

set_option maxRecDepth 100000 in
theorem spanChecks_lifted (os : Os) (started : os.Started) (H : Type) (enc : TypeId × Value → H) :
    ReturnsInHanded {} Try.checked os 3 .any (Rows.spanChecksSpec.pre6 enc Try.prog Try.f3 Rows.spanChecksRow.domain false) (Rows.spanChecksSpec.post enc Try.prog Try.f3 false true false false) := by
  refine law_lift (C := Try.checked) own0 started (by kernel_rfl) Try.func3 laid0 rfl (by kernel_rfl) (fun _ _ _ _ => trodAll_mk1 (shut_bool Try.underlying4 true)) (fun ds h => match ds, h with | [_, _], _ => ⟨rfl, rfl, rfl⟩)
    (ChangeSpec.witness6 (enc := enc) (C := Try.checked) false ⟨#[], #[.string ⟨#[]⟩, .slice none 0 0], []⟩ 8 (by kernel_rfl) (by kernel_rfl) (by kernel_rfl) (by kernel_rfl)) ?_
  intro W base args ds before hval0 hA0 hlt
  have hval : ∀ (j : Nat) t v, Try.f3.params[j]? = some t → args[j]? = some v → Value.okWide Try.prog W .any base t v := hval0
  have hA : DataW.TrodAll enc Try.prog W 0 (fun _ => true) true Try.f3.params.toList args.toList ds before := hA0
  rw [Try.params3] at hA hval
  obtain ⟨v0, v1, d0, d1, p0, p1, rfl, rfl, rfl, h0, h1⟩ := trodAll_two hA
  obtain ⟨k, rfl, rfl, rfl, hs0⟩ := Go.ChangeMaps.open_string Try.underlying9 (hval 0 9 v0 rfl rfl) h0
  obtain ⟨la, hs1, hl1⟩ := open_spans (hval 1 22 v1 rfl rfl) h1
  exact spanChecks_walk k _ la W hs1 hl1

theorem spanChecks_holds : Rows.SpanChecksSaid :=
  OpenClaim.holds_of_wide 3 Try.f3 rfl rfl rfl rfl rfl rfl rfl ⟨rfl, rfl, rfl, rfl, rfl⟩ rfl rfl rfl rfl rfl (by kernel_rfl) Try.func3 (by kernel_rfl)
    (of_decide_eq_true (by kernel_rfl)) (by unfold Func.isWrapper; rw [if_neg (of_decide_eq_false (by kernel_rfl))]; exact ⟨rfl, rfl⟩)
    (fun os started H enc _ => spanChecks_lifted os started H enc)

#print axioms spanChecks_holds

end Go.Proofs.Ytolbgpcmpbkmmaa
