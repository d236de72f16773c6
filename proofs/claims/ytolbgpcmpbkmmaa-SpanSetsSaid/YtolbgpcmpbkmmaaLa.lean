/- SpanSets: the stage's theorem: the set of all, of both, of one alone, as the reference says; whatever the spans, the law returns true and leaves its arguments as they were. Conditions: none. -/
import Derived.Test.YtolbgpcmpbkmmaaKw
set_option linter.unusedVariables false
set_option linter.unusedSimpArgs false
namespace Go.Proofs.Ytolbgpcmpbkmmaa
open Go.ChangeShapes Go.WideShapes Go.ChangeAt Go.RowKit Go.Joins Go.Deep

set_option maxRecDepth 100000 in
set_option maxHeartbeats 4000000 in
theorem spanSets_walk (va vb : Value) (la lb : List Sp) (k : ByteArray) (w : World) (hsa : Sl w va la) (hsb : Sl w vb lb) (hla : la.length ≤ 9223372036854775807) (hlb : lb.length ≤ 9223372036854775807) :
    Calls Try.prog 4 #[va, vb, .string k] w fun e w' => e = .returned (.bool true) ∧ Below w.heap.size w w' := by
  obtain ⟨aa, ca, rfl⟩ := hsa.form
  obtain ⟨ab, cb, rfl⟩ := hsb.form
  have HSa := Lib.hid hsa
  have HSb := Lib.hid hsb
  have HLa := Lib.hid hla
  have HLb := Lib.hid hlb
  have HB := Lib.hid (Below.refl w.heap.size w)
  clear hsa hsb hla hlb
  go_enter Try.func4, Try.ntmps4
  go_wp2_with fail
  refine (small_any _ la _ HSa.out HLa.out).mono ?_
  rintro e _ ⟨b, rfl, h30, hb⟩
  replace HB := Lib.hid (blThen HB.out hb)
  replace HSa := Lib.hid (HSa.out.later hb)
  replace HSb := Lib.hid (HSb.out.later hb)
  clear hb
  cases b
  · go_wp2_with fail
    refine (live_any _).mono ?_
    rintro e _ ⟨rfl, hb⟩
    go_wp2
    go_ret
    exact ⟨rfl, blThen HB.out hb⟩
  replace HLa := Lib.hid (h30 rfl)
  clear h30
  go_wp2_with fail
  refine (small_any _ lb _ HSb.out HLb.out).mono ?_
  rintro e _ ⟨b, rfl, h30, hb⟩
  replace HB := Lib.hid (blThen HB.out hb)
  replace HSa := Lib.hid (HSa.out.later hb)
  replace HSb := Lib.hid (HSb.out.later hb)
  clear hb
  cases b
  · go_wp2_with fail
    refine (live_any _).mono ?_
    rintro e _ ⟨rfl, hb⟩
    go_wp2
    go_ret
    exact ⟨rfl, blThen HB.out hb⟩
  replace HLb := Lib.hid (h30 rfl)
  clear h30
  by_cases hk : 4000 < k.size
  · have hkI : (4000 : Int) < (k.size : Int) := by omega
    have hd : decide ((4000 : Int) < (k.size : Int)) = true := decide_eq_true hkI
    go_wp2_with fail
    refine (live_any _).mono ?_
    rintro e _ ⟨rfl, hb⟩
    go_wp2
    go_ret
    exact ⟨rfl, blThen HB.out hb⟩
  have hkI : ¬ (4000 : Int) < (k.size : Int) := by omega
  have hd : decide ((4000 : Int) < (k.size : Int)) = false := decide_eq_false hkI
  have HX := Lib.hid (Nat.le_trans (uniL_len la) HLa.out)
  have HY := Lib.hid (Nat.le_trans (uniL_len lb) HLb.out)
  have HC := Lib.hid (setL_len 1 (uniL la) (uniL lb))
  have HD := Lib.hid (setL_len 2 (uniL la) (uniL lb))
  have LX : Hid ((uniL la).length ≤ 300000) := Nat.le_trans HX.out (by decide)
  have LY : Hid ((uniL lb).length ≤ 300000) := Nat.le_trans HY.out (by decide)
  have MX : Hid ((uniL la).length ≤ 900000) := Nat.le_trans HX.out (by decide)
  have MY : Hid ((uniL lb).length ≤ 900000) := Nat.le_trans HY.out (by decide)
  have NX : Hid ((uniL la).length ≤ 1000000) := Nat.le_trans HX.out (by decide)
  have NY : Hid ((uniL lb).length ≤ 1000000) := Nat.le_trans HY.out (by decide)
  have NC : Hid ((setL 1 (uniL la) (uniL lb)).length ≤ 1000000) := Nat.le_trans HC.out (by have := HX.out; have := HY.out; omega)
  have ND : Hid ((setL 2 (uniL la) (uniL lb)).length ≤ 1000000) := Nat.le_trans HD.out (by have := HX.out; have := HY.out; omega)
  have SAME : ∀ l : List Sp, sameB l l = true := fun l => by simp [sameB]
  go_wp2_with fail
  refine (refunion_any _ la _ (Nat.le_trans HLa.out (by decide)) HSa.out).mono ?_
  rintro e _ ⟨_, rfl, ho, hb⟩
  obtain ⟨a_x, c_x, rfl⟩ := ho.form
  replace HB := Lib.hid (blThen HB.out hb)
  replace HSa := Lib.hid (HSa.out.later hb)
  replace HSb := Lib.hid (HSb.out.later hb)
  clear hb
  have HSx := Lib.hid ho.sl
  clear ho
  go_wp2_with fail
  refine (refunion_any _ lb _ (Nat.le_trans HLb.out (by decide)) HSb.out).mono ?_
  rintro e _ ⟨_, rfl, ho, hb⟩
  obtain ⟨a_y, c_y, rfl⟩ := ho.form
  replace HB := Lib.hid (blThen HB.out hb)
  replace HSa := Lib.hid (HSa.out.later hb)
  replace HSb := Lib.hid (HSb.out.later hb)
  replace HSx := Lib.hid (HSx.out.later hb)
  clear hb
  have HSy := Lib.hid ho.sl
  clear ho
  go_wp2_with fail
  refine (own_any _ la _ (Nat.le_trans HLa.out (by decide)) HSa.out).mono ?_
  rintro e _ ⟨_, rfl, ho, hb⟩
  obtain ⟨a_p, c_p, rfl⟩ := ho.form
  replace HB := Lib.hid (blThen HB.out hb)
  replace HSa := Lib.hid (HSa.out.later hb)
  replace HSb := Lib.hid (HSb.out.later hb)
  replace HSx := Lib.hid (HSx.out.later hb)
  replace HSy := Lib.hid (HSy.out.later hb)
  clear hb
  have HSp := Lib.hid ho.sl
  clear ho
  go_wp2_with fail
  refine (union_any _ la _ (Nat.le_trans HLa.out (by decide)) HSp.out).mono ?_
  rintro e _ ⟨_, rfl, ho, hb⟩
  obtain ⟨a_q, c_q, rfl⟩ := ho.form
  replace HB := Lib.hid (blThen HB.out hb)
  replace HSa := Lib.hid (HSa.out.later hb)
  replace HSb := Lib.hid (HSb.out.later hb)
  replace HSx := Lib.hid (HSx.out.later hb)
  replace HSy := Lib.hid (HSy.out.later hb)
  replace HSp := Lib.hid (HSp.out.later hb)
  clear hb
  have HSq := Lib.hid ho.sl
  clear ho
  go_wp2_with fail
  refine (same_any _ _ (uniL la) (uniL la) _ NX.out NX.out HSq.out HSx.out).mono ?_
  rintro e _ ⟨rfl, hb⟩
  replace HB := Lib.hid (blThen HB.out hb)
  replace HSa := Lib.hid (HSa.out.later hb)
  replace HSb := Lib.hid (HSb.out.later hb)
  replace HSx := Lib.hid (HSx.out.later hb)
  replace HSy := Lib.hid (HSy.out.later hb)
  replace HSp := Lib.hid (HSp.out.later hb)
  replace HSq := Lib.hid (HSq.out.later hb)
  clear hb
  rw [SAME]
  clear HSp
  clear HSq
  clear HSa
  clear HSb
  go_wp2_with fail
  refine (own_any _ (uniL la) _ NX.out HSx.out).mono ?_
  rintro e _ ⟨_, rfl, ho, hb⟩
  obtain ⟨a_p, c_p, rfl⟩ := ho.form
  replace HB := Lib.hid (blThen HB.out hb)
  replace HSx := Lib.hid (HSx.out.later hb)
  replace HSy := Lib.hid (HSy.out.later hb)
  clear hb
  have HSp := Lib.hid ho.sl
  clear ho
  go_wp2_with fail
  refine (own_any _ (uniL lb) _ NY.out HSy.out).mono ?_
  rintro e _ ⟨_, rfl, ho, hb⟩
  obtain ⟨a_q, c_q, rfl⟩ := ho.form
  replace HB := Lib.hid (blThen HB.out hb)
  replace HSx := Lib.hid (HSx.out.later hb)
  replace HSy := Lib.hid (HSy.out.later hb)
  replace HSp := Lib.hid (HSp.out.later hb)
  clear hb
  have HSq := Lib.hid ho.sl
  clear ho
  go_wp2_with fail
  refine (cut_any' _ _ (uniL la) (uniL lb) _ NX.out NY.out HSp.out HSq.out (uniL_set _) (uniL_set _)).mono ?_
  rintro e _ ⟨_, rfl, ho, hb⟩
  obtain ⟨a_r, c_r, rfl⟩ := ho.form
  replace HB := Lib.hid (blThen HB.out hb)
  replace HSx := Lib.hid (HSx.out.later hb)
  replace HSy := Lib.hid (HSy.out.later hb)
  replace HSp := Lib.hid (HSp.out.later hb)
  replace HSq := Lib.hid (HSq.out.later hb)
  clear hb
  have HSr := Lib.hid ho.sl
  clear ho
  go_wp2_with fail
  refine (refcut_any _ _ (uniL la) (uniL lb) _ LX.out LY.out HSx.out HSy.out).mono ?_
  rintro e _ ⟨_, rfl, ho, hb⟩
  obtain ⟨a_s, c_s, rfl⟩ := ho.form
  replace HB := Lib.hid (blThen HB.out hb)
  replace HSx := Lib.hid (HSx.out.later hb)
  replace HSy := Lib.hid (HSy.out.later hb)
  replace HSp := Lib.hid (HSp.out.later hb)
  replace HSq := Lib.hid (HSq.out.later hb)
  replace HSr := Lib.hid (HSr.out.later hb)
  clear hb
  have HSs := Lib.hid ho.sl
  clear ho
  go_wp2_with fail
  refine (same_any _ _ (setL 1 (uniL la) (uniL lb)) (setL 1 (uniL la) (uniL lb)) _ NC.out NC.out HSr.out HSs.out).mono ?_
  rintro e _ ⟨rfl, hb⟩
  replace HB := Lib.hid (blThen HB.out hb)
  replace HSx := Lib.hid (HSx.out.later hb)
  replace HSy := Lib.hid (HSy.out.later hb)
  replace HSp := Lib.hid (HSp.out.later hb)
  replace HSq := Lib.hid (HSq.out.later hb)
  replace HSr := Lib.hid (HSr.out.later hb)
  replace HSs := Lib.hid (HSs.out.later hb)
  clear hb
  rw [SAME]
  clear HSp
  clear HSq
  clear HSr
  clear HSs
  go_wp2_with fail
  refine (own_any _ (uniL la) _ NX.out HSx.out).mono ?_
  rintro e _ ⟨_, rfl, ho, hb⟩
  obtain ⟨a_p, c_p, rfl⟩ := ho.form
  replace HB := Lib.hid (blThen HB.out hb)
  replace HSx := Lib.hid (HSx.out.later hb)
  replace HSy := Lib.hid (HSy.out.later hb)
  clear hb
  have HSp := Lib.hid ho.sl
  clear ho
  go_wp2_with fail
  refine (own_any _ (uniL lb) _ NY.out HSy.out).mono ?_
  rintro e _ ⟨_, rfl, ho, hb⟩
  obtain ⟨a_q, c_q, rfl⟩ := ho.form
  replace HB := Lib.hid (blThen HB.out hb)
  replace HSx := Lib.hid (HSx.out.later hb)
  replace HSy := Lib.hid (HSy.out.later hb)
  replace HSp := Lib.hid (HSp.out.later hb)
  clear hb
  have HSq := Lib.hid ho.sl
  clear ho
  go_wp2_with fail
  refine (less_any' _ _ (uniL la) (uniL lb) _ NX.out MY.out HSp.out HSq.out (uniL_set _) (uniL_set _)).mono ?_
  rintro e _ ⟨_, rfl, ho, hb⟩
  obtain ⟨a_r, c_r, rfl⟩ := ho.form
  replace HB := Lib.hid (blThen HB.out hb)
  replace HSx := Lib.hid (HSx.out.later hb)
  replace HSy := Lib.hid (HSy.out.later hb)
  replace HSp := Lib.hid (HSp.out.later hb)
  replace HSq := Lib.hid (HSq.out.later hb)
  clear hb
  have HSr := Lib.hid ho.sl
  clear ho
  go_wp2_with fail
  refine (refless_any _ _ (uniL la) (uniL lb) _ LX.out LY.out HSx.out HSy.out).mono ?_
  rintro e _ ⟨_, rfl, ho, hb⟩
  obtain ⟨a_s, c_s, rfl⟩ := ho.form
  replace HB := Lib.hid (blThen HB.out hb)
  replace HSx := Lib.hid (HSx.out.later hb)
  replace HSy := Lib.hid (HSy.out.later hb)
  replace HSp := Lib.hid (HSp.out.later hb)
  replace HSq := Lib.hid (HSq.out.later hb)
  replace HSr := Lib.hid (HSr.out.later hb)
  clear hb
  have HSs := Lib.hid ho.sl
  clear ho
  go_wp2_with fail
  refine (same_any _ _ (setL 2 (uniL la) (uniL lb)) (setL 2 (uniL la) (uniL lb)) _ ND.out ND.out HSr.out HSs.out).mono ?_
  rintro e _ ⟨rfl, hb⟩
  replace HB := Lib.hid (blThen HB.out hb)
  replace HSx := Lib.hid (HSx.out.later hb)
  replace HSy := Lib.hid (HSy.out.later hb)
  replace HSp := Lib.hid (HSp.out.later hb)
  replace HSq := Lib.hid (HSq.out.later hb)
  replace HSr := Lib.hid (HSr.out.later hb)
  replace HSs := Lib.hid (HSs.out.later hb)
  clear hb
  rw [SAME]
  clear HSp
  clear HSq
  clear HSr
  clear HSs
  go_wp2_with fail
  refine (own_any _ (uniL la) _ NX.out HSx.out).mono ?_
  rintro e _ ⟨_, rfl, ho, hb⟩
  obtain ⟨a_p, c_p, rfl⟩ := ho.form
  replace HB := Lib.hid (blThen HB.out hb)
  replace HSx := Lib.hid (HSx.out.later hb)
  replace HSy := Lib.hid (HSy.out.later hb)
  clear hb
  have HSp := Lib.hid ho.sl
  clear ho
  go_wp2_with fail
  refine (has_any _ (uniL la) k _ NX.out HSp.out (uniL_set _)).mono ?_
  rintro e _ ⟨rfl, hb⟩
  replace HB := Lib.hid (blThen HB.out hb)
  replace HSx := Lib.hid (HSx.out.later hb)
  replace HSy := Lib.hid (HSy.out.later hb)
  replace HSp := Lib.hid (HSp.out.later hb)
  clear hb
  go_wp2_with fail
  refine (refhas_any _ (uniL la) k _ NX.out HSx.out).mono ?_
  rintro e _ ⟨rfl, hb⟩
  replace HB := Lib.hid (blThen HB.out hb)
  replace HSx := Lib.hid (HSx.out.later hb)
  replace HSy := Lib.hid (HSy.out.later hb)
  replace HSp := Lib.hid (HSp.out.later hb)
  clear hb
  clear HSp
  have HKK : Hid ((memL (uniL la) k == memL (uniL la) k) = true) := by show _ = _; simp
  generalize memL (uniL la) k = m at *
  cases m
  · go_wp2_with fail
    refine (own_any _ (uniL la) _ NX.out HSx.out).mono ?_
    rintro e _ ⟨_, rfl, ho, hb⟩
    obtain ⟨a_p, c_p, rfl⟩ := ho.form
    replace HB := Lib.hid (blThen HB.out hb)
    replace HSx := Lib.hid (HSx.out.later hb)
    replace HSy := Lib.hid (HSy.out.later hb)
    clear hb
    have HSp := Lib.hid ho.sl
    clear ho
    go_wp2_with fail
    refine (own_any _ (uniL lb) _ NY.out HSy.out).mono ?_
    rintro e _ ⟨_, rfl, ho, hb⟩
    obtain ⟨a_q, c_q, rfl⟩ := ho.form
    replace HB := Lib.hid (blThen HB.out hb)
    replace HSx := Lib.hid (HSx.out.later hb)
    replace HSy := Lib.hid (HSy.out.later hb)
    replace HSp := Lib.hid (HSp.out.later hb)
    clear hb
    have HSq := Lib.hid ho.sl
    clear ho
    go_wp2_with fail
    refine (meet_any' _ _ (uniL la) (uniL lb) _ NX.out NY.out HSp.out HSq.out (uniL_set _) (uniL_set _)).mono ?_
    rintro e _ ⟨rfl, hb⟩
    replace HB := Lib.hid (blThen HB.out hb)
    replace HSx := Lib.hid (HSx.out.later hb)
    replace HSy := Lib.hid (HSy.out.later hb)
    replace HSp := Lib.hid (HSp.out.later hb)
    replace HSq := Lib.hid (HSq.out.later hb)
    clear hb
    go_wp2_with fail
    refine (refcut_any _ _ (uniL la) (uniL lb) _ LX.out LY.out HSx.out HSy.out).mono ?_
    rintro e _ ⟨_, rfl, ho, hb⟩
    obtain ⟨a_s, c_s, rfl⟩ := ho.form
    replace HB := Lib.hid (blThen HB.out hb)
    replace HSx := Lib.hid (HSx.out.later hb)
    replace HSy := Lib.hid (HSy.out.later hb)
    replace HSp := Lib.hid (HSp.out.later hb)
    replace HSq := Lib.hid (HSq.out.later hb)
    clear hb
    have HSs := Lib.hid ho.sl
    clear ho
    by_cases he : setL 1 (uniL la) (uniL lb) = []
    · rw [he]
      go_wp2_with fail
      refine (live_any _).mono ?_
      rintro e _ ⟨rfl, hb⟩
      go_wp2
      go_ret
      exact ⟨rfl, blThen HB.out hb⟩
    · have hp : (0 : Int) < ((setL 1 (uniL la) (uniL lb)).length : Int) := by have := List.length_pos_iff.2 he; omega
      have hd0 : decide ((0 : Int) < ((setL 1 (uniL la) (uniL lb)).length : Int)) = true := decide_eq_true hp
      have hd1 : (setL 1 (uniL la) (uniL lb)).isEmpty = false := by simpa using he
      rw [hd1]
      go_wp2_with fail
      refine (live_any _).mono ?_
      rintro e _ ⟨rfl, hb⟩
      go_wp2
      go_ret
      exact ⟨rfl, blThen HB.out hb⟩
  · go_wp2_with fail
    refine (own_any _ (uniL la) _ NX.out HSx.out).mono ?_
    rintro e _ ⟨_, rfl, ho, hb⟩
    obtain ⟨a_p, c_p, rfl⟩ := ho.form
    replace HB := Lib.hid (blThen HB.out hb)
    replace HSx := Lib.hid (HSx.out.later hb)
    replace HSy := Lib.hid (HSy.out.later hb)
    clear hb
    have HSp := Lib.hid ho.sl
    clear ho
    go_wp2_with fail
    refine (own_any _ (uniL lb) _ NY.out HSy.out).mono ?_
    rintro e _ ⟨_, rfl, ho, hb⟩
    obtain ⟨a_q, c_q, rfl⟩ := ho.form
    replace HB := Lib.hid (blThen HB.out hb)
    replace HSx := Lib.hid (HSx.out.later hb)
    replace HSy := Lib.hid (HSy.out.later hb)
    replace HSp := Lib.hid (HSp.out.later hb)
    clear hb
    have HSq := Lib.hid ho.sl
    clear ho
    go_wp2_with fail
    refine (meet_any' _ _ (uniL la) (uniL lb) _ NX.out NY.out HSp.out HSq.out (uniL_set _) (uniL_set _)).mono ?_
    rintro e _ ⟨rfl, hb⟩
    replace HB := Lib.hid (blThen HB.out hb)
    replace HSx := Lib.hid (HSx.out.later hb)
    replace HSy := Lib.hid (HSy.out.later hb)
    replace HSp := Lib.hid (HSp.out.later hb)
    replace HSq := Lib.hid (HSq.out.later hb)
    clear hb
    go_wp2_with fail
    refine (refcut_any _ _ (uniL la) (uniL lb) _ LX.out LY.out HSx.out HSy.out).mono ?_
    rintro e _ ⟨_, rfl, ho, hb⟩
    obtain ⟨a_s, c_s, rfl⟩ := ho.form
    replace HB := Lib.hid (blThen HB.out hb)
    replace HSx := Lib.hid (HSx.out.later hb)
    replace HSy := Lib.hid (HSy.out.later hb)
    replace HSp := Lib.hid (HSp.out.later hb)
    replace HSq := Lib.hid (HSq.out.later hb)
    clear hb
    have HSs := Lib.hid ho.sl
    clear ho
    by_cases he : setL 1 (uniL la) (uniL lb) = []
    · rw [he]
      go_wp2_with fail
      refine (live_any _).mono ?_
      rintro e _ ⟨rfl, hb⟩
      go_wp2
      go_ret
      exact ⟨rfl, blThen HB.out hb⟩
    · have hp : (0 : Int) < ((setL 1 (uniL la) (uniL lb)).length : Int) := by have := List.length_pos_iff.2 he; omega
      have hd0 : decide ((0 : Int) < ((setL 1 (uniL la) (uniL lb)).length : Int)) = true := decide_eq_true hp
      have hd1 : (setL 1 (uniL la) (uniL lb)).isEmpty = false := by simpa using he
      rw [hd1]
      go_wp2_with fail
      refine (live_any _).mono ?_
      rintro e _ ⟨rfl, hb⟩
      go_wp2
      go_ret
      exact ⟨rfl, blThen HB.out hb⟩

set_option maxRecDepth 100000 in
theorem spanSets_lifted (os : Os) (started : os.Started) (H : Type) (enc : TypeId × Value → H) :
    ReturnsInHanded {} Try.checked os 4 .any (Rows.spanSetsSpec.pre6 enc Try.prog Try.f4 Rows.spanSetsRow.domain false) (Rows.spanSetsSpec.post enc Try.prog Try.f4 false true false false) := by
  refine law_lift (C := Try.checked) own0 started (by kernel_rfl) Try.func4 laid0 rfl (by kernel_rfl) (fun _ _ _ _ => trodAll_mk1 (shut_bool Try.underlying4 true)) (fun ds h => match ds, h with | [_, _, _], _ => ⟨rfl, rfl, rfl⟩)
    (ChangeSpec.witness6 (enc := enc) (C := Try.checked) false ⟨#[], #[.slice none 0 0, .slice none 0 0, .string ⟨#[]⟩], []⟩ 8 (by kernel_rfl) (by kernel_rfl) (by kernel_rfl) (by kernel_rfl)) ?_
  intro W base args ds before hval0 hA0 hlt
  have hval : ∀ (j : Nat) t v, Try.f4.params[j]? = some t → args[j]? = some v → Value.okWide Try.prog W .any base t v := hval0
  have hA : DataW.TrodAll enc Try.prog W 0 (fun _ => true) true Try.f4.params.toList args.toList ds before := hA0
  rw [Try.params4] at hA hval
  obtain ⟨v0, v1, v2, d0, d1, d2, p0, p1, p2, rfl, rfl, rfl, h0, h1, h2⟩ := trodAll_three hA
  obtain ⟨la, hs0, hl0⟩ := open_spans (hval 0 22 v0 rfl rfl) h0
  obtain ⟨lb, hs1, hl1⟩ := open_spans (hval 1 22 v1 rfl rfl) h1
  obtain ⟨k, rfl, rfl, rfl, hs2⟩ := Go.ChangeMaps.open_string Try.underlying9 (hval 2 9 v2 rfl rfl) h2
  exact spanSets_walk _ _ la lb k W hs0 hs1 hl0 hl1

theorem spanSets_holds : Rows.SpanSetsSaid :=
  OpenClaim.holds_of_wide 4 Try.f4 rfl rfl rfl rfl rfl rfl rfl ⟨rfl, rfl, rfl, rfl, rfl⟩ rfl rfl rfl rfl rfl (by kernel_rfl) Try.func4 (by kernel_rfl)
    (of_decide_eq_true (by kernel_rfl)) (by unfold Func.isWrapper; rw [if_neg (of_decide_eq_false (by kernel_rfl))]; exact ⟨rfl, rfl⟩)
    (fun os started H enc _ => spanSets_lifted os started H enc)

#print axioms spanSets_holds

end Go.Proofs.Ytolbgpcmpbkmmaa
