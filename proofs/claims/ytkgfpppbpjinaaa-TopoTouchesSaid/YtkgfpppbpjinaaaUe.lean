/- TopoTouches: the shards of two sets together are those of the one, and of the other; whatever the topology and the spans, the law returns true and leaves its arguments as they were. Conditions: none. -/
import Derived.Test.YtkgfpppbpjinaaaTr
set_option linter.unusedVariables false
set_option linter.unusedSimpArgs false
namespace Go.Proofs.Ytkgfpppbpjinaaa
open Go.ChangeShapes Go.WideShapes Go.ChangeAt Go.RowKit Go.Joins Go.Deep

theorem has_touch (l : List Sh) (X : List Sp) {k : Nat} (h : k < l.length) : hasN (touchL l X) (k : Int) = shMeets l X k := by
  rw [Bool.eq_iff_iff, hasN_mem]
  unfold touchL
  rw [ofTo_mem]
  constructor
  · rintro ⟨i, hi, hp, e⟩
    have : i = k := by omega
    subst this
    exact hp
  · intro hp
    exact ⟨k, h, hp, rfl⟩
theorem meets_both (l : List Sh) (a b : List Sp) (k : Nat) : shMeets l (uniL (a ++ b)) k = (shMeets l (uniL a) k || shMeets l (uniL b) k) := by
  unfold shMeets
  cases l[k]? with
  | none => rfl
  | some s =>
    show (!(setL 1 [s.sp] (uniL (a ++ b))).isEmpty) = (!(setL 1 [s.sp] (uniL a)).isEmpty || !(setL 1 [s.sp] (uniL b)).isEmpty)
    rw [Bool.eq_iff_iff, Bool.or_eq_true, meets_iff, meets_iff, meets_iff]
    simp only [uniL_mem, memL_append, Bool.or_eq_true]
    constructor
    · rintro ⟨k, h1, h2 | h2⟩
      · exact .inl ⟨k, h1, h2⟩
      · exact .inr ⟨k, h1, h2⟩
    · rintro (⟨k, h1, h2⟩ | ⟨k, h1, h2⟩)
      · exact ⟨k, h1, .inl h2⟩
      · exact ⟨k, h1, .inr h2⟩
theorem touch_nil (l : List Sh) : (touchL l []).length = 0 := by
  unfold touchL
  rw [ofTo_none _ _ fun i hi => ?_]
  · rfl
  · obtain ⟨s, hs⟩ := at_lt hi
    rw [shMeets_at hs]
    cases h : (!(setL 1 [s.sp] []).isEmpty)
    · rfl
    · obtain ⟨k, _, h2⟩ := (meets_iff s.sp []).1 h
      cases h2
theorem mem_all (k : ByteArray) : memL [(⟨#[]⟩, ⟨#[]⟩)] k = true := by
  have h1 : noT (⟨#[]⟩ : ByteArray) = true := noT_iff.2 rfl
  rw [memL_one]
  simp [inS, h1, not_lt_noT h1]
theorem touch_len {l : List Sh} (h : Topo l) : (touchL l [(⟨#[]⟩, ⟨#[]⟩)]).length = l.length := by
  unfold touchL
  rw [ofTo_all _ _ fun i hi => ?_]
  · simp
  · obtain ⟨s, hs⟩ := at_lt hi
    rw [shMeets_at hs, meets_iff]
    exact ⟨s.sp.1, inS_from (h.full s (List.mem_of_getElem? hs)), mem_all _⟩

set_option maxRecDepth 100000 in
set_option maxHeartbeats 8000000 in
theorem topoTouches_walk (a : Option Addr) (c : Nat) (l : List Sh) (va vb : Value) (la lb : List Sp) (w : World) (hh : Hl w a l) (hm : l.length ≤ 9223372036854775807) (hsa : Sl w va la) (hla : la.length ≤ 9223372036854775807) (hsb : Sl w vb lb) (hlb : lb.length ≤ 9223372036854775807) :
    Calls Try.prog 7 #[.slice a l.length c, va, vb] w fun e w' => e = .returned (.bool true) ∧ Below w.heap.size w w' := by
  obtain ⟨aa, ca, rfl⟩ := hsa.form
  obtain ⟨ab, cb, rfl⟩ := hsb.form
  have HH := Lib.hid hh
  have HLM := Lib.hid hm
  have HSa := Lib.hid hsa
  have HSb := Lib.hid hsb
  have HLa := Lib.hid hla
  have HLb := Lib.hid hlb
  have HB := Lib.hid (Below.refl w.heap.size w)
  clear hh hm hsa hsb hla hlb
  go_enter Try.func7, Try.ntmps7
  go_wp2_with fail
  refine (tsmall_any _ _ l _ la _ HH.out (HSa.out) HLM.out HLa.out).mono ?_
  rintro e _ ⟨b, rfl, h30, hb⟩
  replace HB := Lib.hid (blThen HB.out hb)
  replace HH := Lib.hid (HH.out.later hb)
  replace HSa := Lib.hid (HSa.out.later hb)
  replace HSb := Lib.hid (HSb.out.later hb)
  clear hb
  cases b
  · go_wp2_with fail
    refine (tlive_any _).mono ?_
    rintro e _ ⟨rfl, hb⟩
    go_wp2
    go_ret
    exact ⟨rfl, blThen HB.out hb⟩
  have H30 := Lib.hid (h30 rfl)
  clear h30
  have HA30 := Lib.hid H30.out.2
  clear H30
  go_wp2_with fail
  refine (tsmall_any _ _ l _ lb _ HH.out (HSb.out) HLM.out HLb.out).mono ?_
  rintro e _ ⟨b, rfl, h30, hb⟩
  replace HB := Lib.hid (blThen HB.out hb)
  replace HH := Lib.hid (HH.out.later hb)
  replace HSa := Lib.hid (HSa.out.later hb)
  replace HSb := Lib.hid (HSb.out.later hb)
  clear hb
  cases b
  · go_wp2_with fail
    refine (tlive_any _).mono ?_
    rintro e _ ⟨rfl, hb⟩
    go_wp2
    go_ret
    exact ⟨rfl, blThen HB.out hb⟩
  have H30 := Lib.hid (h30 rfl)
  clear h30
  have HB30 := Lib.hid H30.out.2
  clear H30 HLa HLb
  go_wp2_with fail
  refine (tcheck_any _ _ l _ HH.out).mono ?_
  rintro e _ ⟨rfl, hb⟩
  replace HB := Lib.hid (blThen HB.out hb)
  replace HH := Lib.hid (HH.out.later hb)
  replace HSa := Lib.hid (HSa.out.later hb)
  replace HSb := Lib.hid (HSb.out.later hb)
  clear hb
  generalize htb : topoB l = tb
  have HTB := Lib.hid htb
  clear htb
  cases tb
  · rw [show errT false = 40 from rfl]
    go_wp2_with fail
    refine (tnum_any _ _).mono ?_
    rintro e _ ⟨rfl, rfl⟩
    go_wp2_with fail
    refine (tlive_any _).mono ?_
    rintro e _ ⟨rfl, hb⟩
    go_wp2
    go_ret
    exact ⟨rfl, blThen HB.out hb⟩
  rw [show errT true = 0 from rfl]
  go_wp2_with fail
  refine (tnum_any _ _).mono ?_
  rintro e _ ⟨rfl, rfl⟩
  have HTP := Lib.hid (topo_of HTB.out)
  have HN5 := Lib.hid (topo_n5 HTP.out)
  have H8 : Hid (l.length ≤ 1000000) := Nat.le_trans HTP.out.len (by decide)
  clear HTB
  have HUA : Hid ((uniL la).length ≤ 1000000) := Nat.le_trans (uniL_len la) (Nat.le_trans HA30.out (by decide))
  have HUB : Hid ((uniL lb).length ≤ 1000000) := Nat.le_trans (uniL_len lb) (Nat.le_trans HB30.out (by decide))
  have HAB : Hid ((la ++ lb).length ≤ 300000) := by show _ ≤ _; have := HA30.out; have := HB30.out; rw [List.length_append]; omega
  have HUC : Hid ((uniL (la ++ lb)).length ≤ 1000000) := Nat.le_trans (uniL_len _) (Nat.le_trans HAB.out (by decide))
  have HN30 : Hid (([] : List Sp).length + la.length ≤ 4000000) := by show _ ≤ _; have := HA30.out; simp; omega
  have HN60 : Hid (([] ++ la : List Sp).length + lb.length ≤ 4000000) := by show _ ≤ _; have := HA30.out; have := HB30.out; simp; omega
  go_wp2_with fail
  refine (refunion_any _ la _ (Nat.le_trans HA30.out (by decide)) HSa.out).mono ?_
  rintro e _ ⟨_, rfl, ho, hb⟩
  obtain ⟨ax, cx, rfl⟩ := ho.form
  have HSx := Lib.hid ho.sl
  clear ho
  replace HB := Lib.hid (blThen HB.out hb)
  replace HH := Lib.hid (HH.out.later hb)
  replace HSa := Lib.hid (HSa.out.later hb)
  replace HSb := Lib.hid (HSb.out.later hb)
  clear hb
  go_wp2_with fail
  refine (refunion_any _ lb _ (Nat.le_trans HB30.out (by decide)) HSb.out).mono ?_
  rintro e _ ⟨_, rfl, ho, hb⟩
  obtain ⟨ay, cy, rfl⟩ := ho.form
  have HSy := Lib.hid ho.sl
  clear ho
  replace HB := Lib.hid (blThen HB.out hb)
  replace HH := Lib.hid (HH.out.later hb)
  replace HSa := Lib.hid (HSa.out.later hb)
  replace HSb := Lib.hid (HSb.out.later hb)
  replace HSx := Lib.hid (HSx.out.later hb)
  clear hb
  go_wp2_with fail
  refine (touch_any _ _ l _ (uniL la) _ H8.out HUA.out HTP.out.full (uniL_set _) HH.out HSx.out).mono ?_
  rintro e _ ⟨_, rfl, ho, hb⟩
  obtain ⟨ap, cp, rfl⟩ := ho.form
  have HIp := Lib.hid ho.at
  clear ho
  replace HB := Lib.hid (blThen HB.out hb)
  replace HH := Lib.hid (HH.out.later hb)
  replace HSa := Lib.hid (HSa.out.later hb)
  replace HSb := Lib.hid (HSb.out.later hb)
  replace HSx := Lib.hid (HSx.out.later hb)
  replace HSy := Lib.hid (HSy.out.later hb)
  clear hb
  go_wp2_with fail
  refine (touch_any _ _ l _ (uniL lb) _ H8.out HUB.out HTP.out.full (uniL_set _) HH.out HSy.out).mono ?_
  rintro e _ ⟨_, rfl, ho, hb⟩
  obtain ⟨aq, cq, rfl⟩ := ho.form
  have HIq := Lib.hid ho.at
  clear ho
  replace HB := Lib.hid (blThen HB.out hb)
  replace HH := Lib.hid (HH.out.later hb)
  replace HSa := Lib.hid (HSa.out.later hb)
  replace HSb := Lib.hid (HSb.out.later hb)
  replace HSx := Lib.hid (HSx.out.later hb)
  replace HSy := Lib.hid (HSy.out.later hb)
  replace HIp := Lib.hid (HIp.out.later hb)
  clear hb
  clear HSx
  clear HSy
  rename_i W1
  have HO0 : Hid (OwnL (W1.alloc (.cells #[] 35)) W1.heap.size (.slice (some ⟨W1.heap.size, 0, none⟩) 0 0) []) := own_emptyS W1 _ _ rfl (Nat.le_refl _)
  go_wp2_with (first
    | (at_builtin; refine append_sp rfl (.tmp 41) (.tmp 42) rfl W1.heap.size _ [] rfl HO0.out _ la rfl (HSa.out.later (blAlloc (Below.refl _ _) _)) HN30.out (by simp) ?_; intro v1 w3 h1 h2; have H1 := Lib.hid h1; have H2 := Lib.hid (grown_below (blAlloc (Below.refl W1.heap.size W1) _) HO0.out (Nat.le_refl _) (by simp) h2); clear h1 h2)
    | (at_builtin; refine append_sp rfl (.tmp 43) (.tmp 44) rfl W1.heap.size _ ([] ++ la) rfl H1.out _ lb rfl (HSb.out.later H2.out) HN60.out H2.out.size ?_; intro v2 w4 h3 h4; have H3 : Hid (OwnL w4 W1.heap.size v2 (la ++ lb)) := h3; have H4 := Lib.hid (grown_below H2.out H1.out (Nat.le_refl _) H2.out.size h4); clear h3 h4))
  have hb := H4.out
  have HSc := Lib.hid H3.out.sl
  clear H1 H2 H3 H4 HO0 HN30 HN60
  replace HB := Lib.hid (blThen HB.out hb)
  replace HH := Lib.hid (HH.out.later hb)
  replace HSa := Lib.hid (HSa.out.later hb)
  replace HSb := Lib.hid (HSb.out.later hb)
  replace HIp := Lib.hid (HIp.out.later hb)
  replace HIq := Lib.hid (HIq.out.later hb)
  clear hb
  clear HSa
  clear HSb
  refine (refunion_any _ (la ++ lb) _ HAB.out HSc.out).mono ?_
  rintro e _ ⟨_, rfl, ho, hb⟩
  obtain ⟨au, cu, rfl⟩ := ho.form
  clear HSc
  replace HB := Lib.hid (blThen HB.out hb)
  replace HH := Lib.hid (HH.out.later hb)
  replace HIp := Lib.hid (HIp.out.later hb)
  replace HIq := Lib.hid (HIq.out.later hb)
  clear hb
  have HSu := Lib.hid ho.sl
  clear ho
  go_wp2_with fail
  refine (touch_any _ _ l _ (uniL (la ++ lb)) _ H8.out HUC.out HTP.out.full (uniL_set _) HH.out HSu.out).mono ?_
  rintro e _ ⟨_, rfl, ho, hb⟩
  obtain ⟨ac, cc, rfl⟩ := ho.form
  have HIc := Lib.hid ho.at
  clear ho
  replace HB := Lib.hid (blThen HB.out hb)
  replace HH := Lib.hid (HH.out.later hb)
  replace HIp := Lib.hid (HIp.out.later hb)
  replace HIq := Lib.hid (HIq.out.later hb)
  replace HSu := Lib.hid (HSu.out.later hb)
  clear hb
  clear HSu
  rename_i W2
  have HLP := Lib.hid (Nat.le_trans (ofTo_len (shMeets l (uniL la)) l.length) H8.out)
  have HLQ := Lib.hid (Nat.le_trans (ofTo_len (shMeets l (uniL lb)) l.length) H8.out)
  have HLC := Lib.hid (Nat.le_trans (ofTo_len (shMeets l (uniL (la ++ lb))) l.length) H8.out)
  have h8x := H8.out
  clear HUA HUB HUC HAB
  go_wp2
  go_loopw [12] (fun i wr => ∃ k : Nat, k ≤ l.length ∧ i = .int .i64 k ∧ Below W2.heap.size W2 wr) (fun i _ => l.length - (intOf i).toNat)
  case atStart => exact ⟨0, Nat.zero_le _, rfl, Below.refl _ _⟩
  case round =>
    obtain ⟨k, hk, rfl, hbr⟩ := hrel
    by_cases hlt : k < l.length
    · have hdk : decide ((k : Int) < (l.length : Int)) = true := decide_eq_true (by omega)
      have HEP := Lib.hid (has_touch l (uniL la) hlt)
      have HEQ := Lib.hid (has_touch l (uniL lb) hlt)
      have HEC := Lib.hid ((has_touch l (uniL (la ++ lb)) hlt).trans (meets_both l la lb k))
      generalize hx : shMeets l (uniL la) k = x at *
      generalize hy : shMeets l (uniL lb) k = y at *
      clear hx hy
      have HR := Lib.hid hbr
      have HP1 := Lib.hid (HIp.out.later hbr)
      have HQ1 := Lib.hid (HIq.out.later hbr)
      have HC1 := Lib.hid (HIc.out.later hbr)
      clear hbr
      cases x <;> cases y
      all_goals
        go_wp2_with (first
          | (go_at_call_of 15 (Value.slice ac (touchL l (uniL (la ++ lb))).length cc); refine (refin_i _ _ (touchL l (uniL (la ++ lb))) (k : Int) _ HLC.out HC1.out).mono ?_; rintro r w2 ⟨rfl, rfl⟩; rw [HEC.out])
          | (go_at_call_of 15 (Value.slice ap (touchL l (uniL la)).length cp); refine (refin_i _ _ (touchL l (uniL la)) (k : Int) _ HLP.out HP1.out).mono ?_; rintro r w2 ⟨rfl, rfl⟩; rw [HEP.out])
          | (go_at_call_of 15 (Value.slice aq (touchL l (uniL lb)).length cq); refine (refin_i _ _ (touchL l (uniL lb)) (k : Int) _ HLQ.out HQ1.out).mono ?_; rintro r w2 ⟨rfl, rfl⟩; rw [HEQ.out]))
        go_roundw
        case rel => exact ⟨k + 1, hlt, by go_num, HR.out⟩
        case measure => simp [intOf]; omega
    · have hdk : decide ((k : Int) < (l.length : Int)) = false := decide_eq_false (by omega)
      have hb := hbr
      clear hbr
      replace HB := Lib.hid (blThen HB.out hb)
      replace HH := Lib.hid (HH.out.later hb)
      clear hb
      clear HIp HIq HIc HLP HLQ HLC
      have HTN := Lib.hid (touch_nil l)
      have HTL := Lib.hid (touch_len HTP.out)
      go_wp2_with fail
      refine (touch_any _ _ l _ [] _ H8.out (by decide) HTP.out.full isSet_nil HH.out ⟨none, 0, rfl, fun _ => rfl, fun h => absurd rfl h⟩).mono ?_
      rintro e _ ⟨_, rfl, ho, hb⟩
      obtain ⟨az, cz, rfl⟩ := ho.form
      have HIz := Lib.hid ho.at
      clear ho
      replace HB := Lib.hid (blThen HB.out hb)
      replace HH := Lib.hid (HH.out.later hb)
      clear hb
      rw [HTN.out]
      clear HIz
      go_wp2_with fail
      refine (touch_any _ _ l _ [(⟨#[]⟩, ⟨#[]⟩)] _ H8.out (by decide) HTP.out.full (set_one (by decide +kernel)) (HH.out.later (blAlloc (Below.refl _ _) _)) (sl_one _ (⟨#[]⟩, ⟨#[]⟩) _ rfl)).mono ?_
      rintro e _ ⟨_, rfl, ho, hb⟩
      obtain ⟨az, cz, rfl⟩ := ho.form
      have HIz := Lib.hid ho.at
      clear ho
      replace hb := blThen (blAlloc (Below.refl _ _) _) hb
      replace HB := Lib.hid (blThen HB.out hb)
      replace HH := Lib.hid (HH.out.later hb)
      clear hb
      rw [HTL.out]
      clear HIz
      go_wp2_with fail
      refine (tlive_any _).mono ?_
      rintro e _ ⟨rfl, hb⟩
      go_wp2
      go_ret
      exact ⟨rfl, blThen HB.out hb⟩

set_option maxRecDepth 100000 in
theorem topoTouches_lifted (os : Os) (started : os.Started) (H : Type) (enc : TypeId × Value → H) :
    ReturnsInHanded {} Try.checked os 7 .any (Rows.topoTouchesSpec.pre6 enc Try.prog Try.f7 Rows.topoTouchesRow.domain false) (Rows.topoTouchesSpec.post enc Try.prog Try.f7 false true false false) := by
  refine law_lift (C := Try.checked) own0 started (by kernel_rfl) Try.func7 laid0 rfl (by kernel_rfl) (fun _ _ _ _ => trodAll_mk1 (shut_bool Try.underlying4 true)) (fun ds h => match ds, h with | [_, _, _], _ => ⟨rfl, rfl, rfl⟩)
    (ChangeSpec.witness6 (enc := enc) (C := Try.checked) false ⟨#[], #[.slice none 0 0, .slice none 0 0, .slice none 0 0], []⟩ 8 (by kernel_rfl) (by kernel_rfl) (by kernel_rfl) (by kernel_rfl)) ?_
  intro W base args ds before hval0 hA0 hlt
  have hval : ∀ (j : Nat) t v, Try.f7.params[j]? = some t → args[j]? = some v → Value.okWide Try.prog W .any base t v := hval0
  have hA : DataW.TrodAll enc Try.prog W 0 (fun _ => true) true Try.f7.params.toList args.toList ds before := hA0
  rw [Try.params7] at hA hval
  obtain ⟨v0, v1, v2, d0, d1, d2, p0, p1, p2, rfl, rfl, rfl, h0, h1, h2⟩ := trodAll_three hA
  obtain ⟨a0, l0, c0, rfl, hh0, hm0⟩ := open_shards (hval 0 22 v0 rfl rfl) h0
  obtain ⟨l1, hh1, hm1⟩ := open_spans (hval 1 30 v1 rfl rfl) h1
  obtain ⟨l2, hh2, hm2⟩ := open_spans (hval 2 30 v2 rfl rfl) h2
  exact topoTouches_walk _ _ l0 _ _ l1 l2 W hh0 hm0 hh1 hm1 hh2 hm2

theorem topoTouches_holds : Rows.TopoTouchesSaid :=
  OpenClaim.holds_of_wide 7 Try.f7 rfl rfl rfl rfl rfl rfl rfl ⟨rfl, rfl, rfl, rfl, rfl⟩ rfl rfl rfl rfl rfl (by kernel_rfl) Try.func7 (by kernel_rfl)
    (of_decide_eq_true (by kernel_rfl)) (by unfold Func.isWrapper; rw [if_neg (of_decide_eq_false (by kernel_rfl))]; exact ⟨rfl, rfl⟩)
    (fun os started H enc _ => topoTouches_lifted os started H enc)

#print axioms topoTouches_holds

end Go.Proofs.Ytkgfpppbpjinaaa
