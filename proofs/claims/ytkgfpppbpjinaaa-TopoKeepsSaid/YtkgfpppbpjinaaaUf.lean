/- TopoKeeps: a node keeps one of shards just if it is one of their nodes; more shards have no fewer nodes; nodes rise; whatever the topology and the places, the law returns true and leaves its arguments as they were. Conditions: none. -/
import Derived.Test.YtkgfpppbpjinaaaTr
set_option linter.unusedVariables false
set_option linter.unusedSimpArgs false
namespace Go.Proofs.Ytkgfpppbpjinaaa
open Go.ChangeShapes Go.WideShapes Go.ChangeAt Go.RowKit Go.Joins Go.Deep

theorem nodesL_len (l : List Sh) (P : List Int) : (nodesL l P).length ≤ 8 := ofTo_len _ _
theorem nodesL_rises (l : List Sh) (P : List Int) : (nodesL l P).Pairwise (· < ·) := ofTo_rises _ _
theorem has_nodes (l : List Sh) (P : List Int) (k : Nat) : hasN (nodesL l P) (k : Int) = (nodeB (k : Int) && anyHas l P (k : Int)) := by
  rw [Bool.eq_iff_iff, hasN_mem]
  unfold nodesL nodesTo
  rw [ofTo_mem]
  constructor
  · rintro ⟨i, hi, hp, e⟩
    have : i = k := by omega
    subst this
    exact hp
  · intro h
    have h1 : nodeB (k : Int) = true := by
      simp only [Bool.and_eq_true] at h
      exact h.1
    have := nodeB_iff.1 h1
    exact ⟨k, by omega, h, rfl⟩
theorem any_more (l : List Sh) (P : List Int) (more : Int) (k : Nat) : (nodeB (k : Int) && anyHas l P (k : Int)) = true → (nodeB (k : Int) && anyHas l (P ++ [more]) (k : Int)) = true := by
  intro h
  simp only [Bool.and_eq_true] at h ⊢
  refine ⟨h.1, ?_⟩
  unfold anyHas at *
  rw [List.any_append, h.2]
  rfl

set_option maxRecDepth 100000 in
set_option maxHeartbeats 8000000 in
theorem topoKeeps_walk (a : Option Addr) (c : Nat) (l : List Sh) (ap : Option Addr) (cp : Nat) (P : List Int) (more : Int) (w : World) (hh : Hl w a l) (hm : l.length ≤ 9223372036854775807) (hp : Il w ap cp P) (hp9 : P.length ≤ 9223372036854775807) :
    Calls Try.prog 8 #[.slice a l.length c, .slice ap P.length cp, .int .i64 more] w fun e w' => e = .returned (.bool true) ∧ Below w.heap.size w w' := by
  have HH := Lib.hid hh
  have HLM := Lib.hid hm
  have HP := Lib.hid hp
  have HB := Lib.hid (Below.refl w.heap.size w)
  clear hh hm hp
  go_enter Try.func8, Try.ntmps8
  go_wp2_with fail
  refine (tsmall_any _ _ l _ [] _ HH.out (⟨none, 0, rfl, fun _ => rfl, fun h => absurd rfl h⟩) HLM.out (Nat.zero_le _)).mono ?_
  rintro e _ ⟨b, rfl, h30, hb⟩
  replace HB := Lib.hid (blThen HB.out hb)
  replace HH := Lib.hid (HH.out.later hb)
  replace HP := Lib.hid (HP.out.later hb)
  clear hb
  cases b
  · go_wp2_with fail
    refine (tlive_any _).mono ?_
    rintro e _ ⟨rfl, hb⟩
    go_wp2
    go_ret
    exact ⟨rfl, blThen HB.out hb⟩
  have H30 := Lib.hid (h30 rfl)
  clear h30
  by_cases hbig : 30 < P.length
  · have hbigI : (30 : Int) < (P.length : Int) := by omega
    have hd : decide ((30 : Int) < (P.length : Int)) = true := decide_eq_true hbigI
    go_wp2_with fail
    refine (tlive_any _).mono ?_
    rintro e _ ⟨rfl, hb⟩
    go_wp2
    go_ret
    exact ⟨rfl, blThen HB.out hb⟩
  have hbigI : ¬ (30 : Int) < (P.length : Int) := by omega
  have hd : decide ((30 : Int) < (P.length : Int)) = false := decide_eq_false hbigI
  have HP30 : Hid (P.length ≤ 30) := by show _ ≤ _; omega
  have HP6 : Hid (P.length ≤ 1000000) := Nat.le_trans HP30.out (by decide)
  clear hbig hbigI hp9
  go_wp2_with fail
  refine (tcheck_any _ _ l _ HH.out).mono ?_
  rintro e _ ⟨rfl, hb⟩
  replace HB := Lib.hid (blThen HB.out hb)
  replace HH := Lib.hid (HH.out.later hb)
  replace HP := Lib.hid (HP.out.later hb)
  clear hb
  generalize htb : topoB l = tb
  have HTB := Lib.hid htb
  clear htb
  cases tb
  · rw [show errT false = 40 from rfl]
    go_wp2_with fail
    refine (tnum_any _ _).mono ?_
    rintro e _ ⟨rfl, rfl⟩
    go_wp2_with fail
    refine (tlive_any _).mono ?_
    rintro e _ ⟨rfl, hb⟩
    go_wp2
    go_ret
    exact ⟨rfl, blThen HB.out hb⟩
  rw [show errT true = 0 from rfl]
  go_wp2_with fail
  refine (tnum_any _ _).mono ?_
  rintro e _ ⟨rfl, rfl⟩
  have HTP := Lib.hid (topo_of HTB.out)
  have HN5 := Lib.hid (topo_n5 HTP.out)
  have H8 : Hid (l.length ≤ 1000000) := Nat.le_trans HTP.out.len (by decide)
  clear HTB
  go_wp2_with fail
  refine (nodes_any _ _ l _ _ P _ H8.out HP6.out HN5.out HH.out HP.out).mono ?_
  rintro e _ ⟨_, rfl, ho, hb⟩
  obtain ⟨aa, ca, rfl⟩ := ho.form
  have HIa := Lib.hid ho.at
  clear ho
  replace HB := Lib.hid (blThen HB.out hb)
  replace HH := Lib.hid (HH.out.later hb)
  replace HP := Lib.hid (HP.out.later hb)
  clear hb
  rename_i W1
  have HO0 : Hid (OwnI (W1.alloc (.cells #[] 3)) W1.heap.size (.slice (some ⟨W1.heap.size, 0, none⟩) 0 0) []) := own_emptyI W1 _ _ rfl (Nat.le_refl _)
  have HQ6 : Hid ((P ++ [more]).length ≤ 1000000) := by show _ ≤ _; have := HP30.out; rw [List.length_append]; simp only [List.length_singleton]; omega
  go_wp2_with (first
    | (at_builtin; refine append_i rfl (.tmp 30) (.tmp 31) rfl W1.heap.size _ [] rfl HO0.out _ _ _ P rfl rfl (HP.out.later (blAlloc (Below.refl _ _) _)) (by have := HP30.out; simp; omega) (by simp) ?_; intro v1 w3 h1 h2; have H1 := Lib.hid h1; have H2 := Lib.hid (grown_belowI (blAlloc (Below.refl W1.heap.size W1) _) HO0.out (Nat.le_refl _) (by simp) h2); clear h1 h2)
    | (at_builtin; refine append_i rfl (.tmp 32) (.tmp 34) rfl W1.heap.size _ ([] ++ P) rfl (H1.out.later (blAlloc (Below.refl _ _) _)) _ _ _ [more] rfl rfl (one_newI _ _ _ rfl) (by have := HP30.out; simp; omega) (by have := H2.out.size; simp; omega) ?_; intro v2 w4 h3 h4; have H3 : Hid (OwnI w4 W1.heap.size v2 (P ++ [more])) := h3; have H4 := Lib.hid (grown_belowI (blAlloc H2.out _) (H1.out.later (blAlloc (Below.refl _ _) _)) (Nat.le_refl _) (by have := H2.out.size; simp; omega) h4); clear h3 h4))
  have hb := H4.out
  obtain ⟨a2, c2, rfl⟩ := H3.out.form
  have HP2 := Lib.hid H3.out.at
  clear H1 H2 H3 H4 HO0
  replace HB := Lib.hid (blThen HB.out hb)
  replace HH := Lib.hid (HH.out.later hb)
  replace HP := Lib.hid (HP.out.later hb)
  replace HIa := Lib.hid (HIa.out.later hb)
  clear hb
  go_wp2_with fail
  refine (nodes_any _ _ l _ _ (P ++ [more]) _ H8.out HQ6.out HN5.out HH.out HP2.out).mono ?_
  rintro e _ ⟨_, rfl, ho, hb⟩
  obtain ⟨ab, cb, rfl⟩ := ho.form
  have HIb := Lib.hid ho.at
  clear ho
  replace HB := Lib.hid (blThen HB.out hb)
  replace HH := Lib.hid (HH.out.later hb)
  replace HP := Lib.hid (HP.out.later hb)
  replace HIa := Lib.hid (HIa.out.later hb)
  replace HP2 := Lib.hid (HP2.out.later hb)
  clear hb
  clear HP2
  rename_i W2
  clear HQ6
  have HLA := Lib.hid (Nat.le_trans (nodesL_len l P) (by decide : 8 ≤ 1000000))
  have HLB := Lib.hid (Nat.le_trans (nodesL_len l (P ++ [more])) (by decide : 8 ≤ 1000000))
  have hlb := HLB.out
  go_wp2
  go_loopw [9] (fun i wr => ∃ k : Nat, k ≤ 9 ∧ i = .int .i64 k ∧ Below W2.heap.size W2 wr) (fun i _ => 9 - (intOf i).toNat)
  case atStart => exact ⟨0, by decide, rfl, Below.refl _ _⟩
  case round =>
    obtain ⟨k, hk, rfl, hbr⟩ := hrel
    by_cases hlt : k ≤ 8
    · have hdk : decide ((k : Int) ≤ 8) = true := decide_eq_true (by omega)
      have HE := Lib.hid (has_nodes l P k)
      have HE2 := Lib.hid (has_nodes l (P ++ [more]) k)
      have HA1 := Lib.hid (any_more l P more k)
      generalize hx : (nodeB (k : Int) && anyHas l P (k : Int)) = x at *
      generalize hy : (nodeB (k : Int) && anyHas l (P ++ [more]) (k : Int)) = y at *
      have HX := Lib.hid hx
      clear hx hy
      have HR := Lib.hid hbr
      have HH1 := Lib.hid (HH.out.later hbr)
      have HP1 := Lib.hid (HP.out.later hbr)
      have HA2 := Lib.hid (HIa.out.later hbr)
      have HB2 := Lib.hid (HIb.out.later hbr)
      clear hbr
      go_wp2_with fail
      refine (keeps_any _ _ l (k : Int) _ _ P _ H8.out HP6.out HN5.out HH1.out HP1.out).mono ?_
      rintro e W3 ⟨rfl, hb⟩
      rw [HX.out]
      replace HR := Lib.hid (blThen HR.out hb)
      replace HA2 := Lib.hid (HA2.out.later hb)
      replace HB2 := Lib.hid (HB2.out.later hb)
      clear hb HH1 HP1
      cases x
      · go_wp2_with (go_at_call 15; refine (refin_i _ _ (nodesL l P) (k : Int) _ HLA.out HA2.out).mono ?_; rintro r w2 ⟨rfl, rfl⟩; rw [HE.out])
        go_roundw
        case rel => exact ⟨k + 1, by omega, by go_num, HR.out⟩
        case measure => simp [intOf]; omega
      · have HY := Lib.hid (HA1.out rfl)
        go_wp2_with (first
          | (go_at_call_of 15 (Value.slice ab (nodesL l (P ++ [more])).length cb); refine (refin_i _ _ (nodesL l (P ++ [more])) (k : Int) _ HLB.out HB2.out).mono ?_; rintro r w2 ⟨rfl, rfl⟩; rw [HE2.out, HY.out])
          | (go_at_call 15; refine (refin_i _ _ (nodesL l P) (k : Int) _ HLA.out HA2.out).mono ?_; rintro r w2 ⟨rfl, rfl⟩; rw [HE.out]))
        go_roundw
        case rel => exact ⟨k + 1, by omega, by go_num, HR.out⟩
        case measure => simp [intOf]; omega
    · have hdk : decide ((k : Int) ≤ 8) = false := decide_eq_false (by omega)
      replace HB := Lib.hid (blThen HB.out hbr)
      have HI2 := Lib.hid (HIb.out.later hbr)
      have HRI := Lib.hid (nodesL_rises l (P ++ [more]))
      have HBW := Lib.hid hbr
      clear hbr HIb HIa HLA
      generalize nodesL l (P ++ [more]) = D at *
      go_wp2
      go_loopw [10] (fun i wr2 => ∃ q : Nat, 1 ≤ q ∧ q ≤ D.length + 1 ∧ i = .int .i64 q ∧ Below wr.heap.size wr wr2) (fun i _ => D.length + 1 - (intOf i).toNat)
      case atStart => exact ⟨1, Nat.le_refl _, by omega, rfl, Below.refl _ _⟩
      case round =>
        rename_i wr2
        obtain ⟨q, hq1, hq2, rfl, hb2⟩ := hrel
        obtain ⟨j, rfl⟩ : ∃ j, q = j + 1 := ⟨q - 1, by omega⟩
        have HB2 := Lib.hid hb2
        by_cases hlt2 : j + 1 < D.length
        · obtain ⟨y, hy⟩ := at_lt hlt2
          obtain ⟨x, hx⟩ := at_lt (l := D) (k := j) (by omega)
          obtain ⟨g, o, rfl, hg, e0⟩ := HI2.out.at hy
          obtain ⟨g', o', he, _, e1⟩ := HI2.out.at hx
          simp only [Option.some.injEq, Addr.mk.injEq, and_true] at he
          obtain ⟨rfl, rfl⟩ := he
          have c0 := cell_in hb2 hg e0
          have c1 := cell_in hb2 hg e1
          have hgw := Nat.lt_of_lt_of_le hg hb2.size
          have hxy : x < y := by
            obtain ⟨h1, rfl⟩ := List.getElem?_eq_some_iff.1 hy
            obtain ⟨h2, rfl⟩ := List.getElem?_eq_some_iff.1 hx
            exact List.pairwise_iff_getElem.1 HRI.out j (j + 1) h2 h1 (Nat.lt_succ_self j)
          have hdn : decide (y ≤ x) = false := decide_eq_false (by omega)
          have hj0 : (0 : Int) ≤ (j : Int) := by omega
          have hj1 : (j : Int) < (D.length : Int) := by omega
          have hq0 : (0 : Int) ≤ (j : Int) + 1 := by omega
          have hq1' : (j : Int) + 1 < (D.length : Int) := by omega
          have hdq : decide ((j : Int) + 1 < (D.length : Int)) = true := decide_eq_true hq1'
          clear hy hx hb2 e0 e1 hxy
          go_wp2
          go_quiet (fail)
          go_wp2
          go_roundw
          case rel => exact ⟨j + 1 + 1, by omega, by omega, by go_num, HB2.out.trans ⟨rfl, rfl, rfl, Nat.le_refl _, fun _ _ => rfl⟩⟩
          case measure => simp [intOf]; omega
        · have hdq : decide ((j : Int) + 1 < (D.length : Int)) = false := decide_eq_false (by omega)
          replace HB := Lib.hid (blThen HB.out hb2)
          clear hb2
          go_wp2_with fail
          refine (tlive_any _).mono ?_
          rintro e _ ⟨rfl, hb⟩
          go_wp2
          go_ret
          exact ⟨rfl, blThen HB.out hb⟩

set_option maxRecDepth 100000 in
theorem topoKeeps_lifted (os : Os) (started : os.Started) (H : Type) (enc : TypeId × Value → H) :
    ReturnsInHanded {} Try.checked os 8 .any (Rows.topoKeepsSpec.pre6 enc Try.prog Try.f8 Rows.topoKeepsRow.domain false) (Rows.topoKeepsSpec.post enc Try.prog Try.f8 false true false false) := by
  refine law_lift (C := Try.checked) own0 started (by kernel_rfl) Try.func8 laid0 rfl (by kernel_rfl) (fun _ _ _ _ => trodAll_mk1 (shut_bool Try.underlying4 true)) (fun ds h => match ds, h with | [_, _, _], _ => ⟨rfl, rfl, rfl⟩)
    (ChangeSpec.witness6 (enc := enc) (C := Try.checked) false ⟨#[], #[.slice none 0 0, .slice none 0 0, .int .i64 0], []⟩ 8 (by kernel_rfl) (by kernel_rfl) (by kernel_rfl) (by kernel_rfl)) ?_
  intro W base args ds before hval0 hA0 hlt
  have hval : ∀ (j : Nat) t v, Try.f8.params[j]? = some t → args[j]? = some v → Value.okWide Try.prog W .any base t v := hval0
  have hA : DataW.TrodAll enc Try.prog W 0 (fun _ => true) true Try.f8.params.toList args.toList ds before := hA0
  rw [Try.params8] at hA hval
  obtain ⟨v0, v1, v2, d0, d1, d2, p0, p1, p2, rfl, rfl, rfl, h0, h1, h2⟩ := trodAll_three hA
  obtain ⟨a0, l0, c0, rfl, hh0, hm0⟩ := open_shards (hval 0 22 v0 rfl rfl) h0
  obtain ⟨a1, l1, c1, rfl, hh1, hm1⟩ := open_intl (hval 1 31 v1 rfl rfl) h1
  obtain ⟨n2, rfl, rfl, rfl, wn2⟩ := open_int Try.underlying3 (hval 2 3 v2 rfl rfl) h2
  exact topoKeeps_walk _ _ l0 _ _ l1 n2 W hh0 hm0 hh1 hm1

theorem topoKeeps_holds : Rows.TopoKeepsSaid :=
  OpenClaim.holds_of_wide 8 Try.f8 rfl rfl rfl rfl rfl rfl rfl ⟨rfl, rfl, rfl, rfl, rfl⟩ rfl rfl rfl rfl rfl (by kernel_rfl) Try.func8 (by kernel_rfl)
    (of_decide_eq_true (by kernel_rfl)) (by unfold Func.isWrapper; rw [if_neg (of_decide_eq_false (by kernel_rfl))]; exact ⟨rfl, rfl⟩)
    (fun os started H enc _ => topoKeeps_lifted os started H enc)

#print axioms topoKeeps_holds

end Go.Proofs.Ytkgfpppbpjinaaa
