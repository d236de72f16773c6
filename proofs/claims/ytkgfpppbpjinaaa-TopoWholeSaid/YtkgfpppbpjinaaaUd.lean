/- TopoWhole: all nodes together own all keys; a node owns what its shards have; whatever the topology and the node, the law returns true and leaves its arguments as they were. Conditions: none. -/
import Derived.Test.YtkgfpppbpjinaaaTr
set_option linter.unusedVariables false
set_option linter.unusedSimpArgs false
namespace Go.Proofs.Ytkgfpppbpjinaaa
open Go.ChangeShapes Go.WideShapes Go.ChangeAt Go.RowKit Go.Joins Go.Deep

/-- What the nodes from 1 on, below k, own, one behind the other. -/
def allTo (l : List Sh) : Nat → List Sp
  | 0 => []
  | k + 1 => if k = 0 then [] else allTo l k ++ ownL l k
theorem allTo_succ (l : List Sh) {k : Nat} (h : 1 ≤ k) : allTo l (k + 1) = allTo l k ++ ownL l k := by
  rw [allTo, if_neg (by omega)]
theorem ownL_len {l : List Sh} (h : Topo l) (n : Int) : (ownL l n).length ≤ 8 := Nat.le_trans (uniL_len _) (Nat.le_trans (ownTo_len _ _ _) h.len)
theorem allTo_len {l : List Sh} (h : Topo l) : ∀ k, (allTo l k).length ≤ 8 * k
  | 0 => by simp [allTo]
  | k + 1 => by
    rw [allTo]
    split
    · simp
    · have h1 := allTo_len h k
      have h2 := ownL_len h k
      rw [List.length_append]
      omega
theorem allTo_mem {l : List Sh} {k : ByteArray} {m : Nat} (hm : 1 ≤ m) (h : memL (ownL l m) k = true) : ∀ j, m < j → memL (allTo l j) k = true
  | 0, hj => by omega
  | j + 1, hj => by
    rw [allTo_succ l (by omega), memL_append]
    by_cases hmj : m = j
    · subst hmj
      rw [h]
      simp
    · rw [allTo_mem hm h j (by omega)]
      rfl
theorem all_all {l : List Sh} (h : Topo l) : uniL (allTo l 8) = [(⟨#[]⟩, ⟨#[]⟩)] := by
  have h1 : noT (⟨#[]⟩ : ByteArray) = true := noT_iff.2 rfl
  refine set_uniq (uniL_set _) (set_one (by simp [fullS, h1])) fun k => ?_
  rw [uniL_mem, memL_one]
  have e : inS (⟨#[]⟩, ⟨#[]⟩) k = true := by simp [inS, h1, not_lt_noT h1]
  rw [e]
  obtain ⟨i, hi, hat⟩ := h.once k
  obtain ⟨s, hs⟩ := at_lt hi
  have hsm := List.mem_of_getElem? hs
  obtain ⟨n, hn⟩ : ∃ n, s.nodes[0]? = some n := at_lt (by have := (h.few s hsm).1; omega)
  have hnm := List.mem_of_getElem? hn
  have hn7 := h.node s hsm n hnm
  obtain ⟨m, rfl⟩ := Int.eq_ofNat_of_zero_le (show 0 ≤ n by omega)
  refine allTo_mem (m := m) (by omega) ?_ 8 (by omega)
  rw [find_all hat, shHas_at hs, hasN_mem]
  exact hnm

set_option maxRecDepth 100000 in
set_option maxHeartbeats 8000000 in
theorem topoWhole_walk (a : Option Addr) (c : Nat) (l : List Sh) (n : Int) (w : World) (hh : Hl w a l) (hm : l.length ≤ 9223372036854775807) :
    Calls Try.prog 6 #[.slice a l.length c, .int .i64 n] w fun e w' => e = .returned (.bool true) ∧ Below w.heap.size w w' := by
  have HH := Lib.hid hh
  have HLM := Lib.hid hm
  have HB := Lib.hid (Below.refl w.heap.size w)
  clear hh hm
  go_enter Try.func6, Try.ntmps6
  go_wp2_with fail
  refine (tsmall_any _ _ l _ [] _ HH.out (⟨none, 0, rfl, fun _ => rfl, fun h => absurd rfl h⟩) HLM.out (Nat.zero_le _)).mono ?_
  rintro e _ ⟨b, rfl, h30, hb⟩
  replace HB := Lib.hid (blThen HB.out hb)
  replace HH := Lib.hid (HH.out.later hb)
  clear hb
  cases b
  · go_wp2_with fail
    refine (tlive_any _).mono ?_
    rintro e _ ⟨rfl, hb⟩
    go_wp2
    go_ret
    exact ⟨rfl, blThen HB.out hb⟩
  have H30 := Lib.hid (h30 rfl)
  clear h30
  go_wp2_with fail
  refine (tcheck_any _ _ l _ HH.out).mono ?_
  rintro e W1 ⟨rfl, hb⟩
  replace HB := Lib.hid (blThen HB.out hb)
  replace HH := Lib.hid (HH.out.later hb)
  clear hb
  generalize htb : topoB l = tb
  have HTB := Lib.hid htb
  clear htb
  cases tb
  · rw [show errT false = 40 from rfl]
    go_wp2_with fail
    refine (tnum_any _ _).mono ?_
    rintro e _ ⟨rfl, rfl⟩
    go_wp2_with fail
    refine (tlive_any _).mono ?_
    rintro e _ ⟨rfl, hb⟩
    go_wp2
    go_ret
    exact ⟨rfl, blThen HB.out hb⟩
  rw [show errT true = 0 from rfl]
  go_wp2_with fail
  refine (tnum_any _ _).mono ?_
  rintro e _ ⟨rfl, rfl⟩
  have HTP := Lib.hid (topo_of HTB.out)
  have HN5 := Lib.hid (topo_n5 HTP.out)
  have H8 : Hid (l.length ≤ 1000000) := Nat.le_trans HTP.out.len (by decide)
  clear HTB
  have HOL := Lib.hid (fun n => allTo_len HTP.out n)
  have HSH := Lib.hid (fun n => topo_sh HTP.out n)
  go_wp2
  go_loopw [5, 6] (fun v i wr => ∃ k : Nat, 1 ≤ k ∧ k ≤ 8 ∧ i = .int .i64 k ∧ OwnL wr W1.heap.size v (allTo l k) ∧ Below W1.heap.size W1 wr) (fun _ i _ => 8 - (intOf i).toNat)
  case atStart => exact ⟨1, Nat.le_refl _, by decide, rfl, OwnL.nil _ _, Below.refl _ _⟩
  case round =>
    obtain ⟨k, hk1, hk8, rfl, ho, hbr⟩ := hrel
    obtain ⟨av, cv, rfl⟩ := ho.form
    have HO := Lib.hid ho
    have HR := Lib.hid hbr
    clear ho hbr
    by_cases hlt : k ≤ 7
    · have hdk : decide ((k : Int) ≤ 7) = true := decide_eq_true (by omega)
      have HT := Lib.hid (allTo_succ l hk1)
      have HL1 := Lib.hid (HOL.out k)
      have HL2 := Lib.hid (ownL_len HTP.out k)
      go_wp2_with fail
      refine (owned_any _ _ l (k : Int) _ H8.out HN5.out (HSH.out k) (HH.out.later HR.out)).mono ?_
      rintro e W3 ⟨v3, rfl, ho3, hb3⟩
      have HS3 := Lib.hid ho3.sl
      have HR3 := Lib.hid (blThen HR.out hb3)
      have HO3 := Lib.hid (HO.out.later hb3)
      clear ho3 hb3
      go_wp2_with (at_builtin; refine append_sp rfl _ _ rfl W1.heap.size _ (allTo l k) rfl HO3.out _ (ownL l k) rfl HS3.out (by have := HL1.out; have := HL2.out; omega) HR3.out.size ?_; intro v4 w4 h1 h2; have H1 := Lib.hid h1; have H2 := Lib.hid (grown_below HR3.out HO3.out (Nat.le_refl _) HR3.out.size h2); clear h1 h2)
      go_roundw
      case rel => exact ⟨k + 1, by omega, by omega, by go_num, by rw [HT.out]; exact H1.out, H2.out⟩
      case measure => simp [intOf]; omega
    · obtain rfl : k = 8 := by omega
      have hb := HR.out
      have HSall := Lib.hid HO.out.sl
      have HL8 := Lib.hid (HOL.out 8)
      clear HO HR HOL
      replace HB := Lib.hid (blThen HB.out hb)
      replace HH := Lib.hid (HH.out.later hb)
      clear hb
      go_wp2_with fail
      refine (of_any _ _ l n _ H8.out HN5.out HH.out).mono ?_
      rintro e W2 ⟨_, rfl, ho, hb⟩
      have HQ : Hid (ofTo (shHas' l n) l.length = ofTo (fun i => shHas l i n) l.length) := ofTo_congr (HSH.out n)
      rw [HQ.out] at ho
      have HM := Lib.hid (own_map l n l.length (Nat.le_refl _))
      have HMEM := Lib.hid (fun (x : Int) (hx : x ∈ ofTo (fun i => shHas l i n) l.length) => (ofTo_mem _ _ _).1 hx)
      have hql : (ofTo (fun i => shHas l i n) l.length).length ≤ 8 := Nat.le_trans (ofTo_len _ _) HTP.out.len
      generalize ofTo (fun i => shHas l i n) l.length = Q at *
      obtain ⟨aq, cq, rfl⟩ := ho.form
      have HI := Lib.hid ho.at
      clear ho
      replace HB := Lib.hid (blThen HB.out hb)
      replace HH := Lib.hid (HH.out.later hb)
      replace HSall := Lib.hid (HSall.out.later hb)
      clear hb
      go_wp2
      go_loopw [7, 9] (fun v i wr2 => ∃ q : Nat, q ≤ Q.length ∧ i = .int .i64 q ∧ OwnL wr2 W2.heap.size v ((Q.take q).map (spAt l)) ∧ Below W2.heap.size W2 wr2) (fun _ i _ => Q.length - (intOf i).toNat)
      case atStart => exact ⟨0, Nat.zero_le _, rfl, OwnL.nil _ _, Below.refl _ _⟩
      case round =>
        obtain ⟨q, hq, rfl, ho, hb⟩ := hrel
        obtain ⟨am, cm, rfl⟩ := ho.form
        have HO := Lib.hid ho
        have HB1 := Lib.hid hb
        clear ho
        by_cases hlt : q < Q.length
        · obtain ⟨x, hx⟩ := at_lt hlt
          obtain ⟨i, hi, _, rfl⟩ := HMEM.out x (List.mem_of_getElem? hx)
          obtain ⟨s, hs⟩ := at_lt hi
          obtain ⟨gq, oq, rfl, hgq, e0⟩ := HI.out.at hx
          obtain ⟨g, o, rfl, hg, d0, d1, d2⟩ := HH.out.at hs
          have x0 := cell_in hb hgq e0
          have c0 := cell_in hb hg d0
          have c1 := cell_in hb hg d1
          have hgw := Nat.lt_of_lt_of_le hg hb.size
          have hgqw := Nat.lt_of_lt_of_le hgq hb.size
          have hq0 : (0 : Int) ≤ (q : Int) := by omega
          have hq1 : (q : Int) < (Q.length : Int) := by omega
          have hdq : decide ((q : Int) < (Q.length : Int)) = true := decide_eq_true hq1
          have hi0 : (0 : Int) ≤ (i : Int) := by omega
          have hi1 : (i : Int) < (l.length : Int) := by omega
          have hin : ¬ (i : Int) < 0 := by omega
          have hil : ¬ (l.length : Int) ≤ (i : Int) := by omega
          have hdi : decide ((i : Int) < 0) = false := decide_eq_false hin
          have hdl : decide ((l.length : Int) ≤ (i : Int)) = false := decide_eq_false hil
          have HT : Hid ((Q.take (q + 1)).map (spAt l) = (Q.take q).map (spAt l) ++ [s.sp]) := by show _ = _; rw [map_take hx, spAt_at hs]
          have HL : Hid (((Q.take q).map (spAt l)).length ≤ 1000000) := by show _ ≤ _; rw [List.length_map, List.length_take]; omega
          clear hx hs hb d0 d1 d2 e0
          go_wp2_with (at_builtin; refine append_sp rfl _ _ rfl W2.heap.size _ ((Q.take q).map (spAt l)) rfl (HO.out.later (blAlloc (Below.refl _ _) _)) _ [s.sp] rfl (sl_one _ s.sp _ rfl) (by have := HL.out; simp only [List.length_singleton]; omega) (by have := HB1.out.size; simp; omega) ?_; intro v1 w3 h1 h2; have H1 := Lib.hid h1; have H2 := Lib.hid (grown_below (blAlloc HB1.out _) (HO.out.later (blAlloc (Below.refl _ _) _)) (Nat.le_refl _) (by have := HB1.out.size; simp; omega) h2); clear h1 h2)
          go_roundw
          case rel => exact ⟨q + 1, hlt, by go_num, by rw [HT.out]; exact H1.out, H2.out⟩
          case measure => simp [intOf]; omega
        · obtain rfl : q = Q.length := by omega
          have hdq : decide ((Q.length : Int) < (Q.length : Int)) = false := by simp
          have HSm : Hid (Sl wr (.slice am (ownTo l n l.length).length cm) (ownTo l n l.length)) := by have h := HO.out.sl; rw [List.take_length, HM.out] at h; exact h
          rw [List.take_length, HM.out]
          clear HO HI
          replace HB := Lib.hid (blThen HB.out hb)
          replace HH := Lib.hid (HH.out.later hb)
          replace HSall := Lib.hid (HSall.out.later hb)
          clear hb
          have HUA := Lib.hid (all_all HTP.out)
          have HOT := Lib.hid (Nat.le_trans (ownTo_len l n l.length) (Nat.le_trans HTP.out.len (by decide : 8 ≤ 300000)))
          have HON : Hid ((ownL l n).length ≤ 1000000) := Nat.le_trans (uniL_len _) (Nat.le_trans HOT.out (by decide))
          go_wp2_with fail
          refine (refunion_any _ (allTo l 8) _ (Nat.le_trans HL8.out (by decide)) HSall.out).mono ?_
          rintro e _ ⟨_, rfl, ho, hb⟩
          obtain ⟨au, cu, rfl⟩ := ho.form
          have HSu := Lib.hid ho.sl
          clear ho
          replace HB := Lib.hid (blThen HB.out hb)
          replace HH := Lib.hid (HH.out.later hb)
          replace HSall := Lib.hid (HSall.out.later hb)
          replace HSm := Lib.hid (HSm.out.later hb)
          clear hb
          rw [HUA.out] at HSu ⊢
          clear HSall
          go_wp2_with fail
          refine (same_any _ _ [(⟨#[]⟩, ⟨#[]⟩)] [(⟨#[]⟩, ⟨#[]⟩)] _ (by decide) (by decide) (HSu.out.later (blAlloc (Below.refl _ _) _)) (sl_one _ (⟨#[]⟩, ⟨#[]⟩) _ rfl)).mono ?_
          rintro e _ ⟨rfl, hb⟩
          replace hb := blThen (blAlloc (Below.refl _ _) _) hb
          replace HB := Lib.hid (blThen HB.out hb)
          replace HH := Lib.hid (HH.out.later hb)
          replace HSm := Lib.hid (HSm.out.later hb)
          replace HSu := Lib.hid (HSu.out.later hb)
          clear hb
          rw [show sameB [(⟨#[]⟩, ⟨#[]⟩)] [(⟨#[]⟩, ⟨#[]⟩)] = true by simp [sameB]]
          clear HSu
          go_wp2_with fail
          refine (refunion_any _ (ownTo l n l.length) _ HOT.out HSm.out).mono ?_
          rintro e _ ⟨_, rfl, ho, hb⟩
          obtain ⟨ax, cx, rfl⟩ := ho.form
          have HSx := Lib.hid ho.sl
          clear ho
          replace HB := Lib.hid (blThen HB.out hb)
          replace HH := Lib.hid (HH.out.later hb)
          replace HSm := Lib.hid (HSm.out.later hb)
          clear hb
          clear HSm
          go_wp2_with fail
          refine (owned_any _ _ l n _ H8.out HN5.out (HSH.out n) HH.out).mono ?_
          rintro e _ ⟨_, rfl, ho, hb⟩
          obtain ⟨ay, cy, rfl⟩ := ho.form
          have HSy := Lib.hid ho.sl
          clear ho
          replace HB := Lib.hid (blThen HB.out hb)
          replace HH := Lib.hid (HH.out.later hb)
          replace HSx := Lib.hid (HSx.out.later hb)
          clear hb
          go_wp2_with fail
          refine (same_any _ _ (ownL l n) (ownL l n) _ HON.out HON.out HSx.out HSy.out).mono ?_
          rintro e _ ⟨rfl, hb⟩
          replace HB := Lib.hid (blThen HB.out hb)
          replace HH := Lib.hid (HH.out.later hb)
          replace HSx := Lib.hid (HSx.out.later hb)
          replace HSy := Lib.hid (HSy.out.later hb)
          clear hb
          rw [show sameB (ownL l n) (ownL l n) = true by simp [sameB]]
          go_wp2_with fail
          refine (tlive_any _).mono ?_
          rintro e _ ⟨rfl, hb⟩
          go_wp2
          go_ret
          exact ⟨rfl, blThen HB.out hb⟩

set_option maxRecDepth 100000 in
theorem topoWhole_lifted (os : Os) (started : os.Started) (H : Type) (enc : TypeId × Value → H) :
    ReturnsInHanded {} Try.checked os 6 .any (Rows.topoWholeSpec.pre6 enc Try.prog Try.f6 Rows.topoWholeRow.domain false) (Rows.topoWholeSpec.post enc Try.prog Try.f6 false true false false) := by
  refine law_lift (C := Try.checked) own0 started (by kernel_rfl) Try.func6 laid0 rfl (by kernel_rfl) (fun _ _ _ _ => trodAll_mk1 (shut_bool Try.underlying4 true)) (fun ds h => match ds, h with | [_, _], _ => ⟨rfl, rfl, rfl⟩)
    (ChangeSpec.witness6 (enc := enc) (C := Try.checked) false ⟨#[], #[.slice none 0 0, .int .i64 0], []⟩ 8 (by kernel_rfl) (by kernel_rfl) (by kernel_rfl) (by kernel_rfl)) ?_
  intro W base args ds before hval0 hA0 hlt
  have hval : ∀ (j : Nat) t v, Try.f6.params[j]? = some t → args[j]? = some v → Value.okWide Try.prog W .any base t v := hval0
  have hA : DataW.TrodAll enc Try.prog W 0 (fun _ => true) true Try.f6.params.toList args.toList ds before := hA0
  rw [Try.params6] at hA hval
  obtain ⟨v0, v1, d0, d1, p0, p1, rfl, rfl, rfl, h0, h1⟩ := trodAll_two hA
  obtain ⟨a0, l0, c0, rfl, hh0, hm0⟩ := open_shards (hval 0 22 v0 rfl rfl) h0
  obtain ⟨n1, rfl, rfl, rfl, wn1⟩ := open_int Try.underlying3 (hval 1 3 v1 rfl rfl) h1
  exact topoWhole_walk _ _ l0 n1 W hh0 hm0

theorem topoWhole_holds : Rows.TopoWholeSaid :=
  OpenClaim.holds_of_wide 6 Try.f6 rfl rfl rfl rfl rfl rfl rfl ⟨rfl, rfl, rfl, rfl, rfl⟩ rfl rfl rfl rfl rfl (by kernel_rfl) Try.func6 (by kernel_rfl)
    (of_decide_eq_true (by kernel_rfl)) (by unfold Func.isWrapper; rw [if_neg (of_decide_eq_false (by kernel_rfl))]; exact ⟨rfl, rfl⟩)
    (fun os started H enc _ => topoWhole_lifted os started H enc)

#print axioms topoWhole_holds

end Go.Proofs.Ytkgfpppbpjinaaa
