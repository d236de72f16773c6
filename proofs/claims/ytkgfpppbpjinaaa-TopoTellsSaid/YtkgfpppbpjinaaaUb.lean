/- TopoTells: the stage's theorem: of every topology that may be: which shards, which nodes, as the reference says; whatever the arguments, the law returns true and leaves them as they were. Conditions: none. -/
import Derived.Test.YtkgfpppbpjinaaaUc
set_option linter.unusedVariables false
set_option linter.unusedSimpArgs false
namespace Go.Proofs.Ytkgfpppbpjinaaa
open Go.ChangeShapes Go.WideShapes Go.ChangeAt Go.RowKit Go.Joins Go.Deep

/-- An operation whose guard says yes, as one that has no guard. -/
theorem wpList_ungd {P : Program} {ops : Array Oper} {Q : Exit → Act → World → Prop} {a : Act} {w : World} {rest : List Oper} {o : Oper} (hw : Region.wanted o (yielded ops a.tmps) = true)
    (h : wpList P ops Q ({ o with guard := none } :: rest) a w) : wpList P ops Q (o :: rest) a w := by
  unfold wpList at h ⊢
  rw [if_pos hw]
  rw [if_pos (by simp [Region.wanted])] at h
  exact h
theorem append_i_g {w : World} {ops : Array Oper} {rest : List Oper} {o : Oper} {a : Act} {Q : Exit → Act → World → Prop} (hw : Region.wanted o (yielded ops a.tmps) = true) (s x : Operand)
    (ho : o.op = .call { callee := .builtin .append, args := #[s, x], argTypes := #[31, 31] })
    (base : Nat) (v : Value) (d : List Int) (hs : a.eval s = v) (hown : OwnI w base v d) (ad : Option Addr) (n cap : Nat) (l : List Int) (hx : a.eval x = .slice ad n cap) (hn : n = l.length) (hsl : Il w ad cap l)
    (hlen : d.length + l.length ≤ 4000000) (hbase : base ≤ w.heap.size)
    (h : ∀ v' w', OwnI w' base v' (d ++ l) → w.grownBy w' v.ownBlock → wpList Try.prog ops Q rest (a.put o.dst v') w') : wpList Try.prog ops Q (o :: rest) a w :=
  wpList_ungd hw (append_i rfl s x ho base v d hs hown ad n cap l hx hn hsl hlen hbase h)
theorem same_i (l : List Int) : sameI l l = true := by simp [sameI]
theorem any_node {l : List Sh} (h : Topo l) (P : List Int) (n : Int) : (nodeB n && anyHas l P n) = anyHas l P n := by
  cases ha : anyHas l P n
  · simp
  · obtain ⟨i, _, hi⟩ := List.any_eq_true.1 ha
    unfold atHas shHas at hi
    simp only [Bool.and_eq_true] at hi
    have h2 := hi.2
    cases hs : l[i.toNat]? with
    | none => rw [hs] at h2; cases h2
    | some s =>
      rw [hs] at h2
      have := h.node s (List.mem_of_getElem? hs) n (hasN_mem.1 h2)
      rw [nodeB_iff.2 this]
      rfl

set_option maxRecDepth 100000 in
set_option maxHeartbeats 16000000 in
theorem topoTells_walk (a : Option Addr) (c : Nat) (l : List Sh) (key : ByteArray) (vx : Value) (X : List Sp) (n : Int) (ap : Option Addr) (cp : Nat) (P : List Int) (w : World) (hh : Hl w a l) (hm : l.length ≤ 9223372036854775807) (hsx : Sl w vx X) (hlx : X.length ≤ 9223372036854775807) (hp : Il w ap cp P) (hp9 : P.length ≤ 9223372036854775807) :
    Calls Try.prog 4 #[.slice a l.length c, .string key, vx, .int .i64 n, .slice ap P.length cp] w fun e w' => e = .returned (.bool true) ∧ Below w.heap.size w w' := by
  obtain ⟨ax, cx, rfl⟩ := hsx.form
  have HH := Lib.hid hh
  have HLM := Lib.hid hm
  have HSx := Lib.hid hsx
  have HLx := Lib.hid hlx
  have HP := Lib.hid hp
  have HB := Lib.hid (Below.refl w.heap.size w)
  clear hh hm hsx hlx hp
  go_enter Try.func4, Try.ntmps4
  go_wp2_with fail
  refine (tsmall_any _ _ l _ X _ HH.out (HSx.out) HLM.out HLx.out).mono ?_
  rintro e _ ⟨b, rfl, h30, hb⟩
  replace HB := Lib.hid (blThen HB.out hb)
  replace HH := Lib.hid (HH.out.later hb)
  replace HSx := Lib.hid (HSx.out.later hb)
  replace HP := Lib.hid (HP.out.later hb)
  clear hb
  cases b
  · go_wp2_with fail
    refine (tlive_any _).mono ?_
    rintro e _ ⟨rfl, hb⟩
    go_wp2
    go_ret
    exact ⟨rfl, blThen HB.out hb⟩
  have H30 := Lib.hid (h30 rfl)
  clear h30
  have HX30 := Lib.hid H30.out.2
  clear H30 HLx
  by_cases hbig : 4000 < key.size
  · have hbigI : (4000 : Int) < (key.size : Int) := by omega
    have hd : decide ((4000 : Int) < (key.size : Int)) = true := decide_eq_true hbigI
    go_wp2_with fail
    refine (tlive_any _).mono ?_
    rintro e _ ⟨rfl, hb⟩
    go_wp2
    go_ret
    exact ⟨rfl, blThen HB.out hb⟩
  have hbigI : ¬ (4000 : Int) < (key.size : Int) := by omega
  have hd : decide ((4000 : Int) < (key.size : Int)) = false := decide_eq_false hbigI
  clear hbig hbigI
  by_cases hbig : 30 < P.length
  · have hbigI : (30 : Int) < (P.length : Int) := by omega
    have hd2 : decide ((30 : Int) < (P.length : Int)) = true := decide_eq_true hbigI
    go_wp2_with fail
    refine (tlive_any _).mono ?_
    rintro e _ ⟨rfl, hb⟩
    go_wp2
    go_ret
    exact ⟨rfl, blThen HB.out hb⟩
  have hbigI : ¬ (30 : Int) < (P.length : Int) := by omega
  have hd2 : decide ((30 : Int) < (P.length : Int)) = false := decide_eq_false hbigI
  have HP30 : Hid (P.length ≤ 30) := by show _ ≤ _; omega
  have HP6 : Hid (P.length ≤ 1000000) := Nat.le_trans HP30.out (by decide)
  clear hbig hbigI hp9
  go_wp2_with fail
  refine (rtcheck_any _ _ l _ HH.out).mono ?_
  rintro e _ ⟨rfl, hb⟩
  replace HB := Lib.hid (blThen HB.out hb)
  replace HH := Lib.hid (HH.out.later hb)
  replace HSx := Lib.hid (HSx.out.later hb)
  replace HP := Lib.hid (HP.out.later hb)
  clear hb
  generalize htb : topoB l = tb
  have HTB := Lib.hid htb
  clear htb
  cases tb
  · rw [show errT false = 40 from rfl]
    go_wp2_with fail
    refine (tlive_any _).mono ?_
    rintro e _ ⟨rfl, hb⟩
    go_wp2
    go_ret
    exact ⟨rfl, blThen HB.out hb⟩
  rw [show errT true = 0 from rfl]
  have HTP := Lib.hid (topo_of HTB.out)
  have HN5 := Lib.hid (topo_n5 HTP.out)
  have H8 : Hid (l.length ≤ 1000000) := Nat.le_trans HTP.out.len (by decide)
  clear HTB
  have HUX : Hid ((uniL X).length ≤ 300000) := Nat.le_trans (uniL_len X) (Nat.le_trans HX30.out (by decide))
  have HUX6 : Hid ((uniL X).length ≤ 1000000) := Nat.le_trans HUX.out (by decide)
  have HSH := Lib.hid (topo_sh HTP.out n)
  have hl8 := HTP.out.len
  have hp30 := HP30.out
  go_wp2_with fail
  refine (refunion_any _ X _ (Nat.le_trans HX30.out (by decide)) HSx.out).mono ?_
  rintro e W1 ⟨_, rfl, ho, hb⟩
  obtain ⟨au, cu, rfl⟩ := ho.form
  have HSu := Lib.hid ho.sl
  clear ho
  clear HSx
  replace HB := Lib.hid (blThen HB.out hb)
  replace HH := Lib.hid (HH.out.later hb)
  replace HP := Lib.hid (HP.out.later hb)
  clear hb
  go_wp2
  go_loopw [12, 13] (fun b j wr => ∃ q : Nat, q ≤ P.length ∧ j = .int .i64 q ∧ b = .bool (anyHas l (P.take q) n) ∧ W1 = wr) (fun _ j _ => P.length - (intOf j).toNat)
  case atStart => exact ⟨0, Nat.zero_le _, rfl, rfl, rfl⟩
  case round =>
    obtain ⟨q, hq, rfl, rfl, rfl⟩ := hrel
    by_cases hlt2 : q < P.length
    · obtain ⟨i, hi⟩ := at_lt hlt2
      have HT := Lib.hid (anyHas_take (l := l) hi n)
      have hdq : decide ((q : Int) < (P.length : Int)) = true := decide_eq_true (by omega)
      cases hany : anyHas l (P.take q) n
      · have HANY := Lib.hid hany
        obtain ⟨gp, op, rfl, hgp, c0⟩ := HP.out.at hi
        have hq0 : (0 : Int) ≤ (q : Int) := by omega
        have hq1 : (q : Int) < (P.length : Int) := by omega
        clear hi hany
        by_cases hi0 : 0 ≤ i
        · obtain ⟨p, rfl⟩ := Int.eq_ofNat_of_zero_le hi0
          have hd0 : decide ((0 : Int) ≤ (p : Int)) = true := decide_eq_true hi0
          by_cases hil : p < l.length
          · obtain ⟨s, hs⟩ := at_lt hil
            obtain ⟨g, o, rfl, hg, e0, e1, f2⟩ := HH.out.at hs
            have hp0 : (0 : Int) ≤ (p : Int) := by omega
            have hp1 : (p : Int) < (l.length : Int) := by omega
            have hdp : decide ((p : Int) < (l.length : Int)) = true := decide_eq_true hp1
            have HL5 := Lib.hid (HN5.out s (List.mem_of_getElem? hs))
            have HIL := Lib.hid (HH.out.1 s (List.mem_of_getElem? hs))
            have HX : Hid (anyHas l (P.take (q + 1)) n = hasN s.nodes n) := by show _ = _; rw [HT.out, HANY.out, atHas_at hs, Bool.false_or]
            clear hs e0 e1
            generalize hh : hasN s.nodes n = b at *
            have HHH := Lib.hid hh
            clear hh
            cases b
            all_goals
              go_wp2_with (go_at_call 15; refine (refin_i _ _ s.nodes n _ HL5.out HIL.out).mono ?_; rintro r w2 ⟨rfl, rfl⟩; rw [HHH.out])
              go_roundw
              case rel => exact ⟨q + 1, hlt2, by go_num, by rw [HX.out], by trivial⟩
              case measure => simp [intOf]; omega
          · have hdp : decide ((p : Int) < (l.length : Int)) = false := decide_eq_false (by omega)
            have HX : Hid (anyHas l (P.take (q + 1)) n = false) := by show _ = _; rw [HT.out, HANY.out, atHas_out (by omega)]; rfl
            go_wp2
            go_roundw
            case rel => exact ⟨q + 1, hlt2, by go_num, by rw [HX.out], by trivial⟩
            case measure => simp [intOf]; omega
        · have hd0 : decide ((0 : Int) ≤ i) = false := decide_eq_false hi0
          have HX : Hid (anyHas l (P.take (q + 1)) n = false) := by show _ = _; rw [HT.out, HANY.out, atHas_neg (by omega)]; rfl
          go_wp2
          go_roundw
          case rel => exact ⟨q + 1, hlt2, by go_num, by rw [HX.out], by trivial⟩
          case measure => simp [intOf]; omega
      · have HX : Hid (anyHas l (P.take (q + 1)) n = true) := by show _ = _; rw [HT.out, hany]; rfl
        clear hi hany
        go_wp2
        go_roundw
        case rel => exact ⟨q + 1, hlt2, by go_num, by rw [HX.out], by trivial⟩
        case measure => simp [intOf]; omega
    · have hdq : decide ((q : Int) < (P.length : Int)) = false := decide_eq_false (by omega)
      have HAL := Lib.hid (any_all (l := l) (P := P) (q := q) (n := n) (by omega))
      have HKE := Lib.hid (any_node HTP.out P n)
      rw [HAL.out]
      generalize hx : anyHas l P n = x at *
      have HX := Lib.hid hx
      clear hx
      go_wp2
      go_loopw [14] (fun v wr => ∃ k : Nat, k ≤ l.length ∧ v = .int .i64 k ∧ Below W1.heap.size W1 wr) (fun v _ => l.length - (intOf v).toNat)
      case atStart => exact ⟨0, Nat.zero_le _, rfl, Below.refl _ _⟩
      case round =>
        obtain ⟨k, hk, rfl, hbr⟩ := hrel
        by_cases hlt : k < l.length
        · obtain ⟨s, hs⟩ := at_lt hlt
          obtain ⟨g, o, rfl, hg, d0, d1, d2⟩ := HH.out.at hs
          have c0 := cell_in hbr hg d0
          have c1 := cell_in hbr hg d1
          have c2 := cell_in hbr hg d2
          have hgw := Nat.lt_of_lt_of_le hg hbr.size
          have hk0 : (0 : Int) ≤ (k : Int) := by omega
          have hk1 : (k : Int) < (l.length : Int) := by omega
          have hdk : decide ((k : Int) < (l.length : Int)) = true := decide_eq_true hk1
          have hm15 := HTP.out.few s (List.mem_of_getElem? hs)
          obtain ⟨z, hz, hz0, hz3, hz4, hz5, hz6⟩ := quo_facts hm15.1 hm15.2
          have hzi : ¬ 2 * z ≤ (s.nodes.length : Int) := by omega
          have hzj : ¬ (s.nodes.length : Int) < 2 * (z - 1) := by omega
          have hd4 : decide (2 * z ≤ (s.nodes.length : Int)) = false := decide_eq_false hzi
          have hd5 : decide ((s.nodes.length : Int) < 2 * (z - 1)) = false := decide_eq_false hzj
          have QUO := quorum_any s
          unfold shV at QUO
          have HR := Lib.hid hbr
          clear hs hbr d0 d1 d2
          go_wp2_with fail
          refine (QUO _).mono ?_
          rintro e w2 ⟨rfl, hb⟩
          rw [hz]
          have HR2 := Lib.hid (blThen HR.out hb)
          clear hb c0 c1 c2 QUO
          go_wp2
          go_roundw
          case rel => exact ⟨k + 1, hlt, by go_num, HR2.out⟩
          case measure => simp [intOf]; omega
        · have hdk : decide ((k : Int) < (l.length : Int)) = false := decide_eq_false (by omega)
          obtain ⟨i, hi⟩ := HTP.out.once key
          have HAT : Hid (At l key i) := hi
          have hb := hbr
          clear hbr hi
          replace HB := Lib.hid (blThen HB.out hb)
          replace HH := Lib.hid (HH.out.later hb)
          replace HP := Lib.hid (HP.out.later hb)
          replace HSu := Lib.hid (HSu.out.later hb)
          clear hb
          have HLT := Lib.hid (Nat.le_trans (ofTo_len (shMeets l (uniL X)) l.length) H8.out)
          have HLO := Lib.hid (Nat.le_trans (ofTo_len (fun i => shHas l i n) l.length) H8.out)
          have HOW : Hid ((ownL l n).length ≤ 1000000) := Nat.le_trans (uniL_len _) (Nat.le_trans (ownTo_len _ _ _) H8.out)
          have HNL : Hid ((nodesL l P).length ≤ 1000000) := Nat.le_trans (ofTo_len _ _) (by decide)
          have HOQ : Hid (ofTo (shHas' l n) l.length = ofL l n) := ofTo_congr HSH.out
          go_wp2_with fail
          refine (find_any _ _ l key i _ H8.out HH.out HTP.out.full HAT.out).mono ?_
          rintro e _ ⟨rfl, hb⟩
          replace HB := Lib.hid (blThen HB.out hb)
          replace HH := Lib.hid (HH.out.later hb)
          replace HP := Lib.hid (HP.out.later hb)
          replace HSu := Lib.hid (HSu.out.later hb)
          clear hb
          go_wp2_with fail
          refine (reffind_any _ _ l key i _ H8.out HH.out HAT.out).mono ?_
          rintro e _ ⟨rfl, hb⟩
          replace HB := Lib.hid (blThen HB.out hb)
          replace HH := Lib.hid (HH.out.later hb)
          replace HP := Lib.hid (HP.out.later hb)
          replace HSu := Lib.hid (HSu.out.later hb)
          clear hb
          go_wp2_with fail
          refine (touch_any _ _ l _ (uniL X) _ H8.out HUX6.out HTP.out.full (uniL_set _) HH.out HSu.out).mono ?_
          rintro e _ ⟨_, rfl, ho, hb⟩
          obtain ⟨ap, cp, rfl⟩ := ho.form
          have HIp := Lib.hid ho.at
          clear ho
          replace HB := Lib.hid (blThen HB.out hb)
          replace HH := Lib.hid (HH.out.later hb)
          replace HP := Lib.hid (HP.out.later hb)
          replace HSu := Lib.hid (HSu.out.later hb)
          clear hb
          go_wp2_with fail
          refine (reftouch_any _ _ l _ (uniL X) _ H8.out HUX.out HH.out HSu.out).mono ?_
          rintro e _ ⟨_, rfl, ho, hb⟩
          obtain ⟨aq, cq, rfl⟩ := ho.form
          have HIq := Lib.hid ho.at
          clear ho
          replace HB := Lib.hid (blThen HB.out hb)
          replace HH := Lib.hid (HH.out.later hb)
          replace HP := Lib.hid (HP.out.later hb)
          replace HSu := Lib.hid (HSu.out.later hb)
          replace HIp := Lib.hid (HIp.out.later hb)
          clear hb
          go_wp2_with fail
          refine (ints_any _ _ _ _ (touchL l (uniL X)) (touchL l (uniL X)) _ HLT.out HIp.out HIq.out).mono ?_
          rintro e _ ⟨rfl, hb⟩
          replace HB := Lib.hid (blThen HB.out hb)
          replace HH := Lib.hid (HH.out.later hb)
          replace HP := Lib.hid (HP.out.later hb)
          replace HSu := Lib.hid (HSu.out.later hb)
          replace HIp := Lib.hid (HIp.out.later hb)
          replace HIq := Lib.hid (HIq.out.later hb)
          clear hb
          rw [same_i]
          clear HIp
          clear HIq
          clear HSu
          go_wp2_with fail
          refine (of_any _ _ l n _ H8.out HN5.out HH.out).mono ?_
          rintro e _ ⟨_, rfl, ho, hb⟩
          rw [HOQ.out] at ho
          obtain ⟨ap, cp2, rfl⟩ := ho.form
          have HIp := Lib.hid ho.at
          clear ho
          replace HB := Lib.hid (blThen HB.out hb)
          replace HH := Lib.hid (HH.out.later hb)
          replace HP := Lib.hid (HP.out.later hb)
          clear hb
          go_wp2_with fail
          refine (refof_any _ _ l n _ H8.out HN5.out HH.out).mono ?_
          rintro e _ ⟨_, rfl, ho, hb⟩
          obtain ⟨aq, cq, rfl⟩ := ho.form
          have HIq := Lib.hid ho.at
          clear ho
          replace HB := Lib.hid (blThen HB.out hb)
          replace HH := Lib.hid (HH.out.later hb)
          replace HP := Lib.hid (HP.out.later hb)
          replace HIp := Lib.hid (HIp.out.later hb)
          clear hb
          go_wp2_with fail
          refine (ints_any _ _ _ _ (ofL l n) (ofL l n) _ HLO.out HIp.out HIq.out).mono ?_
          rintro e _ ⟨rfl, hb⟩
          replace HB := Lib.hid (blThen HB.out hb)
          replace HH := Lib.hid (HH.out.later hb)
          replace HP := Lib.hid (HP.out.later hb)
          replace HIp := Lib.hid (HIp.out.later hb)
          replace HIq := Lib.hid (HIq.out.later hb)
          clear hb
          rw [same_i]
          clear HIp
          clear HIq
          go_wp2_with fail
          refine (owned_any _ _ l n _ H8.out HN5.out HSH.out HH.out).mono ?_
          rintro e _ ⟨_, rfl, ho, hb⟩
          obtain ⟨ap, cp, rfl⟩ := ho.form
          have HSp := Lib.hid ho.sl
          clear ho
          replace HB := Lib.hid (blThen HB.out hb)
          replace HH := Lib.hid (HH.out.later hb)
          replace HP := Lib.hid (HP.out.later hb)
          clear hb
          go_wp2_with fail
          refine (refowned_any _ _ l n _ (Nat.le_trans HTP.out.len (by decide)) HN5.out HH.out).mono ?_
          rintro e _ ⟨_, rfl, ho, hb⟩
          obtain ⟨aq, cq, rfl⟩ := ho.form
          have HSq := Lib.hid ho.sl
          clear ho
          replace HB := Lib.hid (blThen HB.out hb)
          replace HH := Lib.hid (HH.out.later hb)
          replace HP := Lib.hid (HP.out.later hb)
          replace HSp := Lib.hid (HSp.out.later hb)
          clear hb
          go_wp2_with fail
          refine (same_any _ _ (ownL l n) (ownL l n) _ HOW.out HOW.out HSp.out HSq.out).mono ?_
          rintro e W2 ⟨rfl, hb⟩
          replace HB := Lib.hid (blThen HB.out hb)
          replace HH := Lib.hid (HH.out.later hb)
          replace HP := Lib.hid (HP.out.later hb)
          replace HSp := Lib.hid (HSp.out.later hb)
          replace HSq := Lib.hid (HSq.out.later hb)
          clear hb
          rw [show sameB (ownL l n) (ownL l n) = true by simp [sameB]]
          clear HSp
          clear HSq
          have HO0 : Hid (OwnI (W2.alloc (.cells #[] 3)) W2.heap.size (.slice (some ⟨W2.heap.size, 0, none⟩) 0 0) []) := own_emptyI W2 _ _ rfl (Nat.le_refl _)
          go_wp2_with (at_builtin; refine append_i_g (by first | rfl | simp [Region.wanted, yielded]) (.tmp 139) (.tmp 140) rfl W2.heap.size _ [] rfl HO0.out _ _ _ P rfl rfl (HP.out.later (blAlloc (Below.refl _ _) _)) (by have := HP30.out; simp; omega) (by simp) ?_; intro v1 w3 h1 h2; have H1 : Hid (OwnI w3 W2.heap.size v1 P) := h1; have H2 := Lib.hid (grown_belowI (blAlloc (Below.refl W2.heap.size W2) _) HO0.out (Nat.le_refl _) (by simp) h2); clear h1 h2)
          have hb := H2.out
          obtain ⟨ae, ce, rfl⟩ := H1.out.form
          have HIe := Lib.hid H1.out.at
          clear H1 H2 HO0
          replace HB := Lib.hid (blThen HB.out hb)
          replace HH := Lib.hid (HH.out.later hb)
          replace HP := Lib.hid (HP.out.later hb)
          clear hb
          skip
          refine (keeps_any _ _ l n _ _ P _ H8.out HP6.out HN5.out HH.out HIe.out).mono ?_
          rintro e W3 ⟨rfl, hb⟩
          replace HB := Lib.hid (blThen HB.out hb)
          replace HH := Lib.hid (HH.out.later hb)
          replace HP := Lib.hid (HP.out.later hb)
          replace HIe := Lib.hid (HIe.out.later hb)
          clear hb
          rw [HX.out, HKE.out]
          clear HIe
          cases x
          all_goals
            have HO0 : Hid (OwnI (W3.alloc (.cells #[] 3)) W3.heap.size (.slice (some ⟨W3.heap.size, 0, none⟩) 0 0) []) := own_emptyI W3 _ _ rfl (Nat.le_refl _)
            go_wp2_with (at_builtin; refine append_i_g (by first | rfl | simp [Region.wanted, yielded]) (.tmp 148) (.tmp 149) rfl W3.heap.size _ [] rfl HO0.out _ _ _ P rfl rfl (HP.out.later (blAlloc (Below.refl _ _) _)) (by have := HP30.out; simp; omega) (by simp) ?_; intro v1 w3 h1 h2; have H1 : Hid (OwnI w3 W3.heap.size v1 P) := h1; have H2 := Lib.hid (grown_belowI (blAlloc (Below.refl W3.heap.size W3) _) HO0.out (Nat.le_refl _) (by simp) h2); clear h1 h2)
            have hb := H2.out
            obtain ⟨af, cf, rfl⟩ := H1.out.form
            have HIf := Lib.hid H1.out.at
            clear H1 H2 HO0
            replace HB := Lib.hid (blThen HB.out hb)
            replace HH := Lib.hid (HH.out.later hb)
            replace HP := Lib.hid (HP.out.later hb)
            clear hb
            go_wp2_with fail
            refine (nodes_any _ _ l _ _ P _ H8.out HP6.out HN5.out HH.out HIf.out).mono ?_
            rintro e _ ⟨_, rfl, ho, hb⟩
            obtain ⟨ap, cp, rfl⟩ := ho.form
            have HIp := Lib.hid ho.at
            clear ho
            replace HB := Lib.hid (blThen HB.out hb)
            replace HH := Lib.hid (HH.out.later hb)
            replace HP := Lib.hid (HP.out.later hb)
            replace HIf := Lib.hid (HIf.out.later hb)
            clear hb
            clear HIf
            go_wp2_with fail
            refine (refnodes_any _ _ l _ _ P _ H8.out HP6.out HN5.out HH.out HP.out).mono ?_
            rintro e _ ⟨_, rfl, ho, hb⟩
            obtain ⟨aq, cq, rfl⟩ := ho.form
            have HIq := Lib.hid ho.at
            clear ho
            replace HB := Lib.hid (blThen HB.out hb)
            replace HH := Lib.hid (HH.out.later hb)
            replace HP := Lib.hid (HP.out.later hb)
            replace HIp := Lib.hid (HIp.out.later hb)
            clear hb
            go_wp2_with fail
            refine (ints_any _ _ _ _ (nodesL l P) (nodesL l P) _ HNL.out HIp.out HIq.out).mono ?_
            rintro e _ ⟨rfl, hb⟩
            replace HB := Lib.hid (blThen HB.out hb)
            replace HH := Lib.hid (HH.out.later hb)
            replace HP := Lib.hid (HP.out.later hb)
            replace HIp := Lib.hid (HIp.out.later hb)
            replace HIq := Lib.hid (HIq.out.later hb)
            clear hb
            rw [same_i]
            clear HIp
            clear HIq
            go_wp2_with fail
            refine (tlive_any _).mono ?_
            rintro e _ ⟨rfl, hb⟩
            go_wp2
            go_ret
            exact ⟨rfl, blThen HB.out hb⟩

set_option maxRecDepth 100000 in
theorem topoTells_lifted (os : Os) (started : os.Started) (H : Type) (enc : TypeId × Value → H) :
    ReturnsInHanded {} Try.checked os 4 .any (Rows.topoTellsSpec.pre6 enc Try.prog Try.f4 Rows.topoTellsRow.domain false) (Rows.topoTellsSpec.post enc Try.prog Try.f4 false true false false) := by
  refine law_lift (C := Try.checked) own0 started (by kernel_rfl) Try.func4 laid0 rfl (by kernel_rfl) (fun _ _ _ _ => trodAll_mk1 (shut_bool Try.underlying4 true)) (fun ds h => match ds, h with | [_, _, _, _, _], _ => ⟨rfl, rfl, rfl⟩)
    (ChangeSpec.witness6 (enc := enc) (C := Try.checked) false ⟨#[], #[.slice none 0 0, .string ⟨#[]⟩, .slice none 0 0, .int .i64 0, .slice none 0 0], []⟩ 8 (by kernel_rfl) (by kernel_rfl) (by kernel_rfl) (by kernel_rfl)) ?_
  intro W base args ds before hval0 hA0 hlt
  have hval : ∀ (j : Nat) t v, Try.f4.params[j]? = some t → args[j]? = some v → Value.okWide Try.prog W .any base t v := hval0
  have hA : DataW.TrodAll enc Try.prog W 0 (fun _ => true) true Try.f4.params.toList args.toList ds before := hA0
  rw [Try.params4] at hA hval
  obtain ⟨v0, vs0, d0, ds0, p0, q0, hargs, rfl, rfl, h0, r0⟩ := trodAll_cons hA
  obtain ⟨v1, vs1, d1, ds1, p1, q1, rfl, rfl, rfl, h1, r1⟩ := trodAll_cons r0
  obtain ⟨v2, vs2, d2, ds2, p2, q2, rfl, rfl, rfl, h2, r2⟩ := trodAll_cons r1
  obtain ⟨v3, vs3, d3, ds3, p3, q3, rfl, rfl, rfl, h3, r3⟩ := trodAll_cons r2
  obtain ⟨v4, vs4, d4, ds4, p4, q4, rfl, rfl, rfl, h4, r4⟩ := trodAll_cons r3
  obtain ⟨rfl, rfl, rfl⟩ := trodAll_nil r4
  obtain rfl : args = #[v0, v1, v2, v3, v4] := by cases args; simp_all
  obtain ⟨a0, l0, c0, rfl, hh0, hm0⟩ := open_shards (hval 0 22 v0 rfl rfl) h0
  obtain ⟨s1, rfl, rfl, rfl, hh1⟩ := Go.ChangeMaps.open_string Try.underlying9 (hval 1 9 v1 rfl rfl) h1
  obtain ⟨l2, hh2, hm2⟩ := open_spans (hval 2 30 v2 rfl rfl) h2
  obtain ⟨n3, rfl, rfl, rfl, wn3⟩ := open_int Try.underlying3 (hval 3 3 v3 rfl rfl) h3
  obtain ⟨a4, l4, c4, rfl, hh4, hm4⟩ := open_intl (hval 4 31 v4 rfl rfl) h4
  exact topoTells_walk _ _ l0 s1 _ l2 n3 _ _ l4 W hh0 hm0 hh2 hm2 hh4 hm4

theorem topoTells_holds : Rows.TopoTellsSaid :=
  OpenClaim.holds_of_wide 4 Try.f4 rfl rfl rfl rfl rfl rfl rfl ⟨rfl, rfl, rfl, rfl, rfl⟩ rfl rfl rfl rfl rfl (by kernel_rfl) Try.func4 (by kernel_rfl)
    (of_decide_eq_true (by kernel_rfl)) (by unfold Func.isWrapper; rw [if_neg (of_decide_eq_false (by kernel_rfl))]; exact ⟨rfl, rfl⟩)
    (fun os started H enc _ => topoTells_lifted os started H enc)

#print axioms topoTells_holds

end Go.Proofs.Ytkgfpppbpjinaaa
