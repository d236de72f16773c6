/- SpanEach: of each text, whether it is in both, in the first alone, in either; whatever the spans and texts, the law returns true and leaves its arguments as they were. Conditions: none. -/
import Derived.Test.YtolbgpcmpbkmmaaLb
set_option linter.unusedVariables false
set_option linter.unusedSimpArgs false
namespace Go.Proofs.Ytolbgpcmpbkmmaa
open Go.ChangeShapes Go.WideShapes Go.ChangeAt Go.RowKit Go.Joins Go.Deep

set_option maxRecDepth 100000 in
set_option maxHeartbeats 8000000 in
theorem spanEach_walk (va vb vl : Value) (la lb : List Sp) (ll : List ByteArray) (w : World) (hsa : Sl w va la) (hsb : Sl w vb lb) (hsl : Tl w vl ll) (hla : la.length ≤ 9223372036854775807) (hlb : lb.length ≤ 9223372036854775807) :
    Calls Try.prog 5 #[va, vb, vl] w fun e w' => e = .returned (.bool true) ∧ Below w.heap.size w w' := by
  obtain ⟨aa, ca, rfl⟩ := hsa.form
  obtain ⟨ab, cb, rfl⟩ := hsb.form
  have HSa := Lib.hid hsa
  have HLa := Lib.hid hla
  have HSb := Lib.hid hsb
  have HLb := Lib.hid hlb
  obtain ⟨al, cl, rfl⟩ := hsl.form
  have HSl := Lib.hid hsl
  clear hsl
  have HB := Lib.hid (Below.refl w.heap.size w)
  clear hsa hla hsb hlb
  go_enter Try.func5, Try.ntmps5
  go_wp2_with fail
  refine (small_any _ la _ HSa.out HLa.out).mono ?_
  rintro e _ ⟨b, rfl, h30, hb⟩
  replace HB := Lib.hid (blThen HB.out hb)
  replace HSa := Lib.hid (HSa.out.later hb)
  replace HSb := Lib.hid (HSb.out.later hb)
  replace HSl := Lib.hid (HSl.out.later hb)
  clear hb
  cases b
  · go_wp2_with fail
    refine (live_any _).mono ?_
    rintro e _ ⟨rfl, hb⟩
    go_wp2
    go_ret
    exact ⟨rfl, blThen HB.out hb⟩
  replace HLa := Lib.hid (h30 rfl)
  clear h30
  go_wp2_with fail
  refine (small_any _ lb _ HSb.out HLb.out).mono ?_
  rintro e _ ⟨b, rfl, h30, hb⟩
  replace HB := Lib.hid (blThen HB.out hb)
  replace HSa := Lib.hid (HSa.out.later hb)
  replace HSb := Lib.hid (HSb.out.later hb)
  replace HSl := Lib.hid (HSl.out.later hb)
  clear hb
  cases b
  · go_wp2_with fail
    refine (live_any _).mono ?_
    rintro e _ ⟨rfl, hb⟩
    go_wp2
    go_ret
    exact ⟨rfl, blThen HB.out hb⟩
  replace HLb := Lib.hid (h30 rfl)
  clear h30
  by_cases hbig : 30 < ll.length
  · have hbigI : (30 : Int) < (ll.length : Int) := by omega
    have hd : decide ((30 : Int) < (ll.length : Int)) = true := decide_eq_true hbigI
    go_wp2_with fail
    refine (live_any _).mono ?_
    rintro e _ ⟨rfl, hb⟩
    go_wp2
    go_ret
    exact ⟨rfl, blThen HB.out hb⟩
  have hbigI : ¬ (30 : Int) < (ll.length : Int) := by omega
  have hd : decide ((30 : Int) < (ll.length : Int)) = false := decide_eq_false hbigI
  have Lx : Hid ((uniL la).length ≤ 30) := Nat.le_trans (uniL_len la) HLa.out
  have Ly : Hid ((uniL lb).length ≤ 30) := Nat.le_trans (uniL_len lb) HLb.out
  have Lc : Hid ((setL 1 (uniL la) (uniL lb)).length ≤ 120) := Nat.le_trans (setL_len 1 _ _) (by have := Lx.out; have := Ly.out; omega)
  have Ld : Hid ((setL 2 (uniL la) (uniL lb)).length ≤ 120) := Nat.le_trans (setL_len 2 _ _) (by have := Lx.out; have := Ly.out; omega)
  have NJo : Hid (la.length + lb.length ≤ 1000000) := by have := HLa.out; have := HLb.out; show _ ≤ _; omega
  have Lo : Hid ((uniL (la ++ lb)).length ≤ 60) := Nat.le_trans (uniL_len _) (by have := HLa.out; have := HLb.out; rw [List.length_append]; omega)
  go_wp2_with fail
  refine (union_any _ la _ (Nat.le_trans HLa.out (by decide)) HSa.out).mono ?_
  rintro e _ ⟨_, rfl, ho, hb⟩
  obtain ⟨a_x, c_x, rfl⟩ := ho.form
  replace HB := Lib.hid (blThen HB.out hb)
  replace HSa := Lib.hid (HSa.out.later hb)
  replace HSb := Lib.hid (HSb.out.later hb)
  replace HSl := Lib.hid (HSl.out.later hb)
  clear hb
  have HSx := Lib.hid ho.sl
  clear ho
  go_wp2_with fail
  refine (union_any _ lb _ (Nat.le_trans HLb.out (by decide)) HSb.out).mono ?_
  rintro e _ ⟨_, rfl, ho, hb⟩
  obtain ⟨a_y, c_y, rfl⟩ := ho.form
  replace HB := Lib.hid (blThen HB.out hb)
  replace HSa := Lib.hid (HSa.out.later hb)
  replace HSb := Lib.hid (HSb.out.later hb)
  replace HSl := Lib.hid (HSl.out.later hb)
  replace HSx := Lib.hid (HSx.out.later hb)
  clear hb
  have HSy := Lib.hid ho.sl
  clear ho
  go_wp2_with fail
  refine (cut_any' _ _ (uniL la) (uniL lb) _ (Nat.le_trans Lx.out (by decide)) (Nat.le_trans Ly.out (by decide)) HSx.out HSy.out (uniL_set _) (uniL_set _)).mono ?_
  rintro e _ ⟨_, rfl, ho, hb⟩
  obtain ⟨a_c, c_c, rfl⟩ := ho.form
  replace HB := Lib.hid (blThen HB.out hb)
  replace HSa := Lib.hid (HSa.out.later hb)
  replace HSb := Lib.hid (HSb.out.later hb)
  replace HSl := Lib.hid (HSl.out.later hb)
  replace HSx := Lib.hid (HSx.out.later hb)
  replace HSy := Lib.hid (HSy.out.later hb)
  clear hb
  have HSc := Lib.hid ho.sl
  clear ho
  go_wp2_with fail
  refine (less_any' _ _ (uniL la) (uniL lb) _ (Nat.le_trans Lx.out (by decide)) (Nat.le_trans Ly.out (by decide)) HSx.out HSy.out (uniL_set _) (uniL_set _)).mono ?_
  rintro e _ ⟨_, rfl, ho, hb⟩
  obtain ⟨a_d, c_d, rfl⟩ := ho.form
  replace HB := Lib.hid (blThen HB.out hb)
  replace HSa := Lib.hid (HSa.out.later hb)
  replace HSb := Lib.hid (HSb.out.later hb)
  replace HSl := Lib.hid (HSl.out.later hb)
  replace HSx := Lib.hid (HSx.out.later hb)
  replace HSy := Lib.hid (HSy.out.later hb)
  replace HSc := Lib.hid (HSc.out.later hb)
  clear hb
  have HSd := Lib.hid ho.sl
  clear ho
  go_wp2_with fail
  refine (own_any _ la _ (Nat.le_trans HLa.out (by decide)) HSa.out).mono ?_
  rintro e _ ⟨_, rfl, ho, hbx⟩
  obtain ⟨a_t, c_t, rfl⟩ := ho.form
  have HOT := Lib.hid ho
  have HBX := Lib.hid hbx
  clear ho hbx
  go_wp2_with (at_builtin; refine append_sp rfl _ _ rfl _ _ (la) rfl HOT.out _ (lb) rfl (HSb.out.later HBX.out) (Nat.le_trans NJo.out (by decide)) HBX.out.size ?_; intro v1 w1 h1 h2; have H1 := Lib.hid h1; have H2 := Lib.hid (grown_below HBX.out HOT.out (Nat.le_refl _) HBX.out.size h2); clear h1 h2)
  refine (union_any _ (la ++ lb) _ (by rw [List.length_append]; exact NJo.out) H1.out.sl).mono ?_
  rintro e _ ⟨_, rfl, ho, hb0⟩
  obtain ⟨a_o, c_o, rfl⟩ := ho.form
  have hb := blThen H2.out hb0
  clear hb0
  replace HB := Lib.hid (blThen HB.out hb)
  replace HSa := Lib.hid (HSa.out.later hb)
  replace HSb := Lib.hid (HSb.out.later hb)
  replace HSl := Lib.hid (HSl.out.later hb)
  replace HSx := Lib.hid (HSx.out.later hb)
  replace HSy := Lib.hid (HSy.out.later hb)
  replace HSc := Lib.hid (HSc.out.later hb)
  replace HSd := Lib.hid (HSd.out.later hb)
  clear hb
  have HSo := Lib.hid ho.sl
  clear ho HOT HBX H1 H2
  rename_i W1
  go_wp2
  go_loopw [12, 13, 14] (fun i p q wr => ∃ j : Nat, j ≤ ll.length ∧ i = .int .i64 j ∧ Below W1.heap.size W1 wr) (fun i _ _ _ => ll.length - (intOf i).toNat)
  case atStart => exact ⟨0, Nat.zero_le _, rfl, Below.refl _ _⟩
  case round =>
    obtain ⟨j, hj, rfl, hbr⟩ := hrel
    replace HB := Lib.hid (blThen HB.out hbr)
    replace HSa := Lib.hid (HSa.out.later hbr)
    replace HSx := Lib.hid (HSx.out.later hbr)
    replace HSy := Lib.hid (HSy.out.later hbr)
    replace HSc := Lib.hid (HSc.out.later hbr)
    replace HSd := Lib.hid (HSd.out.later hbr)
    replace HSo := Lib.hid (HSo.out.later hbr)
    replace HSl := Lib.hid (HSl.out.later hbr)
    have HBR := Lib.hid hbr
    clear hbr HSb
    by_cases hlt : j < ll.length
    · obtain ⟨t, ht⟩ := at_lt hlt
      obtain ⟨gl, ol, rfl, hgl, ct⟩ := HSl.out.at ht
      have hj0 : (0 : Int) ≤ (j : Int) := by omega
      have hj1 : (j : Int) < (ll.length : Int) := by omega
      have hdj : decide ((j : Int) < (ll.length : Int)) = true := decide_eq_true hj1
      clear ht HSl
      by_cases hts : 4000 < t.size
      · have htI : (4000 : Int) < (t.size : Int) := by omega
        have hdt : decide ((4000 : Int) < (t.size : Int)) = true := decide_eq_true htI
        go_wp2_with fail
        refine (live_any _).mono ?_
        rintro e _ ⟨rfl, hb⟩
        go_wp2
        go_ret
        exact ⟨rfl, blThen HB.out hb⟩
      have htI : ¬ (4000 : Int) < (t.size : Int) := by omega
      have hdt : decide ((4000 : Int) < (t.size : Int)) = false := decide_eq_false htI
      have MX := Lib.hid (uniL_mem la t)
      have MY := Lib.hid (uniL_mem lb t)
      have MC : Hid (memL (setL 1 (uniL la) (uniL lb)) t = (memL la t && memL lb t)) := by show _ = _; rw [setL_mem, uniL_mem, uniL_mem, want1]
      have MD : Hid (memL (setL 2 (uniL la) (uniL lb)) t = (memL la t && !memL lb t)) := by show _ = _; rw [setL_mem, uniL_mem, uniL_mem, want2]
      have MO : Hid (memL (uniL (la ++ lb)) t = (memL la t || memL lb t)) := by show _ = _; rw [uniL_mem, memL_append]
      generalize hp : memL la t = p at MX MC MD MO
      have MA := Lib.hid hp
      clear hp
      generalize memL lb t = q at MY MC MD MO
      cases p <;> cases q
      · replace MC : Hid (memL (setL 1 (uniL la) (uniL lb)) t = false) := MC
        replace MD : Hid (memL (setL 2 (uniL la) (uniL lb)) t = false) := MD
        replace MO : Hid (memL (uniL (la ++ lb)) t = false) := MO
        go_wp2_with fail
        refine region_aft (by kernel_rfl) (by kernel_rfl) ?_
        repeat (go_big_quiet_step (first
          | (go_at_call_of 26 (Value.slice a_x (uniL la).length c_x); exact aft_of ((has_any _ (uniL la) t _ (Nat.le_trans Lx.out (by decide)) (HSx.out.later (Aft.h _)) (uniL_set _)).mono fun e w' h => ⟨h.1.trans (by rw [MX.out]), h.2⟩))
          | (go_at_call_of 26 (Value.slice a_y (uniL lb).length c_y); exact aft_of ((has_any _ (uniL lb) t _ (Nat.le_trans Ly.out (by decide)) (HSy.out.later (Aft.h _)) (uniL_set _)).mono fun e w' h => ⟨h.1.trans (by rw [MY.out]), h.2⟩))))
        refine wpQuiet_nil ?_
        rintro w4 ⟨y4, rfl⟩
        have hb := y4.h
        generalize y4.x = w4 at hb ⊢
        clear y4
        have hgl' := Nat.lt_of_lt_of_le hgl hb.size
        replace ct := cell_in hb hgl ct
        replace HBR := Lib.hid (blThen HBR.out hb)
        replace HB := Lib.hid (blThen HB.out hb)
        replace HSa := Lib.hid (HSa.out.later hb)
        replace HSx := Lib.hid (HSx.out.later hb)
        replace HSy := Lib.hid (HSy.out.later hb)
        replace HSc := Lib.hid (HSc.out.later hb)
        replace HSd := Lib.hid (HSd.out.later hb)
        replace HSo := Lib.hid (HSo.out.later hb)
        clear hb
        go_wp2_with fail
        refine (has_any _ (setL 1 (uniL la) (uniL lb)) t _ (Nat.le_trans Lc.out (by decide)) HSc.out (setL_set _ _ _)).mono ?_
        rintro e _ ⟨rfl, hb⟩
        replace ct := cell_in hb hgl' ct
        replace hgl' := Nat.lt_of_lt_of_le hgl' hb.size
        replace HBR := Lib.hid (blThen HBR.out hb)
        replace HB := Lib.hid (blThen HB.out hb)
        replace HSa := Lib.hid (HSa.out.later hb)
        replace HSx := Lib.hid (HSx.out.later hb)
        replace HSy := Lib.hid (HSy.out.later hb)
        replace HSc := Lib.hid (HSc.out.later hb)
        replace HSd := Lib.hid (HSd.out.later hb)
        replace HSo := Lib.hid (HSo.out.later hb)
        clear hb
        rw [MC.out]
        go_wp2_with fail
        refine (has_any _ (setL 2 (uniL la) (uniL lb)) t _ (Nat.le_trans Ld.out (by decide)) HSd.out (setL_set _ _ _)).mono ?_
        rintro e _ ⟨rfl, hb⟩
        replace ct := cell_in hb hgl' ct
        replace hgl' := Nat.lt_of_lt_of_le hgl' hb.size
        replace HBR := Lib.hid (blThen HBR.out hb)
        replace HB := Lib.hid (blThen HB.out hb)
        replace HSa := Lib.hid (HSa.out.later hb)
        replace HSx := Lib.hid (HSx.out.later hb)
        replace HSy := Lib.hid (HSy.out.later hb)
        replace HSc := Lib.hid (HSc.out.later hb)
        replace HSd := Lib.hid (HSd.out.later hb)
        replace HSo := Lib.hid (HSo.out.later hb)
        clear hb
        rw [MD.out]
        go_wp2_with fail
        refine (has_any _ (uniL (la ++ lb)) t _ (Nat.le_trans Lo.out (by decide)) HSo.out (uniL_set _)).mono ?_
        rintro e _ ⟨rfl, hb⟩
        replace ct := cell_in hb hgl' ct
        replace hgl' := Nat.lt_of_lt_of_le hgl' hb.size
        replace HBR := Lib.hid (blThen HBR.out hb)
        replace HB := Lib.hid (blThen HB.out hb)
        replace HSa := Lib.hid (HSa.out.later hb)
        replace HSx := Lib.hid (HSx.out.later hb)
        replace HSy := Lib.hid (HSy.out.later hb)
        replace HSc := Lib.hid (HSc.out.later hb)
        replace HSd := Lib.hid (HSd.out.later hb)
        replace HSo := Lib.hid (HSo.out.later hb)
        clear hb
        rw [MO.out]
        go_wp2_with fail
        refine (refhas_any _ la t _ (Nat.le_trans HLa.out (by decide)) HSa.out).mono ?_
        rintro e _ ⟨rfl, hb⟩
        replace ct := cell_in hb hgl' ct
        replace hgl' := Nat.lt_of_lt_of_le hgl' hb.size
        replace HBR := Lib.hid (blThen HBR.out hb)
        replace HB := Lib.hid (blThen HB.out hb)
        replace HSa := Lib.hid (HSa.out.later hb)
        replace HSx := Lib.hid (HSx.out.later hb)
        replace HSy := Lib.hid (HSy.out.later hb)
        replace HSc := Lib.hid (HSc.out.later hb)
        replace HSd := Lib.hid (HSd.out.later hb)
        replace HSo := Lib.hid (HSo.out.later hb)
        clear hb
        rw [MA.out]
        go_wp2
        go_roundw
        case rel => exact ⟨j + 1, hlt, by go_num, HBR.out⟩
        case measure => simp [intOf]; omega
      · replace MC : Hid (memL (setL 1 (uniL la) (uniL lb)) t = false) := MC
        replace MD : Hid (memL (setL 2 (uniL la) (uniL lb)) t = false) := MD
        replace MO : Hid (memL (uniL (la ++ lb)) t = true) := MO
        go_wp2_with fail
        refine region_aft (by kernel_rfl) (by kernel_rfl) ?_
        repeat (go_big_quiet_step (first
          | (go_at_call_of 26 (Value.slice a_x (uniL la).length c_x); exact aft_of ((has_any _ (uniL la) t _ (Nat.le_trans Lx.out (by decide)) (HSx.out.later (Aft.h _)) (uniL_set _)).mono fun e w' h => ⟨h.1.trans (by rw [MX.out]), h.2⟩))
          | (go_at_call_of 26 (Value.slice a_y (uniL lb).length c_y); exact aft_of ((has_any _ (uniL lb) t _ (Nat.le_trans Ly.out (by decide)) (HSy.out.later (Aft.h _)) (uniL_set _)).mono fun e w' h => ⟨h.1.trans (by rw [MY.out]), h.2⟩))))
        refine wpQuiet_nil ?_
        rintro w4 ⟨y4, rfl⟩
        have hb := y4.h
        generalize y4.x = w4 at hb ⊢
        clear y4
        have hgl' := Nat.lt_of_lt_of_le hgl hb.size
        replace ct := cell_in hb hgl ct
        replace HBR := Lib.hid (blThen HBR.out hb)
        replace HB := Lib.hid (blThen HB.out hb)
        replace HSa := Lib.hid (HSa.out.later hb)
        replace HSx := Lib.hid (HSx.out.later hb)
        replace HSy := Lib.hid (HSy.out.later hb)
        replace HSc := Lib.hid (HSc.out.later hb)
        replace HSd := Lib.hid (HSd.out.later hb)
        replace HSo := Lib.hid (HSo.out.later hb)
        clear hb
        go_wp2_with fail
        refine (has_any _ (setL 1 (uniL la) (uniL lb)) t _ (Nat.le_trans Lc.out (by decide)) HSc.out (setL_set _ _ _)).mono ?_
        rintro e _ ⟨rfl, hb⟩
        replace ct := cell_in hb hgl' ct
        replace hgl' := Nat.lt_of_lt_of_le hgl' hb.size
        replace HBR := Lib.hid (blThen HBR.out hb)
        replace HB := Lib.hid (blThen HB.out hb)
        replace HSa := Lib.hid (HSa.out.later hb)
        replace HSx := Lib.hid (HSx.out.later hb)
        replace HSy := Lib.hid (HSy.out.later hb)
        replace HSc := Lib.hid (HSc.out.later hb)
        replace HSd := Lib.hid (HSd.out.later hb)
        replace HSo := Lib.hid (HSo.out.later hb)
        clear hb
        rw [MC.out]
        go_wp2_with fail
        refine (has_any _ (setL 2 (uniL la) (uniL lb)) t _ (Nat.le_trans Ld.out (by decide)) HSd.out (setL_set _ _ _)).mono ?_
        rintro e _ ⟨rfl, hb⟩
        replace ct := cell_in hb hgl' ct
        replace hgl' := Nat.lt_of_lt_of_le hgl' hb.size
        replace HBR := Lib.hid (blThen HBR.out hb)
        replace HB := Lib.hid (blThen HB.out hb)
        replace HSa := Lib.hid (HSa.out.later hb)
        replace HSx := Lib.hid (HSx.out.later hb)
        replace HSy := Lib.hid (HSy.out.later hb)
        replace HSc := Lib.hid (HSc.out.later hb)
        replace HSd := Lib.hid (HSd.out.later hb)
        replace HSo := Lib.hid (HSo.out.later hb)
        clear hb
        rw [MD.out]
        go_wp2_with fail
        refine (has_any _ (uniL (la ++ lb)) t _ (Nat.le_trans Lo.out (by decide)) HSo.out (uniL_set _)).mono ?_
        rintro e _ ⟨rfl, hb⟩
        replace ct := cell_in hb hgl' ct
        replace hgl' := Nat.lt_of_lt_of_le hgl' hb.size
        replace HBR := Lib.hid (blThen HBR.out hb)
        replace HB := Lib.hid (blThen HB.out hb)
        replace HSa := Lib.hid (HSa.out.later hb)
        replace HSx := Lib.hid (HSx.out.later hb)
        replace HSy := Lib.hid (HSy.out.later hb)
        replace HSc := Lib.hid (HSc.out.later hb)
        replace HSd := Lib.hid (HSd.out.later hb)
        replace HSo := Lib.hid (HSo.out.later hb)
        clear hb
        rw [MO.out]
        go_wp2_with fail
        refine (refhas_any _ la t _ (Nat.le_trans HLa.out (by decide)) HSa.out).mono ?_
        rintro e _ ⟨rfl, hb⟩
        replace ct := cell_in hb hgl' ct
        replace hgl' := Nat.lt_of_lt_of_le hgl' hb.size
        replace HBR := Lib.hid (blThen HBR.out hb)
        replace HB := Lib.hid (blThen HB.out hb)
        replace HSa := Lib.hid (HSa.out.later hb)
        replace HSx := Lib.hid (HSx.out.later hb)
        replace HSy := Lib.hid (HSy.out.later hb)
        replace HSc := Lib.hid (HSc.out.later hb)
        replace HSd := Lib.hid (HSd.out.later hb)
        replace HSo := Lib.hid (HSo.out.later hb)
        clear hb
        rw [MA.out]
        go_wp2
        go_roundw
        case rel => exact ⟨j + 1, hlt, by go_num, HBR.out⟩
        case measure => simp [intOf]; omega
      · replace MC : Hid (memL (setL 1 (uniL la) (uniL lb)) t = false) := MC
        replace MD : Hid (memL (setL 2 (uniL la) (uniL lb)) t = true) := MD
        replace MO : Hid (memL (uniL (la ++ lb)) t = true) := MO
        go_wp2_with fail
        refine region_aft (by kernel_rfl) (by kernel_rfl) ?_
        repeat (go_big_quiet_step (first
          | (go_at_call_of 26 (Value.slice a_x (uniL la).length c_x); exact aft_of ((has_any _ (uniL la) t _ (Nat.le_trans Lx.out (by decide)) (HSx.out.later (Aft.h _)) (uniL_set _)).mono fun e w' h => ⟨h.1.trans (by rw [MX.out]), h.2⟩))
          | (go_at_call_of 26 (Value.slice a_y (uniL lb).length c_y); exact aft_of ((has_any _ (uniL lb) t _ (Nat.le_trans Ly.out (by decide)) (HSy.out.later (Aft.h _)) (uniL_set _)).mono fun e w' h => ⟨h.1.trans (by rw [MY.out]), h.2⟩))))
        refine wpQuiet_nil ?_
        rintro w4 ⟨y4, rfl⟩
        have hb := y4.h
        generalize y4.x = w4 at hb ⊢
        clear y4
        have hgl' := Nat.lt_of_lt_of_le hgl hb.size
        replace ct := cell_in hb hgl ct
        replace HBR := Lib.hid (blThen HBR.out hb)
        replace HB := Lib.hid (blThen HB.out hb)
        replace HSa := Lib.hid (HSa.out.later hb)
        replace HSx := Lib.hid (HSx.out.later hb)
        replace HSy := Lib.hid (HSy.out.later hb)
        replace HSc := Lib.hid (HSc.out.later hb)
        replace HSd := Lib.hid (HSd.out.later hb)
        replace HSo := Lib.hid (HSo.out.later hb)
        clear hb
        go_wp2_with fail
        refine (has_any _ (setL 1 (uniL la) (uniL lb)) t _ (Nat.le_trans Lc.out (by decide)) HSc.out (setL_set _ _ _)).mono ?_
        rintro e _ ⟨rfl, hb⟩
        replace ct := cell_in hb hgl' ct
        replace hgl' := Nat.lt_of_lt_of_le hgl' hb.size
        replace HBR := Lib.hid (blThen HBR.out hb)
        replace HB := Lib.hid (blThen HB.out hb)
        replace HSa := Lib.hid (HSa.out.later hb)
        replace HSx := Lib.hid (HSx.out.later hb)
        replace HSy := Lib.hid (HSy.out.later hb)
        replace HSc := Lib.hid (HSc.out.later hb)
        replace HSd := Lib.hid (HSd.out.later hb)
        replace HSo := Lib.hid (HSo.out.later hb)
        clear hb
        rw [MC.out]
        go_wp2_with fail
        refine (has_any _ (setL 2 (uniL la) (uniL lb)) t _ (Nat.le_trans Ld.out (by decide)) HSd.out (setL_set _ _ _)).mono ?_
        rintro e _ ⟨rfl, hb⟩
        replace ct := cell_in hb hgl' ct
        replace hgl' := Nat.lt_of_lt_of_le hgl' hb.size
        replace HBR := Lib.hid (blThen HBR.out hb)
        replace HB := Lib.hid (blThen HB.out hb)
        replace HSa := Lib.hid (HSa.out.later hb)
        replace HSx := Lib.hid (HSx.out.later hb)
        replace HSy := Lib.hid (HSy.out.later hb)
        replace HSc := Lib.hid (HSc.out.later hb)
        replace HSd := Lib.hid (HSd.out.later hb)
        replace HSo := Lib.hid (HSo.out.later hb)
        clear hb
        rw [MD.out]
        go_wp2_with fail
        refine (has_any _ (uniL (la ++ lb)) t _ (Nat.le_trans Lo.out (by decide)) HSo.out (uniL_set _)).mono ?_
        rintro e _ ⟨rfl, hb⟩
        replace ct := cell_in hb hgl' ct
        replace hgl' := Nat.lt_of_lt_of_le hgl' hb.size
        replace HBR := Lib.hid (blThen HBR.out hb)
        replace HB := Lib.hid (blThen HB.out hb)
        replace HSa := Lib.hid (HSa.out.later hb)
        replace HSx := Lib.hid (HSx.out.later hb)
        replace HSy := Lib.hid (HSy.out.later hb)
        replace HSc := Lib.hid (HSc.out.later hb)
        replace HSd := Lib.hid (HSd.out.later hb)
        replace HSo := Lib.hid (HSo.out.later hb)
        clear hb
        rw [MO.out]
        go_wp2_with fail
        refine (refhas_any _ la t _ (Nat.le_trans HLa.out (by decide)) HSa.out).mono ?_
        rintro e _ ⟨rfl, hb⟩
        replace ct := cell_in hb hgl' ct
        replace hgl' := Nat.lt_of_lt_of_le hgl' hb.size
        replace HBR := Lib.hid (blThen HBR.out hb)
        replace HB := Lib.hid (blThen HB.out hb)
        replace HSa := Lib.hid (HSa.out.later hb)
        replace HSx := Lib.hid (HSx.out.later hb)
        replace HSy := Lib.hid (HSy.out.later hb)
        replace HSc := Lib.hid (HSc.out.later hb)
        replace HSd := Lib.hid (HSd.out.later hb)
        replace HSo := Lib.hid (HSo.out.later hb)
        clear hb
        rw [MA.out]
        go_wp2
        go_roundw
        case rel => exact ⟨j + 1, hlt, by go_num, HBR.out⟩
        case measure => simp [intOf]; omega
      · replace MC : Hid (memL (setL 1 (uniL la) (uniL lb)) t = true) := MC
        replace MD : Hid (memL (setL 2 (uniL la) (uniL lb)) t = false) := MD
        replace MO : Hid (memL (uniL (la ++ lb)) t = true) := MO
        go_wp2_with fail
        refine region_aft (by kernel_rfl) (by kernel_rfl) ?_
        repeat (go_big_quiet_step (first
          | (go_at_call_of 26 (Value.slice a_x (uniL la).length c_x); exact aft_of ((has_any _ (uniL la) t _ (Nat.le_trans Lx.out (by decide)) (HSx.out.later (Aft.h _)) (uniL_set _)).mono fun e w' h => ⟨h.1.trans (by rw [MX.out]), h.2⟩))
          | (go_at_call_of 26 (Value.slice a_y (uniL lb).length c_y); exact aft_of ((has_any _ (uniL lb) t _ (Nat.le_trans Ly.out (by decide)) (HSy.out.later (Aft.h _)) (uniL_set _)).mono fun e w' h => ⟨h.1.trans (by rw [MY.out]), h.2⟩))))
        refine wpQuiet_nil ?_
        rintro w4 ⟨y4, rfl⟩
        have hb := y4.h
        generalize y4.x = w4 at hb ⊢
        clear y4
        have hgl' := Nat.lt_of_lt_of_le hgl hb.size
        replace ct := cell_in hb hgl ct
        replace HBR := Lib.hid (blThen HBR.out hb)
        replace HB := Lib.hid (blThen HB.out hb)
        replace HSa := Lib.hid (HSa.out.later hb)
        replace HSx := Lib.hid (HSx.out.later hb)
        replace HSy := Lib.hid (HSy.out.later hb)
        replace HSc := Lib.hid (HSc.out.later hb)
        replace HSd := Lib.hid (HSd.out.later hb)
        replace HSo := Lib.hid (HSo.out.later hb)
        clear hb
        go_wp2_with fail
        refine (has_any _ (setL 1 (uniL la) (uniL lb)) t _ (Nat.le_trans Lc.out (by decide)) HSc.out (setL_set _ _ _)).mono ?_
        rintro e _ ⟨rfl, hb⟩
        replace ct := cell_in hb hgl' ct
        replace hgl' := Nat.lt_of_lt_of_le hgl' hb.size
        replace HBR := Lib.hid (blThen HBR.out hb)
        replace HB := Lib.hid (blThen HB.out hb)
        replace HSa := Lib.hid (HSa.out.later hb)
        replace HSx := Lib.hid (HSx.out.later hb)
        replace HSy := Lib.hid (HSy.out.later hb)
        replace HSc := Lib.hid (HSc.out.later hb)
        replace HSd := Lib.hid (HSd.out.later hb)
        replace HSo := Lib.hid (HSo.out.later hb)
        clear hb
        rw [MC.out]
        go_wp2_with fail
        refine (has_any _ (setL 2 (uniL la) (uniL lb)) t _ (Nat.le_trans Ld.out (by decide)) HSd.out (setL_set _ _ _)).mono ?_
        rintro e _ ⟨rfl, hb⟩
        replace ct := cell_in hb hgl' ct
        replace hgl' := Nat.lt_of_lt_of_le hgl' hb.size
        replace HBR := Lib.hid (blThen HBR.out hb)
        replace HB := Lib.hid (blThen HB.out hb)
        replace HSa := Lib.hid (HSa.out.later hb)
        replace HSx := Lib.hid (HSx.out.later hb)
        replace HSy := Lib.hid (HSy.out.later hb)
        replace HSc := Lib.hid (HSc.out.later hb)
        replace HSd := Lib.hid (HSd.out.later hb)
        replace HSo := Lib.hid (HSo.out.later hb)
        clear hb
        rw [MD.out]
        go_wp2_with fail
        refine (has_any _ (uniL (la ++ lb)) t _ (Nat.le_trans Lo.out (by decide)) HSo.out (uniL_set _)).mono ?_
        rintro e _ ⟨rfl, hb⟩
        replace ct := cell_in hb hgl' ct
        replace hgl' := Nat.lt_of_lt_of_le hgl' hb.size
        replace HBR := Lib.hid (blThen HBR.out hb)
        replace HB := Lib.hid (blThen HB.out hb)
        replace HSa := Lib.hid (HSa.out.later hb)
        replace HSx := Lib.hid (HSx.out.later hb)
        replace HSy := Lib.hid (HSy.out.later hb)
        replace HSc := Lib.hid (HSc.out.later hb)
        replace HSd := Lib.hid (HSd.out.later hb)
        replace HSo := Lib.hid (HSo.out.later hb)
        clear hb
        rw [MO.out]
        go_wp2_with fail
        refine (refhas_any _ la t _ (Nat.le_trans HLa.out (by decide)) HSa.out).mono ?_
        rintro e _ ⟨rfl, hb⟩
        replace ct := cell_in hb hgl' ct
        replace hgl' := Nat.lt_of_lt_of_le hgl' hb.size
        replace HBR := Lib.hid (blThen HBR.out hb)
        replace HB := Lib.hid (blThen HB.out hb)
        replace HSa := Lib.hid (HSa.out.later hb)
        replace HSx := Lib.hid (HSx.out.later hb)
        replace HSy := Lib.hid (HSy.out.later hb)
        replace HSc := Lib.hid (HSc.out.later hb)
        replace HSd := Lib.hid (HSd.out.later hb)
        replace HSo := Lib.hid (HSo.out.later hb)
        clear hb
        rw [MA.out]
        go_wp2
        go_roundw
        case rel => exact ⟨j + 1, hlt, by go_num, HBR.out⟩
        case measure => simp [intOf]; omega
    · obtain rfl : j = ll.length := by omega
      have hdj : decide ((ll.length : Int) < (ll.length : Int)) = false := by simp
      clear HBR
      go_wp2_with fail
      refine (meet_any' _ _ (uniL la) (uniL lb) _ (Nat.le_trans Lx.out (by decide)) (Nat.le_trans Ly.out (by decide)) HSx.out HSy.out (uniL_set _) (uniL_set _)).mono ?_
      rintro e _ ⟨rfl, hb⟩
      replace HB := Lib.hid (blThen HB.out hb)
      clear hb
      by_cases he : setL 1 (uniL la) (uniL lb) = []
      · rw [he]
        go_wp2_with fail
        refine (live_any _).mono ?_
        rintro e _ ⟨rfl, hb⟩
        go_wp2
        go_ret
        exact ⟨rfl, blThen HB.out hb⟩
      · have hp : (0 : Int) < ((setL 1 (uniL la) (uniL lb)).length : Int) := by have := List.length_pos_iff.2 he; omega
        have hd0 : decide ((0 : Int) < ((setL 1 (uniL la) (uniL lb)).length : Int)) = true := decide_eq_true hp
        have hd1 : (setL 1 (uniL la) (uniL lb)).isEmpty = false := by simpa using he
        rw [hd1]
        go_wp2_with fail
        refine (live_any _).mono ?_
        rintro e _ ⟨rfl, hb⟩
        go_wp2
        go_ret
        exact ⟨rfl, blThen HB.out hb⟩

set_option maxRecDepth 100000 in
theorem spanEach_lifted (os : Os) (started : os.Started) (H : Type) (enc : TypeId × Value → H) :
    ReturnsInHanded {} Try.checked os 5 .any (Rows.spanEachSpec.pre6 enc Try.prog Try.f5 Rows.spanEachRow.domain false) (Rows.spanEachSpec.post enc Try.prog Try.f5 false true false false) := by
  refine law_lift (C := Try.checked) own0 started (by kernel_rfl) Try.func5 laid0 rfl (by kernel_rfl) (fun _ _ _ _ => trodAll_mk1 (shut_bool Try.underlying4 true)) (fun ds h => match ds, h with | [_, _, _], _ => ⟨rfl, rfl, rfl⟩)
    (ChangeSpec.witness6 (enc := enc) (C := Try.checked) false ⟨#[], #[.slice none 0 0, .slice none 0 0, .slice none 0 0], []⟩ 8 (by kernel_rfl) (by kernel_rfl) (by kernel_rfl) (by kernel_rfl)) ?_
  intro W base args ds before hval0 hA0 hlt
  have hval : ∀ (j : Nat) t v, Try.f5.params[j]? = some t → args[j]? = some v → Value.okWide Try.prog W .any base t v := hval0
  have hA : DataW.TrodAll enc Try.prog W 0 (fun _ => true) true Try.f5.params.toList args.toList ds before := hA0
  rw [Try.params5] at hA hval
  obtain ⟨v0, v1, v2, d0, d1, d2, p0, p1, p2, rfl, rfl, rfl, h0, h1, h2⟩ := trodAll_three hA
  obtain ⟨la, hs0, hl0⟩ := open_spans (hval 0 22 v0 rfl rfl) h0
  obtain ⟨lb, hs1, hl1⟩ := open_spans (hval 1 22 v1 rfl rfl) h1
  obtain ⟨lc, hs2, hl2, ht2⟩ := open_texts (hval 2 41 v2 rfl rfl) h2
  exact spanEach_walk _ _ _ la lb lc W hs0 hs1 hs2 hl0 hl1

theorem spanEach_holds : Rows.SpanEachSaid :=
  OpenClaim.holds_of_wide 5 Try.f5 rfl rfl rfl rfl rfl rfl rfl ⟨rfl, rfl, rfl, rfl, rfl⟩ rfl rfl rfl rfl rfl (by kernel_rfl) Try.func5 (by kernel_rfl)
    (of_decide_eq_true (by kernel_rfl)) (by unfold Func.isWrapper; rw [if_neg (of_decide_eq_false (by kernel_rfl))]; exact ⟨rfl, rfl⟩)
    (fun os started H enc _ => spanEach_lifted os started H enc)

#print axioms spanEach_holds

end Go.Proofs.Ytolbgpcmpbkmmaa
