/- SpanAway: taken away one behind the other is taken away at once, cut twice is cut once; whatever the spans, the law returns true and leaves its arguments as they were. Conditions: none. -/
import Derived.Test.YtolbgpcmpbkmmaaKw
set_option linter.unusedVariables false
set_option linter.unusedSimpArgs false
namespace Go.Proofs.Ytolbgpcmpbkmmaa
open Go.ChangeShapes Go.WideShapes Go.ChangeAt Go.RowKit Go.Joins Go.Deep

theorem want0 (p q : Bool) : wantB 0 p q = (p || q) := rfl
theorem want1 (p q : Bool) : wantB 1 p q = (p && q) := rfl
theorem want2 (p q : Bool) : wantB 2 p q = (p && !q) := rfl

set_option maxRecDepth 100000 in
set_option maxHeartbeats 4000000 in
theorem spanAway_walk (va vb vc : Value) (la lb lc : List Sp) (w : World) (hsa : Sl w va la) (hsb : Sl w vb lb) (hsc : Sl w vc lc) (hla : la.length ≤ 9223372036854775807) (hlb : lb.length ≤ 9223372036854775807) (hlc : lc.length ≤ 9223372036854775807) :
    Calls Try.prog 8 #[va, vb, vc] w fun e w' => e = .returned (.bool true) ∧ Below w.heap.size w w' := by
  obtain ⟨aa, ca, rfl⟩ := hsa.form
  obtain ⟨ab, cb, rfl⟩ := hsb.form
  obtain ⟨ac, cc, rfl⟩ := hsc.form
  have HSa := Lib.hid hsa
  have HLa := Lib.hid hla
  have HSb := Lib.hid hsb
  have HLb := Lib.hid hlb
  have HSc := Lib.hid hsc
  have HLc := Lib.hid hlc
  have HB := Lib.hid (Below.refl w.heap.size w)
  clear hsa hla hsb hlb hsc hlc
  go_enter Try.func8, Try.ntmps8
  go_wp2_with fail
  refine (small_any _ la _ HSa.out HLa.out).mono ?_
  rintro e _ ⟨b, rfl, h30, hb⟩
  replace HB := Lib.hid (blThen HB.out hb)
  replace HSa := Lib.hid (HSa.out.later hb)
  replace HSb := Lib.hid (HSb.out.later hb)
  replace HSc := Lib.hid (HSc.out.later hb)
  clear hb
  cases b
  · go_wp2_with fail
    refine (live_any _).mono ?_
    rintro e _ ⟨rfl, hb⟩
    go_wp2
    go_ret
    exact ⟨rfl, blThen HB.out hb⟩
  replace HLa := Lib.hid (h30 rfl)
  clear h30
  go_wp2_with fail
  refine (small_any _ lb _ HSb.out HLb.out).mono ?_
  rintro e _ ⟨b, rfl, h30, hb⟩
  replace HB := Lib.hid (blThen HB.out hb)
  replace HSa := Lib.hid (HSa.out.later hb)
  replace HSb := Lib.hid (HSb.out.later hb)
  replace HSc := Lib.hid (HSc.out.later hb)
  clear hb
  cases b
  · go_wp2_with fail
    refine (live_any _).mono ?_
    rintro e _ ⟨rfl, hb⟩
    go_wp2
    go_ret
    exact ⟨rfl, blThen HB.out hb⟩
  replace HLb := Lib.hid (h30 rfl)
  clear h30
  go_wp2_with fail
  refine (small_any _ lc _ HSc.out HLc.out).mono ?_
  rintro e _ ⟨b, rfl, h30, hb⟩
  replace HB := Lib.hid (blThen HB.out hb)
  replace HSa := Lib.hid (HSa.out.later hb)
  replace HSb := Lib.hid (HSb.out.later hb)
  replace HSc := Lib.hid (HSc.out.later hb)
  clear hb
  cases b
  · go_wp2_with fail
    refine (live_any _).mono ?_
    rintro e _ ⟨rfl, hb⟩
    go_wp2
    go_ret
    exact ⟨rfl, blThen HB.out hb⟩
  replace HLc := Lib.hid (h30 rfl)
  clear h30
  have Lx : Hid ((uniL la).length ≤ 30) := Nat.le_trans (uniL_len la) HLa.out
  have Ly : Hid ((uniL lb).length ≤ 30) := Nat.le_trans (uniL_len lb) HLb.out
  have Lz : Hid ((uniL lc).length ≤ 30) := Nat.le_trans (uniL_len lc) HLc.out
  have NJo : Hid ((uniL lb).length + (uniL lc).length ≤ 1000000) := by have := Ly.out; have := Lz.out; show _ ≤ _; omega
  have Lo : Hid ((uniL (uniL lb ++ uniL lc)).length ≤ 60) := Nat.le_trans (uniL_len _) (by have := Ly.out; have := Lz.out; rw [List.length_append]; omega)
  have Lp : Hid ((setL 2 (uniL la) (uniL lb)).length ≤ 120) := Nat.le_trans (setL_len 2 _ _) (by have := Lx.out; have := Ly.out; omega)
  have Lq : Hid ((setL 2 (setL 2 (uniL la) (uniL lb)) (uniL lc)).length ≤ 300) := Nat.le_trans (setL_len 2 _ _) (by have := Lp.out; have := Lz.out; omega)
  have Lr : Hid ((setL 2 (uniL la) (uniL (uniL lb ++ uniL lc))).length ≤ 180) := Nat.le_trans (setL_len 2 _ _) (by have := Lx.out; have := Lo.out; omega)
  have Lc : Hid ((setL 1 (uniL la) (uniL lb)).length ≤ 120) := Nat.le_trans (setL_len 1 _ _) (by have := Lx.out; have := Ly.out; omega)
  have Ld : Hid ((setL 1 (setL 1 (uniL la) (uniL lb)) (uniL lc)).length ≤ 300) := Nat.le_trans (setL_len 1 _ _) (by have := Lc.out; have := Lz.out; omega)
  have Le : Hid ((setL 1 (uniL lc) (uniL lb)).length ≤ 120) := Nat.le_trans (setL_len 1 _ _) (by have := Lz.out; have := Ly.out; omega)
  have Lg : Hid ((setL 1 (uniL la) (setL 1 (uniL lc) (uniL lb))).length ≤ 300) := Nat.le_trans (setL_len 1 _ _) (by have := Lx.out; have := Le.out; omega)
  have Lh : Hid ((setL 1 (uniL la) (uniL lc)).length ≤ 120) := Nat.le_trans (setL_len 1 _ _) (by have := Lx.out; have := Lz.out; omega)
  have Li : Hid ((setL 1 (uniL la) (uniL (uniL lb ++ uniL lc))).length ≤ 180) := Nat.le_trans (setL_len 1 _ _) (by have := Lx.out; have := Lo.out; omega)
  have NJj : Hid ((setL 1 (uniL la) (uniL lb)).length + (setL 1 (uniL la) (uniL lc)).length ≤ 1000000) := by have := Lc.out; have := Lh.out; show _ ≤ _; omega
  have Lj : Hid ((uniL (setL 1 (uniL la) (uniL lb) ++ setL 1 (uniL la) (uniL lc))).length ≤ 240) := Nat.le_trans (uniL_len _) (by have := Lc.out; have := Lh.out; rw [List.length_append]; omega)
  have SQ : Hid (setL 2 (setL 2 (uniL la) (uniL lb)) (uniL lc) = setL 2 (uniL la) (uniL (uniL lb ++ uniL lc))) := set_uniq (setL_set _ _ _) (setL_set _ _ _) (fun k => by simp only [setL_mem, uniL_mem, memL_append, want0, want1, want2]; cases memL la k <;> cases memL lb k <;> cases memL lc k <;> rfl)
  have SD : Hid (setL 1 (setL 1 (uniL la) (uniL lb)) (uniL lc) = setL 1 (uniL la) (setL 1 (uniL lc) (uniL lb))) := set_uniq (setL_set _ _ _) (setL_set _ _ _) (fun k => by simp only [setL_mem, uniL_mem, memL_append, want0, want1, want2]; cases memL la k <;> cases memL lb k <;> cases memL lc k <;> rfl)
  have SI : Hid (setL 1 (uniL la) (uniL (uniL lb ++ uniL lc)) = uniL (setL 1 (uniL la) (uniL lb) ++ setL 1 (uniL la) (uniL lc))) := set_uniq (setL_set _ _ _) (uniL_set _) (fun k => by simp only [setL_mem, uniL_mem, memL_append, want0, want1, want2]; cases memL la k <;> cases memL lb k <;> cases memL lc k <;> rfl)
  have SAME : ∀ {l m : List Sp}, l = m → sameB l m = true := fun h => by simp [sameB, h]
  go_wp2_with fail
  refine (union_any _ la _ (Nat.le_trans HLa.out (by decide)) HSa.out).mono ?_
  rintro e _ ⟨_, rfl, ho, hb⟩
  obtain ⟨a_x, c_x, rfl⟩ := ho.form
  replace HB := Lib.hid (blThen HB.out hb)
  replace HSa := Lib.hid (HSa.out.later hb)
  replace HSb := Lib.hid (HSb.out.later hb)
  replace HSc := Lib.hid (HSc.out.later hb)
  clear hb
  have HSx := Lib.hid ho.sl
  clear ho
  go_wp2_with fail
  refine (union_any _ lb _ (Nat.le_trans HLb.out (by decide)) HSb.out).mono ?_
  rintro e _ ⟨_, rfl, ho, hb⟩
  obtain ⟨a_y, c_y, rfl⟩ := ho.form
  replace HB := Lib.hid (blThen HB.out hb)
  replace HSa := Lib.hid (HSa.out.later hb)
  replace HSb := Lib.hid (HSb.out.later hb)
  replace HSc := Lib.hid (HSc.out.later hb)
  replace HSx := Lib.hid (HSx.out.later hb)
  clear hb
  have HSy := Lib.hid ho.sl
  clear ho
  go_wp2_with fail
  refine (union_any _ lc _ (Nat.le_trans HLc.out (by decide)) HSc.out).mono ?_
  rintro e _ ⟨_, rfl, ho, hb⟩
  obtain ⟨a_z, c_z, rfl⟩ := ho.form
  replace HB := Lib.hid (blThen HB.out hb)
  replace HSa := Lib.hid (HSa.out.later hb)
  replace HSb := Lib.hid (HSb.out.later hb)
  replace HSc := Lib.hid (HSc.out.later hb)
  replace HSx := Lib.hid (HSx.out.later hb)
  replace HSy := Lib.hid (HSy.out.later hb)
  clear hb
  have HSz := Lib.hid ho.sl
  clear ho
  clear HSa
  clear HSb
  clear HSc
  go_wp2_with fail
  refine (own_any _ (uniL lb) _ (Nat.le_trans Ly.out (by decide)) HSy.out).mono ?_
  rintro e _ ⟨_, rfl, ho, hbx⟩
  obtain ⟨a_t, c_t, rfl⟩ := ho.form
  have HOT := Lib.hid ho
  have HBX := Lib.hid hbx
  clear ho hbx
  go_wp2_with (at_builtin; refine append_sp rfl _ _ rfl _ _ (uniL lb) rfl HOT.out _ (uniL lc) rfl (HSz.out.later HBX.out) (Nat.le_trans NJo.out (by decide)) HBX.out.size ?_; intro v1 w1 h1 h2; have H1 := Lib.hid h1; have H2 := Lib.hid (grown_below HBX.out HOT.out (Nat.le_refl _) HBX.out.size h2); clear h1 h2)
  refine (union_any _ (uniL lb ++ uniL lc) _ (by rw [List.length_append]; exact NJo.out) H1.out.sl).mono ?_
  rintro e _ ⟨_, rfl, ho, hb0⟩
  obtain ⟨a_o, c_o, rfl⟩ := ho.form
  have hb := blThen H2.out hb0
  clear hb0
  replace HB := Lib.hid (blThen HB.out hb)
  replace HSx := Lib.hid (HSx.out.later hb)
  replace HSy := Lib.hid (HSy.out.later hb)
  replace HSz := Lib.hid (HSz.out.later hb)
  clear hb
  have HSo := Lib.hid ho.sl
  clear ho HOT HBX H1 H2
  go_wp2_with fail
  refine (less_any' _ _ (uniL la) (uniL lb) _ (Nat.le_trans Lx.out (by decide)) (Nat.le_trans Ly.out (by decide)) HSx.out HSy.out (uniL_set _) (uniL_set _)).mono ?_
  rintro e _ ⟨_, rfl, ho, hb⟩
  obtain ⟨a_p, c_p, rfl⟩ := ho.form
  replace HB := Lib.hid (blThen HB.out hb)
  replace HSx := Lib.hid (HSx.out.later hb)
  replace HSy := Lib.hid (HSy.out.later hb)
  replace HSz := Lib.hid (HSz.out.later hb)
  replace HSo := Lib.hid (HSo.out.later hb)
  clear hb
  have HSp := Lib.hid ho.sl
  clear ho
  go_wp2_with fail
  refine (less_any' _ _ (setL 2 (uniL la) (uniL lb)) (uniL lc) _ (Nat.le_trans Lp.out (by decide)) (Nat.le_trans Lz.out (by decide)) HSp.out HSz.out (setL_set _ _ _) (uniL_set _)).mono ?_
  rintro e _ ⟨_, rfl, ho, hb⟩
  obtain ⟨a_q, c_q, rfl⟩ := ho.form
  replace HB := Lib.hid (blThen HB.out hb)
  replace HSx := Lib.hid (HSx.out.later hb)
  replace HSy := Lib.hid (HSy.out.later hb)
  replace HSz := Lib.hid (HSz.out.later hb)
  replace HSo := Lib.hid (HSo.out.later hb)
  replace HSp := Lib.hid (HSp.out.later hb)
  clear hb
  have HSq := Lib.hid ho.sl
  clear ho
  go_wp2_with fail
  refine (less_any' _ _ (uniL la) (uniL (uniL lb ++ uniL lc)) _ (Nat.le_trans Lx.out (by decide)) (Nat.le_trans Lo.out (by decide)) HSx.out HSo.out (uniL_set _) (uniL_set _)).mono ?_
  rintro e _ ⟨_, rfl, ho, hb⟩
  obtain ⟨a_r, c_r, rfl⟩ := ho.form
  replace HB := Lib.hid (blThen HB.out hb)
  replace HSx := Lib.hid (HSx.out.later hb)
  replace HSy := Lib.hid (HSy.out.later hb)
  replace HSz := Lib.hid (HSz.out.later hb)
  replace HSo := Lib.hid (HSo.out.later hb)
  replace HSp := Lib.hid (HSp.out.later hb)
  replace HSq := Lib.hid (HSq.out.later hb)
  clear hb
  have HSr := Lib.hid ho.sl
  clear ho
  go_wp2_with fail
  refine (same_any _ _ (setL 2 (setL 2 (uniL la) (uniL lb)) (uniL lc)) (setL 2 (uniL la) (uniL (uniL lb ++ uniL lc))) _ (Nat.le_trans Lq.out (by decide)) (Nat.le_trans Lr.out (by decide)) HSq.out HSr.out).mono ?_
  rintro e _ ⟨rfl, hb⟩
  replace HB := Lib.hid (blThen HB.out hb)
  replace HSx := Lib.hid (HSx.out.later hb)
  replace HSy := Lib.hid (HSy.out.later hb)
  replace HSz := Lib.hid (HSz.out.later hb)
  replace HSo := Lib.hid (HSo.out.later hb)
  replace HSp := Lib.hid (HSp.out.later hb)
  replace HSq := Lib.hid (HSq.out.later hb)
  replace HSr := Lib.hid (HSr.out.later hb)
  clear hb
  rw [SAME SQ.out]
  clear HSp
  clear HSq
  clear HSr
  go_wp2_with fail
  refine (cut_any' _ _ (uniL la) (uniL lb) _ (Nat.le_trans Lx.out (by decide)) (Nat.le_trans Ly.out (by decide)) HSx.out HSy.out (uniL_set _) (uniL_set _)).mono ?_
  rintro e _ ⟨_, rfl, ho, hb⟩
  obtain ⟨a_p, c_p, rfl⟩ := ho.form
  replace HB := Lib.hid (blThen HB.out hb)
  replace HSx := Lib.hid (HSx.out.later hb)
  replace HSy := Lib.hid (HSy.out.later hb)
  replace HSz := Lib.hid (HSz.out.later hb)
  replace HSo := Lib.hid (HSo.out.later hb)
  clear hb
  have HSp := Lib.hid ho.sl
  clear ho
  go_wp2_with fail
  refine (cut_any' _ _ (setL 1 (uniL la) (uniL lb)) (uniL lc) _ (Nat.le_trans Lc.out (by decide)) (Nat.le_trans Lz.out (by decide)) HSp.out HSz.out (setL_set _ _ _) (uniL_set _)).mono ?_
  rintro e _ ⟨_, rfl, ho, hb⟩
  obtain ⟨a_q, c_q, rfl⟩ := ho.form
  replace HB := Lib.hid (blThen HB.out hb)
  replace HSx := Lib.hid (HSx.out.later hb)
  replace HSy := Lib.hid (HSy.out.later hb)
  replace HSz := Lib.hid (HSz.out.later hb)
  replace HSo := Lib.hid (HSo.out.later hb)
  replace HSp := Lib.hid (HSp.out.later hb)
  clear hb
  have HSq := Lib.hid ho.sl
  clear ho
  go_wp2_with fail
  refine (cut_any' _ _ (uniL lc) (uniL lb) _ (Nat.le_trans Lz.out (by decide)) (Nat.le_trans Ly.out (by decide)) HSz.out HSy.out (uniL_set _) (uniL_set _)).mono ?_
  rintro e _ ⟨_, rfl, ho, hb⟩
  obtain ⟨a_r, c_r, rfl⟩ := ho.form
  replace HB := Lib.hid (blThen HB.out hb)
  replace HSx := Lib.hid (HSx.out.later hb)
  replace HSy := Lib.hid (HSy.out.later hb)
  replace HSz := Lib.hid (HSz.out.later hb)
  replace HSo := Lib.hid (HSo.out.later hb)
  replace HSp := Lib.hid (HSp.out.later hb)
  replace HSq := Lib.hid (HSq.out.later hb)
  clear hb
  have HSr := Lib.hid ho.sl
  clear ho
  go_wp2_with fail
  refine (cut_any' _ _ (uniL la) (setL 1 (uniL lc) (uniL lb)) _ (Nat.le_trans Lx.out (by decide)) (Nat.le_trans Le.out (by decide)) HSx.out HSr.out (uniL_set _) (setL_set _ _ _)).mono ?_
  rintro e _ ⟨_, rfl, ho, hb⟩
  obtain ⟨a_s, c_s, rfl⟩ := ho.form
  replace HB := Lib.hid (blThen HB.out hb)
  replace HSx := Lib.hid (HSx.out.later hb)
  replace HSy := Lib.hid (HSy.out.later hb)
  replace HSz := Lib.hid (HSz.out.later hb)
  replace HSo := Lib.hid (HSo.out.later hb)
  replace HSp := Lib.hid (HSp.out.later hb)
  replace HSq := Lib.hid (HSq.out.later hb)
  replace HSr := Lib.hid (HSr.out.later hb)
  clear hb
  have HSs := Lib.hid ho.sl
  clear ho
  go_wp2_with fail
  refine (same_any _ _ (setL 1 (setL 1 (uniL la) (uniL lb)) (uniL lc)) (setL 1 (uniL la) (setL 1 (uniL lc) (uniL lb))) _ (Nat.le_trans Ld.out (by decide)) (Nat.le_trans Lg.out (by decide)) HSq.out HSs.out).mono ?_
  rintro e _ ⟨rfl, hb⟩
  replace HB := Lib.hid (blThen HB.out hb)
  replace HSx := Lib.hid (HSx.out.later hb)
  replace HSy := Lib.hid (HSy.out.later hb)
  replace HSz := Lib.hid (HSz.out.later hb)
  replace HSo := Lib.hid (HSo.out.later hb)
  replace HSp := Lib.hid (HSp.out.later hb)
  replace HSq := Lib.hid (HSq.out.later hb)
  replace HSr := Lib.hid (HSr.out.later hb)
  replace HSs := Lib.hid (HSs.out.later hb)
  clear hb
  rw [SAME SD.out]
  clear HSp
  clear HSq
  clear HSr
  clear HSs
  go_wp2_with fail
  refine (cut_any' _ _ (uniL la) (uniL (uniL lb ++ uniL lc)) _ (Nat.le_trans Lx.out (by decide)) (Nat.le_trans Lo.out (by decide)) HSx.out HSo.out (uniL_set _) (uniL_set _)).mono ?_
  rintro e _ ⟨_, rfl, ho, hb⟩
  obtain ⟨a_p, c_p, rfl⟩ := ho.form
  replace HB := Lib.hid (blThen HB.out hb)
  replace HSx := Lib.hid (HSx.out.later hb)
  replace HSy := Lib.hid (HSy.out.later hb)
  replace HSz := Lib.hid (HSz.out.later hb)
  replace HSo := Lib.hid (HSo.out.later hb)
  clear hb
  have HSp := Lib.hid ho.sl
  clear ho
  go_wp2_with fail
  refine (cut_any' _ _ (uniL la) (uniL lb) _ (Nat.le_trans Lx.out (by decide)) (Nat.le_trans Ly.out (by decide)) HSx.out HSy.out (uniL_set _) (uniL_set _)).mono ?_
  rintro e _ ⟨_, rfl, ho, hbx⟩
  obtain ⟨a_t, c_t, rfl⟩ := ho.form
  have HOT := Lib.hid ho
  have HBX := Lib.hid hbx
  clear ho hbx
  go_wp2_with fail
  refine (cut_any' _ _ (uniL la) (uniL lc) _ (Nat.le_trans Lx.out (by decide)) (Nat.le_trans Lz.out (by decide)) (HSx.out.later HBX.out) (HSz.out.later HBX.out) (uniL_set _) (uniL_set _)).mono ?_
  rintro e _ ⟨_, rfl, ho, hbx⟩
  obtain ⟨a_u, c_u, rfl⟩ := ho.form
  replace HOT := Lib.hid (HOT.out.later hbx)
  replace HBX := Lib.hid (blThen HBX.out hbx)
  have HSU := Lib.hid ho.sl
  clear ho hbx
  go_wp2_with (at_builtin; refine append_sp_g (by first | rfl | simp [Region.wanted, yielded]) _ _ rfl _ _ (setL 1 (uniL la) (uniL lb)) rfl HOT.out _ (setL 1 (uniL la) (uniL lc)) rfl HSU.out (Nat.le_trans NJj.out (by decide)) HBX.out.size ?_; intro v1 w1 h1 h2; have H1 := Lib.hid h1; have H2 := Lib.hid (grown_below HBX.out HOT.out (Nat.le_refl _) HBX.out.size h2); clear h1 h2)
  refine (union_any _ (setL 1 (uniL la) (uniL lb) ++ setL 1 (uniL la) (uniL lc)) _ (by rw [List.length_append]; exact NJj.out) H1.out.sl).mono ?_
  rintro e _ ⟨_, rfl, ho, hb0⟩
  obtain ⟨a_j, c_j, rfl⟩ := ho.form
  have hb := blThen H2.out hb0
  clear hb0
  replace HB := Lib.hid (blThen HB.out hb)
  replace HSx := Lib.hid (HSx.out.later hb)
  replace HSy := Lib.hid (HSy.out.later hb)
  replace HSz := Lib.hid (HSz.out.later hb)
  replace HSo := Lib.hid (HSo.out.later hb)
  replace HSp := Lib.hid (HSp.out.later hb)
  clear hb
  have HSj := Lib.hid ho.sl
  clear ho HOT HBX H1 H2 HSU
  go_wp2_with fail
  refine (same_any _ _ (setL 1 (uniL la) (uniL (uniL lb ++ uniL lc))) (uniL (setL 1 (uniL la) (uniL lb) ++ setL 1 (uniL la) (uniL lc))) _ (Nat.le_trans Li.out (by decide)) (Nat.le_trans Lj.out (by decide)) HSp.out HSj.out).mono ?_
  rintro e _ ⟨rfl, hb⟩
  replace HB := Lib.hid (blThen HB.out hb)
  replace HSx := Lib.hid (HSx.out.later hb)
  replace HSy := Lib.hid (HSy.out.later hb)
  replace HSz := Lib.hid (HSz.out.later hb)
  replace HSo := Lib.hid (HSo.out.later hb)
  replace HSp := Lib.hid (HSp.out.later hb)
  replace HSj := Lib.hid (HSj.out.later hb)
  clear hb
  rw [SAME SI.out]
  go_wp2_with fail
  refine (live_any _).mono ?_
  rintro e _ ⟨rfl, hb⟩
  go_wp2
  go_ret
  exact ⟨rfl, blThen HB.out hb⟩

set_option maxRecDepth 100000 in
theorem spanAway_lifted (os : Os) (started : os.Started) (H : Type) (enc : TypeId × Value → H) :
    ReturnsInHanded {} Try.checked os 8 .any (Rows.spanAwaySpec.pre6 enc Try.prog Try.f8 Rows.spanAwayRow.domain false) (Rows.spanAwaySpec.post enc Try.prog Try.f8 false true false false) := by
  refine law_lift (C := Try.checked) own0 started (by kernel_rfl) Try.func8 laid0 rfl (by kernel_rfl) (fun _ _ _ _ => trodAll_mk1 (shut_bool Try.underlying4 true)) (fun ds h => match ds, h with | [_, _, _], _ => ⟨rfl, rfl, rfl⟩)
    (ChangeSpec.witness6 (enc := enc) (C := Try.checked) false ⟨#[], #[.slice none 0 0, .slice none 0 0, .slice none 0 0], []⟩ 8 (by kernel_rfl) (by kernel_rfl) (by kernel_rfl) (by kernel_rfl)) ?_
  intro W base args ds before hval0 hA0 hlt
  have hval : ∀ (j : Nat) t v, Try.f8.params[j]? = some t → args[j]? = some v → Value.okWide Try.prog W .any base t v := hval0
  have hA : DataW.TrodAll enc Try.prog W 0 (fun _ => true) true Try.f8.params.toList args.toList ds before := hA0
  rw [Try.params8] at hA hval
  obtain ⟨v0, v1, v2, d0, d1, d2, p0, p1, p2, rfl, rfl, rfl, h0, h1, h2⟩ := trodAll_three hA
  obtain ⟨la, hs0, hl0⟩ := open_spans (hval 0 22 v0 rfl rfl) h0
  obtain ⟨lb, hs1, hl1⟩ := open_spans (hval 1 22 v1 rfl rfl) h1
  obtain ⟨lc, hs2, hl2⟩ := open_spans (hval 2 22 v2 rfl rfl) h2
  exact spanAway_walk _ _ _ la lb lc W hs0 hs1 hs2 hl0 hl1 hl2

theorem spanAway_holds : Rows.SpanAwaySaid :=
  OpenClaim.holds_of_wide 8 Try.f8 rfl rfl rfl rfl rfl rfl rfl ⟨rfl, rfl, rfl, rfl, rfl⟩ rfl rfl rfl rfl rfl (by kernel_rfl) Try.func8 (by kernel_rfl)
    (of_decide_eq_true (by kernel_rfl)) (by unfold Func.isWrapper; rw [if_neg (of_decide_eq_false (by kernel_rfl))]; exact ⟨rfl, rfl⟩)
    (fun os started H enc _ => spanAway_lifted os started H enc)

#print axioms spanAway_holds

end Go.Proofs.Ytolbgpcmpbkmmaa
