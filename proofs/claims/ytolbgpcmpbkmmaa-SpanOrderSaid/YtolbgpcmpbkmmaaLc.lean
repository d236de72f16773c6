/- SpanOrder: whatever order, the same set; a set's set is itself; what is cut and what is left give it again; whatever the spans, the law returns true and leaves its arguments as they were. Conditions: none. -/
import Derived.Test.YtolbgpcmpbkmmaaLb
set_option linter.unusedVariables false
set_option linter.unusedSimpArgs false
namespace Go.Proofs.Ytolbgpcmpbkmmaa
open Go.ChangeShapes Go.WideShapes Go.ChangeAt Go.RowKit Go.Joins Go.Deep

/-- A list turned by r: its first j. -/
def turnL (l : List Sp) (r : Int) (j : Nat) : List Sp := (List.range j).filterMap fun i => l[((((i : Nat) : Int) + r % (l.length : Int)) % (l.length : Int)).toNat]?
theorem turn_at {l : List Sp} {j : Nat} (r : Int) (h : j < l.length) : ∃ q : Nat, q < l.length ∧ ((j : Int) + r % (l.length : Int)) % (l.length : Int) = (q : Int) := by
  have h0 : (0 : Int) < (l.length : Int) := by omega
  have h1 := Int.emod_nonneg ((j : Int) + r % (l.length : Int)) (by omega : (l.length : Int) ≠ 0)
  have h2 := Int.emod_lt_of_pos ((j : Int) + r % (l.length : Int)) h0
  exact ⟨(((j : Int) + r % (l.length : Int)) % (l.length : Int)).toNat, by omega, by omega⟩
theorem turn_step {l : List Sp} {r : Int} {j q : Nat} {s : Sp} (h : ((j : Int) + r % (l.length : Int)) % (l.length : Int) = (q : Int)) (hs : l[q]? = some s) : turnL l r (j + 1) = turnL l r j ++ [s] := by
  unfold turnL
  rw [List.range_succ, List.filterMap_append]
  congr 1
  have e : l[(((j : Int) + r % (l.length : Int)) % (l.length : Int)).toNat]? = some s := by
    rw [h, Int.toNat_natCast]
    exact hs
  simp only [List.filterMap_cons, e, List.filterMap_nil]
theorem turn_len (l : List Sp) (r : Int) (j : Nat) : (turnL l r j).length ≤ j := by
  have := List.length_filterMap_le (fun i => l[((((i : Nat) : Int) + r % (l.length : Int)) % (l.length : Int)).toNat]?) (List.range j)
  simpa [turnL] using this
theorem turn_mem (l : List Sp) (r : Int) (k : ByteArray) : memL (turnL l r l.length) k = memL l k := by
  have h : ∀ s, s ∈ turnL l r l.length ↔ s ∈ l := by
    intro s
    unfold turnL
    rw [List.mem_filterMap]
    constructor
    · rintro ⟨i, _, hi⟩
      exact List.mem_of_getElem? hi
    · intro hs
      obtain ⟨q, hq⟩ := List.getElem?_of_mem hs
      have hql : q < l.length := (List.getElem?_eq_some_iff.1 hq).1
      have h0 : (0 : Int) < (l.length : Int) := by omega
      have h1 := Int.emod_nonneg ((q : Int) - r) (by omega : (l.length : Int) ≠ 0)
      have h2 := Int.emod_lt_of_pos ((q : Int) - r) h0
      refine ⟨(((q : Int) - r) % (l.length : Int)).toNat, List.mem_range.2 (by omega), ?_⟩
      have e : ((((((q : Int) - r) % (l.length : Int)).toNat : Nat) : Int) + r % (l.length : Int)) % (l.length : Int) = (q : Int) := by
        rw [show (((((q : Int) - r) % (l.length : Int)).toNat : Nat) : Int) = ((q : Int) - r) % (l.length : Int) by omega]
        rw [← Int.add_emod, show (q : Int) - r + r = q by omega]
        exact Int.emod_eq_of_lt (by omega) (by omega)
      rw [e]
      simpa using hq
  rw [Bool.eq_iff_iff, memL_true, memL_true]
  exact ⟨fun ⟨s, h1, h2⟩ => ⟨s, (h s).1 h1, h2⟩, fun ⟨s, h1, h2⟩ => ⟨s, (h s).2 h1, h2⟩⟩

set_option maxRecDepth 100000 in
set_option maxHeartbeats 8000000 in
theorem spanOrder_walk (va vb : Value) (la lb : List Sp) (r : Int) (w : World) (hsa : Sl w va la) (hsb : Sl w vb lb) (hla : la.length ≤ 9223372036854775807) (hlb : lb.length ≤ 9223372036854775807) (wr : (Lit.int .i64 r).wf = true) :
    Calls Try.prog 6 #[va, .int .i64 r, vb] w fun e w' => e = .returned (.bool true) ∧ Below w.heap.size w w' := by
  obtain ⟨aa, ca, rfl⟩ := hsa.form
  obtain ⟨ab, cb, rfl⟩ := hsb.form
  have HSa := Lib.hid hsa
  have HLa := Lib.hid hla
  have HSb := Lib.hid hsb
  have HLb := Lib.hid hlb
  have HA0 := HSa
  have HB0 := HSb
  have HB := Lib.hid (Below.refl w.heap.size w)
  clear hsa hla hsb hlb
  go_enter Try.func6, Try.ntmps6
  go_wp2_with fail
  refine (small_any _ la _ HSa.out HLa.out).mono ?_
  rintro e _ ⟨b, rfl, h30, hb⟩
  replace HB := Lib.hid (blThen HB.out hb)
  replace HSa := Lib.hid (HSa.out.later hb)
  replace HSb := Lib.hid (HSb.out.later hb)
  clear hb
  cases b
  · go_wp2_with fail
    refine (live_any _).mono ?_
    rintro e _ ⟨rfl, hb⟩
    go_wp2
    go_ret
    exact ⟨rfl, blThen HB.out hb⟩
  replace HLa := Lib.hid (h30 rfl)
  clear h30
  go_wp2_with fail
  refine (small_any _ lb _ HSb.out HLb.out).mono ?_
  rintro e _ ⟨b, rfl, h30, hb⟩
  replace HB := Lib.hid (blThen HB.out hb)
  replace HSa := Lib.hid (HSa.out.later hb)
  replace HSb := Lib.hid (HSb.out.later hb)
  clear hb
  cases b
  · go_wp2_with fail
    refine (live_any _).mono ?_
    rintro e _ ⟨rfl, hb⟩
    go_wp2
    go_ret
    exact ⟨rfl, blThen HB.out hb⟩
  replace HLb := Lib.hid (h30 rfl)
  clear h30
  by_cases hneg : r < 0
  · have hd : decide (r < 0) = true := decide_eq_true hneg
    go_wp2_with fail
    refine (live_any _).mono ?_
    rintro e _ ⟨rfl, hb⟩
    go_wp2
    go_ret
    exact ⟨rfl, blThen HB.out hb⟩
  have hd : decide (r < 0) = false := decide_eq_false hneg
  have h30 := HLa.out
  clear HSa HSb
  go_wp2
  go_loopw [7, 8] (fun t i wr => ∃ j : Nat, j ≤ la.length ∧ i = .int .i64 j ∧ OwnL wr w.heap.size t (turnL la r j) ∧ Below w.heap.size w wr) (fun _ i _ => la.length - (intOf i).toNat)
  case atStart => exact ⟨0, Nat.zero_le _, rfl, OwnL.nil _ _, HB.out⟩
  case round =>
    obtain ⟨j, hj, rfl, ho, hb⟩ := hrel
    obtain ⟨at1, ct1, rfl⟩ := ho.form
    have HO := Lib.hid ho
    have HBR := Lib.hid hb
    clear ho HB
    by_cases hlt : j < la.length
    · obtain ⟨q, hq, hqe⟩ := turn_at r hlt
      obtain ⟨s, hs⟩ := at_lt hq
      obtain ⟨g, o, rfl, hg, c0, c1⟩ := (HA0.out.later hb).at hs
      have hn0 : ¬ ((la.length : Int) = 0) := by omega
      have hr0 := Int.emod_nonneg r hn0
      have hr1 := Int.emod_lt_of_pos r (by omega : (0 : Int) < (la.length : Int))
      have hq0 : (0 : Int) ≤ (q : Int) := by omega
      have hq1 : (q : Int) < (la.length : Int) := by omega
      have hjl : (j : Int) < (la.length : Int) := by omega
      have hdj : decide ((j : Int) < (la.length : Int)) = true := decide_eq_true hjl
      have HT := Lib.hid (turn_step hqe hs)
      have HTL : Hid ((turnL la r j).length ≤ j) := turn_len la r j
      clear hs hb
      go_wp2_with (at_builtin; refine append_sp rfl _ _ rfl _ _ (turnL la r j) rfl (HO.out.later (blAlloc (Below.refl _ _) _)) _ [s] rfl (one_new _ s _ (by simp)) (by have := HTL.out; simp; omega) (by have := HBR.out.size; simp; omega) ?_; intro v1 w1 h1 h2; have H1 := Lib.hid h1; have H2 := Lib.hid (grown_below (blAlloc HBR.out _) (HO.out.later (blAlloc (Below.refl _ _) _)) (Nat.le_refl _) (by have := HBR.out.size; simp; omega) h2); clear h1 h2)
      go_roundw
      case rel => exact ⟨j + 1, hlt, by go_num, by rw [HT.out]; exact H1.out, H2.out⟩
      case measure => simp [intOf]; omega
    · obtain rfl : j = la.length := by omega
      have hdj : decide ((la.length : Int) < (la.length : Int)) = false := by simp
      have HSt := Lib.hid HO.out.sl
      have HB := HBR
      have HSa := Lib.hid (HA0.out.later hb)
      have HSb := Lib.hid (HB0.out.later hb)
      have HTL : Hid ((turnL la r la.length).length ≤ 30) := Nat.le_trans (turn_len la r la.length) h30
      clear HO HBR HA0 HB0 hb
      have Lx : Hid ((uniL la).length ≤ 30) := Nat.le_trans (uniL_len la) HLa.out
      have Lz : Hid ((uniL lb).length ≤ 30) := Nat.le_trans (uniL_len lb) HLb.out
      have Ly : Hid ((uniL (turnL la r la.length)).length ≤ 30) := Nat.le_trans (uniL_len _) HTL.out
      have Lc : Hid ((setL 1 (uniL la) (uniL lb)).length ≤ 120) := Nat.le_trans (setL_len 1 _ _) (by have := Lx.out; have := Lz.out; omega)
      have Ld : Hid ((setL 2 (uniL la) (uniL lb)).length ≤ 120) := Nat.le_trans (setL_len 2 _ _) (by have := Lx.out; have := Lz.out; omega)
      have Le : Hid ((setL 1 (uniL la) (uniL la)).length ≤ 120) := Nat.le_trans (setL_len 1 _ _) (by have := Lx.out; have := Lx.out; omega)
      have Lk : Hid ((setL 1 (uniL lb) (uniL la)).length ≤ 120) := Nat.le_trans (setL_len 1 _ _) (by have := Lz.out; have := Lx.out; omega)
      have Lu : Hid ((uniL (uniL la)).length ≤ 30) := Nat.le_trans (uniL_len _) Lx.out
      have NJj : Hid ((setL 1 (uniL la) (uniL lb)).length + (setL 2 (uniL la) (uniL lb)).length ≤ 1000000) := by have := Lc.out; have := Ld.out; show _ ≤ _; omega
      have Lj : Hid ((uniL (setL 1 (uniL la) (uniL lb) ++ setL 2 (uniL la) (uniL lb))).length ≤ 240) := Nat.le_trans (uniL_len _) (by have := Lc.out; have := Ld.out; rw [List.length_append]; omega)
      have S1 : Hid (uniL la = uniL (turnL la r la.length)) := set_uniq (uniL_set _) (uniL_set _) (fun k => by rw [uniL_mem, uniL_mem, turn_mem])
      have S2 : Hid (uniL (uniL la) = uniL la) := set_uniq (uniL_set _) (uniL_set _) (fun k => by rw [uniL_mem])
      have S3 : Hid (setL 1 (uniL la) (uniL la) = uniL la) := set_uniq (setL_set _ _ _) (uniL_set _) (fun k => by simp only [setL_mem, uniL_mem, memL_append, want0, want1, want2]; cases memL la k <;> cases memL lb k <;> rfl)
      have S4 : Hid (setL 2 (uniL la) (uniL la) = []) := set_uniq (setL_set _ _ _) isSet_nil (fun k => by rw [memL_nil]; simp only [setL_mem, uniL_mem, memL_append, want0, want1, want2]; cases memL la k <;> cases memL lb k <;> rfl)
      have S5 : Hid (uniL (setL 1 (uniL la) (uniL lb) ++ setL 2 (uniL la) (uniL lb)) = uniL la) := set_uniq (uniL_set _) (uniL_set _) (fun k => by simp only [setL_mem, uniL_mem, memL_append, want0, want1, want2]; cases memL la k <;> cases memL lb k <;> rfl)
      have S6 : Hid ((setL 1 (setL 1 (uniL la) (uniL lb)) (setL 2 (uniL la) (uniL lb))).isEmpty = true) := (setL_nil _ _ _).2 (fun k => by simp only [setL_mem, uniL_mem, memL_append, want0, want1, want2]; cases memL la k <;> cases memL lb k <;> rfl)
      have S7 : Hid (setL 1 (uniL lb) (uniL la) = setL 1 (uniL la) (uniL lb)) := set_uniq (setL_set _ _ _) (setL_set _ _ _) (fun k => by simp only [setL_mem, uniL_mem, memL_append, want0, want1, want2]; cases memL la k <;> cases memL lb k <;> rfl)
      have SAME : ∀ {l m : List Sp}, l = m → sameB l m = true := fun h => by simp [sameB, h]
      go_wp2_with fail
      refine (union_any _ la _ (Nat.le_trans HLa.out (by decide)) HSa.out).mono ?_
      rintro e _ ⟨_, rfl, ho, hb⟩
      obtain ⟨a_x, c_x, rfl⟩ := ho.form
      replace HB := Lib.hid (blThen HB.out hb)
      replace HSa := Lib.hid (HSa.out.later hb)
      replace HSb := Lib.hid (HSb.out.later hb)
      replace HSt := Lib.hid (HSt.out.later hb)
      clear hb
      have HSx := Lib.hid ho.sl
      clear ho
      go_wp2_with fail
      refine (union_any _ (turnL la r la.length) _ (Nat.le_trans HTL.out (by decide)) HSt.out).mono ?_
      rintro e _ ⟨_, rfl, ho, hb⟩
      obtain ⟨a_y, c_y, rfl⟩ := ho.form
      replace HB := Lib.hid (blThen HB.out hb)
      replace HSa := Lib.hid (HSa.out.later hb)
      replace HSb := Lib.hid (HSb.out.later hb)
      replace HSt := Lib.hid (HSt.out.later hb)
      replace HSx := Lib.hid (HSx.out.later hb)
      clear hb
      have HSy := Lib.hid ho.sl
      clear ho
      go_wp2_with fail
      refine (union_any _ lb _ (Nat.le_trans HLb.out (by decide)) HSb.out).mono ?_
      rintro e _ ⟨_, rfl, ho, hb⟩
      obtain ⟨a_z, c_z, rfl⟩ := ho.form
      replace HB := Lib.hid (blThen HB.out hb)
      replace HSa := Lib.hid (HSa.out.later hb)
      replace HSb := Lib.hid (HSb.out.later hb)
      replace HSt := Lib.hid (HSt.out.later hb)
      replace HSx := Lib.hid (HSx.out.later hb)
      replace HSy := Lib.hid (HSy.out.later hb)
      clear hb
      have HSz := Lib.hid ho.sl
      clear ho
      go_wp2_with fail
      refine (cut_any' _ _ (uniL la) (uniL lb) _ (Nat.le_trans Lx.out (by decide)) (Nat.le_trans Lz.out (by decide)) HSx.out HSz.out (uniL_set _) (uniL_set _)).mono ?_
      rintro e _ ⟨_, rfl, ho, hb⟩
      obtain ⟨a_c, c_c, rfl⟩ := ho.form
      replace HB := Lib.hid (blThen HB.out hb)
      replace HSa := Lib.hid (HSa.out.later hb)
      replace HSb := Lib.hid (HSb.out.later hb)
      replace HSt := Lib.hid (HSt.out.later hb)
      replace HSx := Lib.hid (HSx.out.later hb)
      replace HSy := Lib.hid (HSy.out.later hb)
      replace HSz := Lib.hid (HSz.out.later hb)
      clear hb
      have HSc := Lib.hid ho.sl
      clear ho
      go_wp2_with fail
      refine (less_any' _ _ (uniL la) (uniL lb) _ (Nat.le_trans Lx.out (by decide)) (Nat.le_trans Lz.out (by decide)) HSx.out HSz.out (uniL_set _) (uniL_set _)).mono ?_
      rintro e _ ⟨_, rfl, ho, hb⟩
      obtain ⟨a_d, c_d, rfl⟩ := ho.form
      replace HB := Lib.hid (blThen HB.out hb)
      replace HSa := Lib.hid (HSa.out.later hb)
      replace HSb := Lib.hid (HSb.out.later hb)
      replace HSt := Lib.hid (HSt.out.later hb)
      replace HSx := Lib.hid (HSx.out.later hb)
      replace HSy := Lib.hid (HSy.out.later hb)
      replace HSz := Lib.hid (HSz.out.later hb)
      replace HSc := Lib.hid (HSc.out.later hb)
      clear hb
      have HSd := Lib.hid ho.sl
      clear ho
      clear HSa
      clear HSb
      clear HSt
      go_wp2_with fail
      refine (same_any _ _ (uniL la) (uniL (turnL la r la.length)) _ (Nat.le_trans Lx.out (by decide)) (Nat.le_trans Ly.out (by decide)) HSx.out HSy.out).mono ?_
      rintro e _ ⟨rfl, hb⟩
      replace HB := Lib.hid (blThen HB.out hb)
      replace HSx := Lib.hid (HSx.out.later hb)
      replace HSy := Lib.hid (HSy.out.later hb)
      replace HSz := Lib.hid (HSz.out.later hb)
      replace HSc := Lib.hid (HSc.out.later hb)
      replace HSd := Lib.hid (HSd.out.later hb)
      clear hb
      rw [SAME S1.out]
      go_wp2_with fail
      refine (refset_any _ (uniL la) _ (Nat.le_trans Lx.out (by decide)) HSx.out).mono ?_
      rintro e _ ⟨rfl, hb⟩
      replace HB := Lib.hid (blThen HB.out hb)
      replace HSx := Lib.hid (HSx.out.later hb)
      replace HSy := Lib.hid (HSy.out.later hb)
      replace HSz := Lib.hid (HSz.out.later hb)
      replace HSc := Lib.hid (HSc.out.later hb)
      replace HSd := Lib.hid (HSd.out.later hb)
      clear hb
      rw [SAME S2.out]
      go_wp2_with fail
      refine (own_any _ (uniL la) _ (Nat.le_trans Lx.out (by decide)) HSx.out).mono ?_
      rintro e _ ⟨_, rfl, ho, hb⟩
      obtain ⟨a_p, c_p, rfl⟩ := ho.form
      replace HB := Lib.hid (blThen HB.out hb)
      replace HSx := Lib.hid (HSx.out.later hb)
      replace HSy := Lib.hid (HSy.out.later hb)
      replace HSz := Lib.hid (HSz.out.later hb)
      replace HSc := Lib.hid (HSc.out.later hb)
      replace HSd := Lib.hid (HSd.out.later hb)
      clear hb
      have HSp := Lib.hid ho.sl
      clear ho
      go_wp2_with fail
      refine (union_any _ (uniL la) _ (Nat.le_trans Lx.out (by decide)) HSp.out).mono ?_
      rintro e _ ⟨_, rfl, ho, hb⟩
      obtain ⟨a_q, c_q, rfl⟩ := ho.form
      replace HB := Lib.hid (blThen HB.out hb)
      replace HSx := Lib.hid (HSx.out.later hb)
      replace HSy := Lib.hid (HSy.out.later hb)
      replace HSz := Lib.hid (HSz.out.later hb)
      replace HSc := Lib.hid (HSc.out.later hb)
      replace HSd := Lib.hid (HSd.out.later hb)
      replace HSp := Lib.hid (HSp.out.later hb)
      clear hb
      have HSq := Lib.hid ho.sl
      clear ho
      go_wp2_with fail
      refine (same_any _ _ (uniL (uniL la)) (uniL la) _ (Nat.le_trans Lu.out (by decide)) (Nat.le_trans Lx.out (by decide)) HSq.out HSx.out).mono ?_
      rintro e _ ⟨rfl, hb⟩
      replace HB := Lib.hid (blThen HB.out hb)
      replace HSx := Lib.hid (HSx.out.later hb)
      replace HSy := Lib.hid (HSy.out.later hb)
      replace HSz := Lib.hid (HSz.out.later hb)
      replace HSc := Lib.hid (HSc.out.later hb)
      replace HSd := Lib.hid (HSd.out.later hb)
      replace HSp := Lib.hid (HSp.out.later hb)
      replace HSq := Lib.hid (HSq.out.later hb)
      clear hb
      rw [SAME S2.out]
      clear HSp
      clear HSq
      go_wp2_with fail
      refine (cut_any' _ _ (uniL la) (uniL la) _ (Nat.le_trans Lx.out (by decide)) (Nat.le_trans Lx.out (by decide)) HSx.out HSx.out (uniL_set _) (uniL_set _)).mono ?_
      rintro e _ ⟨_, rfl, ho, hb⟩
      obtain ⟨a_p, c_p, rfl⟩ := ho.form
      replace HB := Lib.hid (blThen HB.out hb)
      replace HSx := Lib.hid (HSx.out.later hb)
      replace HSy := Lib.hid (HSy.out.later hb)
      replace HSz := Lib.hid (HSz.out.later hb)
      replace HSc := Lib.hid (HSc.out.later hb)
      replace HSd := Lib.hid (HSd.out.later hb)
      clear hb
      have HSp := Lib.hid ho.sl
      clear ho
      go_wp2_with fail
      refine (same_any _ _ (setL 1 (uniL la) (uniL la)) (uniL la) _ (Nat.le_trans Le.out (by decide)) (Nat.le_trans Lx.out (by decide)) HSp.out HSx.out).mono ?_
      rintro e _ ⟨rfl, hb⟩
      replace HB := Lib.hid (blThen HB.out hb)
      replace HSx := Lib.hid (HSx.out.later hb)
      replace HSy := Lib.hid (HSy.out.later hb)
      replace HSz := Lib.hid (HSz.out.later hb)
      replace HSc := Lib.hid (HSc.out.later hb)
      replace HSd := Lib.hid (HSd.out.later hb)
      replace HSp := Lib.hid (HSp.out.later hb)
      clear hb
      rw [SAME S3.out]
      clear HSp
      go_wp2_with fail
      refine (less_any' _ _ (uniL la) (uniL la) _ (Nat.le_trans Lx.out (by decide)) (Nat.le_trans Lx.out (by decide)) HSx.out HSx.out (uniL_set _) (uniL_set _)).mono ?_
      rintro e _ ⟨_, rfl, ho, hb⟩
      obtain ⟨a_p, c_p, rfl⟩ := ho.form
      replace HB := Lib.hid (blThen HB.out hb)
      replace HSx := Lib.hid (HSx.out.later hb)
      replace HSy := Lib.hid (HSy.out.later hb)
      replace HSz := Lib.hid (HSz.out.later hb)
      replace HSc := Lib.hid (HSc.out.later hb)
      replace HSd := Lib.hid (HSd.out.later hb)
      clear hb
      have HSp := Lib.hid ho.sl
      clear ho
      rw [S4.out] at HSp ⊢
      go_wp2_with fail
      refine (own_any _ (setL 1 (uniL la) (uniL lb)) _ (Nat.le_trans Lc.out (by decide)) HSc.out).mono ?_
      rintro e _ ⟨_, rfl, ho, hbx⟩
      obtain ⟨a_t, c_t, rfl⟩ := ho.form
      have HOT := Lib.hid ho
      have HBX := Lib.hid hbx
      clear ho hbx
      go_wp2_with (at_builtin; refine append_sp_g (by first | rfl | simp [Region.wanted, yielded]) _ _ rfl _ _ (setL 1 (uniL la) (uniL lb)) rfl HOT.out _ (setL 2 (uniL la) (uniL lb)) rfl (HSd.out.later HBX.out) (Nat.le_trans NJj.out (by decide)) HBX.out.size ?_; intro v1 w1 h1 h2; have H1 := Lib.hid h1; have H2 := Lib.hid (grown_below HBX.out HOT.out (Nat.le_refl _) HBX.out.size h2); clear h1 h2)
      refine (union_any _ (setL 1 (uniL la) (uniL lb) ++ setL 2 (uniL la) (uniL lb)) _ (by rw [List.length_append]; exact NJj.out) H1.out.sl).mono ?_
      rintro e _ ⟨_, rfl, ho, hb0⟩
      obtain ⟨a_j, c_j, rfl⟩ := ho.form
      have hb := blThen H2.out hb0
      clear hb0
      replace HB := Lib.hid (blThen HB.out hb)
      replace HSx := Lib.hid (HSx.out.later hb)
      replace HSy := Lib.hid (HSy.out.later hb)
      replace HSz := Lib.hid (HSz.out.later hb)
      replace HSc := Lib.hid (HSc.out.later hb)
      replace HSd := Lib.hid (HSd.out.later hb)
      replace HSp := Lib.hid (HSp.out.later hb)
      clear hb
      have HSj := Lib.hid ho.sl
      clear ho HOT HBX H1 H2
      go_wp2_with fail
      refine (same_any _ _ (uniL (setL 1 (uniL la) (uniL lb) ++ setL 2 (uniL la) (uniL lb))) (uniL la) _ (Nat.le_trans Lj.out (by decide)) (Nat.le_trans Lx.out (by decide)) HSj.out HSx.out).mono ?_
      rintro e _ ⟨rfl, hb⟩
      replace HB := Lib.hid (blThen HB.out hb)
      replace HSx := Lib.hid (HSx.out.later hb)
      replace HSy := Lib.hid (HSy.out.later hb)
      replace HSz := Lib.hid (HSz.out.later hb)
      replace HSc := Lib.hid (HSc.out.later hb)
      replace HSd := Lib.hid (HSd.out.later hb)
      replace HSp := Lib.hid (HSp.out.later hb)
      replace HSj := Lib.hid (HSj.out.later hb)
      clear hb
      rw [SAME S5.out]
      go_wp2_with fail
      refine (meet_any' _ _ (setL 1 (uniL la) (uniL lb)) (setL 2 (uniL la) (uniL lb)) _ (Nat.le_trans Lc.out (by decide)) (Nat.le_trans Ld.out (by decide)) HSc.out HSd.out (setL_set _ _ _) (setL_set _ _ _)).mono ?_
      rintro e _ ⟨rfl, hb⟩
      replace HB := Lib.hid (blThen HB.out hb)
      replace HSx := Lib.hid (HSx.out.later hb)
      replace HSy := Lib.hid (HSy.out.later hb)
      replace HSz := Lib.hid (HSz.out.later hb)
      replace HSc := Lib.hid (HSc.out.later hb)
      replace HSd := Lib.hid (HSd.out.later hb)
      replace HSp := Lib.hid (HSp.out.later hb)
      replace HSj := Lib.hid (HSj.out.later hb)
      clear hb
      rw [S6.out]
      go_wp2_with fail
      refine (cut_any' _ _ (uniL lb) (uniL la) _ (Nat.le_trans Lz.out (by decide)) (Nat.le_trans Lx.out (by decide)) HSz.out HSx.out (uniL_set _) (uniL_set _)).mono ?_
      rintro e _ ⟨_, rfl, ho, hb⟩
      obtain ⟨a_k, c_k, rfl⟩ := ho.form
      replace HB := Lib.hid (blThen HB.out hb)
      replace HSx := Lib.hid (HSx.out.later hb)
      replace HSy := Lib.hid (HSy.out.later hb)
      replace HSz := Lib.hid (HSz.out.later hb)
      replace HSc := Lib.hid (HSc.out.later hb)
      replace HSd := Lib.hid (HSd.out.later hb)
      replace HSp := Lib.hid (HSp.out.later hb)
      replace HSj := Lib.hid (HSj.out.later hb)
      clear hb
      have HSk := Lib.hid ho.sl
      clear ho
      go_wp2_with fail
      refine (same_any _ _ (setL 1 (uniL lb) (uniL la)) (setL 1 (uniL la) (uniL lb)) _ (Nat.le_trans Lk.out (by decide)) (Nat.le_trans Lc.out (by decide)) HSk.out HSc.out).mono ?_
      rintro e _ ⟨rfl, hb⟩
      replace HB := Lib.hid (blThen HB.out hb)
      replace HSx := Lib.hid (HSx.out.later hb)
      replace HSy := Lib.hid (HSy.out.later hb)
      replace HSz := Lib.hid (HSz.out.later hb)
      replace HSc := Lib.hid (HSc.out.later hb)
      replace HSd := Lib.hid (HSd.out.later hb)
      replace HSp := Lib.hid (HSp.out.later hb)
      replace HSj := Lib.hid (HSj.out.later hb)
      replace HSk := Lib.hid (HSk.out.later hb)
      clear hb
      rw [SAME S7.out]
      go_wp2_with fail
      refine (live_any _).mono ?_
      rintro e _ ⟨rfl, hb⟩
      go_wp2
      go_ret
      exact ⟨rfl, blThen HB.out hb⟩

set_option maxRecDepth 100000 in
theorem spanOrder_lifted (os : Os) (started : os.Started) (H : Type) (enc : TypeId × Value → H) :
    ReturnsInHanded {} Try.checked os 6 .any (Rows.spanOrderSpec.pre6 enc Try.prog Try.f6 Rows.spanOrderRow.domain false) (Rows.spanOrderSpec.post enc Try.prog Try.f6 false true false false) := by
  refine law_lift (C := Try.checked) own0 started (by kernel_rfl) Try.func6 laid0 rfl (by kernel_rfl) (fun _ _ _ _ => trodAll_mk1 (shut_bool Try.underlying4 true)) (fun ds h => match ds, h with | [_, _, _], _ => ⟨rfl, rfl, rfl⟩)
    (ChangeSpec.witness6 (enc := enc) (C := Try.checked) false ⟨#[], #[.slice none 0 0, .int .i64 0, .slice none 0 0], []⟩ 8 (by kernel_rfl) (by kernel_rfl) (by kernel_rfl) (by kernel_rfl)) ?_
  intro W base args ds before hval0 hA0 hlt
  have hval : ∀ (j : Nat) t v, Try.f6.params[j]? = some t → args[j]? = some v → Value.okWide Try.prog W .any base t v := hval0
  have hA : DataW.TrodAll enc Try.prog W 0 (fun _ => true) true Try.f6.params.toList args.toList ds before := hA0
  rw [Try.params6] at hA hval
  obtain ⟨v0, v1, v2, d0, d1, d2, p0, p1, p2, rfl, rfl, rfl, h0, h1, h2⟩ := trodAll_three hA
  obtain ⟨la, hs0, hl0⟩ := open_spans (hval 0 22 v0 rfl rfl) h0
  obtain ⟨r, rfl, rfl, rfl, wr⟩ := open_int Try.underlying3 (hval 1 3 v1 rfl rfl) h1
  obtain ⟨lb, hs2, hl2⟩ := open_spans (hval 2 22 v2 rfl rfl) h2
  exact spanOrder_walk _ _ la lb r W hs0 hs2 hl0 hl2 wr

theorem spanOrder_holds : Rows.SpanOrderSaid :=
  OpenClaim.holds_of_wide 6 Try.f6 rfl rfl rfl rfl rfl rfl rfl ⟨rfl, rfl, rfl, rfl, rfl⟩ rfl rfl rfl rfl rfl (by kernel_rfl) Try.func6 (by kernel_rfl)
    (of_decide_eq_true (by kernel_rfl)) (by unfold Func.isWrapper; rw [if_neg (of_decide_eq_false (by kernel_rfl))]; exact ⟨rfl, rfl⟩)
    (fun os started H enc _ => spanOrder_lifted os started H enc)

#print axioms spanOrder_holds

end Go.Proofs.Ytolbgpcmpbkmmaa
