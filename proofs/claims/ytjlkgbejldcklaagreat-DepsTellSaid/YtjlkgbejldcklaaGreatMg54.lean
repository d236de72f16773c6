/- DepsTell: whatever lists of dependencies, shards and stamps, the law returns true: merged, made, told, parted, below a time, they are what the document says. Conditions: none. -/
import Derived.Deep.RegionHeld3
import Derived.WalkSpells
import Derived.Test.YtjlkgbejldcklaaGreatMg40
import Derived.Test.YtjlkgbejldcklaaGreatMg51
import Derived.Test.YtjlkgbejldcklaaGreatMg53
/- Pure facts for DepsTell: checked lists are few. Conditions: none. -/
set_option linter.unusedVariables false
namespace Go.Proofs.YtjlkgbejldcklaaGreat
open S1 SP
namespace SD

theorem checked_few : ∀ {rs : List DRow}, (∀ r ∈ rs, checkD (toD r.2.1) = 0) → (allR rs).length ≤ 8 * rs.length ∧ idsN (toD (allR rs)) ≤ 512 * rs.length
  | [], _ => ⟨by simp [allR], by simp [allR, toD, idsN]⟩
  | r :: rs, h => by
    obtain ⟨h1, h2⟩ := checked_few (rs := rs) fun x hx => h x (by simp [hx])
    obtain ⟨h3, h4, _⟩ := checkD_ok.1 (h r (by simp))
    have e : allR (r :: rs) = r.2.1 ++ allR rs := rfl
    rw [toD_length] at h3
    rw [e, toD_append, idsN_append, List.length_append, List.length_cons]
    omega
/-- The list at a place of a row of checked ones, one more. -/
theorem checked_take {rs : List DRow} {k : Nat} {r : DRow} (h : rs[k]? = some r) (ht : ∀ x ∈ rs.take k, checkD (toD x.2.1) = 0) (hr : checkD (toD r.2.1) = 0) : ∀ x ∈ rs.take (k + 1), checkD (toD x.2.1) = 0 := by
  intro x hx
  rw [List.take_add_one, h, List.mem_append] at hx
  rcases hx with hx | hx
  · exact ht x hx
  · simp only [Option.toList, List.mem_singleton] at hx
    subst hx
    exact hr
/-- What is merged of rows that may be has shards that may be. -/
theorem merged_nice {rs : List DRow} (h : checkD (mergeD (rs.map fun r => toD r.2.1)) = 0) : Nice (mergeD (rs.map fun r => toD r.2.1)) := nice_of h

end SD
end Go.Proofs.YtjlkgbejldcklaaGreat

/- DepsTell: whatever lists of dependencies, shards and stamps, the law returns true: merged, made, told, parted, below a time, they are what the document says. Conditions: none. -/
set_option linter.unusedVariables false
set_option linter.unusedSimpArgs false
namespace Go.Proofs.YtjlkgbejldcklaaGreat
open S1 SP
namespace SD
open Go.ChangeShapes Go.WideShapes Go.ChangeAt Go.RowKit Go.Joins Go.Deep

theorem wpList_unguard {P : Program} {ops : Array Oper} {Q : Exit → Act → World → Prop} {a : Act} {w : World} {rest : List Oper} {o : Oper} (hw : Region.wanted o (yielded ops a.tmps) = true)
    (h : wpList P ops Q ({ o with guard := none } :: rest) a w) : wpList P ops Q (o :: rest) a w := by
  unfold wpList at h ⊢
  rw [if_pos hw]
  rw [if_pos (by simp [Region.wanted])] at h
  exact h
theorem append_st_g {w : World} {ops : Array Oper} {rest : List Oper} {o : Oper} {a : Act} {Q : Exit → Act → World → Prop} (hw : Region.wanted o (yielded ops a.tmps) = true) (s x : Operand)
    (ho : o.op = .call { callee := .builtin .append, args := #[s, x], argTypes := #[24, 24] })
    (base : Nat) (v : Value) (d : List (Int × Int)) (hs : a.eval s = v) (hown : OwnL w base v d) (ad : Option Addr) (cap : Nat) (l : List (Int × Int)) (hx : a.eval x = .slice ad l.length cap) (hsl : SL w ad l) (hn : ad = none → cap = 0)
    (hlen : d.length + l.length ≤ 4000000) (hbase : base ≤ w.heap.size)
    (h : ∀ v' w', OwnL w' base v' (d ++ l) → w.grownBy w' v.ownBlock → wpList Tryz.prog ops Q rest (a.put o.dst v') w') : wpList Tryz.prog ops Q (o :: rest) a w :=
  wpList_unguard hw (append_st rfl s x ho base v d hs hown ad cap l hx hsl hn hlen hbase h)
theorem trodAll_five {H : Type} {enc : TypeId × Value → H} {P : Program} {w : World} {base : Nat} {spare : Nat → Bool} {held : Bool} {t t1 t2 t3 t4 : TypeId} {args : Array Value} {ds : List (DataW H)} {ps : List MemPlace} (h : DataW.TrodAll enc P w base spare held [t, t1, t2, t3, t4] args.toList ds ps) :
    ∃ v v1 v2 v3 v4 d d1 d2 d3 d4 p p1 p2 p3 p4, args = #[v, v1, v2, v3, v4] ∧ ds = [d, d1, d2, d3, d4] ∧ ps = p ++ p1 ++ p2 ++ p3 ++ p4 ∧ DataW.Trod enc P w base spare held t v d p ∧ DataW.Trod enc P w base spare held t1 v1 d1 p1 ∧ DataW.Trod enc P w base spare held t2 v2 d2 p2 ∧ DataW.Trod enc P w base spare held t3 v3 d3 p3 ∧ DataW.Trod enc P w base spare held t4 v4 d4 p4 := by
  obtain ⟨v, vs, d, x1, p, q, hargs, rfl, rfl, hd, hrest⟩ := trodAll_cons h
  obtain ⟨v1, vs1, d1, x2, p1, q1, rfl, rfl, rfl, hd1, hrest1⟩ := trodAll_cons hrest
  obtain ⟨v2, vs2, d2, x3, p2, q2, rfl, rfl, rfl, hd2, hrest2⟩ := trodAll_cons hrest1
  obtain ⟨v3, vs3, d3, x4, p3, q3, rfl, rfl, rfl, hd3, hrest3⟩ := trodAll_cons hrest2
  obtain ⟨v4, vs4, d4, x5, p4, q4, rfl, rfl, rfl, hd4, hrest4⟩ := trodAll_cons hrest3
  obtain ⟨rfl, rfl, rfl⟩ := trodAll_nil hrest4
  exact ⟨v, v1, v2, v3, v4, d, d1, d2, d3, d4, p, p1, p2, p3, p4, by cases args; simp_all, rfl, by simp, hd, hd1, hd2, hd3, hd4⟩
/-- What is merged of at most twenty lists that may be. -/
theorem merged_args {rs : List DRow} (hn : rs.length ≤ 20) (h : ∀ r ∈ rs, checkD (toD r.2.1) = 0) : (allR rs).length ≤ 100000 ∧ idsN (toD (allR rs)) ≤ 1000000 ∧ (rs.map fun r => toD r.2.1).flatten.length ≤ 1000 ∧ rs.length ≤ 1000000 ∧ idsN (rs.map fun r => toD r.2.1).flatten ≤ 1000000 ∧ (∀ x ∈ (rs.map fun r => toD r.2.1).flatten, -1 < x.1) ∧ ∀ x ∈ (rs.map fun r => toD r.2.1).flatten, (Lit.int .i64 x.1).wf = true := by
  obtain ⟨h1, h2⟩ := checked_few h
  have hg : ∀ x ∈ (rs.map fun r => toD r.2.1).flatten, -1 < x.1 ∧ x.1 < 2000000000000 := by
    intro x hx
    obtain ⟨d, hd, hxd⟩ := List.mem_flatten.1 hx
    obtain ⟨r, hr, rfl⟩ := List.mem_map.1 hd
    obtain ⟨g1, g2⟩ := (nice_of (h r hr)).1 x hxd
    exact ⟨g1, by omega⟩
  rw [flat_toD] at hg ⊢
  rw [toD_length]
  refine ⟨by omega, by omega, by omega, by omega, by omega, fun x hx => (hg x hx).1, fun x hx => wf_small ?_ ?_⟩
  · have := (hg x hx).1; omega
  · have := (hg x hx).2; omega
theorem merged_few {rs : List DRow} (hn : rs.length ≤ 20) (h : ∀ r ∈ rs, checkD (toD r.2.1) = 0) {l : List Dp} (e : toD l = mergeD (rs.map fun r => toD r.2.1)) : FewD l ∧ idsN (toD l) ≤ 1000000 ∧ l.length ≤ 1000 := by
  obtain ⟨h1, h2⟩ := checked_few h
  have h3 := joinD_few (toD (allR rs)) []
  rw [← flat_toD, ← mergeD_flat, ← e, toD_length, flat_toD, toD_length, idsN_nil] at h3
  simp only [List.length_nil] at h3
  refine ⟨⟨by omega, fun s hs => ?_⟩, by omega, by omega⟩
  have := idsN_mem (d := toD l) (x := s.d) (List.mem_map.2 ⟨s, hs, rfl⟩)
  have e : s.d.2.length = s.ids.length := rfl
  omega
theorem few_sub {l : List Dp} {d : Dd} {N : Nat} (e : toD l = d) (h1 : d.length ≤ 1000000) (h2 : idsN d ≤ 1000000) : FewD l := by
  subst e
  rw [toD_length] at h1
  refine ⟨h1, fun s hs => ?_⟩
  have := idsN_mem (d := toD l) (x := s.d) (List.mem_map.2 ⟨s, hs, rfl⟩)
  have e : s.d.2.length = s.ids.length := rfl
  omega
theorem few_onlyD {l : List Dp} {d : Dd} (e : toD l = d) (P : List Int) (hd : Nice d) {m : List Dp} (em : toD m = onlyD d P) : FewD m := by
  refine few_sub (N := 0) em (Nat.le_trans (onlyD_len _ _) (Nat.le_trans (nice_len hd) (by decide))) (Nat.le_trans (idsN_only _ _) (Nat.le_trans hd.2.2.2.1 (by decide)))
theorem few_withoutD {d : Dd} (X : List (Int × Int)) (hd : Nice d) {m : List Dp} (em : toD m = withoutD d X) : FewD m := (nice_few em (nice_without hd X)).1
theorem few_belowD {d : Dd} (s : Int × Int) (hd : Nice d) {m : List Dp} (em : toD m = belowD d s) : FewD m := (nice_few em (nice_below hd s)).1
theorem few_make {l : List Dp} {s : Int} {X : List (Int × Int)} (h : X.length ≤ 100) (e : toD l = [(s, sortL X)]) : FewD l := by
  have h2 := sortL_length X
  refine few_sub (N := 0) e (by simp) ?_
  rw [idsN_cons, idsN_nil]
  show (sortL X).length + 0 ≤ _
  omega

set_option maxRecDepth 100000 in
set_option maxHeartbeats 16000000 in
theorem tell_walk (A : Option Addr) (C : Nat) (rs : List DRow) (sh : Int) (ai : Option Addr) (ci : Nat) (X : List (Int × Int)) (t n : Int) (ap : Option Addr) (cp : Nat) (P : List Int) (w : World)
    (hm : rs.length ≤ 9223372036854775807) (hrow : ∀ r ∈ rs, r.2.1.length ≤ 9223372036854775807 ∧ WfD r.2.1) (hreach : ∀ r ∈ rs, ∀ s ∈ r.2.1, s.ids.length ≤ 140737488355328) (hl : Dls w A rs)
    (hxm : X.length ≤ 9223372036854775807) (hx : SL w ai X) (hxn : ai = none → ci = 0) (hwx : ∀ i ∈ X, WfT i)
    (hpm : P.length ≤ 9223372036854775807) (hp : Nl w ap P) (hwp : ∀ n ∈ P, (Lit.int .i64 n).wf = true) :
    Calls Tryz.prog 4 #[.slice A rs.length C, .int .i64 sh, .slice ai X.length ci, .agg #[.int .i64 t, .int .i64 n], .slice ap P.length cp] w fun e w' => e = .returned (.bool true) ∧ Below w.heap.size w w' := by
  have HROW := Lib.hid hrow
  have HREACH := Lib.hid hreach
  have HWX := Lib.hid hwx
  have HWP := Lib.hid hwp
  have HXN := Lib.hid hxn
  have HB_w1 : Hid (Below w.heap.size w (w.alloc (.cells #[.int .i64 t, .int .i64 n] 42))) := blAlloc (Below.refl _ _) _
  have hN : Own2 (w.alloc (.cells #[.int .i64 t, .int .i64 n] 42)) w.heap.size t n := own2_new _ _ _
  have HS := Lib.hid (sl_dir hN.c0 hN.c1 hN.lt)
  have HL := Lib.hid (hl.later HB_w1.out)
  have HX0 := Lib.hid (SL.later hx HB_w1.out)
  have HP := Lib.hid (hp.later HB_w1.out)
  clear hN hl hx hp hrow hreach hwx hwp hxn
  go_enter Tryz.func4, Tryz.ntmps4
  by_cases hr20 : 20 < rs.length
  · have hr20I : (20 : Int) < (rs.length : Int) := by omega
    go_wp2_with fail
    generalize w.alloc (.cells #[.int .i64 t, .int .i64 n] 42) = w1 at *
    refine (dlive_any _).mono ?_
    rintro e w2 ⟨rfl, h5⟩
    have HX : Hid (Below w1.heap.size w1 w2) := blThen (by repeat (first | with_reducible exact Below.refl _ _ | with_reducible refine blAlloc ?_ _ | with_reducible refine Below.drew ?_)) h5
    have HB_w2 := Lib.hid (blThen HB_w1.out HX.out)
    clear h5 HX
    go_wp2
    go_ret
    exact ⟨rfl, HB_w2.out⟩
  · have hr20I : ¬ (20 : Int) < (rs.length : Int) := by omega
    by_cases hx100 : 100 < X.length
    · have hx100I : (100 : Int) < (X.length : Int) := by omega
      go_wp2_with fail
      generalize w.alloc (.cells #[.int .i64 t, .int .i64 n] 42) = w1 at *
      refine (dlive_any _).mono ?_
      rintro e w2 ⟨rfl, h5⟩
      have HX : Hid (Below w1.heap.size w1 w2) := blThen (by repeat (first | with_reducible exact Below.refl _ _ | with_reducible refine blAlloc ?_ _ | with_reducible refine Below.drew ?_)) h5
      have HB_w2 := Lib.hid (blThen HB_w1.out HX.out)
      clear h5 HX
      go_wp2
      go_ret
      exact ⟨rfl, HB_w2.out⟩
    · have hx100I : ¬ (100 : Int) < (X.length : Int) := by omega
      by_cases hp20 : 20 < P.length
      · have hp20I : (20 : Int) < (P.length : Int) := by omega
        go_wp2_with fail
        generalize w.alloc (.cells #[.int .i64 t, .int .i64 n] 42) = w1 at *
        refine (dlive_any _).mono ?_
        rintro e w2 ⟨rfl, h5⟩
        have HX : Hid (Below w1.heap.size w1 w2) := blThen (by repeat (first | with_reducible exact Below.refl _ _ | with_reducible refine blAlloc ?_ _ | with_reducible refine Below.drew ?_)) h5
        have HB_w2 := Lib.hid (blThen HB_w1.out HX.out)
        clear h5 HX
        go_wp2
        go_ret
        exact ⟨rfl, HB_w2.out⟩
      · have hp20I : ¬ (20 : Int) < (P.length : Int) := by omega
        go_wp2_with fail
        generalize w.alloc (.cells #[.int .i64 t, .int .i64 n] 42) = w1 at *
        go_loopw [11] (fun i wr => ∃ k : Nat, k ≤ rs.length ∧ i = .int .i64 k ∧ (∀ x ∈ rs.take k, checkD (toD x.2.1) = 0) ∧ Below w1.heap.size w1 wr) (fun i _ => rs.length - (intOf i).toNat)
        case atStart => exact ⟨0, Nat.zero_le _, rfl, fun x hx => by simp at hx, Below.refl _ _⟩
        case round =>
          obtain ⟨k, hk, rfl, hck, hb⟩ := hrel
          have HBk := Lib.hid hb
          have HCK := Lib.hid hck
          have HB_wr := Lib.hid (blThen HB_w1.out hb)
          clear hb hck
          by_cases hlt : k < rs.length
          · obtain ⟨r, hr⟩ := at_ltD hlt
            have HRK := Lib.hid hr
            have HLr := Lib.hid (HL.out.later HBk.out)
            obtain ⟨G, O, hA, hG, hcell, hdl⟩ := HLr.out.at hr
            unfold drV at hcell
            have hk1 : (k : Int) < (rs.length : Int) := by omega
            have hk0 : (0 : Int) ≤ (k : Int) := by omega
            have hdk : decide ((k : Int) < (rs.length : Int)) = true := decide_eq_true hk1
            have HD := Lib.hid hdl
            have hrm := (HROW.out r (List.mem_of_getElem? hr)).1
            have HRR := Lib.hid (HREACH.out r (List.mem_of_getElem? hr))
            clear hr hdl HL HX0 HP HS
            subst hA
            go_wp2_with fail
            refine (small6_any r.1 r.2.2 r.2.1 wr hrm HRR.out HD.out).mono ?_
            rintro e _ ⟨rfl, rfl⟩
            by_cases hsm : r.2.1.length ≤ 20 ∧ idsN (toD r.2.1) ≤ 100
            · rw [show decide (r.2.1.length ≤ 20 ∧ idsN (toD r.2.1) ≤ 100) = true from decide_eq_true hsm]
              have HLN := Lib.hid (few_of hsm.1 hsm.2)
              clear hsm
              go_wp2_with fail
              refine (refcheck_any r.1 r.2.2 r.2.1 _ HLN.out.1 HLN.out.2.1 (HD.out.later (by repeat (first | with_reducible exact Below.refl _ _ | with_reducible refine blAlloc ?_ _ | with_reducible refine Below.drew ?_)))).mono ?_
              rintro e w2 ⟨rfl, h5⟩
              have HB2 : Hid (Below w1.heap.size w1 w2) := blThen HBk.out h5
              have HB_w2 : Hid (Below w.heap.size w w2) := blThen HB_w1.out HB2.out
              clear h5
              by_cases hc : checkD (toD r.2.1) = 0
              · rw [hc]
                have HCK2 := Lib.hid (checked_take HRK.out HCK.out hc)
                clear hc
                go_wp2
                go_roundw
                case rel => exact ⟨k + 1, hlt, by go_num, HCK2.out, HB2.out⟩
                case measure => simp [intOf]; omega
              · have hck : ¬ checkD (toD r.2.1) = 0 := hc
                clear hc
                go_wp2_with fail
                refine (dlive_any _).mono ?_
                rintro e w3 ⟨rfl, h5⟩
                have HX : Hid (Below w2.heap.size w2 w3) := blThen (by repeat (first | with_reducible exact Below.refl _ _ | with_reducible refine blAlloc ?_ _ | with_reducible refine Below.drew ?_)) h5
                have HB_w3 := Lib.hid (blThen HB_w2.out HX.out)
                clear h5 HX
                go_wp2
                go_ret
                exact ⟨rfl, HB_w3.out⟩
            · rw [show decide (r.2.1.length ≤ 20 ∧ idsN (toD r.2.1) ≤ 100) = false from decide_eq_false hsm]
              go_wp2_with fail
              refine (dlive_any _).mono ?_
              rintro e x3 ⟨rfl, h5⟩
              have HX : Hid (Below wr.heap.size wr x3) := blThen (by repeat (first | with_reducible exact Below.refl _ _ | with_reducible refine blAlloc ?_ _ | with_reducible refine Below.drew ?_)) h5
              have HB_x3 := Lib.hid (blThen HB_wr.out HX.out)
              clear h5 HX
              go_wp2
              go_ret
              exact ⟨rfl, HB_x3.out⟩
          · have hge : ¬ (k : Int) < (rs.length : Int) := by omega
            have hdk : decide ((k : Int) < (rs.length : Int)) = false := decide_eq_false hge
            have hdn : decide (k < rs.length) = false := decide_eq_false hlt
            have HCKA : Hid (∀ r ∈ rs, checkD (toD r.2.1) = 0) := by
              intro x hx
              refine HCK.out x ?_
              rw [List.take_of_length_le (by omega)]
              exact hx
            have HRS : Hid (rs.length ≤ 20) := by show _ ≤ _; omega
            have HXL : Hid (X.length ≤ 100) := by show _ ≤ _; omega
            have HPL : Hid (P.length ≤ 20) := by show _ ≤ _; omega
            have HL := Lib.hid (HL.out.later HBk.out)
            have HP := Lib.hid (HP.out.later HBk.out)
            have HX0 := Lib.hid (SL.later HX0.out HBk.out)
            have HS := Lib.hid (SL.later HS.out HBk.out)
            have HMA := Lib.hid (merged_args HRS.out HCKA.out)
            clear HBk HCK hge hlt
            go_wp2_with fail
            refine (refmerge_any A C rs _ HMA.out.2.2.2.1 HMA.out.1 HMA.out.2.1 (HL.out.later (by repeat (first | with_reducible exact Below.refl _ _ | with_reducible refine blAlloc ?_ _ | with_reducible refine Below.drew ?_)))).mono ?_
            rintro e w11 ⟨ad, cd, ld, rfl, h1, h2, hdn, hdc, h5⟩
            have HX : Hid (Below wr.heap.size wr w11) := blThen (by repeat (first | with_reducible exact Below.refl _ _ | with_reducible refine blAlloc ?_ _ | with_reducible refine Below.drew ?_)) h5
            have HB_w11 := Lib.hid (blThen HB_wr.out HX.out)
            have HL := Lib.hid (HL.out.later HX.out)
            have HX0 := Lib.hid (SL.later HX0.out HX.out)
            have HP := Lib.hid (HP.out.later HX.out)
            have HS := Lib.hid (SL.later HS.out HX.out)
            have HDD := Lib.hid h2
            have HTD := Lib.hid h1
            have HFD := Lib.hid (merged_few HRS.out HCKA.out h1)
            clear h5 HX h1 h2 hdn hdc
            go_wp2_with fail
            refine (refcheck_any ad cd ld _ HFD.out.1 HFD.out.2.1 (HDD.out.later (by repeat (first | with_reducible exact Below.refl _ _ | with_reducible refine blAlloc ?_ _ | with_reducible refine Below.drew ?_)))).mono ?_
            rintro e w12 ⟨rfl, h5⟩
            have HX : Hid (Below w11.heap.size w11 w12) := blThen (by repeat (first | with_reducible exact Below.refl _ _ | with_reducible refine blAlloc ?_ _ | with_reducible refine Below.drew ?_)) h5
            have HB_w12 := Lib.hid (blThen HB_w11.out HX.out)
            have HL := Lib.hid (HL.out.later HX.out)
            have HX0 := Lib.hid (SL.later HX0.out HX.out)
            have HP := Lib.hid (HP.out.later HX.out)
            have HS := Lib.hid (SL.later HS.out HX.out)
            have HDD := Lib.hid (HDD.out.later HX.out)
            clear h5 HX
            by_cases hc : checkD (toD ld) = 0
            · rw [hc]
              have HCD := Lib.hid (nice_of hc)
              have HTM := HTD
              clear hc
              go_wp2_with fail
              refine (pmergeD_any A C rs _ (-1) _ rfl HMA.out.2.2.1 HMA.out.2.2.2.1 HMA.out.2.2.2.2.1 HMA.out.2.2.2.2.2.1 HMA.out.2.2.2.2.2.2 (HL.out.later (by repeat (first | with_reducible exact Below.refl _ _ | with_reducible refine blAlloc ?_ _ | with_reducible refine Below.drew ?_)))).mono ?_
              rintro e w13 ⟨am, cm, lm, rfl, h1, h2, _, _, h5⟩
              have HX : Hid (Below w12.heap.size w12 w13) := blThen (by repeat (first | with_reducible exact Below.refl _ _ | with_reducible refine blAlloc ?_ _ | with_reducible refine Below.drew ?_)) h5
              have HB_w13 := Lib.hid (blThen HB_w12.out HX.out)
              have HL := Lib.hid (HL.out.later HX.out)
              have HX0 := Lib.hid (SL.later HX0.out HX.out)
              have HP := Lib.hid (HP.out.later HX.out)
              have HS := Lib.hid (SL.later HS.out HX.out)
              have HDD := Lib.hid (HDD.out.later HX.out)
              have HDM := Lib.hid h2
              have HQM : Hid (decide (toD lm = toD ld) = true) := decide_eq_true (by rw [h1, HTD.out])
              have HFM := Lib.hid (merged_few HRS.out HCKA.out h1)
              clear h5 HX h1 h2
              go_wp2_with fail
              refine (refsame6_any _ _ _ _ lm ld _ HFM.out.1 (HDM.out.later (by repeat (first | with_reducible exact Below.refl _ _ | with_reducible refine blAlloc ?_ _ | with_reducible refine Below.drew ?_))) (HDD.out.later (by repeat (first | with_reducible exact Below.refl _ _ | with_reducible refine blAlloc ?_ _ | with_reducible refine Below.drew ?_)))).mono ?_
              rintro e w14 ⟨rfl, h5⟩
              rw [HQM.out]
              have HX : Hid (Below w13.heap.size w13 w14) := blThen (by repeat (first | with_reducible exact Below.refl _ _ | with_reducible refine blAlloc ?_ _ | with_reducible refine Below.drew ?_)) h5
              have HB_w14 := Lib.hid (blThen HB_w13.out HX.out)
              have HL := Lib.hid (HL.out.later HX.out)
              have HX0 := Lib.hid (SL.later HX0.out HX.out)
              have HP := Lib.hid (HP.out.later HX.out)
              have HS := Lib.hid (SL.later HS.out HX.out)
              have HDD := Lib.hid (HDD.out.later HX.out)
              have HDM := Lib.hid (HDM.out.later HX.out)
              clear h5 HX
              have HXA := Lib.hid (SL.later HX0.out (blAlloc (Below.refl w14.heap.size w14) (.cells #[] 42)))
              have HOE : Hid (OwnL (w14.alloc (.cells #[] 42)) w14.heap.size (.slice (some ⟨w14.heap.size, 0, none⟩) 0 0) []) := own_empty w14
              go_wp2_with (at_builtin; go_must (refine append_st_g (by first | rfl | simp [Region.wanted, yielded]) _ _ rfl w14.heap.size _ [] rfl HOE.out ai ci X rfl HXA.out HXN.out (by have := HXL.out; simp only [List.length_nil]; omega) (by simp) ?_; intro v5 w15 h1 h2; have h5 := grown_below (blAlloc (Below.refl w14.heap.size w14) (.cells #[] 42)) HOE.out (Nat.le_refl _) (by simp) h2; obtain ⟨ga, gc, rfl, gs, gn, -⟩ := h1.sl; rw [List.nil_append] at gs; clear h1 h2))
              have HX : Hid (Below w14.heap.size w14 w15) := h5
              have HB_w15 := Lib.hid (blThen HB_w14.out HX.out)
              have HL := Lib.hid (HL.out.later HX.out)
              have HX0 := Lib.hid (SL.later HX0.out HX.out)
              have HP := Lib.hid (HP.out.later HX.out)
              have HS := Lib.hid (SL.later HS.out HX.out)
              have HDD := Lib.hid (HDD.out.later HX.out)
              have HGA := Lib.hid gs
              have HGN := Lib.hid gn
              clear h5 HX HXA HOE gs gn
              refine (make_any sh ga gc X _ (by have := HXL.out; omega) (SL.later HGA.out (by repeat (first | with_reducible exact Below.refl _ _ | with_reducible refine blAlloc ?_ _ | with_reducible refine Below.drew ?_))) HGN.out).mono ?_
              rintro e w16 ⟨ak, ck, lk, rfl, h1, h2, _, _, h5⟩
              have HX : Hid (Below w15.heap.size w15 w16) := blThen (by repeat (first | with_reducible exact Below.refl _ _ | with_reducible refine blAlloc ?_ _ | with_reducible refine Below.drew ?_)) h5
              have HB_w16 := Lib.hid (blThen HB_w15.out HX.out)
              have HL := Lib.hid (HL.out.later HX.out)
              have HX0 := Lib.hid (SL.later HX0.out HX.out)
              have HP := Lib.hid (HP.out.later HX.out)
              have HS := Lib.hid (SL.later HS.out HX.out)
              have HDD := Lib.hid (HDD.out.later HX.out)
              have HDK := Lib.hid h2
              have HTK := Lib.hid h1
              have HFK := Lib.hid (few_make HXL.out h1)
              clear h5 HX h1 h2 HGA HGN
              go_wp2_with fail
              refine (radd_nil sh ai ci X _ (by have := HXL.out; omega) (SL.later HX0.out (by repeat (first | with_reducible exact Below.refl _ _ | with_reducible refine blAlloc ?_ _ | with_reducible refine Below.drew ?_))) HXN.out).mono ?_
              rintro e w17 ⟨ar, cr, lr, rfl, h1, h2, _, _, h5⟩
              have HX : Hid (Below w16.heap.size w16 w17) := blThen (by repeat (first | with_reducible exact Below.refl _ _ | with_reducible refine blAlloc ?_ _ | with_reducible refine Below.drew ?_)) h5
              have HB_w17 := Lib.hid (blThen HB_w16.out HX.out)
              have HL := Lib.hid (HL.out.later HX.out)
              have HX0 := Lib.hid (SL.later HX0.out HX.out)
              have HP := Lib.hid (HP.out.later HX.out)
              have HS := Lib.hid (SL.later HS.out HX.out)
              have HDD := Lib.hid (HDD.out.later HX.out)
              have HDK := Lib.hid (HDK.out.later HX.out)
              have HDR := Lib.hid h2
              have HQK : Hid (decide (toD lk = toD lr) = true) := decide_eq_true (by rw [h1, HTK.out, addD_nil])
              clear h5 HX h1 h2
              go_wp2_with fail
              refine (refsame6_any _ _ _ _ lk lr _ HFK.out (HDK.out.later (by repeat (first | with_reducible exact Below.refl _ _ | with_reducible refine blAlloc ?_ _ | with_reducible refine Below.drew ?_))) (HDR.out.later (by repeat (first | with_reducible exact Below.refl _ _ | with_reducible refine blAlloc ?_ _ | with_reducible refine Below.drew ?_)))).mono ?_
              rintro e w18 ⟨rfl, h5⟩
              rw [HQK.out]
              have HX : Hid (Below w17.heap.size w17 w18) := blThen (by repeat (first | with_reducible exact Below.refl _ _ | with_reducible refine blAlloc ?_ _ | with_reducible refine Below.drew ?_)) h5
              have HB_w18 := Lib.hid (blThen HB_w17.out HX.out)
              have HL := Lib.hid (HL.out.later HX.out)
              have HX0 := Lib.hid (SL.later HX0.out HX.out)
              have HP := Lib.hid (HP.out.later HX.out)
              have HS := Lib.hid (SL.later HS.out HX.out)
              have HDD := Lib.hid (HDD.out.later HX.out)
              have HDK := Lib.hid (HDK.out.later HX.out)
              have HDR := Lib.hid (HDR.out.later HX.out)
              clear h5 HX
              have HGL : Hid ((getD (toD ld) sh).length ≤ 1000000) := Nat.le_trans (getD_len _ _) (Nat.le_trans HCD.out.2.2.2.1 (by decide))
              go_wp2_with fail
              refine (get_any ad cd ld sh _ HFD.out.1 (HDD.out.later (by repeat (first | with_reducible exact Below.refl _ _ | with_reducible refine blAlloc ?_ _ | with_reducible refine Below.drew ?_)))).mono ?_
              rintro e w19 ⟨a1, c1, rfl, h1, _, _, h5⟩
              have HX : Hid (Below w18.heap.size w18 w19) := blThen (by repeat (first | with_reducible exact Below.refl _ _ | with_reducible refine blAlloc ?_ _ | with_reducible refine Below.drew ?_)) h5
              have HB_w19 := Lib.hid (blThen HB_w18.out HX.out)
              have HL := Lib.hid (HL.out.later HX.out)
              have HX0 := Lib.hid (SL.later HX0.out HX.out)
              have HP := Lib.hid (HP.out.later HX.out)
              have HS := Lib.hid (SL.later HS.out HX.out)
              have HDD := Lib.hid (HDD.out.later HX.out)
              have HGA := Lib.hid h1
              clear h5 HX h1
              go_wp2_with fail
              refine (refget_any ad cd ld sh _ (by have := HFD.out.2.2; omega) (HDD.out.later (by repeat (first | with_reducible exact Below.refl _ _ | with_reducible refine blAlloc ?_ _ | with_reducible refine Below.drew ?_)))).mono ?_
              rintro e w20 ⟨a2, c2, rfl, h1, _, _, h5⟩
              have HX : Hid (Below w19.heap.size w19 w20) := blThen (by repeat (first | with_reducible exact Below.refl _ _ | with_reducible refine blAlloc ?_ _ | with_reducible refine Below.drew ?_)) h5
              have HB_w20 := Lib.hid (blThen HB_w19.out HX.out)
              have HL := Lib.hid (HL.out.later HX.out)
              have HX0 := Lib.hid (SL.later HX0.out HX.out)
              have HP := Lib.hid (HP.out.later HX.out)
              have HS := Lib.hid (SL.later HS.out HX.out)
              have HDD := Lib.hid (HDD.out.later HX.out)
              have HGA := Lib.hid (SL.later HGA.out HX.out)
              have HGB := Lib.hid h1
              clear h5 HX h1
              go_wp2_with fail
              refine (refsameS_any _ _ _ _ (getD (toD ld) sh) (getD (toD ld) sh) _ HGL.out (SL.later HGA.out (by repeat (first | with_reducible exact Below.refl _ _ | with_reducible refine blAlloc ?_ _ | with_reducible refine Below.drew ?_))) (SL.later HGB.out (by repeat (first | with_reducible exact Below.refl _ _ | with_reducible refine blAlloc ?_ _ | with_reducible refine Below.drew ?_)))).mono ?_
              rintro e w21 ⟨rfl, h5⟩
              rw [decide_eq_true (rfl : getD (toD ld) sh = getD (toD ld) sh)]
              have HX : Hid (Below w20.heap.size w20 w21) := blThen (by repeat (first | with_reducible exact Below.refl _ _ | with_reducible refine blAlloc ?_ _ | with_reducible refine Below.drew ?_)) h5
              have HB_w21 := Lib.hid (blThen HB_w20.out HX.out)
              have HL := Lib.hid (HL.out.later HX.out)
              have HX0 := Lib.hid (SL.later HX0.out HX.out)
              have HP := Lib.hid (HP.out.later HX.out)
              have HS := Lib.hid (SL.later HS.out HX.out)
              have HDD := Lib.hid (HDD.out.later HX.out)
              have HGA := Lib.hid (SL.later HGA.out HX.out)
              have HGB := Lib.hid (SL.later HGB.out HX.out)
              clear h5 HX
              clear HGL
              clear HQM HFM HQK HFK HTK
              go_wp2_with fail
              have K3 : Hid (∀ Y : World, Below w21.heap.size w21 Y → Y.cell? ⟨w.heap.size, 0, none⟩ = some (.int .i64 t) ∧ Y.cell? ⟨w.heap.size, 1, none⟩ = some (.int .i64 n)) := by
                intro Y hY
                obtain ⟨g, o, e, hg, c0, c1⟩ := sl_at (SL.later HS.out hY) (k := 0) (x := (t, n)) rfl
                cases e
                exact ⟨c0, c1⟩
              clear HS
              have HWD : Hid (∀ s ∈ ld, (Lit.int .i64 s.sh).wf = true) := by
                intro s hs
                have h1 := HCD.out.1 s.d (List.mem_map.2 ⟨s, hs, rfl⟩)
                have e : s.d.1 = s.sh := rfl
                rw [e] at h1
                exact wf_small (by have := h1.1; omega) (by have := h1.2; omega)
              have HAL : Hid ((allD (toD ld)).length ≤ 1000000) := Nat.le_trans (allD_len6 _) (Nat.le_trans HCD.out.2.2.2.1 (by decide))
              refine wp_region_held_drew (S := fun Y => Y.cell? ⟨w.heap.size, 0, none⟩ = some (.int .i64 t) ∧ Y.cell? ⟨w.heap.size, 1, none⟩ = some (.int .i64 n)) (by kernel_rfl) (K3.out _ (Below.refl w21.heap.size w21).drew) (fun hHeld => ?_)
              refine wpAnyH_take (i := 0) (oi := { dst := some 81, op := Op.move (Operand.tmp 12), type := 22, pos := "law.go:75", after := #[], guard := none }) (v := ?_) rfl (by kernel_rfl) (by kernel_rfl) (by kernel_rfl) (fun _ _ _ h => h) (Or.inl ⟨by rfl, ?_⟩) (by assumption) ?_
              rotate_left
              · intro w hSw
                try dsimp only at hSw
                go_simp
                try with_reducible rfl
              try simp only [Act.put, List.setIfInBounds_toArray, List.set_cons_zero, List.set_cons_succ]
              refine wpAnyH_take (i := 1) (oi := { dst := some 82, op := Op.move (Operand.tmp 4), type := 43, pos := "law.go:75", after := #[], guard := none }) (v := ?_) rfl (by kernel_rfl) (by kernel_rfl) (by kernel_rfl) (fun _ _ _ h => h) (Or.inl ⟨by rfl, ?_⟩) (by assumption) ?_
              rotate_left
              · intro w hSw
                try dsimp only at hSw
                go_simp
                try with_reducible rfl
              try simp only [Act.put, List.setIfInBounds_toArray, List.set_cons_zero, List.set_cons_succ]
              refine wpAnyH_take (i := 3) (oi := { dst := some 84, op := Op.move (Operand.tmp 12), type := 22, pos := "law.go:75", after := #[], guard := none }) (v := ?_) rfl (by kernel_rfl) (by kernel_rfl) (by kernel_rfl) (fun _ _ _ h => h) (Or.inl ⟨by rfl, ?_⟩) (by assumption) ?_
              rotate_left
              · intro w hSw
                try dsimp only at hSw
                go_simp
                try with_reducible rfl
              try simp only [Act.put, List.setIfInBounds_toArray, List.set_cons_zero, List.set_cons_succ]
              refine wpAnyH_take (i := 4) (oi := { dst := some 85, op := Op.move (Operand.tmp 4), type := 43, pos := "law.go:75", after := #[], guard := none }) (v := ?_) rfl (by kernel_rfl) (by kernel_rfl) (by kernel_rfl) (fun _ _ _ h => h) (Or.inl ⟨by rfl, ?_⟩) (by assumption) ?_
              rotate_left
              · intro w hSw
                try dsimp only at hSw
                go_simp
                try with_reducible rfl
              try simp only [Act.put, List.setIfInBounds_toArray, List.set_cons_zero, List.set_cons_succ]
              refine wpAnyH_ready (rs := [2]) (by kernel_rfl) (by simp) ?_
              refine AllReadyH.cons (o := { dst := some 83, op := Op.call { callee := Callee.value (Operand.func 31), args := #[Operand.tmp 81, Operand.tmp 82], argTypes := #[22, 43] }, type := 22, pos := "law.go:75", after := #[{ on := 0, ground := Ground.data }, { on := 1, ground := Ground.data }], guard := none }) rfl (fun K hK => ?_) ?_
              rotate_left
              · exact AllReadyH.nil
              go_simp
              go_at_call 31
              refine (ponly_any ad cd ld ap cp P _ HFD.out.1 (by have := HPL.out; omega) HWD.out HWP.out (HDD.out.later (by repeat (first | with_reducible exact Below.refl _ _ | with_reducible refine blAlloc ?_ _ | with_reducible refine Below.drew ?_))) (HP.out.later (by repeat (first | with_reducible exact Below.refl _ _ | with_reducible refine blAlloc ?_ _ | with_reducible refine Below.drew ?_)))).mono ?_
              rintro e w22 ⟨ab, cb, lb, rfl, h1, h2, _, _, h5⟩
              have HX : Hid (Below w21.heap.size w21 w22) := blThen (by repeat (first | with_reducible exact Below.refl _ _ | with_reducible refine blAlloc ?_ _ | with_reducible refine Below.drew ?_)) h5
              have HC_w22 : Hid (Below w21.heap.size w21 w22) := HX.out
              have HL := Lib.hid (HL.out.later HX.out)
              have HX0 := Lib.hid (SL.later HX0.out HX.out)
              have HP := Lib.hid (HP.out.later HX.out)
              have HDD := Lib.hid (HDD.out.later HX.out)
              have HDb := Lib.hid h2
              have HTb := Lib.hid h1
              have HFb := Lib.hid (few_onlyD rfl P HCD.out h1)
              clear h5 HX h1 h2
              refine hK.out _ _ (K3.out _ HC_w22.out) (fun hHeld => ?_)
              clear hK K
              try simp only [Act.put, List.setIfInBounds_toArray, List.set_cons_zero, List.set_cons_succ]
              refine wpAnyH_ready (rs := [5]) (by kernel_rfl) (by simp) ?_
              refine AllReadyH.cons (o := { dst := some 86, op := Op.call { callee := Callee.value (Operand.func 32), args := #[Operand.tmp 84, Operand.tmp 85], argTypes := #[22, 43] }, type := 22, pos := "law.go:75", after := #[{ on := 3, ground := Ground.data }, { on := 4, ground := Ground.data }, { on := 2, ground := Ground.chain }], guard := none }) rfl (fun K hK => ?_) ?_
              rotate_left
              · exact AllReadyH.nil
              go_simp
              go_at_call 32
              refine (refonly_any ad cd ld ap cp P _ (by have := HFD.out.2.2; omega) (by have := HPL.out; omega) (HDD.out.later (by repeat (first | with_reducible exact Below.refl _ _ | with_reducible refine blAlloc ?_ _ | with_reducible refine Below.drew ?_))) (HP.out.later (by repeat (first | with_reducible exact Below.refl _ _ | with_reducible refine blAlloc ?_ _ | with_reducible refine Below.drew ?_)))).mono ?_
              rintro e w23 ⟨ad2, cd2, ld2, rfl, h1, h2, _, _, h5⟩
              have HX : Hid (Below w22.heap.size w22 w23) := blThen (by repeat (first | with_reducible exact Below.refl _ _ | with_reducible refine blAlloc ?_ _ | with_reducible refine Below.drew ?_)) h5
              have HC_w23 : Hid (Below w21.heap.size w21 w23) := blThen HC_w22.out HX.out
              have HL := Lib.hid (HL.out.later HX.out)
              have HX0 := Lib.hid (SL.later HX0.out HX.out)
              have HP := Lib.hid (HP.out.later HX.out)
              have HDD := Lib.hid (HDD.out.later HX.out)
              have HDb := Lib.hid (HDb.out.later HX.out)
              have HDd2 := Lib.hid h2
              have HTd2 := Lib.hid h1
              have HQ : Hid (decide (toD lb = toD ld2) = true) := decide_eq_true (by rw [HTb.out, h1])
              clear h5 HX h1 h2
              refine hK.out _ _ (K3.out _ HC_w23.out) (fun hHeld => ?_)
              clear hK K
              try simp only [Act.put, List.setIfInBounds_toArray, List.set_cons_zero, List.set_cons_succ]
              refine wpAnyH_ready (rs := [6]) (by kernel_rfl) (by simp) ?_
              refine AllReadyH.cons (o := { dst := some 87, op := Op.call { callee := Callee.value (Operand.func 20), args := #[Operand.tmp 83, Operand.tmp 86], argTypes := #[22, 22] }, type := 4, pos := "law.go:75", after := #[{ on := 2, ground := Ground.data }, { on := 5, ground := Ground.data }, { on := 5, ground := Ground.chain }], guard := none }) rfl (fun K hK => ?_) ?_
              rotate_left
              · exact AllReadyH.nil
              go_simp
              go_at_call 20
              refine (refsame6_any _ _ _ _ lb ld2 _ HFb.out (HDb.out.later (by repeat (first | with_reducible exact Below.refl _ _ | with_reducible refine blAlloc ?_ _ | with_reducible refine Below.drew ?_))) (HDd2.out.later (by repeat (first | with_reducible exact Below.refl _ _ | with_reducible refine blAlloc ?_ _ | with_reducible refine Below.drew ?_)))).mono ?_
              rintro e w24 ⟨rfl, h5⟩
              rw [HQ.out]
              have HX : Hid (Below w23.heap.size w23 w24) := blThen (by repeat (first | with_reducible exact Below.refl _ _ | with_reducible refine blAlloc ?_ _ | with_reducible refine Below.drew ?_)) h5
              have HC_w24 : Hid (Below w21.heap.size w21 w24) := blThen HC_w23.out HX.out
              have HL := Lib.hid (HL.out.later HX.out)
              have HX0 := Lib.hid (SL.later HX0.out HX.out)
              have HP := Lib.hid (HP.out.later HX.out)
              have HDD := Lib.hid (HDD.out.later HX.out)
              have HDb := Lib.hid (HDb.out.later HX.out)
              have HDd2 := Lib.hid (HDd2.out.later HX.out)
              clear h5 HX HQ HTb HTd2 HFb HDb HDd2
              refine hK.out _ _ (K3.out _ HC_w24.out) (fun hHeld => ?_)
              clear hK K
              try simp only [Act.put, List.setIfInBounds_toArray, List.set_cons_zero, List.set_cons_succ]
              refine wpAnyH_take (i := 7) (oi := { dst := some 88, op := Op.move (Operand.tmp 87), type := 4, pos := "law.go:75", after := #[{ on := 6, ground := Ground.data }, { on := 6, ground := Ground.chain }], guard := none }) (v := ?_) rfl (by kernel_rfl) (by kernel_rfl) (by kernel_rfl) (fun _ _ _ h => h) (Or.inl ⟨by rfl, ?_⟩) (by assumption) ?_
              rotate_left
              · intro w hSw
                try dsimp only at hSw
                go_simp
                try with_reducible rfl
              try simp only [Act.put, List.setIfInBounds_toArray, List.set_cons_zero, List.set_cons_succ]
              refine wpAnyH_take (i := 8) (oi := { dst := some 89, op := Op.move (Operand.tmp 12), type := 22, pos := "law.go:75", after := #[{ on := 7, ground := Ground.guard }], guard := some (7, true) }) (v := ?_) rfl (by kernel_rfl) (by kernel_rfl) (by kernel_rfl) (fun _ _ _ h => h) (Or.inl ⟨by rfl, ?_⟩) (by assumption) ?_
              rotate_left
              · intro w hSw
                try dsimp only at hSw
                go_simp
                try with_reducible rfl
              try simp only [Act.put, List.setIfInBounds_toArray, List.set_cons_zero, List.set_cons_succ]
              refine wpAnyH_take (i := 9) (oi := { dst := some 90, op := Op.move (Operand.tmp 2), type := 24, pos := "law.go:75", after := #[{ on := 7, ground := Ground.guard }], guard := some (7, true) }) (v := ?_) rfl (by kernel_rfl) (by kernel_rfl) (by kernel_rfl) (fun _ _ _ h => h) (Or.inl ⟨by rfl, ?_⟩) (by assumption) ?_
              rotate_left
              · intro w hSw
                try dsimp only at hSw
                go_simp
                try with_reducible rfl
              try simp only [Act.put, List.setIfInBounds_toArray, List.set_cons_zero, List.set_cons_succ]
              refine wpAnyH_take (i := 11) (oi := { dst := some 92, op := Op.move (Operand.tmp 12), type := 22, pos := "law.go:75", after := #[{ on := 7, ground := Ground.guard }], guard := some (7, true) }) (v := ?_) rfl (by kernel_rfl) (by kernel_rfl) (by kernel_rfl) (fun _ _ _ h => h) (Or.inl ⟨by rfl, ?_⟩) (by assumption) ?_
              rotate_left
              · intro w hSw
                try dsimp only at hSw
                go_simp
                try with_reducible rfl
              try simp only [Act.put, List.setIfInBounds_toArray, List.set_cons_zero, List.set_cons_succ]
              refine wpAnyH_take (i := 12) (oi := { dst := some 93, op := Op.move (Operand.tmp 2), type := 24, pos := "law.go:75", after := #[{ on := 7, ground := Ground.guard }], guard := some (7, true) }) (v := ?_) rfl (by kernel_rfl) (by kernel_rfl) (by kernel_rfl) (fun _ _ _ h => h) (Or.inl ⟨by rfl, ?_⟩) (by assumption) ?_
              rotate_left
              · intro w hSw
                try dsimp only at hSw
                go_simp
                try with_reducible rfl
              try simp only [Act.put, List.setIfInBounds_toArray, List.set_cons_zero, List.set_cons_succ]
              refine wpAnyH_ready (rs := [10]) (by kernel_rfl) (by simp) ?_
              refine AllReadyH.cons (o := { dst := some 91, op := Op.call { callee := Callee.value (Operand.func 33), args := #[Operand.tmp 89, Operand.tmp 90], argTypes := #[22, 24] }, type := 22, pos := "law.go:75", after := #[{ on := 8, ground := Ground.data }, { on := 9, ground := Ground.data }, { on := 7, ground := Ground.chain }, { on := 7, ground := Ground.guard }], guard := some (7, true) }) rfl (fun K hK => ?_) ?_
              rotate_left
              · exact AllReadyH.nil
              go_simp
              go_at_call 33
              refine (pwithout_any ad cd ld ai ci X _ HFD.out.1 (HDD.out.later (by repeat (first | with_reducible exact Below.refl _ _ | with_reducible refine blAlloc ?_ _ | with_reducible refine Below.drew ?_))) (nice_wf rfl HCD.out) (by have := HXL.out; omega) (SL.later HX0.out (by repeat (first | with_reducible exact Below.refl _ _ | with_reducible refine blAlloc ?_ _ | with_reducible refine Below.drew ?_))) HWX.out).mono ?_
              rintro e w25 ⟨ab, cb, lb, rfl, h1, h2, _, _, h5⟩
              have HX : Hid (Below w24.heap.size w24 w25) := blThen (by repeat (first | with_reducible exact Below.refl _ _ | with_reducible refine blAlloc ?_ _ | with_reducible refine Below.drew ?_)) h5
              have HC_w25 : Hid (Below w21.heap.size w21 w25) := blThen HC_w24.out HX.out
              have HL := Lib.hid (HL.out.later HX.out)
              have HX0 := Lib.hid (SL.later HX0.out HX.out)
              have HP := Lib.hid (HP.out.later HX.out)
              have HDD := Lib.hid (HDD.out.later HX.out)
              have HDb := Lib.hid h2
              have HTb := Lib.hid h1
              have HFb := Lib.hid (few_withoutD X HCD.out h1)
              clear h5 HX h1 h2
              refine hK.out _ _ (K3.out _ HC_w25.out) (fun hHeld => ?_)
              clear hK K
              try simp only [Act.put, List.setIfInBounds_toArray, List.set_cons_zero, List.set_cons_succ]
              refine wpAnyH_ready (rs := [13]) (by kernel_rfl) (by simp) ?_
              refine AllReadyH.cons (o := { dst := some 94, op := Op.call { callee := Callee.value (Operand.func 34), args := #[Operand.tmp 92, Operand.tmp 93], argTypes := #[22, 24] }, type := 22, pos := "law.go:75", after := #[{ on := 11, ground := Ground.data }, { on := 12, ground := Ground.data }, { on := 10, ground := Ground.chain }, { on := 7, ground := Ground.guard }], guard := some (7, true) }) rfl (fun K hK => ?_) ?_
              rotate_left
              · exact AllReadyH.nil
              go_simp
              go_at_call 34
              refine (refwithout_any ad cd ld ai ci X _ HFD.out.1 (by have := HXL.out; omega) (HDD.out.later (by repeat (first | with_reducible exact Below.refl _ _ | with_reducible refine blAlloc ?_ _ | with_reducible refine Below.drew ?_))) (SL.later HX0.out (by repeat (first | with_reducible exact Below.refl _ _ | with_reducible refine blAlloc ?_ _ | with_reducible refine Below.drew ?_)))).mono ?_
              rintro e w26 ⟨ad2, cd2, ld2, rfl, h1, h2, _, _, h5⟩
              have HX : Hid (Below w25.heap.size w25 w26) := blThen (by repeat (first | with_reducible exact Below.refl _ _ | with_reducible refine blAlloc ?_ _ | with_reducible refine Below.drew ?_)) h5
              have HC_w26 : Hid (Below w21.heap.size w21 w26) := blThen HC_w25.out HX.out
              have HL := Lib.hid (HL.out.later HX.out)
              have HX0 := Lib.hid (SL.later HX0.out HX.out)
              have HP := Lib.hid (HP.out.later HX.out)
              have HDD := Lib.hid (HDD.out.later HX.out)
              have HDb := Lib.hid (HDb.out.later HX.out)
              have HDd2 := Lib.hid h2
              have HTd2 := Lib.hid h1
              have HQ : Hid (decide (toD lb = toD ld2) = true) := decide_eq_true (by rw [HTb.out, h1])
              clear h5 HX h1 h2
              refine hK.out _ _ (K3.out _ HC_w26.out) (fun hHeld => ?_)
              clear hK K
              try simp only [Act.put, List.setIfInBounds_toArray, List.set_cons_zero, List.set_cons_succ]
              refine wpAnyH_ready (rs := [14]) (by kernel_rfl) (by simp) ?_
              refine AllReadyH.cons (o := { dst := some 95, op := Op.call { callee := Callee.value (Operand.func 20), args := #[Operand.tmp 91, Operand.tmp 94], argTypes := #[22, 22] }, type := 4, pos := "law.go:75", after := #[{ on := 10, ground := Ground.data }, { on := 13, ground := Ground.data }, { on := 13, ground := Ground.chain }, { on := 7, ground := Ground.guard }], guard := some (7, true) }) rfl (fun K hK => ?_) ?_
              rotate_left
              · exact AllReadyH.nil
              go_simp
              go_at_call 20
              refine (refsame6_any _ _ _ _ lb ld2 _ HFb.out (HDb.out.later (by repeat (first | with_reducible exact Below.refl _ _ | with_reducible refine blAlloc ?_ _ | with_reducible refine Below.drew ?_))) (HDd2.out.later (by repeat (first | with_reducible exact Below.refl _ _ | with_reducible refine blAlloc ?_ _ | with_reducible refine Below.drew ?_)))).mono ?_
              rintro e w27 ⟨rfl, h5⟩
              rw [HQ.out]
              have HX : Hid (Below w26.heap.size w26 w27) := blThen (by repeat (first | with_reducible exact Below.refl _ _ | with_reducible refine blAlloc ?_ _ | with_reducible refine Below.drew ?_)) h5
              have HC_w27 : Hid (Below w21.heap.size w21 w27) := blThen HC_w26.out HX.out
              have HL := Lib.hid (HL.out.later HX.out)
              have HX0 := Lib.hid (SL.later HX0.out HX.out)
              have HP := Lib.hid (HP.out.later HX.out)
              have HDD := Lib.hid (HDD.out.later HX.out)
              have HDb := Lib.hid (HDb.out.later HX.out)
              have HDd2 := Lib.hid (HDd2.out.later HX.out)
              clear h5 HX HQ HTb HTd2 HFb HDb HDd2
              refine hK.out _ _ (K3.out _ HC_w27.out) (fun hHeld => ?_)
              clear hK K
              try simp only [Act.put, List.setIfInBounds_toArray, List.set_cons_zero, List.set_cons_succ]
              refine wpAnyH_take (i := 15) (oi := { dst := some 96, op := Op.pick (Operand.tmp 88) (Operand.tmp 95) (Operand.const (Value.bool false)), type := 4, pos := "law.go:75", after := #[{ on := 7, ground := Ground.data }, { on := 14, ground := Ground.data }], guard := none }) (v := ?_) rfl (by kernel_rfl) (by kernel_rfl) (by kernel_rfl) (fun _ _ _ h => h) (Or.inl ⟨by rfl, ?_⟩) (by assumption) ?_
              rotate_left
              · intro w hSw
                try dsimp only at hSw
                go_simp
                try with_reducible rfl
              try simp only [Act.put, List.setIfInBounds_toArray, List.set_cons_zero, List.set_cons_succ]
              refine wpAnyH_take (i := 16) (oi := { dst := some 97, op := Op.move (Operand.tmp 96), type := 4, pos := "law.go:75", after := #[{ on := 15, ground := Ground.data }, { on := 14, ground := Ground.chain }], guard := none }) (v := ?_) rfl (by kernel_rfl) (by kernel_rfl) (by kernel_rfl) (fun _ _ _ h => h) (Or.inl ⟨by rfl, ?_⟩) (by assumption) ?_
              rotate_left
              · intro w hSw
                try dsimp only at hSw
                go_simp
                try with_reducible rfl
              try simp only [Act.put, List.setIfInBounds_toArray, List.set_cons_zero, List.set_cons_succ]
              refine wpAnyH_take (i := 17) (oi := { dst := some 98, op := Op.move (Operand.tmp 12), type := 22, pos := "law.go:75", after := #[{ on := 16, ground := Ground.guard }], guard := some (16, true) }) (v := ?_) rfl (by kernel_rfl) (by kernel_rfl) (by kernel_rfl) (fun _ _ _ h => h) (Or.inl ⟨by rfl, ?_⟩) (by assumption) ?_
              rotate_left
              · intro w hSw
                try dsimp only at hSw
                go_simp
                try with_reducible rfl
              try simp only [Act.put, List.setIfInBounds_toArray, List.set_cons_zero, List.set_cons_succ]
              refine wpAnyH_take (i := 18) (oi := { dst := some 99, op := Op.load 42 (Operand.tmp 8), type := 42, pos := "law.go:75", after := #[{ on := 16, ground := Ground.guard }], guard := some (16, true) }) (v := ?_) rfl (by kernel_rfl) (by kernel_rfl) (by kernel_rfl) (fun _ _ _ h => h) (Or.inl ⟨by rfl, ?_⟩) (by assumption) ?_
              rotate_left
              · intro w hSw
                try dsimp only at hSw
                go_simp
                try with_reducible rfl
              try simp only [Act.put, List.setIfInBounds_toArray, List.set_cons_zero, List.set_cons_succ]
              refine wpAnyH_take (i := 20) (oi := { dst := some 101, op := Op.move (Operand.tmp 12), type := 22, pos := "law.go:75", after := #[{ on := 16, ground := Ground.guard }], guard := some (16, true) }) (v := ?_) rfl (by kernel_rfl) (by kernel_rfl) (by kernel_rfl) (fun _ _ _ h => h) (Or.inl ⟨by rfl, ?_⟩) (by assumption) ?_
              rotate_left
              · intro w hSw
                try dsimp only at hSw
                go_simp
                try with_reducible rfl
              try simp only [Act.put, List.setIfInBounds_toArray, List.set_cons_zero, List.set_cons_succ]
              refine wpAnyH_take (i := 21) (oi := { dst := some 102, op := Op.load 42 (Operand.tmp 8), type := 42, pos := "law.go:75", after := #[{ on := 16, ground := Ground.guard }], guard := some (16, true) }) (v := ?_) rfl (by kernel_rfl) (by kernel_rfl) (by kernel_rfl) (fun _ _ _ h => h) (Or.inl ⟨by rfl, ?_⟩) (by assumption) ?_
              rotate_left
              · intro w hSw
                try dsimp only at hSw
                go_simp
                try with_reducible rfl
              try simp only [Act.put, List.setIfInBounds_toArray, List.set_cons_zero, List.set_cons_succ]
              refine wpAnyH_ready (rs := [19]) (by kernel_rfl) (by simp) ?_
              refine AllReadyH.cons (o := { dst := some 100, op := Op.call { callee := Callee.value (Operand.func 35), args := #[Operand.tmp 98, Operand.tmp 99], argTypes := #[22, 42] }, type := 22, pos := "law.go:75", after := #[{ on := 17, ground := Ground.data }, { on := 18, ground := Ground.data }, { on := 16, ground := Ground.chain }, { on := 16, ground := Ground.guard }], guard := some (16, true) }) rfl (fun K hK => ?_) ?_
              rotate_left
              · exact AllReadyH.nil
              go_simp
              go_at_call 35
              refine (pbelow_any ad cd ld t n _ HFD.out.1 (HDD.out.later (by repeat (first | with_reducible exact Below.refl _ _ | with_reducible refine blAlloc ?_ _ | with_reducible refine Below.drew ?_)))).mono ?_
              rintro e w28 ⟨ab, cb, lb, rfl, h1, h2, _, _, h5⟩
              have HX : Hid (Below w27.heap.size w27 w28) := blThen (by repeat (first | with_reducible exact Below.refl _ _ | with_reducible refine blAlloc ?_ _ | with_reducible refine Below.drew ?_)) h5
              have HC_w28 : Hid (Below w21.heap.size w21 w28) := blThen HC_w27.out HX.out
              have HL := Lib.hid (HL.out.later HX.out)
              have HX0 := Lib.hid (SL.later HX0.out HX.out)
              have HP := Lib.hid (HP.out.later HX.out)
              have HDD := Lib.hid (HDD.out.later HX.out)
              have HDb := Lib.hid h2
              have HTb := Lib.hid h1
              have HFb := Lib.hid (few_belowD (t, n) HCD.out h1)
              clear h5 HX h1 h2
              refine hK.out _ _ (K3.out _ HC_w28.out) (fun hHeld => ?_)
              clear hK K
              try simp only [Act.put, List.setIfInBounds_toArray, List.set_cons_zero, List.set_cons_succ]
              refine wpAnyH_ready (rs := [22]) (by kernel_rfl) (by simp) ?_
              refine AllReadyH.cons (o := { dst := some 103, op := Op.call { callee := Callee.value (Operand.func 36), args := #[Operand.tmp 101, Operand.tmp 102], argTypes := #[22, 42] }, type := 22, pos := "law.go:75", after := #[{ on := 20, ground := Ground.data }, { on := 21, ground := Ground.data }, { on := 19, ground := Ground.chain }, { on := 16, ground := Ground.guard }], guard := some (16, true) }) rfl (fun K hK => ?_) ?_
              rotate_left
              · exact AllReadyH.nil
              go_simp
              go_at_call 36
              refine (refbelow6_any ad cd ld t n _ HFD.out.1 (HDD.out.later (by repeat (first | with_reducible exact Below.refl _ _ | with_reducible refine blAlloc ?_ _ | with_reducible refine Below.drew ?_)))).mono ?_
              rintro e w29 ⟨ad2, cd2, ld2, rfl, h1, h2, _, _, h5⟩
              have HX : Hid (Below w28.heap.size w28 w29) := blThen (by repeat (first | with_reducible exact Below.refl _ _ | with_reducible refine blAlloc ?_ _ | with_reducible refine Below.drew ?_)) h5
              have HC_w29 : Hid (Below w21.heap.size w21 w29) := blThen HC_w28.out HX.out
              have HL := Lib.hid (HL.out.later HX.out)
              have HX0 := Lib.hid (SL.later HX0.out HX.out)
              have HP := Lib.hid (HP.out.later HX.out)
              have HDD := Lib.hid (HDD.out.later HX.out)
              have HDb := Lib.hid (HDb.out.later HX.out)
              have HDd2 := Lib.hid h2
              have HTd2 := Lib.hid h1
              have HQ : Hid (decide (toD lb = toD ld2) = true) := decide_eq_true (by rw [HTb.out, h1])
              clear h5 HX h1 h2
              refine hK.out _ _ (K3.out _ HC_w29.out) (fun hHeld => ?_)
              clear hK K
              try simp only [Act.put, List.setIfInBounds_toArray, List.set_cons_zero, List.set_cons_succ]
              refine wpAnyH_ready (rs := [23]) (by kernel_rfl) (by simp) ?_
              refine AllReadyH.cons (o := { dst := some 104, op := Op.call { callee := Callee.value (Operand.func 20), args := #[Operand.tmp 100, Operand.tmp 103], argTypes := #[22, 22] }, type := 4, pos := "law.go:75", after := #[{ on := 19, ground := Ground.data }, { on := 22, ground := Ground.data }, { on := 22, ground := Ground.chain }, { on := 16, ground := Ground.guard }], guard := some (16, true) }) rfl (fun K hK => ?_) ?_
              rotate_left
              · exact AllReadyH.nil
              go_simp
              go_at_call 20
              refine (refsame6_any _ _ _ _ lb ld2 _ HFb.out (HDb.out.later (by repeat (first | with_reducible exact Below.refl _ _ | with_reducible refine blAlloc ?_ _ | with_reducible refine Below.drew ?_))) (HDd2.out.later (by repeat (first | with_reducible exact Below.refl _ _ | with_reducible refine blAlloc ?_ _ | with_reducible refine Below.drew ?_)))).mono ?_
              rintro e w30 ⟨rfl, h5⟩
              rw [HQ.out]
              have HX : Hid (Below w29.heap.size w29 w30) := blThen (by repeat (first | with_reducible exact Below.refl _ _ | with_reducible refine blAlloc ?_ _ | with_reducible refine Below.drew ?_)) h5
              have HC_w30 : Hid (Below w21.heap.size w21 w30) := blThen HC_w29.out HX.out
              have HL := Lib.hid (HL.out.later HX.out)
              have HX0 := Lib.hid (SL.later HX0.out HX.out)
              have HP := Lib.hid (HP.out.later HX.out)
              have HDD := Lib.hid (HDD.out.later HX.out)
              have HDb := Lib.hid (HDb.out.later HX.out)
              have HDd2 := Lib.hid (HDd2.out.later HX.out)
              clear h5 HX HQ HTb HTd2 HFb HDb HDd2
              refine hK.out _ _ (K3.out _ HC_w30.out) (fun hHeld => ?_)
              clear hK K
              try simp only [Act.put, List.setIfInBounds_toArray, List.set_cons_zero, List.set_cons_succ]
              refine wpAnyH_take (i := 24) (oi := { dst := some 105, op := Op.pick (Operand.tmp 97) (Operand.tmp 104) (Operand.const (Value.bool false)), type := 4, pos := "law.go:75", after := #[{ on := 16, ground := Ground.data }, { on := 23, ground := Ground.data }], guard := none }) (v := ?_) rfl (by kernel_rfl) (by kernel_rfl) (by kernel_rfl) (fun _ _ _ h => h) (Or.inl ⟨by rfl, ?_⟩) (by assumption) ?_
              rotate_left
              · intro w hSw
                try dsimp only at hSw
                go_simp
                try with_reducible rfl
              try simp only [Act.put, List.setIfInBounds_toArray, List.set_cons_zero, List.set_cons_succ]
              refine wpAnyH_take (i := 25) (oi := { dst := some 106, op := Op.move (Operand.tmp 105), type := 4, pos := "law.go:75", after := #[{ on := 24, ground := Ground.data }, { on := 23, ground := Ground.chain }], guard := none }) (v := ?_) rfl (by kernel_rfl) (by kernel_rfl) (by kernel_rfl) (fun _ _ _ h => h) (Or.inl ⟨by rfl, ?_⟩) (by assumption) ?_
              rotate_left
              · intro w hSw
                try dsimp only at hSw
                go_simp
                try with_reducible rfl
              try simp only [Act.put, List.setIfInBounds_toArray, List.set_cons_zero, List.set_cons_succ]
              refine wpAnyH_take (i := 26) (oi := { dst := some 107, op := Op.move (Operand.tmp 12), type := 22, pos := "law.go:75", after := #[{ on := 25, ground := Ground.guard }], guard := some (25, true) }) (v := ?_) rfl (by kernel_rfl) (by kernel_rfl) (by kernel_rfl) (fun _ _ _ h => h) (Or.inl ⟨by rfl, ?_⟩) (by assumption) ?_
              rotate_left
              · intro w hSw
                try dsimp only at hSw
                go_simp
                try with_reducible rfl
              try simp only [Act.put, List.setIfInBounds_toArray, List.set_cons_zero, List.set_cons_succ]
              refine wpAnyH_take (i := 28) (oi := { dst := some 109, op := Op.move (Operand.tmp 12), type := 22, pos := "law.go:75", after := #[{ on := 25, ground := Ground.guard }], guard := some (25, true) }) (v := ?_) rfl (by kernel_rfl) (by kernel_rfl) (by kernel_rfl) (fun _ _ _ h => h) (Or.inl ⟨by rfl, ?_⟩) (by assumption) ?_
              rotate_left
              · intro w hSw
                try dsimp only at hSw
                go_simp
                try with_reducible rfl
              try simp only [Act.put, List.setIfInBounds_toArray, List.set_cons_zero, List.set_cons_succ]
              refine wpAnyH_ready (rs := [27]) (by kernel_rfl) (by simp) ?_
              refine AllReadyH.cons (o := { dst := some 108, op := Op.call { callee := Callee.value (Operand.func 37), args := #[Operand.tmp 107], argTypes := #[22] }, type := 24, pos := "law.go:75", after := #[{ on := 26, ground := Ground.data }, { on := 25, ground := Ground.chain }, { on := 25, ground := Ground.guard }], guard := some (25, true) }) rfl (fun K hK => ?_) ?_
              rotate_left
              · exact AllReadyH.nil
              go_simp
              go_at_call 37
              refine (pall_any ad cd ld _ HFD.out.2.2 HFD.out.2.1 (HDD.out.later (by repeat (first | with_reducible exact Below.refl _ _ | with_reducible refine blAlloc ?_ _ | with_reducible refine Below.drew ?_)))).mono ?_
              rintro e w31 ⟨a1, c1, rfl, h1, _, _, h5⟩
              have HX : Hid (Below w30.heap.size w30 w31) := blThen (by repeat (first | with_reducible exact Below.refl _ _ | with_reducible refine blAlloc ?_ _ | with_reducible refine Below.drew ?_)) h5
              have HC_w31 : Hid (Below w21.heap.size w21 w31) := blThen HC_w30.out HX.out
              have HL := Lib.hid (HL.out.later HX.out)
              have HX0 := Lib.hid (SL.later HX0.out HX.out)
              have HP := Lib.hid (HP.out.later HX.out)
              have HDD := Lib.hid (HDD.out.later HX.out)
              have HGA := Lib.hid h1
              clear h5 HX h1
              refine hK.out _ _ (K3.out _ HC_w31.out) (fun hHeld => ?_)
              clear hK K
              try simp only [Act.put, List.setIfInBounds_toArray, List.set_cons_zero, List.set_cons_succ]
              refine wpAnyH_ready (rs := [29]) (by kernel_rfl) (by simp) ?_
              refine AllReadyH.cons (o := { dst := some 110, op := Op.call { callee := Callee.value (Operand.func 38), args := #[Operand.tmp 109], argTypes := #[22] }, type := 24, pos := "law.go:75", after := #[{ on := 28, ground := Ground.data }, { on := 27, ground := Ground.chain }, { on := 25, ground := Ground.guard }], guard := some (25, true) }) rfl (fun K hK => ?_) ?_
              rotate_left
              · exact AllReadyH.nil
              go_simp
              go_at_call 38
              refine (refall_any ad cd ld _ (by have := HFD.out.2.2; omega) HFD.out.2.1 (HDD.out.later (by repeat (first | with_reducible exact Below.refl _ _ | with_reducible refine blAlloc ?_ _ | with_reducible refine Below.drew ?_)))).mono ?_
              rintro e w32 ⟨a2, c2, rfl, h1, _, _, h5⟩
              have HX : Hid (Below w31.heap.size w31 w32) := blThen (by repeat (first | with_reducible exact Below.refl _ _ | with_reducible refine blAlloc ?_ _ | with_reducible refine Below.drew ?_)) h5
              have HC_w32 : Hid (Below w21.heap.size w21 w32) := blThen HC_w31.out HX.out
              have HL := Lib.hid (HL.out.later HX.out)
              have HX0 := Lib.hid (SL.later HX0.out HX.out)
              have HP := Lib.hid (HP.out.later HX.out)
              have HDD := Lib.hid (HDD.out.later HX.out)
              have HGA := Lib.hid (SL.later HGA.out HX.out)
              have HGB := Lib.hid h1
              clear h5 HX h1
              refine hK.out _ _ (K3.out _ HC_w32.out) (fun hHeld => ?_)
              clear hK K
              try simp only [Act.put, List.setIfInBounds_toArray, List.set_cons_zero, List.set_cons_succ]
              refine wpAnyH_ready (rs := [30]) (by kernel_rfl) (by simp) ?_
              refine AllReadyH.cons (o := { dst := some 111, op := Op.call { callee := Callee.value (Operand.func 28), args := #[Operand.tmp 108, Operand.tmp 110], argTypes := #[24, 24] }, type := 4, pos := "law.go:75", after := #[{ on := 27, ground := Ground.data }, { on := 29, ground := Ground.data }, { on := 29, ground := Ground.chain }, { on := 25, ground := Ground.guard }], guard := some (25, true) }) rfl (fun K hK => ?_) ?_
              rotate_left
              · exact AllReadyH.nil
              go_simp
              go_at_call 28
              refine (refsameS_any _ _ _ _ (allD (toD ld)) (allD (toD ld)) _ HAL.out (SL.later HGA.out (by repeat (first | with_reducible exact Below.refl _ _ | with_reducible refine blAlloc ?_ _ | with_reducible refine Below.drew ?_))) (SL.later HGB.out (by repeat (first | with_reducible exact Below.refl _ _ | with_reducible refine blAlloc ?_ _ | with_reducible refine Below.drew ?_)))).mono ?_
              rintro e w33 ⟨rfl, h5⟩
              rw [decide_eq_true (rfl : allD (toD ld) = allD (toD ld))]
              have HX : Hid (Below w32.heap.size w32 w33) := blThen (by repeat (first | with_reducible exact Below.refl _ _ | with_reducible refine blAlloc ?_ _ | with_reducible refine Below.drew ?_)) h5
              have HC_w33 : Hid (Below w21.heap.size w21 w33) := blThen HC_w32.out HX.out
              have HL := Lib.hid (HL.out.later HX.out)
              have HX0 := Lib.hid (SL.later HX0.out HX.out)
              have HP := Lib.hid (HP.out.later HX.out)
              have HDD := Lib.hid (HDD.out.later HX.out)
              have HGA := Lib.hid (SL.later HGA.out HX.out)
              have HGB := Lib.hid (SL.later HGB.out HX.out)
              clear h5 HX HGA HGB
              refine hK.out _ _ (K3.out _ HC_w33.out) (fun hHeld => ?_)
              clear hK K
              try simp only [Act.put, List.setIfInBounds_toArray, List.set_cons_zero, List.set_cons_succ]
              refine wpAnyH_take (i := 31) (oi := { dst := some 112, op := Op.pick (Operand.tmp 106) (Operand.tmp 111) (Operand.const (Value.bool false)), type := 4, pos := "law.go:75", after := #[{ on := 25, ground := Ground.data }, { on := 30, ground := Ground.data }], guard := none }) (v := ?_) rfl (by kernel_rfl) (by kernel_rfl) (by kernel_rfl) (fun _ _ _ h => h) (Or.inl ⟨by rfl, ?_⟩) (by assumption) ?_
              rotate_left
              · intro w hSw
                try dsimp only at hSw
                go_simp
                try with_reducible rfl
              try simp only [Act.put, List.setIfInBounds_toArray, List.set_cons_zero, List.set_cons_succ]
              refine wpAnyH_take (i := 32) (oi := { dst := some 113, op := Op.move (Operand.tmp 112), type := 4, pos := "law.go:75", after := #[{ on := 31, ground := Ground.data }, { on := 30, ground := Ground.chain }], guard := none }) (v := ?_) rfl (by kernel_rfl) (by kernel_rfl) (by kernel_rfl) (fun _ _ _ h => h) (Or.inl ⟨by rfl, ?_⟩) (by assumption) ?_
              rotate_left
              · intro w hSw
                try dsimp only at hSw
                go_simp
                try with_reducible rfl
              try simp only [Act.put, List.setIfInBounds_toArray, List.set_cons_zero, List.set_cons_succ]
              refine wpAnyH_take (i := 33) (oi := { dst := some 114, op := Op.move (Operand.tmp 12), type := 22, pos := "law.go:75", after := #[{ on := 32, ground := Ground.guard }], guard := some (32, true) }) (v := ?_) rfl (by kernel_rfl) (by kernel_rfl) (by kernel_rfl) (fun _ _ _ h => h) (Or.inl ⟨by rfl, ?_⟩) (by assumption) ?_
              rotate_left
              · intro w hSw
                try dsimp only at hSw
                go_simp
                try with_reducible rfl
              try simp only [Act.put, List.setIfInBounds_toArray, List.set_cons_zero, List.set_cons_succ]
              refine wpAnyH_take (i := 34) (oi := { dst := some 115, op := Op.move (Operand.tmp 0), type := 40, pos := "law.go:75", after := #[{ on := 32, ground := Ground.guard }], guard := some (32, true) }) (v := ?_) rfl (by kernel_rfl) (by kernel_rfl) (by kernel_rfl) (fun _ _ _ h => h) (Or.inl ⟨by rfl, ?_⟩) (by assumption) ?_
              rotate_left
              · intro w hSw
                try dsimp only at hSw
                go_simp
                try with_reducible rfl
              try simp only [Act.put, List.setIfInBounds_toArray, List.set_cons_zero, List.set_cons_succ]
              refine wpAnyH_ready (rs := [35]) (by kernel_rfl) (by simp) ?_
              refine AllReadyH.cons (o := { dst := some 116, op := Op.call { callee := Callee.value (Operand.func 24), args := #[Operand.tmp 115], argTypes := #[40] }, type := 22, pos := "law.go:75", after := #[{ on := 34, ground := Ground.data }, { on := 32, ground := Ground.chain }, { on := 32, ground := Ground.guard }], guard := some (32, true) }) rfl (fun K hK => ?_) ?_
              rotate_left
              · exact AllReadyH.nil
              go_simp
              go_at_call 24
              refine (refmerge_any A C rs _ HMA.out.2.2.2.1 HMA.out.1 HMA.out.2.1 (HL.out.later (by repeat (first | with_reducible exact Below.refl _ _ | with_reducible refine blAlloc ?_ _ | with_reducible refine Below.drew ?_)))).mono ?_
              rintro e w34 ⟨ab, cb, lb, rfl, h1, h2, _, _, h5⟩
              have HX : Hid (Below w33.heap.size w33 w34) := blThen (by repeat (first | with_reducible exact Below.refl _ _ | with_reducible refine blAlloc ?_ _ | with_reducible refine Below.drew ?_)) h5
              have HC_w34 : Hid (Below w21.heap.size w21 w34) := blThen HC_w33.out HX.out
              have HL := Lib.hid (HL.out.later HX.out)
              have HX0 := Lib.hid (SL.later HX0.out HX.out)
              have HP := Lib.hid (HP.out.later HX.out)
              have HDD := Lib.hid (HDD.out.later HX.out)
              have HDb := Lib.hid h2
              have HTb := Lib.hid h1
              have HQ : Hid (decide (toD ld = toD lb) = true) := decide_eq_true (by rw [h1, HTD.out])
              clear h5 HX h1 h2
              refine hK.out _ _ (K3.out _ HC_w34.out) (fun hHeld => ?_)
              clear hK K
              try simp only [Act.put, List.setIfInBounds_toArray, List.set_cons_zero, List.set_cons_succ]
              refine wpAnyH_ready (rs := [36]) (by kernel_rfl) (by simp) ?_
              refine AllReadyH.cons (o := { dst := some 117, op := Op.call { callee := Callee.value (Operand.func 39), args := #[Operand.tmp 114, Operand.tmp 116], argTypes := #[22, 22] }, type := 4, pos := "law.go:75", after := #[{ on := 33, ground := Ground.data }, { on := 35, ground := Ground.data }, { on := 35, ground := Ground.chain }, { on := 32, ground := Ground.guard }], guard := some (32, true) }) rfl (fun K hK => ?_) ?_
              rotate_left
              · exact AllReadyH.nil
              go_simp
              go_at_call 39
              refine (same_any _ _ _ _ ld lb _ HFD.out.1 (HDD.out.later (by repeat (first | with_reducible exact Below.refl _ _ | with_reducible refine blAlloc ?_ _ | with_reducible refine Below.drew ?_))) (HDb.out.later (by repeat (first | with_reducible exact Below.refl _ _ | with_reducible refine blAlloc ?_ _ | with_reducible refine Below.drew ?_)))).mono ?_
              rintro e w35 ⟨rfl, h5⟩
              rw [HQ.out]
              have HX : Hid (Below w34.heap.size w34 w35) := blThen (by repeat (first | with_reducible exact Below.refl _ _ | with_reducible refine blAlloc ?_ _ | with_reducible refine Below.drew ?_)) h5
              have HC_w35 : Hid (Below w21.heap.size w21 w35) := blThen HC_w34.out HX.out
              have HL := Lib.hid (HL.out.later HX.out)
              have HX0 := Lib.hid (SL.later HX0.out HX.out)
              have HP := Lib.hid (HP.out.later HX.out)
              have HDD := Lib.hid (HDD.out.later HX.out)
              have HDb := Lib.hid (HDb.out.later HX.out)
              clear h5 HX HQ HTb HDb
              refine hK.out _ _ (K3.out _ HC_w35.out) (fun hHeld => ?_)
              clear hK K
              try simp only [Act.put, List.setIfInBounds_toArray, List.set_cons_zero, List.set_cons_succ]
              refine wpAnyH_take (i := 37) (oi := { dst := some 118, op := Op.pick (Operand.tmp 113) (Operand.tmp 117) (Operand.const (Value.bool false)), type := 4, pos := "law.go:75", after := #[{ on := 32, ground := Ground.data }, { on := 36, ground := Ground.data }], guard := none }) (v := ?_) rfl (by kernel_rfl) (by kernel_rfl) (by kernel_rfl) (fun _ _ _ h => h) (Or.inl ⟨by rfl, ?_⟩) (by assumption) ?_
              rotate_left
              · intro w hSw
                try dsimp only at hSw
                go_simp
                try with_reducible rfl
              try simp only [Act.put, List.setIfInBounds_toArray, List.set_cons_zero, List.set_cons_succ]
              refine wpAnyH_take (i := 38) (oi := { dst := some 119, op := Op.move (Operand.tmp 118), type := 4, pos := "law.go:75", after := #[{ on := 37, ground := Ground.data }, { on := 36, ground := Ground.chain }], guard := none }) (v := ?_) rfl (by kernel_rfl) (by kernel_rfl) (by kernel_rfl) (fun _ _ _ h => h) (Or.inl ⟨by rfl, ?_⟩) (by assumption) ?_
              rotate_left
              · intro w hSw
                try dsimp only at hSw
                go_simp
                try with_reducible rfl
              try simp only [Act.put, List.setIfInBounds_toArray, List.set_cons_zero, List.set_cons_succ]
              refine wpAnyH_take (i := 39) (oi := { dst := some 120, op := Op.move (Operand.tmp 12), type := 22, pos := "law.go:75", after := #[{ on := 38, ground := Ground.guard }], guard := some (38, true) }) (v := ?_) rfl (by kernel_rfl) (by kernel_rfl) (by kernel_rfl) (fun _ _ _ h => h) (Or.inl ⟨by rfl, ?_⟩) (by assumption) ?_
              rotate_left
              · intro w hSw
                try dsimp only at hSw
                go_simp
                try with_reducible rfl
              try simp only [Act.put, List.setIfInBounds_toArray, List.set_cons_zero, List.set_cons_succ]
              refine wpAnyH_take (i := 40) (oi := { dst := some 121, op := Op.move (Operand.tmp 12), type := 22, pos := "law.go:75", after := #[{ on := 38, ground := Ground.guard }], guard := some (38, true) }) (v := ?_) rfl (by kernel_rfl) (by kernel_rfl) (by kernel_rfl) (fun _ _ _ h => h) (Or.inl ⟨by rfl, ?_⟩) (by assumption) ?_
              rotate_left
              · intro w hSw
                try dsimp only at hSw
                go_simp
                try with_reducible rfl
              try simp only [Act.put, List.setIfInBounds_toArray, List.set_cons_zero, List.set_cons_succ]
              refine wpAnyH_take (i := 41) (oi := { dst := some 122, op := Op.load 42 (Operand.tmp 8), type := 42, pos := "law.go:75", after := #[{ on := 38, ground := Ground.guard }], guard := some (38, true) }) (v := ?_) rfl (by kernel_rfl) (by kernel_rfl) (by kernel_rfl) (fun _ _ _ h => h) (Or.inl ⟨by rfl, ?_⟩) (by assumption) ?_
              rotate_left
              · intro w hSw
                try dsimp only at hSw
                go_simp
                try with_reducible rfl
              try simp only [Act.put, List.setIfInBounds_toArray, List.set_cons_zero, List.set_cons_succ]
              refine wpAnyH_take (i := 44) (oi := { dst := some 125, op := Op.move (Operand.tmp 12), type := 22, pos := "law.go:75", after := #[{ on := 38, ground := Ground.guard }], guard := some (38, true) }) (v := ?_) rfl (by kernel_rfl) (by kernel_rfl) (by kernel_rfl) (fun _ _ _ h => h) (Or.inl ⟨by rfl, ?_⟩) (by assumption) ?_
              rotate_left
              · intro w hSw
                try dsimp only at hSw
                go_simp
                try with_reducible rfl
              try simp only [Act.put, List.setIfInBounds_toArray, List.set_cons_zero, List.set_cons_succ]
              refine wpAnyH_take (i := 45) (oi := { dst := some 126, op := Op.move (Operand.tmp 12), type := 22, pos := "law.go:75", after := #[{ on := 38, ground := Ground.guard }], guard := some (38, true) }) (v := ?_) rfl (by kernel_rfl) (by kernel_rfl) (by kernel_rfl) (fun _ _ _ h => h) (Or.inl ⟨by rfl, ?_⟩) (by assumption) ?_
              rotate_left
              · intro w hSw
                try dsimp only at hSw
                go_simp
                try with_reducible rfl
              try simp only [Act.put, List.setIfInBounds_toArray, List.set_cons_zero, List.set_cons_succ]
              refine wpAnyH_take (i := 46) (oi := { dst := some 127, op := Op.load 42 (Operand.tmp 8), type := 42, pos := "law.go:75", after := #[{ on := 38, ground := Ground.guard }], guard := some (38, true) }) (v := ?_) rfl (by kernel_rfl) (by kernel_rfl) (by kernel_rfl) (fun _ _ _ h => h) (Or.inl ⟨by rfl, ?_⟩) (by assumption) ?_
              rotate_left
              · intro w hSw
                try dsimp only at hSw
                go_simp
                try with_reducible rfl
              try simp only [Act.put, List.setIfInBounds_toArray, List.set_cons_zero, List.set_cons_succ]
              refine wpAnyH_ready (rs := [42]) (by kernel_rfl) (by simp) ?_
              refine AllReadyH.cons (o := { dst := some 123, op := Op.call { callee := Callee.value (Operand.func 36), args := #[Operand.tmp 121, Operand.tmp 122], argTypes := #[22, 42] }, type := 22, pos := "law.go:75", after := #[{ on := 40, ground := Ground.data }, { on := 41, ground := Ground.data }, { on := 38, ground := Ground.chain }, { on := 38, ground := Ground.guard }], guard := some (38, true) }) rfl (fun K hK => ?_) ?_
              rotate_left
              · exact AllReadyH.nil
              go_simp
              go_at_call 36
              refine (refbelow6_any ad cd ld t n _ HFD.out.1 (HDD.out.later (by repeat (first | with_reducible exact Below.refl _ _ | with_reducible refine blAlloc ?_ _ | with_reducible refine Below.drew ?_)))).mono ?_
              rintro e w36 ⟨ab, cb, lb, rfl, h1, h2, _, _, h5⟩
              have HX : Hid (Below w35.heap.size w35 w36) := blThen (by repeat (first | with_reducible exact Below.refl _ _ | with_reducible refine blAlloc ?_ _ | with_reducible refine Below.drew ?_)) h5
              have HC_w36 : Hid (Below w21.heap.size w21 w36) := blThen HC_w35.out HX.out
              have HL := Lib.hid (HL.out.later HX.out)
              have HX0 := Lib.hid (SL.later HX0.out HX.out)
              have HP := Lib.hid (HP.out.later HX.out)
              have HDD := Lib.hid (HDD.out.later HX.out)
              have HDb := Lib.hid h2
              have HTb := Lib.hid h1
              clear h5 HX h1 h2
              refine hK.out _ _ (K3.out _ HC_w36.out) (fun hHeld => ?_)
              clear hK K
              try simp only [Act.put, List.setIfInBounds_toArray, List.set_cons_zero, List.set_cons_succ]
              refine wpAnyH_ready (rs := [43]) (by kernel_rfl) (by simp) ?_
              refine AllReadyH.cons (o := { dst := some 124, op := Op.call { callee := Callee.value (Operand.func 39), args := #[Operand.tmp 120, Operand.tmp 123], argTypes := #[22, 22] }, type := 4, pos := "law.go:75", after := #[{ on := 39, ground := Ground.data }, { on := 42, ground := Ground.data }, { on := 42, ground := Ground.chain }, { on := 38, ground := Ground.guard }], guard := some (38, true) }) rfl (fun K hK => ?_) ?_
              rotate_left
              · exact AllReadyH.nil
              go_simp
              go_at_call 39
              refine (same_any _ _ _ _ ld lb _ HFD.out.1 (HDD.out.later (by repeat (first | with_reducible exact Below.refl _ _ | with_reducible refine blAlloc ?_ _ | with_reducible refine Below.drew ?_))) (HDb.out.later (by repeat (first | with_reducible exact Below.refl _ _ | with_reducible refine blAlloc ?_ _ | with_reducible refine Below.drew ?_)))).mono ?_
              rintro e w37 ⟨rfl, h5⟩
              rw [HTb.out]
              have HX : Hid (Below w36.heap.size w36 w37) := blThen (by repeat (first | with_reducible exact Below.refl _ _ | with_reducible refine blAlloc ?_ _ | with_reducible refine Below.drew ?_)) h5
              have HC_w37 : Hid (Below w21.heap.size w21 w37) := blThen HC_w36.out HX.out
              have HL := Lib.hid (HL.out.later HX.out)
              have HX0 := Lib.hid (SL.later HX0.out HX.out)
              have HP := Lib.hid (HP.out.later HX.out)
              have HDD := Lib.hid (HDD.out.later HX.out)
              have HDb := Lib.hid (HDb.out.later HX.out)
              clear h5 HX HDb
              refine hK.out _ _ (K3.out _ HC_w37.out) (fun hHeld => ?_)
              clear hK K
              try simp only [Act.put, List.setIfInBounds_toArray, List.set_cons_zero, List.set_cons_succ]
              refine wpAnyH_ready (rs := [47]) (by kernel_rfl) (by simp) ?_
              refine AllReadyH.cons (o := { dst := some 128, op := Op.call { callee := Callee.value (Operand.func 36), args := #[Operand.tmp 126, Operand.tmp 127], argTypes := #[22, 42] }, type := 22, pos := "law.go:75", after := #[{ on := 45, ground := Ground.data }, { on := 46, ground := Ground.data }, { on := 43, ground := Ground.chain }, { on := 38, ground := Ground.guard }], guard := some (38, true) }) rfl (fun K hK => ?_) ?_
              rotate_left
              · exact AllReadyH.nil
              go_simp
              go_at_call 36
              refine (refbelow6_any ad cd ld t n _ HFD.out.1 (HDD.out.later (by repeat (first | with_reducible exact Below.refl _ _ | with_reducible refine blAlloc ?_ _ | with_reducible refine Below.drew ?_)))).mono ?_
              rintro e w38 ⟨ad2, cd2, ld2, rfl, h1, h2, _, _, h5⟩
              have HX : Hid (Below w37.heap.size w37 w38) := blThen (by repeat (first | with_reducible exact Below.refl _ _ | with_reducible refine blAlloc ?_ _ | with_reducible refine Below.drew ?_)) h5
              have HC_w38 : Hid (Below w21.heap.size w21 w38) := blThen HC_w37.out HX.out
              have HL := Lib.hid (HL.out.later HX.out)
              have HX0 := Lib.hid (SL.later HX0.out HX.out)
              have HP := Lib.hid (HP.out.later HX.out)
              have HDD := Lib.hid (HDD.out.later HX.out)
              have HDd2 := Lib.hid h2
              have HTd2 := Lib.hid h1
              clear h5 HX h1 h2
              refine hK.out _ _ (K3.out _ HC_w38.out) (fun hHeld => ?_)
              clear hK K
              try simp only [Act.put, List.setIfInBounds_toArray, List.set_cons_zero, List.set_cons_succ]
              refine wpAnyH_ready (rs := [48]) (by kernel_rfl) (by simp) ?_
              refine AllReadyH.cons (o := { dst := some 129, op := Op.call { callee := Callee.value (Operand.func 20), args := #[Operand.tmp 125, Operand.tmp 128], argTypes := #[22, 22] }, type := 4, pos := "law.go:75", after := #[{ on := 44, ground := Ground.data }, { on := 47, ground := Ground.data }, { on := 47, ground := Ground.chain }, { on := 38, ground := Ground.guard }], guard := some (38, true) }) rfl (fun K hK => ?_) ?_
              rotate_left
              · exact AllReadyH.nil
              go_simp
              go_at_call 20
              refine (refsame6_any _ _ _ _ ld ld2 _ HFD.out.1 (HDD.out.later (by repeat (first | with_reducible exact Below.refl _ _ | with_reducible refine blAlloc ?_ _ | with_reducible refine Below.drew ?_))) (HDd2.out.later (by repeat (first | with_reducible exact Below.refl _ _ | with_reducible refine blAlloc ?_ _ | with_reducible refine Below.drew ?_)))).mono ?_
              rintro e w39 ⟨rfl, h5⟩
              rw [HTd2.out]
              have HX : Hid (Below w38.heap.size w38 w39) := blThen (by repeat (first | with_reducible exact Below.refl _ _ | with_reducible refine blAlloc ?_ _ | with_reducible refine Below.drew ?_)) h5
              have HC_w39 : Hid (Below w21.heap.size w21 w39) := blThen HC_w38.out HX.out
              have HL := Lib.hid (HL.out.later HX.out)
              have HX0 := Lib.hid (SL.later HX0.out HX.out)
              have HP := Lib.hid (HP.out.later HX.out)
              have HDD := Lib.hid (HDD.out.later HX.out)
              have HDd2 := Lib.hid (HDd2.out.later HX.out)
              clear h5 HX HDd2
              refine hK.out _ _ (K3.out _ HC_w39.out) (fun hHeld => ?_)
              clear hK K
              try simp only [Act.put, List.setIfInBounds_toArray, List.set_cons_zero, List.set_cons_succ]
              refine wpAnyH_take (i := 49) (oi := { dst := some 130, op := Op.binOp BinOp.eql 4 (Operand.tmp 124) (Operand.tmp 129) 4, type := 4, pos := "law.go:75", after := #[{ on := 43, ground := Ground.data }, { on := 48, ground := Ground.data }, { on := 38, ground := Ground.guard }], guard := some (38, true) }) (v := ?_) rfl (by kernel_rfl) (by kernel_rfl) (by kernel_rfl) (fun _ _ _ h => h) (Or.inl ⟨by rfl, ?_⟩) (by assumption) ?_
              rotate_left
              · intro w hSw
                try dsimp only at hSw
                go_simp
                try with_reducible rfl
              try simp only [Act.put, List.setIfInBounds_toArray, List.set_cons_zero, List.set_cons_succ]
              refine wpAnyH_take (i := 50) (oi := { dst := some 131, op := Op.pick (Operand.tmp 119) (Operand.tmp 130) (Operand.const (Value.bool false)), type := 4, pos := "law.go:75", after := #[{ on := 38, ground := Ground.data }, { on := 49, ground := Ground.data }], guard := none }) (v := ?_) rfl (by kernel_rfl) (by kernel_rfl) (by kernel_rfl) (fun _ _ _ h => h) (Or.inl ⟨by rfl, ?_⟩) (by assumption) ?_
              rotate_left
              · intro w hSw
                try dsimp only at hSw
                go_simp
                try with_reducible rfl
              try simp only [Act.put, List.setIfInBounds_toArray, List.set_cons_zero, List.set_cons_succ]
              refine wpAnyH_take (i := 51) (oi := { dst := some 132, op := Op.move (Operand.tmp 131), type := 4, pos := "law.go:75", after := #[{ on := 50, ground := Ground.data }, { on := 48, ground := Ground.chain }], guard := none }) (v := ?_) rfl (by kernel_rfl) (by kernel_rfl) (by kernel_rfl) (fun _ _ _ h => h) (Or.inl ⟨by rfl, ?_⟩) (by assumption) ?_
              rotate_left
              · intro w hSw
                try dsimp only at hSw
                go_simp
                try with_reducible rfl
              try simp only [Act.put, List.setIfInBounds_toArray, List.set_cons_zero, List.set_cons_succ]
              refine wpAnyH_ready (rs := [52]) (by kernel_rfl) (by simp) ?_
              refine AllReadyH.cons (o := { dst := some 133, op := Op.call { callee := Callee.value (Operand.func 14), args := #[], argTypes := #[] }, type := 4, pos := "law.go:75", after := #[{ on := 51, ground := Ground.chain }, { on := 51, ground := Ground.guard }], guard := some (51, true) }) rfl (fun K hK => ?_) ?_
              rotate_left
              · exact AllReadyH.nil
              go_simp
              go_at_call 14
              refine (dlive_any _).mono ?_
              rintro e w40 ⟨rfl, h5⟩
              have HX : Hid (Below w39.heap.size w39 w40) := blThen (by repeat (first | with_reducible exact Below.refl _ _ | with_reducible refine blAlloc ?_ _ | with_reducible refine Below.drew ?_)) h5
              have HC_w40 : Hid (Below w21.heap.size w21 w40) := blThen HC_w39.out HX.out
              have HL := Lib.hid (HL.out.later HX.out)
              have HX0 := Lib.hid (SL.later HX0.out HX.out)
              have HP := Lib.hid (HP.out.later HX.out)
              have HDD := Lib.hid (HDD.out.later HX.out)
              clear h5 HX
              refine hK.out _ _ (K3.out _ HC_w40.out) (fun hHeld => ?_)
              clear hK K
              try simp only [Act.put, List.setIfInBounds_toArray, List.set_cons_zero, List.set_cons_succ]
              refine wpAnyH_take (i := 53) (oi := { dst := some 134, op := Op.pick (Operand.tmp 132) (Operand.tmp 133) (Operand.const (Value.bool false)), type := 4, pos := "law.go:75", after := #[{ on := 51, ground := Ground.data }, { on := 52, ground := Ground.data }], guard := none }) (v := ?_) rfl (by kernel_rfl) (by kernel_rfl) (by kernel_rfl) (fun _ _ _ h => h) (Or.inl ⟨by rfl, ?_⟩) (by assumption) ?_
              rotate_left
              · intro w hSw
                try dsimp only at hSw
                go_simp
                try with_reducible rfl
              try simp only [Act.put, List.setIfInBounds_toArray, List.set_cons_zero, List.set_cons_succ]
              refine wpAnyH_take (i := 54) (oi := { dst := some 10, op := Op.assign (Operand.tmp 134), type := 4, pos := "law.go:75", after := #[{ on := 53, ground := Ground.data }, { on := 52, ground := Ground.chain }, { on := 0, ground := Ground.phase }, { on := 1, ground := Ground.phase }, { on := 2, ground := Ground.phase }, { on := 3, ground := Ground.phase }, { on := 4, ground := Ground.phase }, { on := 5, ground := Ground.phase }, { on := 6, ground := Ground.phase }, { on := 7, ground := Ground.phase }, { on := 8, ground := Ground.phase }, { on := 9, ground := Ground.phase }, { on := 10, ground := Ground.phase }, { on := 11, ground := Ground.phase }, { on := 12, ground := Ground.phase }, { on := 13, ground := Ground.phase }, { on := 14, ground := Ground.phase }, { on := 15, ground := Ground.phase }, { on := 16, ground := Ground.phase }, { on := 17, ground := Ground.phase }, { on := 18, ground := Ground.phase }, { on := 19, ground := Ground.phase }, { on := 20, ground := Ground.phase }, { on := 21, ground := Ground.phase }, { on := 22, ground := Ground.phase }, { on := 23, ground := Ground.phase }, { on := 24, ground := Ground.phase }, { on := 25, ground := Ground.phase }, { on := 26, ground := Ground.phase }, { on := 27, ground := Ground.phase }, { on := 28, ground := Ground.phase }, { on := 29, ground := Ground.phase }, { on := 30, ground := Ground.phase }, { on := 31, ground := Ground.phase }, { on := 32, ground := Ground.phase }, { on := 33, ground := Ground.phase }, { on := 34, ground := Ground.phase }, { on := 35, ground := Ground.phase }, { on := 36, ground := Ground.phase }, { on := 37, ground := Ground.phase }, { on := 38, ground := Ground.phase }, { on := 39, ground := Ground.phase }, { on := 40, ground := Ground.phase }, { on := 41, ground := Ground.phase }, { on := 42, ground := Ground.phase }, { on := 43, ground := Ground.phase }, { on := 44, ground := Ground.phase }, { on := 45, ground := Ground.phase }, { on := 46, ground := Ground.phase }, { on := 47, ground := Ground.phase }, { on := 48, ground := Ground.phase }, { on := 49, ground := Ground.phase }, { on := 50, ground := Ground.phase }, { on := 51, ground := Ground.phase }, { on := 52, ground := Ground.phase }, { on := 53, ground := Ground.phase }], guard := none }) (v := ?_) rfl (by kernel_rfl) (by kernel_rfl) (by kernel_rfl) (fun _ _ _ h => h) (Or.inl ⟨by rfl, ?_⟩) (by assumption) ?_
              rotate_left
              · intro w hSw
                try dsimp only at hSw
                go_simp
                try with_reducible rfl
              try simp only [Act.put, List.setIfInBounds_toArray, List.set_cons_zero, List.set_cons_succ]
              refine wpAnyH_done (by kernel_rfl) ?_ _
              go_wp2
              go_ret
              exact ⟨rfl, blThen HB_w21.out HC_w40.out⟩
            · have hck : ¬ checkD (toD ld) = 0 := hc
              clear hc
              go_wp2_with fail
              refine (dlive_any _).mono ?_
              rintro e w13 ⟨rfl, h5⟩
              have HX : Hid (Below w12.heap.size w12 w13) := blThen (by repeat (first | with_reducible exact Below.refl _ _ | with_reducible refine blAlloc ?_ _ | with_reducible refine Below.drew ?_)) h5
              have HB_w13 := Lib.hid (blThen HB_w12.out HX.out)
              clear h5 HX
              go_wp2
              go_ret
              exact ⟨rfl, HB_w13.out⟩

set_option maxRecDepth 100000 in
theorem depsTell_lifted (os : Os) (started : os.Started) (H : Type) (enc : TypeId × Value → H) :
    ReturnsInHanded {} Tryz.checked os 4 .any (Rows.depsTellSpec.pre6 enc Tryz.prog Tryz.f4 Rows.depsTellRow.domain false) (Rows.depsTellSpec.post enc Tryz.prog Tryz.f4 false true false false) := by
  refine law_lift_sized (C := Tryz.checked) own6 started (by kernel_rfl) Tryz.func4 laid6 rfl (by kernel_rfl) (fun _ _ _ _ => trodAll_mk1 (shut_bool Tryz.underlying4 true)) (fun ds h => match ds, h with | [_, _, _, _, _], _ => ⟨rfl, rfl, rfl⟩)
    (ChangeSpec.witness6 (enc := enc) (C := Tryz.checked) false ⟨#[], #[.slice none 0 0, .int .i64 0, .slice none 0 0, .agg #[.int .i64 0, .int .i64 0], .slice none 0 0], []⟩ 8 (by kernel_rfl) (by kernel_rfl) (by kernel_rfl) (by kernel_rfl)) ?_
  intro W base args ds before hval0 hA0 hlt hsz
  have hval : ∀ (j : Nat) t v, Tryz.f4.params[j]? = some t → args[j]? = some v → Value.okWide Tryz.prog W .any base t v := hval0
  have hA : DataW.TrodAll enc Tryz.prog W 0 (fun _ => true) true Tryz.f4.params.toList args.toList ds before := hA0
  rw [Tryz.params4] at hA hval
  obtain ⟨v0, v1, v2, v3, v4, d0, d1, d2, d3, d4, p0, p1, p2, p3, p4, rfl, rfl, rfl, h0, h1, h2, h3, h4⟩ := trodAll_five hA
  obtain ⟨A, rs, C, rfl, hl, hm, _, _, hro, hre⟩ := open_dlists (hval 0 40 v0 rfl rfl) h0
  obtain ⟨sh, rfl, rfl, rfl, wsh⟩ := open_int Tryz.underlying3 (hval 1 3 v1 rfl rfl) h1
  obtain ⟨ai, X, ci, rfl, hx, hxm, hxn, _, hwx⟩ := open_stamps (hval 2 24 v2 rfl rfl) h2
  obtain ⟨t, n, rfl, _, _⟩ := open_stamp (hval 3 42 v3 rfl rfl) h3
  obtain ⟨ap, P, cp, rfl, hp, hpm, hwp⟩ := open_nums (hval 4 43 v4 rfl rfl) h4
  exact tell_walk A C rs sh ai ci X t n ap cp P W hm (fun r hr => ⟨(hro r hr).1, (hro r hr).2.2.2⟩) (hre _ _ 0 hsz (by kernel_rfl) rfl) hl hxm hx hxn hwx hpm hp hwp

theorem depsTell_f_inPlace : (Rows.depsTellRow.inPlace == Tryz.prog.inPlace 4) = true := by kernel_rfl
theorem depsTell_f_unfollowed : (Rows.depsTellRow.unfollowed == Tryz.prog.unfollowed 4) = true := by kernel_rfl
theorem depsTell_f_recurses : (Rows.depsTellRow.recurses == Tryz.prog.recurses 4) = true := by kernel_rfl
theorem depsTell_f_named : (Rows.depsTellRow.named == Tryz.prog.varsNamed 4) = true := by kernel_rfl
theorem depsTell_laid : laidOutB Tryz.prog = true := by kernel_rfl
theorem depsTell_rowed : mapsRowed Tryz.prog = true := by kernel_rfl
theorem depsTell_closed : joinedFacts Tryz.prog 4 Tryz.f4 Rows.depsTellSpec Rows.depsTellRow = true := by
  unfold joinedFacts
  rw [depsTell_laid, depsTell_rowed, depsTell_f_inPlace, depsTell_f_unfollowed, depsTell_f_recurses, depsTell_f_named]
  kernel_rfl

theorem depsTell_holds : Rows.DepsTellSaid :=
  OpenClaim.holds_of_wide 4 Tryz.f4 rfl rfl rfl rfl rfl rfl rfl ⟨rfl, rfl, rfl, rfl, rfl⟩ rfl rfl rfl rfl rfl (by kernel_rfl) Tryz.func4 depsTell_closed
    (of_decide_eq_true (by kernel_rfl)) (by unfold Func.isWrapper; rw [if_neg (of_decide_eq_false (by kernel_rfl))]; exact ⟨rfl, rfl⟩)
    (fun os started H enc _ => depsTell_lifted os started H enc)

#print axioms depsTell_holds

end SD
end Go.Proofs.YtjlkgbejldcklaaGreat
