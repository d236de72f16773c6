/- TxnReads. Conditions: none. -/
import Derived.WalkSpells
import Derived.Test.YtfdkkgjkhamoeaaGreatMg42
import Derived.Test.YtfdkkgjkhamoeaaGreatMg43
import Derived.Test.YtfdkkgjkhamoeaaGreatMg37
import Derived.Test.YtfdkkgjkhamoeaaGreatMg38
/- What the laws of stage 8 share: data that stay small, Eval and Apply as the laws call them, facts of checked ops. Conditions: as each theorem states. -/
set_option linter.unusedVariables false
namespace Go.Proofs.YtfdkkgjkhamoeaaGreat
open S3 SN
namespace SP
open Go.ChangeShapes Go.WideShapes Go.ChangeAt Go.RowKit Go.Joins Go.Deep

theorem smallB_len2 {l : List Opr} {d : Al Nat} (h : smallB l d = true) : l.length ≤ 60 ∧ d.length ≤ 60 := by
  have := of_decide_eq_true h
  exact ⟨this.1, this.2.1⟩
/-- Data that rise, of at most n pairs, with keys of at most a thousand bytes. -/
def Dat (n : Nat) (d : Al Nat) : Prop := RisA d ∧ (∀ p ∈ d, p.1.size ≤ 1000) ∧ d.length ≤ n
theorem dat_of {l : Al Nat} {n : Nat} (h : dataB none l = true) (hl : l.length ≤ n) : Dat n l := by
  obtain ⟨h1, _, h3⟩ := dataB_ris l none h
  exact ⟨h1, fun p hp => Nat.le_trans (key_len (h3 p hp).1) (by decide), hl⟩
theorem do_keys {d : Al Nat} {w : Wrt} {P : ByteArray → Prop} (hd : ∀ p ∈ d, P p.1) (hw : P w.1) : ∀ p ∈ doW d w, P p.1 := by
  intro p hp
  unfold doW at hp
  split at hp
  · exact hd p (List.mem_filter.1 hp).1
  · rcases putA_mem _ _ _ p hp with rfl | hp
    · exact hw
    · exact hd p hp
theorem apply_keys {P : ByteArray → Prop} : ∀ (l : List Wrt) {d : Al Nat}, (∀ p ∈ d, P p.1) → (∀ w ∈ l, P w.1) → ∀ p ∈ applyP d l, P p.1
  | [], _, hd, _ => hd
  | w :: l, d, hd, hl => apply_keys l (do_keys hd (hl w (by simp))) fun x hx => hl x (by simp [hx])
theorem Dat.app {n m : Nat} {d : Al Nat} {l : List Wrt} (h : Dat n d) (hk : ∀ x ∈ l, x.1.size ≤ 1000) (hl : l.length ≤ m) : Dat (n + m) (applyP d l) := by
  refine ⟨ris_apply l h.1, apply_keys (P := fun k => k.size ≤ 1000) l h.2.1 hk, ?_⟩
  have := apply_len l d
  have := h.2.2
  omega
def Okl (l : List Opr) : Prop := l.length ≤ 8 ∧ ∀ o ∈ l, okB o = true
theorem okl_of {l : List Opr} (h : checkP l = 0) : Okl l := ⟨(check_kd h).1, (check_kd h).2.2⟩
theorem Okl.kd {l : List Opr} (h : Okl l) : ∀ o ∈ l, Kd o := fun o ho => (ok_kd (h.2 o ho)).1
theorem Okl.keys {l : List Opr} (h : Okl l) (d : Al Nat) : ∀ x ∈ evalL d l, x.1.size ≤ 1000 := fun x hx => Nat.le_trans (evalL_small l d h.2 x hx) (by decide)
theorem Okl.last {l : List Opr} (h : Okl l) (d : Al Nat) : (∀ x ∈ lastL (evalL d l), x.1.size ≤ 1000) ∧ (lastL (evalL d l)).length ≤ 16 := by
  refine ⟨fun x hx => h.keys d (x.1, x.2) (last_keys hx), ?_⟩
  have := evals_len l d
  have := h.1
  omega
theorem Dat.eval {n : Nat} {d : Al Nat} {l : List Opr} (h : Dat n d) (ho : Okl l) : Dat (n + 16) (evalD d l) := by
  rw [evalD_eq]
  refine h.app (ho.keys d) ?_
  have := evalL_len l d
  have := ho.1
  omega
theorem Dat.last {n : Nat} {d e : Al Nat} {l : List Opr} (h : Dat n d) (ho : Okl l) : Dat (n + 16) (applyP d (lastL (evalL e l))) := h.app (ho.last e).1 (ho.last e).2
theorem inA_len {α : Type} (P : ByteArray → Bool) (d : Al α) : (inA P d).length ≤ d.length := List.length_filter_le _ _
theorem opA_prs (d : Al Nat) (o : Opr) : (opA d o).2.2.length ≤ d.length := by
  unfold opA
  repeat (first | split | exact Nat.zero_le _ | exact inA_len _ _)
theorem evalA_prs : ∀ (l : List Opr) (d : Al Nat), ∀ a ∈ evalA d l, a.2.2.length ≤ d.length + 2 * l.length
  | [], _, a, ha => by simp [evalA] at ha
  | o :: l, d, a, ha => by
    rw [List.length_cons]
    rcases List.mem_cons.1 ha with rfl | ha
    · have := opA_prs d o
      omega
    · have h1 := evalA_prs l _ a ha
      have h2 := apply_len (opW d o) d
      have h3 := opW_len d o
      omega
theorem eval_picked {l : List Opr} {n : Nat} {d : Al Nat} (hd : Dat n d) (ho : Okl l) : Dat n (inA (memL (readsP l)) d) :=
  ⟨risA_in hd.1 _, fun p hp => hd.2.1 p (List.mem_filter.1 hp).1, Nat.le_trans (inA_len _ _) hd.2.2⟩
/-- What Eval comes to, as the laws look at it. -/
def RetE (w : World) (d : Al Nat) (l : List Opr) (e : Ending) (w' : World) : Prop :=
  ∃ v u rs, e = .returned (.tuple #[v, u]) ∧ SlG eW w' v (lastL (evalL d l)) ∧ AnsL w' u rs ∧ FewA rs ∧ rs.map AnR.ans = evalA d l ∧ Below w.heap.size w w'
theorem ev_any (va vs : Value) (l : List Opr) (d : Al Nat) {n : Nat} (w : World) (h : Dat n d) (hn : n ≤ 10000) (ho : Okl l) (hnm : ∀ o ∈ l, o.2.2.2 < 18446744073709551616) (ha : SlG eO w va l) (hs : SlG eP w vs d) : Calls Tryz.prog 35 #[va, vs] w (RetE w d l) := by
  have h3 := h.2.2
  have h4 := ho.1
  refine (eval_any va vs l d w (by omega) (by omega) h.1 (fun p hp => by have := h.2.1 p hp; unfold maxLen; omega) ho.2 hnm ha hs).mono ?_
  rintro e w' ⟨v, u, rs, rfl, h1, h2, h5⟩
  refine ⟨v, u, rs, rfl, h1.sl, anss_list h2, anss_few h2 ?_ ?_, h2.same, h5⟩
  · rw [evalA_length]; omega
  · intro a ha
    have := evalA_prs l d a ha
    omega
def RetA (w : World) (r : Al Nat) (e : Ending) (w' : World) : Prop := ∃ v, e = .returned v ∧ SlG eP w' v r ∧ Below w.heap.size w w'
theorem ap_any (va vs : Value) (d : Al Nat) (l : List Wrt) {n : Nat} (w : World) (h : Dat n d) (hn : n ≤ 10000) (hl : l.length ≤ 1000) (hk : ∀ x ∈ l, x.1.size ≤ 1000) (ha : SlG eP w va d) (hs : SlG eW w vs l) : Calls Tryz.prog 41 #[va, vs] w (RetA w (applyP d l)) := by
  have h3 := h.2.2
  refine (apply_any va vs d l w (by omega) (by omega) h.1 (fun p hp => by have := h.2.1 p hp; unfold maxLen; omega) (fun p hp => by have := hk p hp; unfold maxLen; omega) ha hs).mono ?_
  rintro e w' ⟨v, rfl, h1, h5⟩
  exact ⟨v, rfl, h1.sl, h5⟩
theorem pk_any (va vs : Value) (l : Al Nat) (S : List Sp) {n : Nat} (w : World) (h : Dat n l) (hn : n ≤ 10000) (hS : S.length ≤ 1000000) (hset : IsSet S) (ha : SlG eP w va l) (hs : Sl w vs S) : Calls Tryz.prog 43 #[va, vs] w (RetA w (inA (memL S) l)) := by
  have h3 := h.2.2
  refine (pick_any va vs l S w (by omega) hS hset ha hs).mono ?_
  rintro e w' ⟨v, rfl, h1, h5⟩
  exact ⟨v, rfl, h1.sl, h5⟩
theorem either_evals {a b : List Opr} {d : Al Nat} {n : Nat} (hd : Dat n d) (ha : Okl a) (hb : Okl b) (h : confP a b = false) :
    evalL (evalD d a) b = evalL d b ∧ evalA (evalD d a) b = evalA d b ∧ evalL (evalD d b) a = evalL d a ∧ evalA (evalD d b) a = evalA d a ∧ applyP (evalD d a) (lastL (evalL d b)) = applyP (evalD d b) (lastL (evalL d a)) := by
  have h1 := behind hd.1 hb.kd h
  have h2 := behind hd.1 ha.kd (by rw [conf_comm]; exact h)
  rw [← evalD_eq] at h1 h2
  refine ⟨h1.1, h1.2, h2.1, h2.2, ?_⟩
  rw [apply_last (ris_evalD hd.1 _), apply_last (ris_evalD hd.1 _), evalD_eq, evalD_eq]
  exact either_data hd.1 h
theorem parts_evals {d : Al Nat} {n : Nat} (hd : Dat n d) (l : List Opr) (k : Nat) : evalA d l = evalA d (l.take k) ++ evalA (evalD d (l.take k)) (l.drop k) ∧ applyP d (lastL (evalL d l)) = applyP (evalD d (l.take k)) (lastL (evalL (evalD d (l.take k)) (l.drop k))) := by
  have h1 := evalA_append (l.take k) (l.drop k) d
  have h2 := parts_data hd.1 (l.take k) (l.drop k)
  rw [List.take_append_drop] at h1 h2
  exact ⟨h1, h2⟩
theorem Okl.sub {l m : List Opr} (h : Okl l) (hm : ∀ o ∈ m, o ∈ l) (hl : m.length ≤ l.length) : Okl m := ⟨Nat.le_trans hl h.1, fun o ho => h.2 o (hm o ho)⟩
theorem rs_len {rs : List AnR} {d : Al Nat} {l : List Opr} (h : rs.map AnR.ans = evalA d l) : rs.length = l.length := by
  have := congrArg List.length h
  rwa [List.length_map, evalA_length] at this
theorem few_app {r s : List AnR} (hr : FewA r) (hs : FewA s) (h : r.length + s.length ≤ 1000) : FewA (r ++ s) :=
  ⟨by rw [List.length_append]; exact h, fun x hx => (List.mem_append.1 hx).elim (hr.2 x) (hs.2 x)⟩
theorem ansL_app {w : World} {v u x : Value} {r s : List AnR} (h : SlG eA w v (r ++ s)) (hr : AnsL w u r) (hs : AnsL w x s) : AnsL w v (r ++ s) :=
  ⟨h, fun y hy => (List.mem_append.1 hy).elim (hr.2 y) (hs.2 y)⟩
theorem slG_some {α : Type} {E : Enc α} {w : World} {a : Option Addr} {n c : Nat} {l : List α} (h : SlG E w (.slice a n c) l) (hl : l ≠ []) : ∃ ad, a = some ad := by
  obtain ⟨a', c', hv, _, h2⟩ := h
  obtain ⟨g, o, h3, _⟩ := h2 hl
  cases hv
  exact ⟨_, h3⟩
section
variable {H : Type}
theorem inW_le8 {t : TypeId} {d : DataW H} {k : ByteArray} (h : InW t d k) {ts : List TypeId} {ds : List (DataW H)} (hsz : (DataW.weightsEach Tryz.prog ts ds).all (· ≤ reachBytes) = true) {j : Nat} (ht : ts[j]? = some t) (hd : ds[j]? = some d) : k.size ≤ 140737488355328 := by
  obtain ⟨n, hn, hk⟩ := h
  exact Nat.le_trans hk (reach_of hsz ht hd hn)
end

end SP
end Go.Proofs.YtfdkkgjkhamoeaaGreat

/- TxnReads: who writes nothing changes nothing; who reads nothing is answered the same upon all data. Conditions: the law's own. -/
set_option linter.unusedVariables false
set_option linter.unusedSimpArgs false
namespace Go.Proofs.YtfdkkgjkhamoeaaGreat
open S3 SN
namespace SP
open Go.ChangeShapes Go.WideShapes Go.ChangeAt Go.RowKit Go.Joins Go.Deep

set_option maxRecDepth 100000 in
set_option maxHeartbeats 16000000 in
theorem txnReads_walk (vl : Value) (l : List Opr) (vd : Value) (d : Al Nat) (vm : Value) (m : Al Nat) (w : World) (hml : l.length ≤ 9223372036854775807) (hrl : ∀ o ∈ l, o.2.1.size ≤ 140737488355328 ∧ o.2.2.1.size ≤ 140737488355328) (hnl : ∀ o ∈ l, o.2.2.2 < 18446744073709551616) (hl : SlG eO w vl l) (hmd : d.length ≤ 9223372036854775807) (hrd : ∀ p ∈ d, p.1.size ≤ 140737488355328) (hnd : ∀ p ∈ d, p.2 < 18446744073709551616) (hd : SlG eP w vd d) (hmm : m.length ≤ 9223372036854775807) (hrm : ∀ p ∈ m, p.1.size ≤ 140737488355328) (hnm : ∀ p ∈ m, p.2 < 18446744073709551616) (hm : SlG eP w vm m) :
    Calls Tryz.prog 11 #[vl, vd, vm] w fun e w' => e = .returned (.bool true) ∧ Below w.heap.size w w' := by
  have Ml := Lib.hid hml
  have Rl := Lib.hid hrl
  have Nl := Lib.hid hnl
  have Al := Lib.hid hl
  have Md := Lib.hid hmd
  have Rd := Lib.hid hrd
  have Nd := Lib.hid hnd
  have Ad := Lib.hid hd
  have Mm := Lib.hid hmm
  have Rm := Lib.hid hrm
  have Nm := Lib.hid hnm
  have Am := Lib.hid hm
  clear hml hrl hnl hl hmd hrd hnd hd hmm hrm hnm hm
  go_enter Tryz.func11, Tryz.ntmps11
  cases hc1 : smallB l d
  · have HC1 := Lib.hid hc1
    clear hc1
    go_wp2_with fail
    have h9 := small8_any vl vd l d w Ml.out Md.out Rl.out Rd.out Al.out Ad.out
    rw [HC1.out] at h9
    refine (h9).mono ?_
    rintro e w1 ⟨rfl, h5⟩
    have HX : Hid (Below w.heap.size w w1) := blThen (by repeat (first | with_reducible exact Below.refl _ _ | with_reducible refine blAlloc ?_ _ | with_reducible refine Below.drew ?_)) h5
    have HB_w1 := Lib.hid (HX.out)
    have Al := Lib.hid (Al.out.later HX.out)
    have Ad := Lib.hid (Ad.out.later HX.out)
    have Am := Lib.hid (Am.out.later HX.out)
    clear h5 HX h9
    go_wp2_with fail
    refine (live8_any w1).mono ?_
    rintro e w2 ⟨rfl, h5⟩
    have HX : Hid (Below w1.heap.size w1 w2) := blThen (by repeat (first | with_reducible exact Below.refl _ _ | with_reducible refine blAlloc ?_ _ | with_reducible refine Below.drew ?_)) h5
    have HB_w2 := Lib.hid (blThen HB_w1.out HX.out)
    have Al := Lib.hid (Al.out.later HX.out)
    have Ad := Lib.hid (Ad.out.later HX.out)
    have Am := Lib.hid (Am.out.later HX.out)
    clear h5 HX
    go_wp2
    go_ret
    exact ⟨rfl, HB_w2.out⟩
  · have HC1 := Lib.hid hc1
    clear hc1
    have HB1 := Lib.hid (smallB_len2 HC1.out)
    go_wp2_with fail
    have h9 := small8_any vl vd l d w Ml.out Md.out Rl.out Rd.out Al.out Ad.out
    rw [HC1.out] at h9
    refine (h9).mono ?_
    rintro e w1 ⟨rfl, h5⟩
    have HX : Hid (Below w.heap.size w w1) := blThen (by repeat (first | with_reducible exact Below.refl _ _ | with_reducible refine blAlloc ?_ _ | with_reducible refine Below.drew ?_)) h5
    have HB_w1 := Lib.hid (HX.out)
    have Al := Lib.hid (Al.out.later HX.out)
    have Ad := Lib.hid (Ad.out.later HX.out)
    have Am := Lib.hid (Am.out.later HX.out)
    clear h5 HX h9
    cases hc2 : smallB [] m
    · have HC2 := Lib.hid hc2
      clear hc2
      go_wp2_with fail
      have h9 := small8_any (.slice none 0 0) vm [] m w1 (by decide) Mm.out (fun o ho => by cases ho) Rm.out (SlG.nil _) Am.out
      rw [HC2.out] at h9
      refine (h9).mono ?_
      rintro e w2 ⟨rfl, h5⟩
      have HX : Hid (Below w1.heap.size w1 w2) := blThen (by repeat (first | with_reducible exact Below.refl _ _ | with_reducible refine blAlloc ?_ _ | with_reducible refine Below.drew ?_)) h5
      have HB_w2 := Lib.hid (blThen HB_w1.out HX.out)
      have Al := Lib.hid (Al.out.later HX.out)
      have Ad := Lib.hid (Ad.out.later HX.out)
      have Am := Lib.hid (Am.out.later HX.out)
      clear h5 HX h9
      go_wp2_with fail
      refine (live8_any w2).mono ?_
      rintro e w3 ⟨rfl, h5⟩
      have HX : Hid (Below w2.heap.size w2 w3) := blThen (by repeat (first | with_reducible exact Below.refl _ _ | with_reducible refine blAlloc ?_ _ | with_reducible refine Below.drew ?_)) h5
      have HB_w3 := Lib.hid (blThen HB_w2.out HX.out)
      have Al := Lib.hid (Al.out.later HX.out)
      have Ad := Lib.hid (Ad.out.later HX.out)
      have Am := Lib.hid (Am.out.later HX.out)
      clear h5 HX
      go_wp2
      go_ret
      exact ⟨rfl, HB_w3.out⟩
    · have HC2 := Lib.hid hc2
      clear hc2
      have HB2 := Lib.hid (smallB_len2 HC2.out)
      go_wp2_with fail
      have h9 := small8_any (.slice none 0 0) vm [] m w1 (by decide) Mm.out (fun o ho => by cases ho) Rm.out (SlG.nil _) Am.out
      rw [HC2.out] at h9
      refine (h9).mono ?_
      rintro e w2 ⟨rfl, h5⟩
      have HX : Hid (Below w1.heap.size w1 w2) := blThen (by repeat (first | with_reducible exact Below.refl _ _ | with_reducible refine blAlloc ?_ _ | with_reducible refine Below.drew ?_)) h5
      have HB_w2 := Lib.hid (blThen HB_w1.out HX.out)
      have Al := Lib.hid (Al.out.later HX.out)
      have Ad := Lib.hid (Ad.out.later HX.out)
      have Am := Lib.hid (Am.out.later HX.out)
      clear h5 HX h9
      by_cases hc3 : checkP l = 0
      rotate_left
      · have hb3 : ((checkP l == 0) = false) := by simpa using hc3
        have hd3 : ((checkP l != 0) = true) := by simpa using hc3
        go_wp2_with fail
        have h9 := check8_any vl l w2 (by have := HB1.out; omega) Al.out
        refine (h9).mono ?_
        rintro e w3 ⟨rfl, h5⟩
        have HX : Hid (Below w2.heap.size w2 w3) := blThen (by repeat (first | with_reducible exact Below.refl _ _ | with_reducible refine blAlloc ?_ _ | with_reducible refine Below.drew ?_)) h5
        have HB_w3 := Lib.hid (blThen HB_w2.out HX.out)
        have Al := Lib.hid (Al.out.later HX.out)
        have Ad := Lib.hid (Ad.out.later HX.out)
        have Am := Lib.hid (Am.out.later HX.out)
        clear h5 HX h9
        go_wp2_with fail
        refine (num8_any _ w3).mono ?_
        rintro e wq ⟨rfl, rfl⟩
        go_wp2_with fail
        refine (live8_any w3).mono ?_
        rintro e w4 ⟨rfl, h5⟩
        have HX : Hid (Below w3.heap.size w3 w4) := blThen (by repeat (first | with_reducible exact Below.refl _ _ | with_reducible refine blAlloc ?_ _ | with_reducible refine Below.drew ?_)) h5
        have HB_w4 := Lib.hid (blThen HB_w3.out HX.out)
        have Al := Lib.hid (Al.out.later HX.out)
        have Ad := Lib.hid (Ad.out.later HX.out)
        have Am := Lib.hid (Am.out.later HX.out)
        clear h5 HX
        go_wp2
        go_ret
        exact ⟨rfl, HB_w4.out⟩
      · have HC3 := Lib.hid hc3
        clear hc3
        have HO3 := Lib.hid (okl_of HC3.out)
        go_wp2_with fail
        have h9 := check8_any vl l w2 (by have := HB1.out; omega) Al.out
        rw [HC3.out] at h9
        refine (h9).mono ?_
        rintro e w3 ⟨rfl, h5⟩
        have HX : Hid (Below w2.heap.size w2 w3) := blThen (by repeat (first | with_reducible exact Below.refl _ _ | with_reducible refine blAlloc ?_ _ | with_reducible refine Below.drew ?_)) h5
        have HB_w3 := Lib.hid (blThen HB_w2.out HX.out)
        have Al := Lib.hid (Al.out.later HX.out)
        have Ad := Lib.hid (Ad.out.later HX.out)
        have Am := Lib.hid (Am.out.later HX.out)
        clear h5 HX h9
        go_wp2_with fail
        refine (num8_any _ w3).mono ?_
        rintro e wq ⟨rfl, rfl⟩
        cases hc5 : dataB none d
        · have HC5 := Lib.hid hc5
          clear hc5
          go_wp2_with fail
          have h9 := rdata_any vd d w3 (show d.length ≤ 1000000 by have := HB1.out; omega) Nd.out Ad.out
          rw [HC5.out] at h9
          refine (h9).mono ?_
          rintro e w4 ⟨rfl, h5⟩
          have HX : Hid (Below w3.heap.size w3 w4) := blThen (by repeat (first | with_reducible exact Below.refl _ _ | with_reducible refine blAlloc ?_ _ | with_reducible refine Below.drew ?_)) h5
          have HB_w4 := Lib.hid (blThen HB_w3.out HX.out)
          have Al := Lib.hid (Al.out.later HX.out)
          have Ad := Lib.hid (Ad.out.later HX.out)
          have Am := Lib.hid (Am.out.later HX.out)
          clear h5 HX h9
          go_wp2_with fail
          refine (live8_any w4).mono ?_
          rintro e w5 ⟨rfl, h5⟩
          have HX : Hid (Below w4.heap.size w4 w5) := blThen (by repeat (first | with_reducible exact Below.refl _ _ | with_reducible refine blAlloc ?_ _ | with_reducible refine Below.drew ?_)) h5
          have HB_w5 := Lib.hid (blThen HB_w4.out HX.out)
          have Al := Lib.hid (Al.out.later HX.out)
          have Ad := Lib.hid (Ad.out.later HX.out)
          have Am := Lib.hid (Am.out.later HX.out)
          clear h5 HX
          go_wp2
          go_ret
          exact ⟨rfl, HB_w5.out⟩
        · have HC5 := Lib.hid hc5
          clear hc5
          have HD5 : Hid (Dat 60 d) := Lib.hid (dat_of HC5.out (show d.length ≤ 60 by have := HB1.out; omega))
          go_wp2_with fail
          have h9 := rdata_any vd d w3 (show d.length ≤ 1000000 by have := HB1.out; omega) Nd.out Ad.out
          rw [HC5.out] at h9
          refine (h9).mono ?_
          rintro e w4 ⟨rfl, h5⟩
          have HX : Hid (Below w3.heap.size w3 w4) := blThen (by repeat (first | with_reducible exact Below.refl _ _ | with_reducible refine blAlloc ?_ _ | with_reducible refine Below.drew ?_)) h5
          have HB_w4 := Lib.hid (blThen HB_w3.out HX.out)
          have Al := Lib.hid (Al.out.later HX.out)
          have Ad := Lib.hid (Ad.out.later HX.out)
          have Am := Lib.hid (Am.out.later HX.out)
          clear h5 HX h9
          cases hc6 : dataB none m
          · have HC6 := Lib.hid hc6
            clear hc6
            go_wp2_with fail
            have h9 := rdata_any vm m w4 (show m.length ≤ 1000000 by have := HB2.out; omega) Nm.out Am.out
            rw [HC6.out] at h9
            refine (h9).mono ?_
            rintro e w5 ⟨rfl, h5⟩
            have HX : Hid (Below w4.heap.size w4 w5) := blThen (by repeat (first | with_reducible exact Below.refl _ _ | with_reducible refine blAlloc ?_ _ | with_reducible refine Below.drew ?_)) h5
            have HB_w5 := Lib.hid (blThen HB_w4.out HX.out)
            have Al := Lib.hid (Al.out.later HX.out)
            have Ad := Lib.hid (Ad.out.later HX.out)
            have Am := Lib.hid (Am.out.later HX.out)
            clear h5 HX h9
            go_wp2_with fail
            refine (live8_any w5).mono ?_
            rintro e w6 ⟨rfl, h5⟩
            have HX : Hid (Below w5.heap.size w5 w6) := blThen (by repeat (first | with_reducible exact Below.refl _ _ | with_reducible refine blAlloc ?_ _ | with_reducible refine Below.drew ?_)) h5
            have HB_w6 := Lib.hid (blThen HB_w5.out HX.out)
            have Al := Lib.hid (Al.out.later HX.out)
            have Ad := Lib.hid (Ad.out.later HX.out)
            have Am := Lib.hid (Am.out.later HX.out)
            clear h5 HX
            go_wp2
            go_ret
            exact ⟨rfl, HB_w6.out⟩
          · have HC6 := Lib.hid hc6
            clear hc6
            have HD6 : Hid (Dat 60 m) := Lib.hid (dat_of HC6.out (show m.length ≤ 60 by have := HB2.out; omega))
            go_wp2_with fail
            have h9 := rdata_any vm m w4 (show m.length ≤ 1000000 by have := HB2.out; omega) Nm.out Am.out
            rw [HC6.out] at h9
            refine (h9).mono ?_
            rintro e w5 ⟨rfl, h5⟩
            have HX : Hid (Below w4.heap.size w4 w5) := blThen (by repeat (first | with_reducible exact Below.refl _ _ | with_reducible refine blAlloc ?_ _ | with_reducible refine Below.drew ?_)) h5
            have HB_w5 := Lib.hid (blThen HB_w4.out HX.out)
            have Al := Lib.hid (Al.out.later HX.out)
            have Ad := Lib.hid (Ad.out.later HX.out)
            have Am := Lib.hid (Am.out.later HX.out)
            clear h5 HX h9
            have HLl : Hid (l.length ≤ 8) := Lib.hid HO3.out.1
            have HDT : Hid (Dat 60 d) := HD5
            have HDM : Hid (Dat 60 m) := HD6
            go_wp2_with fail
            refine (ev_any vl vd l d w5 HDT.out (by omega) HO3.out Nl.out Al.out Ad.out).mono ?_
            rintro e w6 ⟨v1, u1, r1, rfl, h1, h2, h3, h4, h5⟩
            have HX : Hid (Below w5.heap.size w5 w6) := blThen (by repeat (first | with_reducible exact Below.refl _ _ | with_reducible refine blAlloc ?_ _ | with_reducible refine Below.drew ?_)) h5
            have HB_w6 := Lib.hid (blThen HB_w5.out HX.out)
            have Al := Lib.hid (Al.out.later HX.out)
            have Ad := Lib.hid (Ad.out.later HX.out)
            have Am := Lib.hid (Am.out.later HX.out)
            have HW1 := Lib.hid h1
            have HQ1 := Lib.hid h2
            have HF1 := Lib.hid h3
            have HS1 := Lib.hid h4
            clear h5 HX h1 h2 h3 h4
            go_wp2_with fail
            refine (ev_any vl vm l m w6 HDM.out (by omega) HO3.out Nl.out Al.out Am.out).mono ?_
            rintro e w7 ⟨v2, u2, r2, rfl, h1, h2, h3, h4, h5⟩
            have HX : Hid (Below w6.heap.size w6 w7) := blThen (by repeat (first | with_reducible exact Below.refl _ _ | with_reducible refine blAlloc ?_ _ | with_reducible refine Below.drew ?_)) h5
            have HB_w7 := Lib.hid (blThen HB_w6.out HX.out)
            have Al := Lib.hid (Al.out.later HX.out)
            have Ad := Lib.hid (Ad.out.later HX.out)
            have Am := Lib.hid (Am.out.later HX.out)
            have HW1 := Lib.hid (HW1.out.later HX.out)
            have HQ1 := Lib.hid (HQ1.out.later HX.out)
            have HW2 := Lib.hid h1
            have HQ2 := Lib.hid h2
            have HF2 := Lib.hid h3
            have HS2 := Lib.hid h4
            clear h5 HX h1 h2 h3 h4
            obtain ⟨a1, c1, rfl⟩ := HW1.out.form
            obtain ⟨a2, c2, rfl⟩ := HW2.out.form
            by_cases hw : writesP l = []
            · have hz1 : lastL (evalL d l) = [] := by rw [no_writes hw]; rfl
              have hz2 : lastL (evalL m l) = [] := by rw [no_writes hw]; rfl
              have hwl : (writesP l).length = 0 := by rw [hw]; rfl
              have hl1 : (lastL (evalL d l)).length = 0 := by rw [hz1]; rfl
              have hl2 : (lastL (evalL m l)).length = 0 := by rw [hz2]; rfl
              clear hw hz1 hz2
              go_wp2_with fail
              refine (twrites_any vl l w7 (by have := HLl.out; omega) HO3.out.2 Al.out).mono ?_
              rintro e w8 ⟨x5, rfl, h1, h5⟩
              obtain ⟨ax, cx, rfl⟩ := h1.sl.form
              rw [hwl]
              rw [hl1] at HW1
              rw [hl2] at HW2
              have HX : Hid (Below w7.heap.size w7 w8) := blThen (by repeat (first | with_reducible exact Below.refl _ _ | with_reducible refine blAlloc ?_ _ | with_reducible refine Below.drew ?_)) h5
              have HB_w8 := Lib.hid (blThen HB_w7.out HX.out)
              have Al := Lib.hid (Al.out.later HX.out)
              have Ad := Lib.hid (Ad.out.later HX.out)
              have Am := Lib.hid (Am.out.later HX.out)
              have HW1 := Lib.hid (HW1.out.later HX.out)
              have HQ1 := Lib.hid (HQ1.out.later HX.out)
              have HW2 := Lib.hid (HW2.out.later HX.out)
              have HQ2 := Lib.hid (HQ2.out.later HX.out)
              clear h5 HX h1
              by_cases hr : readsP l = []
              · have HNR := Lib.hid (no_reads hr HDT.out.1 HDM.out.1 HO3.out.kd)
                have hrl : (readsP l).length = 0 := by rw [hr]; rfl
                clear hr
                go_wp2_with fail
                refine (treads_any vl l w8 (by have := HLl.out; omega) HO3.out.2 Al.out).mono ?_
                rintro e w9 ⟨x7, rfl, h1, h5⟩
                obtain ⟨ax, cx, rfl⟩ := h1.sl.form
                rw [hrl]
                have HX : Hid (Below w8.heap.size w8 w9) := blThen (by repeat (first | with_reducible exact Below.refl _ _ | with_reducible refine blAlloc ?_ _ | with_reducible refine Below.drew ?_)) h5
                have HB_w9 := Lib.hid (blThen HB_w8.out HX.out)
                have Al := Lib.hid (Al.out.later HX.out)
                have Ad := Lib.hid (Ad.out.later HX.out)
                have Am := Lib.hid (Am.out.later HX.out)
                have HW1 := Lib.hid (HW1.out.later HX.out)
                have HQ1 := Lib.hid (HQ1.out.later HX.out)
                have HW2 := Lib.hid (HW2.out.later HX.out)
                have HQ2 := Lib.hid (HQ2.out.later HX.out)
                clear h5 HX h1
                go_wp2_with fail
                have h9 := ansame_any u1 u2 r1 r2 w9 HF1.out HF2.out HQ1.out HQ2.out
                rw [decide_eq_true (show r1.map AnR.ans = r2.map AnR.ans from HS1.out.trans (HNR.out.2.trans HS2.out.symm))] at h9
                refine (h9).mono ?_
                rintro e w10 ⟨rfl, h5⟩
                have HX : Hid (Below w9.heap.size w9 w10) := blThen (by repeat (first | with_reducible exact Below.refl _ _ | with_reducible refine blAlloc ?_ _ | with_reducible refine Below.drew ?_)) h5
                have HB_w10 := Lib.hid (blThen HB_w9.out HX.out)
                have Al := Lib.hid (Al.out.later HX.out)
                have Ad := Lib.hid (Ad.out.later HX.out)
                have Am := Lib.hid (Am.out.later HX.out)
                have HW1 := Lib.hid (HW1.out.later HX.out)
                have HQ1 := Lib.hid (HQ1.out.later HX.out)
                have HW2 := Lib.hid (HW2.out.later HX.out)
                have HQ2 := Lib.hid (HQ2.out.later HX.out)
                clear h5 HX h9
                go_wp2_with fail
                have h9 := wrsame_any _ _ (lastL (evalL d l)) (lastL (evalL m l)) w10 (by have := (HO3.out.last d).2; omega) (by have := (HO3.out.last m).2; omega) HW1.out HW2.out
                rw [decide_eq_true (show (lastL (evalL d l)) = (lastL (evalL m l)) from by rw [HNR.out.1])] at h9
                refine (h9).mono ?_
                rintro e w11 ⟨rfl, h5⟩
                have HX : Hid (Below w10.heap.size w10 w11) := blThen (by repeat (first | with_reducible exact Below.refl _ _ | with_reducible refine blAlloc ?_ _ | with_reducible refine Below.drew ?_)) h5
                have HB_w11 := Lib.hid (blThen HB_w10.out HX.out)
                have Al := Lib.hid (Al.out.later HX.out)
                have Ad := Lib.hid (Ad.out.later HX.out)
                have Am := Lib.hid (Am.out.later HX.out)
                have HW1 := Lib.hid (HW1.out.later HX.out)
                have HQ1 := Lib.hid (HQ1.out.later HX.out)
                have HW2 := Lib.hid (HW2.out.later HX.out)
                have HQ2 := Lib.hid (HQ2.out.later HX.out)
                clear h5 HX h9
                go_wp2_with fail
                refine (treads_any vl l w11 (by have := HLl.out; omega) HO3.out.2 Al.out).mono ?_
                rintro e y1 ⟨x1, rfl, h1, h5⟩
                have HO1 := Lib.hid h1
                have HBa := Lib.hid h5
                clear h1 h5
                go_wp2_with fail
                refine (twrites_any vl l y1 (by have := HLl.out; omega) HO3.out.2 (Al.out.later HBa.out)).mono ?_
                rintro e y2 ⟨x2, rfl, h1, h5⟩
                have HT2 := Lib.hid h1.sl
                have HO1 := Lib.hid (HO1.out.later h5)
                have HBb := Lib.hid (blThen HBa.out h5)
                clear h1 h5 HBa
                go_wp2_with (at_builtin; go_must (refine append_sp rfl _ _ rfl w11.heap.size _ (readsP l) rfl HO1.out _ (writesP l) rfl HT2.out (by have := reads_len l; have := writes_len l; have := HLl.out; omega) HBb.out.size ?_; intro v99 w99 h1 h2; have HO9 := Lib.hid h1.sl; have HX : Hid (Below w11.heap.size w11 w99) := Lib.hid (grown_below HBb.out HO1.out (Nat.le_refl _) HBb.out.size h2); clear h1 h2))
                have HB_w99 := Lib.hid (blThen HB_w11.out HX.out)
                have Al := Lib.hid (Al.out.later HX.out)
                have Ad := Lib.hid (Ad.out.later HX.out)
                have Am := Lib.hid (Am.out.later HX.out)
                have HW1 := Lib.hid (HW1.out.later HX.out)
                have HQ1 := Lib.hid (HQ1.out.later HX.out)
                have HW2 := Lib.hid (HW2.out.later HX.out)
                have HQ2 := Lib.hid (HQ2.out.later HX.out)
                clear HX HO1 HT2 HBb
                have h9 := refunion_any v99 (readsP l ++ writesP l) w99 (by have := reads_len l; have := writes_len l; have := HLl.out; rw [List.length_append]; omega) HO9.out
                rw [all_uni l] at h9
                go_wp2_with fail
                refine (h9).mono ?_
                rintro e w100 ⟨x9, rfl, h1, h5⟩
                have HX : Hid (Below w99.heap.size w99 w100) := blThen (by repeat (first | with_reducible exact Below.refl _ _ | with_reducible refine blAlloc ?_ _ | with_reducible refine Below.drew ?_)) h5
                have HB_w100 := Lib.hid (blThen HB_w99.out HX.out)
                have Al := Lib.hid (Al.out.later HX.out)
                have Ad := Lib.hid (Ad.out.later HX.out)
                have Am := Lib.hid (Am.out.later HX.out)
                have HW1 := Lib.hid (HW1.out.later HX.out)
                have HQ1 := Lib.hid (HQ1.out.later HX.out)
                have HW2 := Lib.hid (HW2.out.later HX.out)
                have HQ2 := Lib.hid (HQ2.out.later HX.out)
                have HO9 := Lib.hid (HO9.out.later HX.out)
                have HX9 := Lib.hid h1.sl
                clear h5 HX h1 h9
                go_wp2_with fail
                refine (tall_any vl l w100 (by have := HLl.out; omega) HO3.out.2 Al.out).mono ?_
                rintro e w101 ⟨z9, rfl, h1, h5⟩
                have HX : Hid (Below w100.heap.size w100 w101) := blThen (by repeat (first | with_reducible exact Below.refl _ _ | with_reducible refine blAlloc ?_ _ | with_reducible refine Below.drew ?_)) h5
                have HB_w101 := Lib.hid (blThen HB_w100.out HX.out)
                have Al := Lib.hid (Al.out.later HX.out)
                have Ad := Lib.hid (Ad.out.later HX.out)
                have Am := Lib.hid (Am.out.later HX.out)
                have HW1 := Lib.hid (HW1.out.later HX.out)
                have HQ1 := Lib.hid (HQ1.out.later HX.out)
                have HW2 := Lib.hid (HW2.out.later HX.out)
                have HQ2 := Lib.hid (HQ2.out.later HX.out)
                have HO9 := Lib.hid (HO9.out.later HX.out)
                have HX9 := Lib.hid (HX9.out.later HX.out)
                have HZ9 := Lib.hid h1.sl
                clear h5 HX h1
                go_wp2_with fail
                have h9 := S3.same_any x9 z9 (allP l) (allP l) w101 (by have := all_len l; have := HLl.out; omega) (by have := all_len l; have := HLl.out; omega) HX9.out HZ9.out
                rw [show S3.sameB (allP l) (allP l) = true from decide_eq_true rfl] at h9
                refine (h9).mono ?_
                rintro e w102 ⟨rfl, h5⟩
                have HX : Hid (Below w101.heap.size w101 w102) := blThen (by repeat (first | with_reducible exact Below.refl _ _ | with_reducible refine blAlloc ?_ _ | with_reducible refine Below.drew ?_)) h5
                have HB_w102 := Lib.hid (blThen HB_w101.out HX.out)
                have Al := Lib.hid (Al.out.later HX.out)
                have Ad := Lib.hid (Ad.out.later HX.out)
                have Am := Lib.hid (Am.out.later HX.out)
                have HW1 := Lib.hid (HW1.out.later HX.out)
                have HQ1 := Lib.hid (HQ1.out.later HX.out)
                have HW2 := Lib.hid (HW2.out.later HX.out)
                have HQ2 := Lib.hid (HQ2.out.later HX.out)
                have HO9 := Lib.hid (HO9.out.later HX.out)
                have HX9 := Lib.hid (HX9.out.later HX.out)
                have HZ9 := Lib.hid (HZ9.out.later HX.out)
                clear h5 HX h9
                go_wp2_with fail
                refine (live8_any w102).mono ?_
                rintro e w103 ⟨rfl, h5⟩
                have HX : Hid (Below w102.heap.size w102 w103) := blThen (by repeat (first | with_reducible exact Below.refl _ _ | with_reducible refine blAlloc ?_ _ | with_reducible refine Below.drew ?_)) h5
                have HB_w103 := Lib.hid (blThen HB_w102.out HX.out)
                have Al := Lib.hid (Al.out.later HX.out)
                have Ad := Lib.hid (Ad.out.later HX.out)
                have Am := Lib.hid (Am.out.later HX.out)
                have HW1 := Lib.hid (HW1.out.later HX.out)
                have HQ1 := Lib.hid (HQ1.out.later HX.out)
                have HW2 := Lib.hid (HW2.out.later HX.out)
                have HQ2 := Lib.hid (HQ2.out.later HX.out)
                have HO9 := Lib.hid (HO9.out.later HX.out)
                have HX9 := Lib.hid (HX9.out.later HX.out)
                have HZ9 := Lib.hid (HZ9.out.later HX.out)
                clear h5 HX
                go_wp2
                go_ret
                exact ⟨rfl, HB_w103.out⟩
              · have hrl : ¬ (readsP l).length = 0 := fun e => hr (List.eq_nil_of_length_eq_zero e)
                have hrd : decide (((readsP l).length : Int) = 0) = false := decide_eq_false (by omega)
                have hrd2 : ¬ ((readsP l).length : Int) = 0 := by omega
                clear hr
                go_wp2_with fail
                refine (treads_any vl l w8 (by have := HLl.out; omega) HO3.out.2 Al.out).mono ?_
                rintro e w9 ⟨x7, rfl, h1, h5⟩
                obtain ⟨ax, cx, rfl⟩ := h1.sl.form
                have HX : Hid (Below w8.heap.size w8 w9) := blThen (by repeat (first | with_reducible exact Below.refl _ _ | with_reducible refine blAlloc ?_ _ | with_reducible refine Below.drew ?_)) h5
                have HB_w9 := Lib.hid (blThen HB_w8.out HX.out)
                have Al := Lib.hid (Al.out.later HX.out)
                have Ad := Lib.hid (Ad.out.later HX.out)
                have Am := Lib.hid (Am.out.later HX.out)
                have HW1 := Lib.hid (HW1.out.later HX.out)
                have HQ1 := Lib.hid (HQ1.out.later HX.out)
                have HW2 := Lib.hid (HW2.out.later HX.out)
                have HQ2 := Lib.hid (HQ2.out.later HX.out)
                clear h5 HX h1
                go_wp2_with fail
                refine (treads_any vl l w9 (by have := HLl.out; omega) HO3.out.2 Al.out).mono ?_
                rintro e y1 ⟨x1, rfl, h1, h5⟩
                have HO1 := Lib.hid h1
                have HBa := Lib.hid h5
                clear h1 h5
                go_wp2_with fail
                refine (twrites_any vl l y1 (by have := HLl.out; omega) HO3.out.2 (Al.out.later HBa.out)).mono ?_
                rintro e y2 ⟨x2, rfl, h1, h5⟩
                have HT2 := Lib.hid h1.sl
                have HO1 := Lib.hid (HO1.out.later h5)
                have HBb := Lib.hid (blThen HBa.out h5)
                clear h1 h5 HBa
                go_wp2_with (at_builtin; go_must (refine append_sp rfl _ _ rfl w9.heap.size _ (readsP l) rfl HO1.out _ (writesP l) rfl HT2.out (by have := reads_len l; have := writes_len l; have := HLl.out; omega) HBb.out.size ?_; intro v99 w99 h1 h2; have HO9 := Lib.hid h1.sl; have HX : Hid (Below w9.heap.size w9 w99) := Lib.hid (grown_below HBb.out HO1.out (Nat.le_refl _) HBb.out.size h2); clear h1 h2))
                have HB_w99 := Lib.hid (blThen HB_w9.out HX.out)
                have Al := Lib.hid (Al.out.later HX.out)
                have Ad := Lib.hid (Ad.out.later HX.out)
                have Am := Lib.hid (Am.out.later HX.out)
                have HW1 := Lib.hid (HW1.out.later HX.out)
                have HQ1 := Lib.hid (HQ1.out.later HX.out)
                have HW2 := Lib.hid (HW2.out.later HX.out)
                have HQ2 := Lib.hid (HQ2.out.later HX.out)
                clear HX HO1 HT2 HBb
                have h9 := refunion_any v99 (readsP l ++ writesP l) w99 (by have := reads_len l; have := writes_len l; have := HLl.out; rw [List.length_append]; omega) HO9.out
                rw [all_uni l] at h9
                go_wp2_with fail
                refine (h9).mono ?_
                rintro e w100 ⟨x9, rfl, h1, h5⟩
                have HX : Hid (Below w99.heap.size w99 w100) := blThen (by repeat (first | with_reducible exact Below.refl _ _ | with_reducible refine blAlloc ?_ _ | with_reducible refine Below.drew ?_)) h5
                have HB_w100 := Lib.hid (blThen HB_w99.out HX.out)
                have Al := Lib.hid (Al.out.later HX.out)
                have Ad := Lib.hid (Ad.out.later HX.out)
                have Am := Lib.hid (Am.out.later HX.out)
                have HW1 := Lib.hid (HW1.out.later HX.out)
                have HQ1 := Lib.hid (HQ1.out.later HX.out)
                have HW2 := Lib.hid (HW2.out.later HX.out)
                have HQ2 := Lib.hid (HQ2.out.later HX.out)
                have HO9 := Lib.hid (HO9.out.later HX.out)
                have HX9 := Lib.hid h1.sl
                clear h5 HX h1 h9
                go_wp2_with fail
                refine (tall_any vl l w100 (by have := HLl.out; omega) HO3.out.2 Al.out).mono ?_
                rintro e w101 ⟨z9, rfl, h1, h5⟩
                have HX : Hid (Below w100.heap.size w100 w101) := blThen (by repeat (first | with_reducible exact Below.refl _ _ | with_reducible refine blAlloc ?_ _ | with_reducible refine Below.drew ?_)) h5
                have HB_w101 := Lib.hid (blThen HB_w100.out HX.out)
                have Al := Lib.hid (Al.out.later HX.out)
                have Ad := Lib.hid (Ad.out.later HX.out)
                have Am := Lib.hid (Am.out.later HX.out)
                have HW1 := Lib.hid (HW1.out.later HX.out)
                have HQ1 := Lib.hid (HQ1.out.later HX.out)
                have HW2 := Lib.hid (HW2.out.later HX.out)
                have HQ2 := Lib.hid (HQ2.out.later HX.out)
                have HO9 := Lib.hid (HO9.out.later HX.out)
                have HX9 := Lib.hid (HX9.out.later HX.out)
                have HZ9 := Lib.hid h1.sl
                clear h5 HX h1
                go_wp2_with fail
                have h9 := S3.same_any x9 z9 (allP l) (allP l) w101 (by have := all_len l; have := HLl.out; omega) (by have := all_len l; have := HLl.out; omega) HX9.out HZ9.out
                rw [show S3.sameB (allP l) (allP l) = true from decide_eq_true rfl] at h9
                refine (h9).mono ?_
                rintro e w102 ⟨rfl, h5⟩
                have HX : Hid (Below w101.heap.size w101 w102) := blThen (by repeat (first | with_reducible exact Below.refl _ _ | with_reducible refine blAlloc ?_ _ | with_reducible refine Below.drew ?_)) h5
                have HB_w102 := Lib.hid (blThen HB_w101.out HX.out)
                have Al := Lib.hid (Al.out.later HX.out)
                have Ad := Lib.hid (Ad.out.later HX.out)
                have Am := Lib.hid (Am.out.later HX.out)
                have HW1 := Lib.hid (HW1.out.later HX.out)
                have HQ1 := Lib.hid (HQ1.out.later HX.out)
                have HW2 := Lib.hid (HW2.out.later HX.out)
                have HQ2 := Lib.hid (HQ2.out.later HX.out)
                have HO9 := Lib.hid (HO9.out.later HX.out)
                have HX9 := Lib.hid (HX9.out.later HX.out)
                have HZ9 := Lib.hid (HZ9.out.later HX.out)
                clear h5 HX h9
                go_wp2_with fail
                refine (live8_any w102).mono ?_
                rintro e w103 ⟨rfl, h5⟩
                have HX : Hid (Below w102.heap.size w102 w103) := blThen (by repeat (first | with_reducible exact Below.refl _ _ | with_reducible refine blAlloc ?_ _ | with_reducible refine Below.drew ?_)) h5
                have HB_w103 := Lib.hid (blThen HB_w102.out HX.out)
                have Al := Lib.hid (Al.out.later HX.out)
                have Ad := Lib.hid (Ad.out.later HX.out)
                have Am := Lib.hid (Am.out.later HX.out)
                have HW1 := Lib.hid (HW1.out.later HX.out)
                have HQ1 := Lib.hid (HQ1.out.later HX.out)
                have HW2 := Lib.hid (HW2.out.later HX.out)
                have HQ2 := Lib.hid (HQ2.out.later HX.out)
                have HO9 := Lib.hid (HO9.out.later HX.out)
                have HX9 := Lib.hid (HX9.out.later HX.out)
                have HZ9 := Lib.hid (HZ9.out.later HX.out)
                clear h5 HX
                go_wp2
                go_ret
                exact ⟨rfl, HB_w103.out⟩
            · have hwl : ¬ (writesP l).length = 0 := fun e => hw (List.eq_nil_of_length_eq_zero e)
              have hwd : decide (((writesP l).length : Int) = 0) = false := decide_eq_false (by omega)
              have hwd2 : ¬ ((writesP l).length : Int) = 0 := by omega
              clear hw
              go_wp2_with fail
              refine (twrites_any vl l w7 (by have := HLl.out; omega) HO3.out.2 Al.out).mono ?_
              rintro e w8 ⟨x5, rfl, h1, h5⟩
              obtain ⟨ax, cx, rfl⟩ := h1.sl.form
              have HX : Hid (Below w7.heap.size w7 w8) := blThen (by repeat (first | with_reducible exact Below.refl _ _ | with_reducible refine blAlloc ?_ _ | with_reducible refine Below.drew ?_)) h5
              have HB_w8 := Lib.hid (blThen HB_w7.out HX.out)
              have Al := Lib.hid (Al.out.later HX.out)
              have Ad := Lib.hid (Ad.out.later HX.out)
              have Am := Lib.hid (Am.out.later HX.out)
              have HW1 := Lib.hid (HW1.out.later HX.out)
              have HQ1 := Lib.hid (HQ1.out.later HX.out)
              have HW2 := Lib.hid (HW2.out.later HX.out)
              have HQ2 := Lib.hid (HQ2.out.later HX.out)
              clear h5 HX h1
              by_cases hr : readsP l = []
              · have HNR := Lib.hid (no_reads hr HDT.out.1 HDM.out.1 HO3.out.kd)
                have hrl : (readsP l).length = 0 := by rw [hr]; rfl
                clear hr
                go_wp2_with fail
                refine (treads_any vl l w8 (by have := HLl.out; omega) HO3.out.2 Al.out).mono ?_
                rintro e w9 ⟨x7, rfl, h1, h5⟩
                obtain ⟨ax, cx, rfl⟩ := h1.sl.form
                rw [hrl]
                have HX : Hid (Below w8.heap.size w8 w9) := blThen (by repeat (first | with_reducible exact Below.refl _ _ | with_reducible refine blAlloc ?_ _ | with_reducible refine Below.drew ?_)) h5
                have HB_w9 := Lib.hid (blThen HB_w8.out HX.out)
                have Al := Lib.hid (Al.out.later HX.out)
                have Ad := Lib.hid (Ad.out.later HX.out)
                have Am := Lib.hid (Am.out.later HX.out)
                have HW1 := Lib.hid (HW1.out.later HX.out)
                have HQ1 := Lib.hid (HQ1.out.later HX.out)
                have HW2 := Lib.hid (HW2.out.later HX.out)
                have HQ2 := Lib.hid (HQ2.out.later HX.out)
                clear h5 HX h1
                go_wp2_with fail
                have h9 := ansame_any u1 u2 r1 r2 w9 HF1.out HF2.out HQ1.out HQ2.out
                rw [decide_eq_true (show r1.map AnR.ans = r2.map AnR.ans from HS1.out.trans (HNR.out.2.trans HS2.out.symm))] at h9
                refine (h9).mono ?_
                rintro e w10 ⟨rfl, h5⟩
                have HX : Hid (Below w9.heap.size w9 w10) := blThen (by repeat (first | with_reducible exact Below.refl _ _ | with_reducible refine blAlloc ?_ _ | with_reducible refine Below.drew ?_)) h5
                have HB_w10 := Lib.hid (blThen HB_w9.out HX.out)
                have Al := Lib.hid (Al.out.later HX.out)
                have Ad := Lib.hid (Ad.out.later HX.out)
                have Am := Lib.hid (Am.out.later HX.out)
                have HW1 := Lib.hid (HW1.out.later HX.out)
                have HQ1 := Lib.hid (HQ1.out.later HX.out)
                have HW2 := Lib.hid (HW2.out.later HX.out)
                have HQ2 := Lib.hid (HQ2.out.later HX.out)
                clear h5 HX h9
                go_wp2_with fail
                have h9 := wrsame_any _ _ (lastL (evalL d l)) (lastL (evalL m l)) w10 (by have := (HO3.out.last d).2; omega) (by have := (HO3.out.last m).2; omega) HW1.out HW2.out
                rw [decide_eq_true (show (lastL (evalL d l)) = (lastL (evalL m l)) from by rw [HNR.out.1])] at h9
                refine (h9).mono ?_
                rintro e w11 ⟨rfl, h5⟩
                have HX : Hid (Below w10.heap.size w10 w11) := blThen (by repeat (first | with_reducible exact Below.refl _ _ | with_reducible refine blAlloc ?_ _ | with_reducible refine Below.drew ?_)) h5
                have HB_w11 := Lib.hid (blThen HB_w10.out HX.out)
                have Al := Lib.hid (Al.out.later HX.out)
                have Ad := Lib.hid (Ad.out.later HX.out)
                have Am := Lib.hid (Am.out.later HX.out)
                have HW1 := Lib.hid (HW1.out.later HX.out)
                have HQ1 := Lib.hid (HQ1.out.later HX.out)
                have HW2 := Lib.hid (HW2.out.later HX.out)
                have HQ2 := Lib.hid (HQ2.out.later HX.out)
                clear h5 HX h9
                go_wp2_with fail
                refine (treads_any vl l w11 (by have := HLl.out; omega) HO3.out.2 Al.out).mono ?_
                rintro e y1 ⟨x1, rfl, h1, h5⟩
                have HO1 := Lib.hid h1
                have HBa := Lib.hid h5
                clear h1 h5
                go_wp2_with fail
                refine (twrites_any vl l y1 (by have := HLl.out; omega) HO3.out.2 (Al.out.later HBa.out)).mono ?_
                rintro e y2 ⟨x2, rfl, h1, h5⟩
                have HT2 := Lib.hid h1.sl
                have HO1 := Lib.hid (HO1.out.later h5)
                have HBb := Lib.hid (blThen HBa.out h5)
                clear h1 h5 HBa
                go_wp2_with (at_builtin; go_must (refine append_sp rfl _ _ rfl w11.heap.size _ (readsP l) rfl HO1.out _ (writesP l) rfl HT2.out (by have := reads_len l; have := writes_len l; have := HLl.out; omega) HBb.out.size ?_; intro v99 w99 h1 h2; have HO9 := Lib.hid h1.sl; have HX : Hid (Below w11.heap.size w11 w99) := Lib.hid (grown_below HBb.out HO1.out (Nat.le_refl _) HBb.out.size h2); clear h1 h2))
                have HB_w99 := Lib.hid (blThen HB_w11.out HX.out)
                have Al := Lib.hid (Al.out.later HX.out)
                have Ad := Lib.hid (Ad.out.later HX.out)
                have Am := Lib.hid (Am.out.later HX.out)
                have HW1 := Lib.hid (HW1.out.later HX.out)
                have HQ1 := Lib.hid (HQ1.out.later HX.out)
                have HW2 := Lib.hid (HW2.out.later HX.out)
                have HQ2 := Lib.hid (HQ2.out.later HX.out)
                clear HX HO1 HT2 HBb
                have h9 := refunion_any v99 (readsP l ++ writesP l) w99 (by have := reads_len l; have := writes_len l; have := HLl.out; rw [List.length_append]; omega) HO9.out
                rw [all_uni l] at h9
                go_wp2_with fail
                refine (h9).mono ?_
                rintro e w100 ⟨x9, rfl, h1, h5⟩
                have HX : Hid (Below w99.heap.size w99 w100) := blThen (by repeat (first | with_reducible exact Below.refl _ _ | with_reducible refine blAlloc ?_ _ | with_reducible refine Below.drew ?_)) h5
                have HB_w100 := Lib.hid (blThen HB_w99.out HX.out)
                have Al := Lib.hid (Al.out.later HX.out)
                have Ad := Lib.hid (Ad.out.later HX.out)
                have Am := Lib.hid (Am.out.later HX.out)
                have HW1 := Lib.hid (HW1.out.later HX.out)
                have HQ1 := Lib.hid (HQ1.out.later HX.out)
                have HW2 := Lib.hid (HW2.out.later HX.out)
                have HQ2 := Lib.hid (HQ2.out.later HX.out)
                have HO9 := Lib.hid (HO9.out.later HX.out)
                have HX9 := Lib.hid h1.sl
                clear h5 HX h1 h9
                go_wp2_with fail
                refine (tall_any vl l w100 (by have := HLl.out; omega) HO3.out.2 Al.out).mono ?_
                rintro e w101 ⟨z9, rfl, h1, h5⟩
                have HX : Hid (Below w100.heap.size w100 w101) := blThen (by repeat (first | with_reducible exact Below.refl _ _ | with_reducible refine blAlloc ?_ _ | with_reducible refine Below.drew ?_)) h5
                have HB_w101 := Lib.hid (blThen HB_w100.out HX.out)
                have Al := Lib.hid (Al.out.later HX.out)
                have Ad := Lib.hid (Ad.out.later HX.out)
                have Am := Lib.hid (Am.out.later HX.out)
                have HW1 := Lib.hid (HW1.out.later HX.out)
                have HQ1 := Lib.hid (HQ1.out.later HX.out)
                have HW2 := Lib.hid (HW2.out.later HX.out)
                have HQ2 := Lib.hid (HQ2.out.later HX.out)
                have HO9 := Lib.hid (HO9.out.later HX.out)
                have HX9 := Lib.hid (HX9.out.later HX.out)
                have HZ9 := Lib.hid h1.sl
                clear h5 HX h1
                go_wp2_with fail
                have h9 := S3.same_any x9 z9 (allP l) (allP l) w101 (by have := all_len l; have := HLl.out; omega) (by have := all_len l; have := HLl.out; omega) HX9.out HZ9.out
                rw [show S3.sameB (allP l) (allP l) = true from decide_eq_true rfl] at h9
                refine (h9).mono ?_
                rintro e w102 ⟨rfl, h5⟩
                have HX : Hid (Below w101.heap.size w101 w102) := blThen (by repeat (first | with_reducible exact Below.refl _ _ | with_reducible refine blAlloc ?_ _ | with_reducible refine Below.drew ?_)) h5
                have HB_w102 := Lib.hid (blThen HB_w101.out HX.out)
                have Al := Lib.hid (Al.out.later HX.out)
                have Ad := Lib.hid (Ad.out.later HX.out)
                have Am := Lib.hid (Am.out.later HX.out)
                have HW1 := Lib.hid (HW1.out.later HX.out)
                have HQ1 := Lib.hid (HQ1.out.later HX.out)
                have HW2 := Lib.hid (HW2.out.later HX.out)
                have HQ2 := Lib.hid (HQ2.out.later HX.out)
                have HO9 := Lib.hid (HO9.out.later HX.out)
                have HX9 := Lib.hid (HX9.out.later HX.out)
                have HZ9 := Lib.hid (HZ9.out.later HX.out)
                clear h5 HX h9
                go_wp2_with fail
                refine (live8_any w102).mono ?_
                rintro e w103 ⟨rfl, h5⟩
                have HX : Hid (Below w102.heap.size w102 w103) := blThen (by repeat (first | with_reducible exact Below.refl _ _ | with_reducible refine blAlloc ?_ _ | with_reducible refine Below.drew ?_)) h5
                have HB_w103 := Lib.hid (blThen HB_w102.out HX.out)
                have Al := Lib.hid (Al.out.later HX.out)
                have Ad := Lib.hid (Ad.out.later HX.out)
                have Am := Lib.hid (Am.out.later HX.out)
                have HW1 := Lib.hid (HW1.out.later HX.out)
                have HQ1 := Lib.hid (HQ1.out.later HX.out)
                have HW2 := Lib.hid (HW2.out.later HX.out)
                have HQ2 := Lib.hid (HQ2.out.later HX.out)
                have HO9 := Lib.hid (HO9.out.later HX.out)
                have HX9 := Lib.hid (HX9.out.later HX.out)
                have HZ9 := Lib.hid (HZ9.out.later HX.out)
                clear h5 HX
                go_wp2
                go_ret
                exact ⟨rfl, HB_w103.out⟩
              · have hrl : ¬ (readsP l).length = 0 := fun e => hr (List.eq_nil_of_length_eq_zero e)
                have hrd : decide (((readsP l).length : Int) = 0) = false := decide_eq_false (by omega)
                have hrd2 : ¬ ((readsP l).length : Int) = 0 := by omega
                clear hr
                go_wp2_with fail
                refine (treads_any vl l w8 (by have := HLl.out; omega) HO3.out.2 Al.out).mono ?_
                rintro e w9 ⟨x7, rfl, h1, h5⟩
                obtain ⟨ax, cx, rfl⟩ := h1.sl.form
                have HX : Hid (Below w8.heap.size w8 w9) := blThen (by repeat (first | with_reducible exact Below.refl _ _ | with_reducible refine blAlloc ?_ _ | with_reducible refine Below.drew ?_)) h5
                have HB_w9 := Lib.hid (blThen HB_w8.out HX.out)
                have Al := Lib.hid (Al.out.later HX.out)
                have Ad := Lib.hid (Ad.out.later HX.out)
                have Am := Lib.hid (Am.out.later HX.out)
                have HW1 := Lib.hid (HW1.out.later HX.out)
                have HQ1 := Lib.hid (HQ1.out.later HX.out)
                have HW2 := Lib.hid (HW2.out.later HX.out)
                have HQ2 := Lib.hid (HQ2.out.later HX.out)
                clear h5 HX h1
                go_wp2_with fail
                refine (treads_any vl l w9 (by have := HLl.out; omega) HO3.out.2 Al.out).mono ?_
                rintro e y1 ⟨x1, rfl, h1, h5⟩
                have HO1 := Lib.hid h1
                have HBa := Lib.hid h5
                clear h1 h5
                go_wp2_with fail
                refine (twrites_any vl l y1 (by have := HLl.out; omega) HO3.out.2 (Al.out.later HBa.out)).mono ?_
                rintro e y2 ⟨x2, rfl, h1, h5⟩
                have HT2 := Lib.hid h1.sl
                have HO1 := Lib.hid (HO1.out.later h5)
                have HBb := Lib.hid (blThen HBa.out h5)
                clear h1 h5 HBa
                go_wp2_with (at_builtin; go_must (refine append_sp rfl _ _ rfl w9.heap.size _ (readsP l) rfl HO1.out _ (writesP l) rfl HT2.out (by have := reads_len l; have := writes_len l; have := HLl.out; omega) HBb.out.size ?_; intro v99 w99 h1 h2; have HO9 := Lib.hid h1.sl; have HX : Hid (Below w9.heap.size w9 w99) := Lib.hid (grown_below HBb.out HO1.out (Nat.le_refl _) HBb.out.size h2); clear h1 h2))
                have HB_w99 := Lib.hid (blThen HB_w9.out HX.out)
                have Al := Lib.hid (Al.out.later HX.out)
                have Ad := Lib.hid (Ad.out.later HX.out)
                have Am := Lib.hid (Am.out.later HX.out)
                have HW1 := Lib.hid (HW1.out.later HX.out)
                have HQ1 := Lib.hid (HQ1.out.later HX.out)
                have HW2 := Lib.hid (HW2.out.later HX.out)
                have HQ2 := Lib.hid (HQ2.out.later HX.out)
                clear HX HO1 HT2 HBb
                have h9 := refunion_any v99 (readsP l ++ writesP l) w99 (by have := reads_len l; have := writes_len l; have := HLl.out; rw [List.length_append]; omega) HO9.out
                rw [all_uni l] at h9
                go_wp2_with fail
                refine (h9).mono ?_
                rintro e w100 ⟨x9, rfl, h1, h5⟩
                have HX : Hid (Below w99.heap.size w99 w100) := blThen (by repeat (first | with_reducible exact Below.refl _ _ | with_reducible refine blAlloc ?_ _ | with_reducible refine Below.drew ?_)) h5
                have HB_w100 := Lib.hid (blThen HB_w99.out HX.out)
                have Al := Lib.hid (Al.out.later HX.out)
                have Ad := Lib.hid (Ad.out.later HX.out)
                have Am := Lib.hid (Am.out.later HX.out)
                have HW1 := Lib.hid (HW1.out.later HX.out)
                have HQ1 := Lib.hid (HQ1.out.later HX.out)
                have HW2 := Lib.hid (HW2.out.later HX.out)
                have HQ2 := Lib.hid (HQ2.out.later HX.out)
                have HO9 := Lib.hid (HO9.out.later HX.out)
                have HX9 := Lib.hid h1.sl
                clear h5 HX h1 h9
                go_wp2_with fail
                refine (tall_any vl l w100 (by have := HLl.out; omega) HO3.out.2 Al.out).mono ?_
                rintro e w101 ⟨z9, rfl, h1, h5⟩
                have HX : Hid (Below w100.heap.size w100 w101) := blThen (by repeat (first | with_reducible exact Below.refl _ _ | with_reducible refine blAlloc ?_ _ | with_reducible refine Below.drew ?_)) h5
                have HB_w101 := Lib.hid (blThen HB_w100.out HX.out)
                have Al := Lib.hid (Al.out.later HX.out)
                have Ad := Lib.hid (Ad.out.later HX.out)
                have Am := Lib.hid (Am.out.later HX.out)
                have HW1 := Lib.hid (HW1.out.later HX.out)
                have HQ1 := Lib.hid (HQ1.out.later HX.out)
                have HW2 := Lib.hid (HW2.out.later HX.out)
                have HQ2 := Lib.hid (HQ2.out.later HX.out)
                have HO9 := Lib.hid (HO9.out.later HX.out)
                have HX9 := Lib.hid (HX9.out.later HX.out)
                have HZ9 := Lib.hid h1.sl
                clear h5 HX h1
                go_wp2_with fail
                have h9 := S3.same_any x9 z9 (allP l) (allP l) w101 (by have := all_len l; have := HLl.out; omega) (by have := all_len l; have := HLl.out; omega) HX9.out HZ9.out
                rw [show S3.sameB (allP l) (allP l) = true from decide_eq_true rfl] at h9
                refine (h9).mono ?_
                rintro e w102 ⟨rfl, h5⟩
                have HX : Hid (Below w101.heap.size w101 w102) := blThen (by repeat (first | with_reducible exact Below.refl _ _ | with_reducible refine blAlloc ?_ _ | with_reducible refine Below.drew ?_)) h5
                have HB_w102 := Lib.hid (blThen HB_w101.out HX.out)
                have Al := Lib.hid (Al.out.later HX.out)
                have Ad := Lib.hid (Ad.out.later HX.out)
                have Am := Lib.hid (Am.out.later HX.out)
                have HW1 := Lib.hid (HW1.out.later HX.out)
                have HQ1 := Lib.hid (HQ1.out.later HX.out)
                have HW2 := Lib.hid (HW2.out.later HX.out)
                have HQ2 := Lib.hid (HQ2.out.later HX.out)
                have HO9 := Lib.hid (HO9.out.later HX.out)
                have HX9 := Lib.hid (HX9.out.later HX.out)
                have HZ9 := Lib.hid (HZ9.out.later HX.out)
                clear h5 HX h9
                go_wp2_with fail
                refine (live8_any w102).mono ?_
                rintro e w103 ⟨rfl, h5⟩
                have HX : Hid (Below w102.heap.size w102 w103) := blThen (by repeat (first | with_reducible exact Below.refl _ _ | with_reducible refine blAlloc ?_ _ | with_reducible refine Below.drew ?_)) h5
                have HB_w103 := Lib.hid (blThen HB_w102.out HX.out)
                have Al := Lib.hid (Al.out.later HX.out)
                have Ad := Lib.hid (Ad.out.later HX.out)
                have Am := Lib.hid (Am.out.later HX.out)
                have HW1 := Lib.hid (HW1.out.later HX.out)
                have HQ1 := Lib.hid (HQ1.out.later HX.out)
                have HW2 := Lib.hid (HW2.out.later HX.out)
                have HQ2 := Lib.hid (HQ2.out.later HX.out)
                have HO9 := Lib.hid (HO9.out.later HX.out)
                have HX9 := Lib.hid (HX9.out.later HX.out)
                have HZ9 := Lib.hid (HZ9.out.later HX.out)
                clear h5 HX
                go_wp2
                go_ret
                exact ⟨rfl, HB_w103.out⟩

end SP
end Go.Proofs.YtfdkkgjkhamoeaaGreat

/- TxnReads. Conditions: none. -/
set_option linter.unusedVariables false
set_option linter.unusedSimpArgs false
namespace Go.Proofs.YtfdkkgjkhamoeaaGreat
open S3 SN
namespace SP
open Go.ChangeShapes Go.WideShapes Go.ChangeAt Go.RowKit Go.Joins Go.Deep


set_option maxRecDepth 100000 in
theorem txnReads_lifted (os : Os) (started : os.Started) (H : Type) (enc : TypeId × Value → H) :
    ReturnsInHanded {} Tryz.checked os 11 .any (Rows.txnReadsSpec.pre6 enc Tryz.prog Tryz.f11 Rows.txnReadsRow.domain false) (Rows.txnReadsSpec.post enc Tryz.prog Tryz.f11 false true false false) := by
  refine law_lift_sized (C := Tryz.checked) own0 started (by kernel_rfl) Tryz.func11 laid0 rfl (by kernel_rfl) (fun _ _ _ _ => trodAll_mk1 (shut_bool Tryz.underlying4 true)) (fun ds h => match ds, h with | [_, _, _], _ => ⟨rfl, rfl, rfl⟩)
    (ChangeSpec.witness6 (enc := enc) (C := Tryz.checked) false ⟨#[], #[.slice none 0 0, .slice none 0 0, .slice none 0 0], []⟩ 8 (by kernel_rfl) (by kernel_rfl) (by kernel_rfl) (by kernel_rfl)) ?_
  intro W base args ds before hval0 hA0 hlt hsz
  have hval : ∀ (j : Nat) t v, Tryz.f11.params[j]? = some t → args[j]? = some v → Value.okWide Tryz.prog W .any base t v := hval0
  have hA : DataW.TrodAll enc Tryz.prog W 0 (fun _ => true) true Tryz.f11.params.toList args.toList ds before := hA0
  rw [Tryz.params11] at hA hval
  obtain ⟨v0, v1, v2, d0, d1, d2, p0, p1, p2, rfl, rfl, rfl, h0, h1, h2⟩ := trodAll_three hA
  obtain ⟨l, ol, ml, rl⟩ := open_ops (hval 0 22 v0 rfl rfl) h0
  obtain ⟨d, od, md, rd⟩ := open_pairs (hval 1 42 v1 rfl rfl) h1
  obtain ⟨m, om, mm, rm⟩ := open_pairs (hval 2 42 v2 rfl rfl) h2
  exact txnReads_walk v0 l v1 d v2 m W ml (fun o ho => ⟨inW_le8 (rl o ho).2.2.1 hsz (j := 0) (by kernel_rfl) rfl, inW_le8 (rl o ho).2.2.2 hsz (j := 0) (by kernel_rfl) rfl⟩) (fun o ho => (rl o ho).2.1) ol md (fun o ho => inW_le8 (rd o ho).2 hsz (j := 1) (by kernel_rfl) rfl) (fun o ho => (rd o ho).1) od mm (fun o ho => inW_le8 (rm o ho).2 hsz (j := 2) (by kernel_rfl) rfl) (fun o ho => (rm o ho).1) om

theorem txnReads_holds : Rows.TxnReadsSaid :=
  OpenClaim.holds_of_wide 11 Tryz.f11 rfl rfl rfl rfl rfl rfl rfl ⟨rfl, rfl, rfl, rfl, rfl⟩ rfl rfl rfl rfl rfl (by kernel_rfl) Tryz.func11 (by kernel_rfl)
    (of_decide_eq_true (by kernel_rfl)) (by unfold Func.isWrapper; rw [if_neg (of_decide_eq_false (by kernel_rfl))]; exact ⟨rfl, rfl⟩)
    (fun os started H enc _ => txnReads_lifted os started H enc)

#print axioms txnReads_holds

end SP
end Go.Proofs.YtfdkkgjkhamoeaaGreat
