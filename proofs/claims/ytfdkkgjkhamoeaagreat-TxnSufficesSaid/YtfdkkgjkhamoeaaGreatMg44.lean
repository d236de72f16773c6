/- TxnSuffices. Conditions: none. -/
import Derived.WalkSpells
import Derived.Deep.RegionHeld3
import Derived.Test.YtfdkkgjkhamoeaaGreatMg42
import Derived.Test.YtfdkkgjkhamoeaaGreatMg43
import Derived.Test.YtfdkkgjkhamoeaaGreatMg37
import Derived.Test.YtfdkkgjkhamoeaaGreatMg38
/- What the laws of stage 8 share: data that stay small, Eval and Apply as the laws call them, facts of checked ops. Conditions: as each theorem states. -/
set_option linter.unusedVariables false
namespace Go.Proofs.YtfdkkgjkhamoeaaGreat
open S3 SN
namespace SP
open Go.ChangeShapes Go.WideShapes Go.ChangeAt Go.RowKit Go.Joins Go.Deep

theorem smallB_len2 {l : List Opr} {d : Al Nat} (h : smallB l d = true) : l.length ≤ 60 ∧ d.length ≤ 60 := by
  have := of_decide_eq_true h
  exact ⟨this.1, this.2.1⟩
/-- Data that rise, of at most n pairs, with keys of at most a thousand bytes. -/
def Dat (n : Nat) (d : Al Nat) : Prop := RisA d ∧ (∀ p ∈ d, p.1.size ≤ 1000) ∧ d.length ≤ n
theorem dat_of {l : Al Nat} {n : Nat} (h : dataB none l = true) (hl : l.length ≤ n) : Dat n l := by
  obtain ⟨h1, _, h3⟩ := dataB_ris l none h
  exact ⟨h1, fun p hp => Nat.le_trans (key_len (h3 p hp).1) (by decide), hl⟩
theorem do_keys {d : Al Nat} {w : Wrt} {P : ByteArray → Prop} (hd : ∀ p ∈ d, P p.1) (hw : P w.1) : ∀ p ∈ doW d w, P p.1 := by
  intro p hp
  unfold doW at hp
  split at hp
  · exact hd p (List.mem_filter.1 hp).1
  · rcases putA_mem _ _ _ p hp with rfl | hp
    · exact hw
    · exact hd p hp
theorem apply_keys {P : ByteArray → Prop} : ∀ (l : List Wrt) {d : Al Nat}, (∀ p ∈ d, P p.1) → (∀ w ∈ l, P w.1) → ∀ p ∈ applyP d l, P p.1
  | [], _, hd, _ => hd
  | w :: l, d, hd, hl => apply_keys l (do_keys hd (hl w (by simp))) fun x hx => hl x (by simp [hx])
theorem Dat.app {n m : Nat} {d : Al Nat} {l : List Wrt} (h : Dat n d) (hk : ∀ x ∈ l, x.1.size ≤ 1000) (hl : l.length ≤ m) : Dat (n + m) (applyP d l) := by
  refine ⟨ris_apply l h.1, apply_keys (P := fun k => k.size ≤ 1000) l h.2.1 hk, ?_⟩
  have := apply_len l d
  have := h.2.2
  omega
def Okl (l : List Opr) : Prop := l.length ≤ 8 ∧ ∀ o ∈ l, okB o = true
theorem okl_of {l : List Opr} (h : checkP l = 0) : Okl l := ⟨(check_kd h).1, (check_kd h).2.2⟩
theorem Okl.kd {l : List Opr} (h : Okl l) : ∀ o ∈ l, Kd o := fun o ho => (ok_kd (h.2 o ho)).1
theorem Okl.keys {l : List Opr} (h : Okl l) (d : Al Nat) : ∀ x ∈ evalL d l, x.1.size ≤ 1000 := fun x hx => Nat.le_trans (evalL_small l d h.2 x hx) (by decide)
theorem Okl.last {l : List Opr} (h : Okl l) (d : Al Nat) : (∀ x ∈ lastL (evalL d l), x.1.size ≤ 1000) ∧ (lastL (evalL d l)).length ≤ 16 := by
  refine ⟨fun x hx => h.keys d (x.1, x.2) (last_keys hx), ?_⟩
  have := evals_len l d
  have := h.1
  omega
theorem Dat.eval {n : Nat} {d : Al Nat} {l : List Opr} (h : Dat n d) (ho : Okl l) : Dat (n + 16) (evalD d l) := by
  rw [evalD_eq]
  refine h.app (ho.keys d) ?_
  have := evalL_len l d
  have := ho.1
  omega
theorem Dat.last {n : Nat} {d e : Al Nat} {l : List Opr} (h : Dat n d) (ho : Okl l) : Dat (n + 16) (applyP d (lastL (evalL e l))) := h.app (ho.last e).1 (ho.last e).2
theorem inA_len {α : Type} (P : ByteArray → Bool) (d : Al α) : (inA P d).length ≤ d.length := List.length_filter_le _ _
theorem opA_prs (d : Al Nat) (o : Opr) : (opA d o).2.2.length ≤ d.length := by
  unfold opA
  repeat (first | split | exact Nat.zero_le _ | exact inA_len _ _)
theorem evalA_prs : ∀ (l : List Opr) (d : Al Nat), ∀ a ∈ evalA d l, a.2.2.length ≤ d.length + 2 * l.length
  | [], _, a, ha => by simp [evalA] at ha
  | o :: l, d, a, ha => by
    rw [List.length_cons]
    rcases List.mem_cons.1 ha with rfl | ha
    · have := opA_prs d o
      omega
    · have h1 := evalA_prs l _ a ha
      have h2 := apply_len (opW d o) d
      have h3 := opW_len d o
      omega
theorem eval_picked {l : List Opr} {n : Nat} {d : Al Nat} (hd : Dat n d) (ho : Okl l) : Dat n (inA (memL (readsP l)) d) :=
  ⟨risA_in hd.1 _, fun p hp => hd.2.1 p (List.mem_filter.1 hp).1, Nat.le_trans (inA_len _ _) hd.2.2⟩
/-- What Eval comes to, as the laws look at it. -/
def RetE (w : World) (d : Al Nat) (l : List Opr) (e : Ending) (w' : World) : Prop :=
  ∃ v u rs, e = .returned (.tuple #[v, u]) ∧ SlG eW w' v (lastL (evalL d l)) ∧ AnsL w' u rs ∧ FewA rs ∧ rs.map AnR.ans = evalA d l ∧ Below w.heap.size w w'
theorem ev_any (va vs : Value) (l : List Opr) (d : Al Nat) {n : Nat} (w : World) (h : Dat n d) (hn : n ≤ 10000) (ho : Okl l) (hnm : ∀ o ∈ l, o.2.2.2 < 18446744073709551616) (ha : SlG eO w va l) (hs : SlG eP w vs d) : Calls Tryz.prog 35 #[va, vs] w (RetE w d l) := by
  have h3 := h.2.2
  have h4 := ho.1
  refine (eval_any va vs l d w (by omega) (by omega) h.1 (fun p hp => by have := h.2.1 p hp; unfold maxLen; omega) ho.2 hnm ha hs).mono ?_
  rintro e w' ⟨v, u, rs, rfl, h1, h2, h5⟩
  refine ⟨v, u, rs, rfl, h1.sl, anss_list h2, anss_few h2 ?_ ?_, h2.same, h5⟩
  · rw [evalA_length]; omega
  · intro a ha
    have := evalA_prs l d a ha
    omega
def RetA (w : World) (r : Al Nat) (e : Ending) (w' : World) : Prop := ∃ v, e = .returned v ∧ SlG eP w' v r ∧ Below w.heap.size w w'
theorem ap_any (va vs : Value) (d : Al Nat) (l : List Wrt) {n : Nat} (w : World) (h : Dat n d) (hn : n ≤ 10000) (hl : l.length ≤ 1000) (hk : ∀ x ∈ l, x.1.size ≤ 1000) (ha : SlG eP w va d) (hs : SlG eW w vs l) : Calls Tryz.prog 41 #[va, vs] w (RetA w (applyP d l)) := by
  have h3 := h.2.2
  refine (apply_any va vs d l w (by omega) (by omega) h.1 (fun p hp => by have := h.2.1 p hp; unfold maxLen; omega) (fun p hp => by have := hk p hp; unfold maxLen; omega) ha hs).mono ?_
  rintro e w' ⟨v, rfl, h1, h5⟩
  exact ⟨v, rfl, h1.sl, h5⟩
theorem pk_any (va vs : Value) (l : Al Nat) (S : List Sp) {n : Nat} (w : World) (h : Dat n l) (hn : n ≤ 10000) (hS : S.length ≤ 1000000) (hset : IsSet S) (ha : SlG eP w va l) (hs : Sl w vs S) : Calls Tryz.prog 43 #[va, vs] w (RetA w (inA (memL S) l)) := by
  have h3 := h.2.2
  refine (pick_any va vs l S w (by omega) hS hset ha hs).mono ?_
  rintro e w' ⟨v, rfl, h1, h5⟩
  exact ⟨v, rfl, h1.sl, h5⟩
theorem either_evals {a b : List Opr} {d : Al Nat} {n : Nat} (hd : Dat n d) (ha : Okl a) (hb : Okl b) (h : confP a b = false) :
    evalL (evalD d a) b = evalL d b ∧ evalA (evalD d a) b = evalA d b ∧ evalL (evalD d b) a = evalL d a ∧ evalA (evalD d b) a = evalA d a ∧ applyP (evalD d a) (lastL (evalL d b)) = applyP (evalD d b) (lastL (evalL d a)) := by
  have h1 := behind hd.1 hb.kd h
  have h2 := behind hd.1 ha.kd (by rw [conf_comm]; exact h)
  rw [← evalD_eq] at h1 h2
  refine ⟨h1.1, h1.2, h2.1, h2.2, ?_⟩
  rw [apply_last (ris_evalD hd.1 _), apply_last (ris_evalD hd.1 _), evalD_eq, evalD_eq]
  exact either_data hd.1 h
theorem parts_evals {d : Al Nat} {n : Nat} (hd : Dat n d) (l : List Opr) (k : Nat) : evalA d l = evalA d (l.take k) ++ evalA (evalD d (l.take k)) (l.drop k) ∧ applyP d (lastL (evalL d l)) = applyP (evalD d (l.take k)) (lastL (evalL (evalD d (l.take k)) (l.drop k))) := by
  have h1 := evalA_append (l.take k) (l.drop k) d
  have h2 := parts_data hd.1 (l.take k) (l.drop k)
  rw [List.take_append_drop] at h1 h2
  exact ⟨h1, h2⟩
theorem Okl.sub {l m : List Opr} (h : Okl l) (hm : ∀ o ∈ m, o ∈ l) (hl : m.length ≤ l.length) : Okl m := ⟨Nat.le_trans hl h.1, fun o ho => h.2 o (hm o ho)⟩
theorem rs_len {rs : List AnR} {d : Al Nat} {l : List Opr} (h : rs.map AnR.ans = evalA d l) : rs.length = l.length := by
  have := congrArg List.length h
  rwa [List.length_map, evalA_length] at this
theorem few_app {r s : List AnR} (hr : FewA r) (hs : FewA s) (h : r.length + s.length ≤ 1000) : FewA (r ++ s) :=
  ⟨by rw [List.length_append]; exact h, fun x hx => (List.mem_append.1 hx).elim (hr.2 x) (hs.2 x)⟩
theorem ansL_app {w : World} {v u x : Value} {r s : List AnR} (h : SlG eA w v (r ++ s)) (hr : AnsL w u r) (hs : AnsL w x s) : AnsL w v (r ++ s) :=
  ⟨h, fun y hy => (List.mem_append.1 hy).elim (hr.2 y) (hs.2 y)⟩
theorem slG_some {α : Type} {E : Enc α} {w : World} {a : Option Addr} {n c : Nat} {l : List α} (h : SlG E w (.slice a n c) l) (hl : l ≠ []) : ∃ ad, a = some ad := by
  obtain ⟨a', c', hv, _, h2⟩ := h
  obtain ⟨g, o, h3, _⟩ := h2 hl
  cases hv
  exact ⟨_, h3⟩
section
variable {H : Type}
theorem inW_le8 {t : TypeId} {d : DataW H} {k : ByteArray} (h : InW t d k) {ts : List TypeId} {ds : List (DataW H)} (hsz : (DataW.weightsEach Tryz.prog ts ds).all (· ≤ reachBytes) = true) {j : Nat} (ht : ts[j]? = some t) (hd : ds[j]? = some d) : k.size ≤ 140737488355328 := by
  obtain ⟨n, hn, hk⟩ := h
  exact Nat.le_trans hk (reach_of hsz ht hd hn)
end

end SP
end Go.Proofs.YtfdkkgjkhamoeaaGreat

/- TxnSuffices: what Reads picks suffices; nothing is written outside Writes. Conditions: the law's own. -/
set_option linter.unusedVariables false
set_option linter.unusedSimpArgs false
namespace Go.Proofs.YtfdkkgjkhamoeaaGreat
open S3 SN
namespace SP
open Go.ChangeShapes Go.WideShapes Go.ChangeAt Go.RowKit Go.Joins Go.Deep

set_option maxRecDepth 100000 in
set_option maxHeartbeats 16000000 in
theorem txnSuffices_walk (vl : Value) (l : List Opr) (vd : Value) (d : Al Nat) (w : World) (hml : l.length ≤ 9223372036854775807) (hrl : ∀ o ∈ l, o.2.1.size ≤ 140737488355328 ∧ o.2.2.1.size ≤ 140737488355328) (hnl : ∀ o ∈ l, o.2.2.2 < 18446744073709551616) (hl : SlG eO w vl l) (hmd : d.length ≤ 9223372036854775807) (hrd : ∀ p ∈ d, p.1.size ≤ 140737488355328) (hnd : ∀ p ∈ d, p.2 < 18446744073709551616) (hd : SlG eP w vd d) :
    Calls Tryz.prog 6 #[vl, vd] w fun e w' => e = .returned (.bool true) ∧ Below w.heap.size w w' := by
  have Ml := Lib.hid hml
  have Rl := Lib.hid hrl
  have Nl := Lib.hid hnl
  have Al := Lib.hid hl
  have Md := Lib.hid hmd
  have Rd := Lib.hid hrd
  have Nd := Lib.hid hnd
  have Ad := Lib.hid hd
  clear hml hrl hnl hl hmd hrd hnd hd
  go_enter Tryz.func6, Tryz.ntmps6
  obtain ⟨aS, cS, rfl⟩ := Al.out.form
  cases hc1 : smallB l d
  · have HC1 := Lib.hid hc1
    clear hc1
    go_wp2_with fail
    have h9 := small8_any (.slice aS l.length cS) vd l d w Ml.out Md.out Rl.out Rd.out Al.out Ad.out
    rw [HC1.out] at h9
    refine (h9).mono ?_
    rintro e w1 ⟨rfl, h5⟩
    have HX : Hid (Below w.heap.size w w1) := blThen (by repeat (first | with_reducible exact Below.refl _ _ | with_reducible refine blAlloc ?_ _ | with_reducible refine Below.drew ?_)) h5
    have HB_w1 := Lib.hid (HX.out)
    have Al := Lib.hid (Al.out.later HX.out)
    have Ad := Lib.hid (Ad.out.later HX.out)
    clear h5 HX h9
    go_wp2_with fail
    refine (live8_any w1).mono ?_
    rintro e w2 ⟨rfl, h5⟩
    have HX : Hid (Below w1.heap.size w1 w2) := blThen (by repeat (first | with_reducible exact Below.refl _ _ | with_reducible refine blAlloc ?_ _ | with_reducible refine Below.drew ?_)) h5
    have HB_w2 := Lib.hid (blThen HB_w1.out HX.out)
    have Al := Lib.hid (Al.out.later HX.out)
    have Ad := Lib.hid (Ad.out.later HX.out)
    clear h5 HX
    go_wp2
    go_ret
    exact ⟨rfl, HB_w2.out⟩
  · have HC1 := Lib.hid hc1
    clear hc1
    have HB1 := Lib.hid (smallB_len2 HC1.out)
    go_wp2_with fail
    have h9 := small8_any (.slice aS l.length cS) vd l d w Ml.out Md.out Rl.out Rd.out Al.out Ad.out
    rw [HC1.out] at h9
    refine (h9).mono ?_
    rintro e w1 ⟨rfl, h5⟩
    have HX : Hid (Below w.heap.size w w1) := blThen (by repeat (first | with_reducible exact Below.refl _ _ | with_reducible refine blAlloc ?_ _ | with_reducible refine Below.drew ?_)) h5
    have HB_w1 := Lib.hid (HX.out)
    have Al := Lib.hid (Al.out.later HX.out)
    have Ad := Lib.hid (Ad.out.later HX.out)
    clear h5 HX h9
    by_cases hc3 : checkP l = 0
    rotate_left
    · have hb3 : ((checkP l == 0) = false) := by simpa using hc3
      have hd3 : ((checkP l != 0) = true) := by simpa using hc3
      go_wp2_with fail
      have h9 := check8_any (.slice aS l.length cS) l w1 (by have := HB1.out; omega) Al.out
      refine (h9).mono ?_
      rintro e w2 ⟨rfl, h5⟩
      have HX : Hid (Below w1.heap.size w1 w2) := blThen (by repeat (first | with_reducible exact Below.refl _ _ | with_reducible refine blAlloc ?_ _ | with_reducible refine Below.drew ?_)) h5
      have HB_w2 := Lib.hid (blThen HB_w1.out HX.out)
      have Al := Lib.hid (Al.out.later HX.out)
      have Ad := Lib.hid (Ad.out.later HX.out)
      clear h5 HX h9
      go_wp2_with fail
      refine (num8_any _ w2).mono ?_
      rintro e wq ⟨rfl, rfl⟩
      go_wp2_with fail
      refine (live8_any w2).mono ?_
      rintro e w3 ⟨rfl, h5⟩
      have HX : Hid (Below w2.heap.size w2 w3) := blThen (by repeat (first | with_reducible exact Below.refl _ _ | with_reducible refine blAlloc ?_ _ | with_reducible refine Below.drew ?_)) h5
      have HB_w3 := Lib.hid (blThen HB_w2.out HX.out)
      have Al := Lib.hid (Al.out.later HX.out)
      have Ad := Lib.hid (Ad.out.later HX.out)
      clear h5 HX
      go_wp2
      go_ret
      exact ⟨rfl, HB_w3.out⟩
    · have HC3 := Lib.hid hc3
      clear hc3
      have HO3 := Lib.hid (okl_of HC3.out)
      go_wp2_with fail
      have h9 := check8_any (.slice aS l.length cS) l w1 (by have := HB1.out; omega) Al.out
      rw [HC3.out] at h9
      refine (h9).mono ?_
      rintro e w2 ⟨rfl, h5⟩
      have HX : Hid (Below w1.heap.size w1 w2) := blThen (by repeat (first | with_reducible exact Below.refl _ _ | with_reducible refine blAlloc ?_ _ | with_reducible refine Below.drew ?_)) h5
      have HB_w2 := Lib.hid (blThen HB_w1.out HX.out)
      have Al := Lib.hid (Al.out.later HX.out)
      have Ad := Lib.hid (Ad.out.later HX.out)
      clear h5 HX h9
      go_wp2_with fail
      refine (num8_any _ w2).mono ?_
      rintro e wq ⟨rfl, rfl⟩
      cases hc5 : dataB none d
      · have HC5 := Lib.hid hc5
        clear hc5
        go_wp2_with fail
        have h9 := rdata_any vd d w2 (show d.length ≤ 1000000 by have := HB1.out; omega) Nd.out Ad.out
        rw [HC5.out] at h9
        refine (h9).mono ?_
        rintro e w3 ⟨rfl, h5⟩
        have HX : Hid (Below w2.heap.size w2 w3) := blThen (by repeat (first | with_reducible exact Below.refl _ _ | with_reducible refine blAlloc ?_ _ | with_reducible refine Below.drew ?_)) h5
        have HB_w3 := Lib.hid (blThen HB_w2.out HX.out)
        have Al := Lib.hid (Al.out.later HX.out)
        have Ad := Lib.hid (Ad.out.later HX.out)
        clear h5 HX h9
        go_wp2_with fail
        refine (live8_any w3).mono ?_
        rintro e w4 ⟨rfl, h5⟩
        have HX : Hid (Below w3.heap.size w3 w4) := blThen (by repeat (first | with_reducible exact Below.refl _ _ | with_reducible refine blAlloc ?_ _ | with_reducible refine Below.drew ?_)) h5
        have HB_w4 := Lib.hid (blThen HB_w3.out HX.out)
        have Al := Lib.hid (Al.out.later HX.out)
        have Ad := Lib.hid (Ad.out.later HX.out)
        clear h5 HX
        go_wp2
        go_ret
        exact ⟨rfl, HB_w4.out⟩
      · have HC5 := Lib.hid hc5
        clear hc5
        have HD5 : Hid (Dat 60 d) := Lib.hid (dat_of HC5.out (show d.length ≤ 60 by have := HB1.out; omega))
        go_wp2_with fail
        have h9 := rdata_any vd d w2 (show d.length ≤ 1000000 by have := HB1.out; omega) Nd.out Ad.out
        rw [HC5.out] at h9
        refine (h9).mono ?_
        rintro e w3 ⟨rfl, h5⟩
        have HX : Hid (Below w2.heap.size w2 w3) := blThen (by repeat (first | with_reducible exact Below.refl _ _ | with_reducible refine blAlloc ?_ _ | with_reducible refine Below.drew ?_)) h5
        have HB_w3 := Lib.hid (blThen HB_w2.out HX.out)
        have Al := Lib.hid (Al.out.later HX.out)
        have Ad := Lib.hid (Ad.out.later HX.out)
        clear h5 HX h9
        have HLl : Hid (l.length ≤ 8) := Lib.hid HO3.out.1
        have HDT : Hid (Dat 60 d) := HD5
        have HDP : Hid (Dat 60 (inA (memL (readsP l)) d)) := Lib.hid (eval_picked HDT.out HO3.out)
        have HPK := Lib.hid (picked HDT.out.1 HO3.out.kd)
        go_wp2_with fail
        refine (ev_any _ vd l d w3 HDT.out (by omega) HO3.out Nl.out Al.out Ad.out).mono ?_
        rintro e w4 ⟨v1, u1, r1, rfl, h1, h2, h3, h4, h5⟩
        have HX : Hid (Below w3.heap.size w3 w4) := blThen (by repeat (first | with_reducible exact Below.refl _ _ | with_reducible refine blAlloc ?_ _ | with_reducible refine Below.drew ?_)) h5
        have HB_w4 := Lib.hid (blThen HB_w3.out HX.out)
        have Al := Lib.hid (Al.out.later HX.out)
        have Ad := Lib.hid (Ad.out.later HX.out)
        have HW1 := Lib.hid h1
        have HQ1 := Lib.hid h2
        have HF1 := Lib.hid h3
        have HS1 := Lib.hid h4
        clear h5 HX h1 h2 h3 h4
        go_wp2_with fail
        refine (treads_any _ l w4 (by have := HLl.out; omega) HO3.out.2 Al.out).mono ?_
        rintro e w5 ⟨x4, rfl, h1, h5⟩
        have HX : Hid (Below w4.heap.size w4 w5) := blThen (by repeat (first | with_reducible exact Below.refl _ _ | with_reducible refine blAlloc ?_ _ | with_reducible refine Below.drew ?_)) h5
        have HB_w5 := Lib.hid (blThen HB_w4.out HX.out)
        have Al := Lib.hid (Al.out.later HX.out)
        have Ad := Lib.hid (Ad.out.later HX.out)
        have HW1 := Lib.hid (HW1.out.later HX.out)
        have HQ1 := Lib.hid (HQ1.out.later HX.out)
        have HR4 := Lib.hid h1.sl
        clear h5 HX h1
        go_wp2_with fail
        refine (pk_any vd x4 d (readsP l) w5 HDT.out (by omega) (by have := reads_len l; have := HLl.out; omega) (reads_set l) Ad.out HR4.out).mono ?_
        rintro e w6 ⟨p4, rfl, h1, h5⟩
        have HX : Hid (Below w5.heap.size w5 w6) := blThen (by repeat (first | with_reducible exact Below.refl _ _ | with_reducible refine blAlloc ?_ _ | with_reducible refine Below.drew ?_)) h5
        have HB_w6 := Lib.hid (blThen HB_w5.out HX.out)
        have Al := Lib.hid (Al.out.later HX.out)
        have Ad := Lib.hid (Ad.out.later HX.out)
        have HW1 := Lib.hid (HW1.out.later HX.out)
        have HQ1 := Lib.hid (HQ1.out.later HX.out)
        have HR4 := Lib.hid (HR4.out.later HX.out)
        have HP4 := Lib.hid h1
        clear h5 HX h1
        go_wp2_with fail
        refine (ev_any _ p4 l (inA (memL (readsP l)) d) w6 HDP.out (by omega) HO3.out Nl.out Al.out HP4.out).mono ?_
        rintro e w7 ⟨v2, u2, r2, rfl, h1, h2, h3, h4, h5⟩
        rw [HPK.out.1] at h1
        rw [HPK.out.2] at h4
        have HX : Hid (Below w6.heap.size w6 w7) := blThen (by repeat (first | with_reducible exact Below.refl _ _ | with_reducible refine blAlloc ?_ _ | with_reducible refine Below.drew ?_)) h5
        have HB_w7 := Lib.hid (blThen HB_w6.out HX.out)
        have Al := Lib.hid (Al.out.later HX.out)
        have Ad := Lib.hid (Ad.out.later HX.out)
        have HW1 := Lib.hid (HW1.out.later HX.out)
        have HQ1 := Lib.hid (HQ1.out.later HX.out)
        have HP4 := Lib.hid (HP4.out.later HX.out)
        have HW2 := Lib.hid h1
        have HQ2 := Lib.hid h2
        have HF2 := Lib.hid h3
        have HS2 := Lib.hid h4
        clear h5 HX h1 h2 h3 h4
        go_wp2_with fail
        refine (twrites_any _ l w7 (by have := HLl.out; omega) HO3.out.2 Al.out).mono ?_
        rintro e w8 ⟨x5, rfl, h1, h5⟩
        have HX : Hid (Below w7.heap.size w7 w8) := blThen (by repeat (first | with_reducible exact Below.refl _ _ | with_reducible refine blAlloc ?_ _ | with_reducible refine Below.drew ?_)) h5
        have HB_w8 := Lib.hid (blThen HB_w7.out HX.out)
        have Al := Lib.hid (Al.out.later HX.out)
        have Ad := Lib.hid (Ad.out.later HX.out)
        have HW1 := Lib.hid (HW1.out.later HX.out)
        have HQ1 := Lib.hid (HQ1.out.later HX.out)
        have HW2 := Lib.hid (HW2.out.later HX.out)
        have HQ2 := Lib.hid (HQ2.out.later HX.out)
        have HT := Lib.hid h1.sl
        clear h5 HX h1
        obtain ⟨a1, c1, rfl⟩ := HW1.out.form
        obtain ⟨b1, d1, rfl⟩ := HQ1.out.1.form
        have hrl := rs_len HS1.out
        have hrd : ((r1.length : Int) == (l.length : Int)) = true := by simp [hrl]
        clear hrl
        have HRL : Hid (RisA (lastL (evalL d l))) := Lib.hid (ris_last _)
        have HIL : Hid (∀ x ∈ lastL (evalL d l), memL (writesP l) x.1 = true) := Lib.hid fun x hx => evalL_keys l d (x.1, x.2) (last_keys hx)
        have HWN : Hid ((lastL (evalL d l)).length ≤ 16) := Lib.hid (HO3.out.last d).2
        generalize lastL (evalL d l) = ww at *
        go_wp2
        go_loopw [10] (fun i wr => ∃ k : Nat, k ≤ ww.length ∧ i = .int .i64 k ∧ Below w8.heap.size w8 wr) (fun i _ => ww.length - (intOf i).toNat)
        case atStart => exact ⟨0, Nat.zero_le _, rfl, Below.refl _ _⟩
        case round =>
          obtain ⟨k, hk, rfl, hb⟩ := hrel
          have HBW := Lib.hid hb
          by_cases hlt : k < ww.length
          · obtain ⟨x, hx⟩ := at_lt hlt
            have HIN := Lib.hid (HIL.out x (List.mem_of_getElem? hx))
            have HTr := Lib.hid (HT.out.later hb)
            have HAr := Lib.hid (HW1.out.later hb)
            obtain ⟨g, o, e1, hg, c0, _, _⟩ := wrs_at HAr.out hx
            subst e1
            have hk0 : (0 : Int) ≤ (k : Int) := by omega
            have hkl : (k : Int) < (ww.length : Int) := by omega
            have hdk : decide ((k : Int) < (ww.length : Int)) = true := decide_eq_true hkl
            have hk16 : k < 16 := by have := HWN.out; omega
            have K3 := Lib.hid (fun (Y : World) (hY : Below wr.heap.size wr Y) => (cell_in hY hg c0 : Y.cell? ⟨g, o + k * 3, none⟩ = some (.string x.1)))
            by_cases h0 : 0 < k
            · obtain ⟨y, hy⟩ := at_lt (l := ww) (k := k - 1) (by omega)
              obtain ⟨g2, o2, e2, _, cq, _, _⟩ := wrs_at HAr.out hy
              cases e2
              have h0I : (0 : Int) < (k : Int) := by omega
              have h0d : decide ((0 : Int) < (k : Int)) = true := decide_eq_true h0I
              have hm1 : wrap64 ((k : Int) - 1) = ((k - 1 : Nat) : Int) := by unfold wrap64; omega
              have hm0 : IntKind.i64.wrap ((k : Int) - 1) = ((k - 1 : Nat) : Int) := by rw [IntKind.wrap_i64]; omega
              have hm2 : (0 : Int) ≤ ((k - 1 : Nat) : Int) := by omega
              have hm3 : ((k - 1 : Nat) : Int) < (ww.length : Int) := by omega
              have hL : ltT y.1 x.1 = true := by
                obtain ⟨q1, z1⟩ := List.getElem?_eq_some_iff.1 hx
                obtain ⟨q2, z2⟩ := List.getElem?_eq_some_iff.1 hy
                have h := List.pairwise_iff_getElem.1 HRL.out (k - 1) k q2 q1 (by omega)
                rwa [z1, z2] at h
              have t4 : Op.bytesLess x.1.toList y.1.toList = false := lt_asymm hL
              have t5 : (x.1.toList == y.1.toList) = false := by
                rw [beq_eq_false_iff_ne]
                intro e
                exact lt_ne hL (text_ext e).symm
              have K4 := Lib.hid (fun (Y : World) (hY : Below wr.heap.size wr Y) => (⟨cell_in hY hg c0, cell_in hY hg cq⟩ : Y.cell? ⟨g, o + k * 3, none⟩ = some (.string x.1) ∧ Y.cell? ⟨g, o + (k - 1) * 3, none⟩ = some (.string y.1)))
              clear c0 cq hx hy hb HAr hL
              go_wp2_with fail
              refine wp_region_held_drew (S := fun Y => Y.cell? ⟨g, o + k * 3, none⟩ = some (.string x.1) ∧ Y.cell? ⟨g, o + (k - 1) * 3, none⟩ = some (.string y.1)) (by kernel_rfl) (K4.out _ (Below.refl wr.heap.size wr).drew) (fun hHeld => ?_)
              refine wpAnyH_take (i := 0) (oi := { dst := some 50, op := Op.move (Operand.tmp 9), type := 40, pos := "law.go:89", after := #[], guard := none }) (v := ?_) rfl (by kernel_rfl) (by kernel_rfl) (by kernel_rfl) (fun _ _ _ h => h) (Or.inl ⟨by rfl, ?_⟩) (by assumption) ?_
              rotate_left
              · intro w hSw
                try dsimp only at hSw
                go_simp
                try with_reducible rfl
              try simp only [Act.put, List.setIfInBounds_toArray, List.set_cons_zero, List.set_cons_succ]
              refine wpAnyH_take (i := 1) (oi := { dst := some 51, op := Op.move (Operand.tmp 5), type := 45, pos := "law.go:89", after := #[], guard := none }) (v := ?_) rfl (by kernel_rfl) (by kernel_rfl) (by kernel_rfl) (fun _ _ _ h => h) (Or.inl ⟨by rfl, ?_⟩) (by assumption) ?_
              rotate_left
              · intro w hSw
                try dsimp only at hSw
                go_simp
                try with_reducible rfl
              try simp only [Act.put, List.setIfInBounds_toArray, List.set_cons_zero, List.set_cons_succ]
              refine wpAnyH_take (i := 2) (oi := { dst := some 52, op := Op.move (Operand.tmp 10), type := 3, pos := "law.go:89", after := #[], guard := none }) (v := ?_) rfl (by kernel_rfl) (by kernel_rfl) (by kernel_rfl) (fun _ _ _ h => h) (Or.inl ⟨by rfl, ?_⟩) (by assumption) ?_
              rotate_left
              · intro w hSw
                try dsimp only at hSw
                go_simp
                try with_reducible rfl
              try simp only [Act.put, List.setIfInBounds_toArray, List.set_cons_zero, List.set_cons_succ]
              refine wpAnyH_take (i := 3) (oi := { dst := some 53, op := Op.indexAddr 45 (Operand.tmp 51) (Operand.tmp 52), type := 0, pos := "law.go:89", after := #[{ on := 1, ground := Ground.data }, { on := 2, ground := Ground.data }], guard := none }) (v := ?_) rfl (by kernel_rfl) (by kernel_rfl) (by kernel_rfl) (fun _ _ _ h => h) (Or.inl ⟨by rfl, ?_⟩) (by assumption) ?_
              rotate_left
              · intro w hSw
                try dsimp only at hSw
                go_simp
                try with_reducible rfl
              try simp only [Act.put, List.setIfInBounds_toArray, List.set_cons_zero, List.set_cons_succ]
              refine wpAnyH_take (i := 4) (oi := { dst := some 54, op := Op.fieldAddr 61 (Operand.tmp 53) 0, type := 0, pos := "law.go:89", after := #[{ on := 3, ground := Ground.data }], guard := none }) (v := ?_) rfl (by kernel_rfl) (by kernel_rfl) (by kernel_rfl) (fun _ _ _ h => h) (Or.inl ⟨by rfl, ?_⟩) (by assumption) ?_
              rotate_left
              · intro w hSw
                try dsimp only at hSw
                go_simp
                try with_reducible rfl
              try simp only [Act.put, List.setIfInBounds_toArray, List.set_cons_zero, List.set_cons_succ]
              refine wpAnyH_take (i := 5) (oi := { dst := some 55, op := Op.load 9 (Operand.tmp 54), type := 9, pos := "law.go:89", after := #[{ on := 4, ground := Ground.data }], guard := none }) (v := ?_) rfl (by kernel_rfl) (by kernel_rfl) (by kernel_rfl) (fun _ _ _ h => h) (Or.inl ⟨by rfl, ?_⟩) (by assumption) ?_
              rotate_left
              · intro w hSw
                try dsimp only at hSw
                go_simp
                try with_reducible rfl
              try simp only [Act.put, List.setIfInBounds_toArray, List.set_cons_zero, List.set_cons_succ]
              refine wpAnyH_ready (rs := [6]) (by kernel_rfl) (by simp) ?_
              refine AllReadyH.cons (o := { dst := some 56, op := Op.call { callee := Callee.value (Operand.func 45), args := #[Operand.tmp 50, Operand.tmp 55], argTypes := #[40, 9] }, type := 4, pos := "law.go:89", after := #[{ on := 0, ground := Ground.data }, { on := 5, ground := Ground.data }], guard := none }) rfl (fun K hK => ?_) ?_
              rotate_left
              · exact AllReadyH.nil
              go_simp
              go_at_call 45
              refine (refhas_any x5 (writesP l) x.1 _ (by have := writes_len l; have := HLl.out; omega) (HTr.out.later (by repeat (first | with_reducible exact Below.refl _ _ | with_reducible refine Below.drew ?_)))).mono ?_
              rw [HIN.out]
              rintro e y9 ⟨rfl, h5⟩
              have HB9 : Hid (Below wr.heap.size wr y9) := Lib.hid (blThen (by repeat (first | with_reducible exact Below.refl _ _ | with_reducible refine Below.drew ?_)) h5)
              clear h5
              refine hK.out _ _ (K4.out _ HB9.out) (fun hHeld => ?_)
              clear hK K
              try simp only [Act.put, List.setIfInBounds_toArray, List.set_cons_zero, List.set_cons_succ]
              refine wpAnyH_take (i := 7) (oi := { dst := some 57, op := Op.unOp UnOp.not 4 (Operand.tmp 56), type := 4, pos := "law.go:89", after := #[{ on := 6, ground := Ground.data }], guard := none }) (v := ?_) rfl (by kernel_rfl) (by kernel_rfl) (by kernel_rfl) (fun _ _ _ h => h) (Or.inl ⟨by rfl, ?_⟩) (by assumption) ?_
              rotate_left
              · intro w hSw
                try dsimp only at hSw
                go_simp
                try with_reducible rfl
              try simp only [Act.put, List.setIfInBounds_toArray, List.set_cons_zero, List.set_cons_succ]
              refine wpAnyH_take (i := 8) (oi := { dst := some 58, op := Op.move (Operand.tmp 57), type := 4, pos := "law.go:89", after := #[{ on := 7, ground := Ground.data }, { on := 6, ground := Ground.chain }], guard := none }) (v := ?_) rfl (by kernel_rfl) (by kernel_rfl) (by kernel_rfl) (fun _ _ _ h => h) (Or.inl ⟨by rfl, ?_⟩) (by assumption) ?_
              rotate_left
              · intro w hSw
                try dsimp only at hSw
                go_simp
                try with_reducible rfl
              try simp only [Act.put, List.setIfInBounds_toArray, List.set_cons_zero, List.set_cons_succ]
              refine wpAnyH_take (i := 9) (oi := { dst := some 59, op := Op.move (Operand.tmp 10), type := 3, pos := "law.go:89", after := #[{ on := 8, ground := Ground.guard }], guard := some (8, false) }) (v := ?_) rfl (by kernel_rfl) (by kernel_rfl) (by kernel_rfl) (fun _ _ _ h => h) (Or.inl ⟨by rfl, ?_⟩) (by assumption) ?_
              rotate_left
              · intro w hSw
                try dsimp only at hSw
                go_simp
                try with_reducible rfl
              try simp only [Act.put, List.setIfInBounds_toArray, List.set_cons_zero, List.set_cons_succ]
              refine wpAnyH_take (i := 10) (oi := { dst := some 60, op := Op.binOp BinOp.gtr 3 (Operand.tmp 59) (Operand.const (Value.int IntKind.i64 0)) 3, type := 4, pos := "law.go:89", after := #[{ on := 9, ground := Ground.data }, { on := 8, ground := Ground.guard }], guard := some (8, false) }) (v := ?_) rfl (by kernel_rfl) (by kernel_rfl) (by kernel_rfl) (fun _ _ _ h => h) (Or.inl ⟨by rfl, ?_⟩) (by assumption) ?_
              rotate_left
              · intro w hSw
                try dsimp only at hSw
                go_simp
                try with_reducible rfl
              try simp only [Act.put, List.setIfInBounds_toArray, List.set_cons_zero, List.set_cons_succ]
              refine wpAnyH_take (i := 11) (oi := { dst := some 61, op := Op.move (Operand.tmp 60), type := 4, pos := "law.go:89", after := #[{ on := 10, ground := Ground.data }, { on := 8, ground := Ground.chain }, { on := 8, ground := Ground.guard }], guard := some (8, false) }) (v := ?_) rfl (by kernel_rfl) (by kernel_rfl) (by kernel_rfl) (fun _ _ _ h => h) (Or.inl ⟨by rfl, ?_⟩) (by assumption) ?_
              rotate_left
              · intro w hSw
                try dsimp only at hSw
                go_simp
                try with_reducible rfl
              try simp only [Act.put, List.setIfInBounds_toArray, List.set_cons_zero, List.set_cons_succ]
              refine wpAnyH_take (i := 12) (oi := { dst := some 62, op := Op.move (Operand.tmp 5), type := 45, pos := "law.go:89", after := #[{ on := 11, ground := Ground.guard }], guard := some (11, true) }) (v := ?_) rfl (by kernel_rfl) (by kernel_rfl) (by kernel_rfl) (fun _ _ _ h => h) (Or.inl ⟨by rfl, ?_⟩) (by assumption) ?_
              rotate_left
              · intro w hSw
                try dsimp only at hSw
                go_simp
                try with_reducible rfl
              try simp only [Act.put, List.setIfInBounds_toArray, List.set_cons_zero, List.set_cons_succ]
              refine wpAnyH_take (i := 13) (oi := { dst := some 63, op := Op.move (Operand.tmp 10), type := 3, pos := "law.go:89", after := #[{ on := 11, ground := Ground.guard }], guard := some (11, true) }) (v := ?_) rfl (by kernel_rfl) (by kernel_rfl) (by kernel_rfl) (fun _ _ _ h => h) (Or.inl ⟨by rfl, ?_⟩) (by assumption) ?_
              rotate_left
              · intro w hSw
                try dsimp only at hSw
                go_simp
                try with_reducible rfl
              try simp only [Act.put, List.setIfInBounds_toArray, List.set_cons_zero, List.set_cons_succ]
              refine wpAnyH_take (i := 14) (oi := { dst := some 64, op := Op.indexAddr 45 (Operand.tmp 62) (Operand.tmp 63), type := 0, pos := "law.go:89", after := #[{ on := 12, ground := Ground.data }, { on := 13, ground := Ground.data }, { on := 11, ground := Ground.guard }], guard := some (11, true) }) (v := ?_) rfl (by kernel_rfl) (by kernel_rfl) (by kernel_rfl) (fun _ _ _ h => h) (Or.inl ⟨by rfl, ?_⟩) (by assumption) ?_
              rotate_left
              · intro w hSw
                try dsimp only at hSw
                go_simp
                try with_reducible rfl
              try simp only [Act.put, List.setIfInBounds_toArray, List.set_cons_zero, List.set_cons_succ]
              refine wpAnyH_take (i := 15) (oi := { dst := some 65, op := Op.fieldAddr 61 (Operand.tmp 64) 0, type := 0, pos := "law.go:89", after := #[{ on := 14, ground := Ground.data }, { on := 11, ground := Ground.guard }], guard := some (11, true) }) (v := ?_) rfl (by kernel_rfl) (by kernel_rfl) (by kernel_rfl) (fun _ _ _ h => h) (Or.inl ⟨by rfl, ?_⟩) (by assumption) ?_
              rotate_left
              · intro w hSw
                try dsimp only at hSw
                go_simp
                try with_reducible rfl
              try simp only [Act.put, List.setIfInBounds_toArray, List.set_cons_zero, List.set_cons_succ]
              refine wpAnyH_take (i := 16) (oi := { dst := some 66, op := Op.load 9 (Operand.tmp 65), type := 9, pos := "law.go:89", after := #[{ on := 15, ground := Ground.data }, { on := 11, ground := Ground.guard }], guard := some (11, true) }) (v := ?_) rfl (by kernel_rfl) (by kernel_rfl) (by kernel_rfl) (fun _ _ _ h => h) (Or.inl ⟨by rfl, ?_⟩) (by assumption) ?_
              rotate_left
              · intro w hSw
                try dsimp only at hSw
                go_simp
                try with_reducible rfl
              try simp only [Act.put, List.setIfInBounds_toArray, List.set_cons_zero, List.set_cons_succ]
              refine wpAnyH_take (i := 17) (oi := { dst := some 67, op := Op.move (Operand.tmp 5), type := 45, pos := "law.go:89", after := #[{ on := 11, ground := Ground.guard }], guard := some (11, true) }) (v := ?_) rfl (by kernel_rfl) (by kernel_rfl) (by kernel_rfl) (fun _ _ _ h => h) (Or.inl ⟨by rfl, ?_⟩) (by assumption) ?_
              rotate_left
              · intro w hSw
                try dsimp only at hSw
                go_simp
                try with_reducible rfl
              try simp only [Act.put, List.setIfInBounds_toArray, List.set_cons_zero, List.set_cons_succ]
              refine wpAnyH_take (i := 18) (oi := { dst := some 68, op := Op.move (Operand.tmp 10), type := 3, pos := "law.go:89", after := #[{ on := 11, ground := Ground.guard }], guard := some (11, true) }) (v := ?_) rfl (by kernel_rfl) (by kernel_rfl) (by kernel_rfl) (fun _ _ _ h => h) (Or.inl ⟨by rfl, ?_⟩) (by assumption) ?_
              rotate_left
              · intro w hSw
                try dsimp only at hSw
                go_simp
                try with_reducible rfl
              try simp only [Act.put, List.setIfInBounds_toArray, List.set_cons_zero, List.set_cons_succ]
              refine wpAnyH_take (i := 19) (oi := { dst := some 69, op := Op.binOp BinOp.sub 3 (Operand.tmp 68) (Operand.const (Value.int IntKind.i64 1)) 3, type := 3, pos := "law.go:89", after := #[{ on := 18, ground := Ground.data }, { on := 11, ground := Ground.guard }], guard := some (11, true) }) (v := ?_) rfl (by kernel_rfl) (by kernel_rfl) (by kernel_rfl) (fun _ _ _ h => h) (Or.inl ⟨by rfl, ?_⟩) (by assumption) ?_
              rotate_left
              · intro w hSw
                try dsimp only at hSw
                go_simp
                try with_reducible rfl
              try simp only [Act.put, List.setIfInBounds_toArray, List.set_cons_zero, List.set_cons_succ]
              refine wpAnyH_take (i := 20) (oi := { dst := some 70, op := Op.indexAddr 45 (Operand.tmp 67) (Operand.tmp 69), type := 0, pos := "law.go:89", after := #[{ on := 17, ground := Ground.data }, { on := 19, ground := Ground.data }, { on := 11, ground := Ground.guard }], guard := some (11, true) }) (v := ?_) rfl (by kernel_rfl) (by kernel_rfl) (by kernel_rfl) (fun _ _ _ h => h) (Or.inl ⟨by rfl, ?_⟩) (by assumption) ?_
              rotate_left
              · intro w hSw
                try dsimp only at hSw
                go_simp
                try with_reducible rfl
              try simp only [Act.put, List.setIfInBounds_toArray, List.set_cons_zero, List.set_cons_succ]
              refine wpAnyH_take (i := 21) (oi := { dst := some 71, op := Op.fieldAddr 61 (Operand.tmp 70) 0, type := 0, pos := "law.go:89", after := #[{ on := 20, ground := Ground.data }, { on := 11, ground := Ground.guard }], guard := some (11, true) }) (v := ?_) rfl (by kernel_rfl) (by kernel_rfl) (by kernel_rfl) (fun _ _ _ h => h) (Or.inl ⟨by rfl, ?_⟩) (by assumption) ?_
              rotate_left
              · intro w hSw
                try dsimp only at hSw
                go_simp
                try with_reducible rfl
              try simp only [Act.put, List.setIfInBounds_toArray, List.set_cons_zero, List.set_cons_succ]
              refine wpAnyH_take (i := 22) (oi := { dst := some 72, op := Op.load 9 (Operand.tmp 71), type := 9, pos := "law.go:89", after := #[{ on := 21, ground := Ground.data }, { on := 11, ground := Ground.guard }], guard := some (11, true) }) (v := ?_) rfl (by kernel_rfl) (by kernel_rfl) (by kernel_rfl) (fun _ _ _ h => h) (Or.inl ⟨by rfl, ?_⟩) (by assumption) ?_
              rotate_left
              · intro w hSw
                try dsimp only at hSw
                go_simp
                try with_reducible rfl
              try simp only [Act.put, List.setIfInBounds_toArray, List.set_cons_zero, List.set_cons_succ]
              refine wpAnyH_take (i := 23) (oi := { dst := some 73, op := Op.binOp BinOp.leq 9 (Operand.tmp 66) (Operand.tmp 72) 9, type := 4, pos := "law.go:89", after := #[{ on := 16, ground := Ground.data }, { on := 22, ground := Ground.data }, { on := 11, ground := Ground.guard }], guard := some (11, true) }) (v := ?_) rfl (by kernel_rfl) (by kernel_rfl) (by kernel_rfl) (fun _ _ _ h => h) (Or.inl ⟨by rfl, ?_⟩) (by assumption) ?_
              rotate_left
              · intro w hSw
                try dsimp only at hSw
                go_simp
                try with_reducible rfl
              try simp only [Act.put, List.setIfInBounds_toArray, List.set_cons_zero, List.set_cons_succ]
              refine wpAnyH_take (i := 24) (oi := { dst := some 74, op := Op.pick (Operand.tmp 61) (Operand.tmp 73) (Operand.const (Value.bool false)), type := 4, pos := "law.go:89", after := #[{ on := 11, ground := Ground.data }, { on := 23, ground := Ground.data }, { on := 8, ground := Ground.guard }], guard := some (8, false) }) (v := ?_) rfl (by kernel_rfl) (by kernel_rfl) (by kernel_rfl) (fun _ _ _ h => h) (Or.inl ⟨by rfl, ?_⟩) (by assumption) ?_
              rotate_left
              · intro w hSw
                try dsimp only at hSw
                go_simp
                try with_reducible rfl
              try simp only [Act.put, List.setIfInBounds_toArray, List.set_cons_zero, List.set_cons_succ]
              refine wpAnyH_take (i := 25) (oi := { dst := some 75, op := Op.pick (Operand.tmp 58) (Operand.const (Value.bool true)) (Operand.tmp 74), type := 4, pos := "law.go:89", after := #[{ on := 8, ground := Ground.data }, { on := 24, ground := Ground.data }], guard := none }) (v := ?_) rfl (by kernel_rfl) (by kernel_rfl) (by kernel_rfl) (fun _ _ _ h => h) (Or.inl ⟨by rfl, ?_⟩) (by assumption) ?_
              rotate_left
              · intro w hSw
                try dsimp only at hSw
                go_simp
                try with_reducible rfl
              try simp only [Act.put, List.setIfInBounds_toArray, List.set_cons_zero, List.set_cons_succ]
              refine wpAnyH_done (by kernel_rfl) ?_ _
              go_wp2
              go_roundw
              case rel => exact ⟨k + 1, hlt, by go_num, blThen HBW.out HB9.out⟩
              case measure => simp [intOf]; omega
            · obtain rfl : k = 0 := by omega
              have h0d : decide ((0 : Int) < ((0 : Nat) : Int)) = false := rfl
              clear c0 hx hb HAr h0
              simp only [Nat.zero_mul, Nat.add_zero] at K3
              go_wp2_with fail
              refine wp_region_held_drew (S := fun Y => Y.cell? ⟨g, o, none⟩ = some (.string x.1)) (by kernel_rfl) (K3.out _ (Below.refl wr.heap.size wr).drew) (fun hHeld => ?_)
              refine wpAnyH_take (i := 0) (oi := { dst := some 50, op := Op.move (Operand.tmp 9), type := 40, pos := "law.go:89", after := #[], guard := none }) (v := ?_) rfl (by kernel_rfl) (by kernel_rfl) (by kernel_rfl) (fun _ _ _ h => h) (Or.inl ⟨by rfl, ?_⟩) (by assumption) ?_
              rotate_left
              · intro w hSw
                try dsimp only at hSw
                go_simp
                try with_reducible rfl
              try simp only [Act.put, List.setIfInBounds_toArray, List.set_cons_zero, List.set_cons_succ]
              refine wpAnyH_take (i := 1) (oi := { dst := some 51, op := Op.move (Operand.tmp 5), type := 45, pos := "law.go:89", after := #[], guard := none }) (v := ?_) rfl (by kernel_rfl) (by kernel_rfl) (by kernel_rfl) (fun _ _ _ h => h) (Or.inl ⟨by rfl, ?_⟩) (by assumption) ?_
              rotate_left
              · intro w hSw
                try dsimp only at hSw
                go_simp
                try with_reducible rfl
              try simp only [Act.put, List.setIfInBounds_toArray, List.set_cons_zero, List.set_cons_succ]
              refine wpAnyH_take (i := 2) (oi := { dst := some 52, op := Op.move (Operand.tmp 10), type := 3, pos := "law.go:89", after := #[], guard := none }) (v := ?_) rfl (by kernel_rfl) (by kernel_rfl) (by kernel_rfl) (fun _ _ _ h => h) (Or.inl ⟨by rfl, ?_⟩) (by assumption) ?_
              rotate_left
              · intro w hSw
                try dsimp only at hSw
                go_simp
                try with_reducible rfl
              try simp only [Act.put, List.setIfInBounds_toArray, List.set_cons_zero, List.set_cons_succ]
              refine wpAnyH_take (i := 3) (oi := { dst := some 53, op := Op.indexAddr 45 (Operand.tmp 51) (Operand.tmp 52), type := 0, pos := "law.go:89", after := #[{ on := 1, ground := Ground.data }, { on := 2, ground := Ground.data }], guard := none }) (v := ?_) rfl (by kernel_rfl) (by kernel_rfl) (by kernel_rfl) (fun _ _ _ h => h) (Or.inl ⟨by rfl, ?_⟩) (by assumption) ?_
              rotate_left
              · intro w hSw
                try dsimp only at hSw
                go_simp
                try with_reducible rfl
              try simp only [Act.put, List.setIfInBounds_toArray, List.set_cons_zero, List.set_cons_succ]
              refine wpAnyH_take (i := 4) (oi := { dst := some 54, op := Op.fieldAddr 61 (Operand.tmp 53) 0, type := 0, pos := "law.go:89", after := #[{ on := 3, ground := Ground.data }], guard := none }) (v := ?_) rfl (by kernel_rfl) (by kernel_rfl) (by kernel_rfl) (fun _ _ _ h => h) (Or.inl ⟨by rfl, ?_⟩) (by assumption) ?_
              rotate_left
              · intro w hSw
                try dsimp only at hSw
                go_simp
                try with_reducible rfl
              try simp only [Act.put, List.setIfInBounds_toArray, List.set_cons_zero, List.set_cons_succ]
              refine wpAnyH_take (i := 5) (oi := { dst := some 55, op := Op.load 9 (Operand.tmp 54), type := 9, pos := "law.go:89", after := #[{ on := 4, ground := Ground.data }], guard := none }) (v := ?_) rfl (by kernel_rfl) (by kernel_rfl) (by kernel_rfl) (fun _ _ _ h => h) (Or.inl ⟨by rfl, ?_⟩) (by assumption) ?_
              rotate_left
              · intro w hSw
                try dsimp only at hSw
                go_simp
                try with_reducible rfl
              try simp only [Act.put, List.setIfInBounds_toArray, List.set_cons_zero, List.set_cons_succ]
              refine wpAnyH_ready (rs := [6]) (by kernel_rfl) (by simp) ?_
              refine AllReadyH.cons (o := { dst := some 56, op := Op.call { callee := Callee.value (Operand.func 45), args := #[Operand.tmp 50, Operand.tmp 55], argTypes := #[40, 9] }, type := 4, pos := "law.go:89", after := #[{ on := 0, ground := Ground.data }, { on := 5, ground := Ground.data }], guard := none }) rfl (fun K hK => ?_) ?_
              rotate_left
              · exact AllReadyH.nil
              go_simp
              go_at_call 45
              refine (refhas_any x5 (writesP l) x.1 _ (by have := writes_len l; have := HLl.out; omega) (HTr.out.later (by repeat (first | with_reducible exact Below.refl _ _ | with_reducible refine Below.drew ?_)))).mono ?_
              rw [HIN.out]
              rintro e y9 ⟨rfl, h5⟩
              have HB9 : Hid (Below wr.heap.size wr y9) := Lib.hid (blThen (by repeat (first | with_reducible exact Below.refl _ _ | with_reducible refine Below.drew ?_)) h5)
              clear h5
              refine hK.out _ _ (K3.out _ HB9.out) (fun hHeld => ?_)
              clear hK K
              try simp only [Act.put, List.setIfInBounds_toArray, List.set_cons_zero, List.set_cons_succ]
              refine wpAnyH_take (i := 7) (oi := { dst := some 57, op := Op.unOp UnOp.not 4 (Operand.tmp 56), type := 4, pos := "law.go:89", after := #[{ on := 6, ground := Ground.data }], guard := none }) (v := ?_) rfl (by kernel_rfl) (by kernel_rfl) (by kernel_rfl) (fun _ _ _ h => h) (Or.inl ⟨by rfl, ?_⟩) (by assumption) ?_
              rotate_left
              · intro w hSw
                try dsimp only at hSw
                go_simp
                try with_reducible rfl
              try simp only [Act.put, List.setIfInBounds_toArray, List.set_cons_zero, List.set_cons_succ]
              refine wpAnyH_take (i := 8) (oi := { dst := some 58, op := Op.move (Operand.tmp 57), type := 4, pos := "law.go:89", after := #[{ on := 7, ground := Ground.data }, { on := 6, ground := Ground.chain }], guard := none }) (v := ?_) rfl (by kernel_rfl) (by kernel_rfl) (by kernel_rfl) (fun _ _ _ h => h) (Or.inl ⟨by rfl, ?_⟩) (by assumption) ?_
              rotate_left
              · intro w hSw
                try dsimp only at hSw
                go_simp
                try with_reducible rfl
              try simp only [Act.put, List.setIfInBounds_toArray, List.set_cons_zero, List.set_cons_succ]
              refine wpAnyH_take (i := 9) (oi := { dst := some 59, op := Op.move (Operand.tmp 10), type := 3, pos := "law.go:89", after := #[{ on := 8, ground := Ground.guard }], guard := some (8, false) }) (v := ?_) rfl (by kernel_rfl) (by kernel_rfl) (by kernel_rfl) (fun _ _ _ h => h) (Or.inl ⟨by rfl, ?_⟩) (by assumption) ?_
              rotate_left
              · intro w hSw
                try dsimp only at hSw
                go_simp
                try with_reducible rfl
              try simp only [Act.put, List.setIfInBounds_toArray, List.set_cons_zero, List.set_cons_succ]
              refine wpAnyH_take (i := 10) (oi := { dst := some 60, op := Op.binOp BinOp.gtr 3 (Operand.tmp 59) (Operand.const (Value.int IntKind.i64 0)) 3, type := 4, pos := "law.go:89", after := #[{ on := 9, ground := Ground.data }, { on := 8, ground := Ground.guard }], guard := some (8, false) }) (v := ?_) rfl (by kernel_rfl) (by kernel_rfl) (by kernel_rfl) (fun _ _ _ h => h) (Or.inl ⟨by rfl, ?_⟩) (by assumption) ?_
              rotate_left
              · intro w hSw
                try dsimp only at hSw
                go_simp
                try with_reducible rfl
              try simp only [Act.put, List.setIfInBounds_toArray, List.set_cons_zero, List.set_cons_succ]
              refine wpAnyH_take (i := 11) (oi := { dst := some 61, op := Op.move (Operand.tmp 60), type := 4, pos := "law.go:89", after := #[{ on := 10, ground := Ground.data }, { on := 8, ground := Ground.chain }, { on := 8, ground := Ground.guard }], guard := some (8, false) }) (v := ?_) rfl (by kernel_rfl) (by kernel_rfl) (by kernel_rfl) (fun _ _ _ h => h) (Or.inl ⟨by rfl, ?_⟩) (by assumption) ?_
              rotate_left
              · intro w hSw
                try dsimp only at hSw
                go_simp
                try with_reducible rfl
              try simp only [Act.put, List.setIfInBounds_toArray, List.set_cons_zero, List.set_cons_succ]
              refine wpAnyH_take (i := 12) (oi := { dst := some 62, op := Op.move (Operand.tmp 5), type := 45, pos := "law.go:89", after := #[{ on := 11, ground := Ground.guard }], guard := some (11, true) }) (v := undef) rfl (by kernel_rfl) (by kernel_rfl) (by kernel_rfl) (fun _ _ _ h => h) (Or.inr ⟨by rfl, rfl⟩) (by assumption) ?_
              try simp only [Act.put, List.setIfInBounds_toArray, List.set_cons_zero, List.set_cons_succ]
              refine wpAnyH_take (i := 13) (oi := { dst := some 63, op := Op.move (Operand.tmp 10), type := 3, pos := "law.go:89", after := #[{ on := 11, ground := Ground.guard }], guard := some (11, true) }) (v := undef) rfl (by kernel_rfl) (by kernel_rfl) (by kernel_rfl) (fun _ _ _ h => h) (Or.inr ⟨by rfl, rfl⟩) (by assumption) ?_
              try simp only [Act.put, List.setIfInBounds_toArray, List.set_cons_zero, List.set_cons_succ]
              refine wpAnyH_take (i := 14) (oi := { dst := some 64, op := Op.indexAddr 45 (Operand.tmp 62) (Operand.tmp 63), type := 0, pos := "law.go:89", after := #[{ on := 12, ground := Ground.data }, { on := 13, ground := Ground.data }, { on := 11, ground := Ground.guard }], guard := some (11, true) }) (v := undef) rfl (by kernel_rfl) (by kernel_rfl) (by kernel_rfl) (fun _ _ _ h => h) (Or.inr ⟨by rfl, rfl⟩) (by assumption) ?_
              try simp only [Act.put, List.setIfInBounds_toArray, List.set_cons_zero, List.set_cons_succ]
              refine wpAnyH_take (i := 15) (oi := { dst := some 65, op := Op.fieldAddr 61 (Operand.tmp 64) 0, type := 0, pos := "law.go:89", after := #[{ on := 14, ground := Ground.data }, { on := 11, ground := Ground.guard }], guard := some (11, true) }) (v := undef) rfl (by kernel_rfl) (by kernel_rfl) (by kernel_rfl) (fun _ _ _ h => h) (Or.inr ⟨by rfl, rfl⟩) (by assumption) ?_
              try simp only [Act.put, List.setIfInBounds_toArray, List.set_cons_zero, List.set_cons_succ]
              refine wpAnyH_take (i := 16) (oi := { dst := some 66, op := Op.load 9 (Operand.tmp 65), type := 9, pos := "law.go:89", after := #[{ on := 15, ground := Ground.data }, { on := 11, ground := Ground.guard }], guard := some (11, true) }) (v := undef) rfl (by kernel_rfl) (by kernel_rfl) (by kernel_rfl) (fun _ _ _ h => h) (Or.inr ⟨by rfl, rfl⟩) (by assumption) ?_
              try simp only [Act.put, List.setIfInBounds_toArray, List.set_cons_zero, List.set_cons_succ]
              refine wpAnyH_take (i := 17) (oi := { dst := some 67, op := Op.move (Operand.tmp 5), type := 45, pos := "law.go:89", after := #[{ on := 11, ground := Ground.guard }], guard := some (11, true) }) (v := undef) rfl (by kernel_rfl) (by kernel_rfl) (by kernel_rfl) (fun _ _ _ h => h) (Or.inr ⟨by rfl, rfl⟩) (by assumption) ?_
              try simp only [Act.put, List.setIfInBounds_toArray, List.set_cons_zero, List.set_cons_succ]
              refine wpAnyH_take (i := 18) (oi := { dst := some 68, op := Op.move (Operand.tmp 10), type := 3, pos := "law.go:89", after := #[{ on := 11, ground := Ground.guard }], guard := some (11, true) }) (v := undef) rfl (by kernel_rfl) (by kernel_rfl) (by kernel_rfl) (fun _ _ _ h => h) (Or.inr ⟨by rfl, rfl⟩) (by assumption) ?_
              try simp only [Act.put, List.setIfInBounds_toArray, List.set_cons_zero, List.set_cons_succ]
              refine wpAnyH_take (i := 19) (oi := { dst := some 69, op := Op.binOp BinOp.sub 3 (Operand.tmp 68) (Operand.const (Value.int IntKind.i64 1)) 3, type := 3, pos := "law.go:89", after := #[{ on := 18, ground := Ground.data }, { on := 11, ground := Ground.guard }], guard := some (11, true) }) (v := undef) rfl (by kernel_rfl) (by kernel_rfl) (by kernel_rfl) (fun _ _ _ h => h) (Or.inr ⟨by rfl, rfl⟩) (by assumption) ?_
              try simp only [Act.put, List.setIfInBounds_toArray, List.set_cons_zero, List.set_cons_succ]
              refine wpAnyH_take (i := 20) (oi := { dst := some 70, op := Op.indexAddr 45 (Operand.tmp 67) (Operand.tmp 69), type := 0, pos := "law.go:89", after := #[{ on := 17, ground := Ground.data }, { on := 19, ground := Ground.data }, { on := 11, ground := Ground.guard }], guard := some (11, true) }) (v := undef) rfl (by kernel_rfl) (by kernel_rfl) (by kernel_rfl) (fun _ _ _ h => h) (Or.inr ⟨by rfl, rfl⟩) (by assumption) ?_
              try simp only [Act.put, List.setIfInBounds_toArray, List.set_cons_zero, List.set_cons_succ]
              refine wpAnyH_take (i := 21) (oi := { dst := some 71, op := Op.fieldAddr 61 (Operand.tmp 70) 0, type := 0, pos := "law.go:89", after := #[{ on := 20, ground := Ground.data }, { on := 11, ground := Ground.guard }], guard := some (11, true) }) (v := undef) rfl (by kernel_rfl) (by kernel_rfl) (by kernel_rfl) (fun _ _ _ h => h) (Or.inr ⟨by rfl, rfl⟩) (by assumption) ?_
              try simp only [Act.put, List.setIfInBounds_toArray, List.set_cons_zero, List.set_cons_succ]
              refine wpAnyH_take (i := 22) (oi := { dst := some 72, op := Op.load 9 (Operand.tmp 71), type := 9, pos := "law.go:89", after := #[{ on := 21, ground := Ground.data }, { on := 11, ground := Ground.guard }], guard := some (11, true) }) (v := undef) rfl (by kernel_rfl) (by kernel_rfl) (by kernel_rfl) (fun _ _ _ h => h) (Or.inr ⟨by rfl, rfl⟩) (by assumption) ?_
              try simp only [Act.put, List.setIfInBounds_toArray, List.set_cons_zero, List.set_cons_succ]
              refine wpAnyH_take (i := 23) (oi := { dst := some 73, op := Op.binOp BinOp.leq 9 (Operand.tmp 66) (Operand.tmp 72) 9, type := 4, pos := "law.go:89", after := #[{ on := 16, ground := Ground.data }, { on := 22, ground := Ground.data }, { on := 11, ground := Ground.guard }], guard := some (11, true) }) (v := undef) rfl (by kernel_rfl) (by kernel_rfl) (by kernel_rfl) (fun _ _ _ h => h) (Or.inr ⟨by rfl, rfl⟩) (by assumption) ?_
              try simp only [Act.put, List.setIfInBounds_toArray, List.set_cons_zero, List.set_cons_succ]
              refine wpAnyH_take (i := 24) (oi := { dst := some 74, op := Op.pick (Operand.tmp 61) (Operand.tmp 73) (Operand.const (Value.bool false)), type := 4, pos := "law.go:89", after := #[{ on := 11, ground := Ground.data }, { on := 23, ground := Ground.data }, { on := 8, ground := Ground.guard }], guard := some (8, false) }) (v := ?_) rfl (by kernel_rfl) (by kernel_rfl) (by kernel_rfl) (fun _ _ _ h => h) (Or.inl ⟨by rfl, ?_⟩) (by assumption) ?_
              rotate_left
              · intro w hSw
                try dsimp only at hSw
                go_simp
                try with_reducible rfl
              try simp only [Act.put, List.setIfInBounds_toArray, List.set_cons_zero, List.set_cons_succ]
              refine wpAnyH_take (i := 25) (oi := { dst := some 75, op := Op.pick (Operand.tmp 58) (Operand.const (Value.bool true)) (Operand.tmp 74), type := 4, pos := "law.go:89", after := #[{ on := 8, ground := Ground.data }, { on := 24, ground := Ground.data }], guard := none }) (v := ?_) rfl (by kernel_rfl) (by kernel_rfl) (by kernel_rfl) (fun _ _ _ h => h) (Or.inl ⟨by rfl, ?_⟩) (by assumption) ?_
              rotate_left
              · intro w hSw
                try dsimp only at hSw
                go_simp
                try with_reducible rfl
              try simp only [Act.put, List.setIfInBounds_toArray, List.set_cons_zero, List.set_cons_succ]
              refine wpAnyH_done (by kernel_rfl) ?_ _
              go_wp2
              go_roundw
              case rel => exact ⟨0 + 1, hlt, by go_num, blThen HBW.out HB9.out⟩
              case measure => simp [intOf]; omega
          · have hge : ¬ (k : Int) < (ww.length : Int) := by omega
            have hdk : decide ((k : Int) < (ww.length : Int)) = false := decide_eq_false hge
            have HB_wr := Lib.hid (blThen HB_w8.out HBW.out)
            have HW1 := Lib.hid (HW1.out.later HBW.out)
            have HW2 := Lib.hid (HW2.out.later HBW.out)
            have HQ1 := Lib.hid (HQ1.out.later HBW.out)
            have HQ2 := Lib.hid (HQ2.out.later HBW.out)
            go_wp2_with fail
            have h9 := wrsame_any _ _ ww ww wr (by have := HWN.out; omega) (by have := HWN.out; omega) HW1.out HW2.out
            rw [decide_eq_true (show ww = ww from rfl)] at h9
            refine (h9).mono ?_
            rintro e x1 ⟨rfl, h5⟩
            have HX : Hid (Below wr.heap.size wr x1) := blThen (by repeat (first | with_reducible exact Below.refl _ _ | with_reducible refine blAlloc ?_ _ | with_reducible refine Below.drew ?_)) h5
            have HB_x1 := Lib.hid (blThen HB_wr.out HX.out)
            have HW1 := Lib.hid (HW1.out.later HX.out)
            have HW2 := Lib.hid (HW2.out.later HX.out)
            have HQ1 := Lib.hid (HQ1.out.later HX.out)
            have HQ2 := Lib.hid (HQ2.out.later HX.out)
            clear h5 HX h9
            go_wp2_with fail
            have h9 := ansame_any _ _ r1 r2 x1 HF1.out HF2.out HQ1.out HQ2.out
            rw [decide_eq_true (show r1.map AnR.ans = r2.map AnR.ans from HS1.out.trans HS2.out.symm)] at h9
            refine (h9).mono ?_
            rintro e x2 ⟨rfl, h5⟩
            have HX : Hid (Below x1.heap.size x1 x2) := blThen (by repeat (first | with_reducible exact Below.refl _ _ | with_reducible refine blAlloc ?_ _ | with_reducible refine Below.drew ?_)) h5
            have HB_x2 := Lib.hid (blThen HB_x1.out HX.out)
            have HW1 := Lib.hid (HW1.out.later HX.out)
            have HW2 := Lib.hid (HW2.out.later HX.out)
            have HQ1 := Lib.hid (HQ1.out.later HX.out)
            have HQ2 := Lib.hid (HQ2.out.later HX.out)
            clear h5 HX h9
            go_wp2_with fail
            refine (live8_any x2).mono ?_
            rintro e x3 ⟨rfl, h5⟩
            have HX : Hid (Below x2.heap.size x2 x3) := blThen (by repeat (first | with_reducible exact Below.refl _ _ | with_reducible refine blAlloc ?_ _ | with_reducible refine Below.drew ?_)) h5
            have HB_x3 := Lib.hid (blThen HB_x2.out HX.out)
            have HW1 := Lib.hid (HW1.out.later HX.out)
            have HW2 := Lib.hid (HW2.out.later HX.out)
            have HQ1 := Lib.hid (HQ1.out.later HX.out)
            have HQ2 := Lib.hid (HQ2.out.later HX.out)
            clear h5 HX
            go_wp2
            go_ret
            exact ⟨rfl, HB_x3.out⟩

end SP
end Go.Proofs.YtfdkkgjkhamoeaaGreat

/- TxnSuffices. Conditions: none. -/
set_option linter.unusedVariables false
set_option linter.unusedSimpArgs false
namespace Go.Proofs.YtfdkkgjkhamoeaaGreat
open S3 SN
namespace SP
open Go.ChangeShapes Go.WideShapes Go.ChangeAt Go.RowKit Go.Joins Go.Deep


set_option maxRecDepth 100000 in
theorem txnSuffices_lifted (os : Os) (started : os.Started) (H : Type) (enc : TypeId × Value → H) :
    ReturnsInHanded {} Tryz.checked os 6 .any (Rows.txnSufficesSpec.pre6 enc Tryz.prog Tryz.f6 Rows.txnSufficesRow.domain false) (Rows.txnSufficesSpec.post enc Tryz.prog Tryz.f6 false true false false) := by
  refine law_lift_sized (C := Tryz.checked) own0 started (by kernel_rfl) Tryz.func6 laid0 rfl (by kernel_rfl) (fun _ _ _ _ => trodAll_mk1 (shut_bool Tryz.underlying4 true)) (fun ds h => match ds, h with | [_, _], _ => ⟨rfl, rfl, rfl⟩)
    (ChangeSpec.witness6 (enc := enc) (C := Tryz.checked) false ⟨#[], #[.slice none 0 0, .slice none 0 0], []⟩ 8 (by kernel_rfl) (by kernel_rfl) (by kernel_rfl) (by kernel_rfl)) ?_
  intro W base args ds before hval0 hA0 hlt hsz
  have hval : ∀ (j : Nat) t v, Tryz.f6.params[j]? = some t → args[j]? = some v → Value.okWide Tryz.prog W .any base t v := hval0
  have hA : DataW.TrodAll enc Tryz.prog W 0 (fun _ => true) true Tryz.f6.params.toList args.toList ds before := hA0
  rw [Tryz.params6] at hA hval
  obtain ⟨v0, v1, d0, d1, p0, p1, rfl, rfl, rfl, h0, h1⟩ := trodAll_two hA
  obtain ⟨l, ol, ml, rl⟩ := open_ops (hval 0 22 v0 rfl rfl) h0
  obtain ⟨d, od, md, rd⟩ := open_pairs (hval 1 42 v1 rfl rfl) h1
  exact txnSuffices_walk v0 l v1 d W ml (fun o ho => ⟨inW_le8 (rl o ho).2.2.1 hsz (j := 0) (by kernel_rfl) rfl, inW_le8 (rl o ho).2.2.2 hsz (j := 0) (by kernel_rfl) rfl⟩) (fun o ho => (rl o ho).2.1) ol md (fun o ho => inW_le8 (rd o ho).2 hsz (j := 1) (by kernel_rfl) rfl) (fun o ho => (rd o ho).1) od

theorem txnSuffices_holds : Rows.TxnSufficesSaid :=
  OpenClaim.holds_of_wide 6 Tryz.f6 rfl rfl rfl rfl rfl rfl rfl ⟨rfl, rfl, rfl, rfl, rfl⟩ rfl rfl rfl rfl rfl (by kernel_rfl) Tryz.func6 (by kernel_rfl)
    (of_decide_eq_true (by kernel_rfl)) (by unfold Func.isWrapper; rw [if_neg (of_decide_eq_false (by kernel_rfl))]; exact ⟨rfl, rfl⟩)
    (fun os started H enc _ => txnSuffices_lifted os started H enc)

#print axioms txnSuffices_holds

end SP
end Go.Proofs.YtfdkkgjkhamoeaaGreat
