/- TxnEither. Conditions: none. -/
import Derived.WalkSpells
import Derived.Test.YtfdkkgjkhamoeaaGreatMg42
import Derived.Test.YtfdkkgjkhamoeaaGreatMg43
import Derived.Test.YtfdkkgjkhamoeaaGreatMg37
import Derived.Test.YtfdkkgjkhamoeaaGreatMg38
/- What the laws of stage 8 share: data that stay small, Eval and Apply as the laws call them, facts of checked ops. Conditions: as each theorem states. -/
set_option linter.unusedVariables false
namespace Go.Proofs.YtfdkkgjkhamoeaaGreat
open S3 SN
namespace SP
open Go.ChangeShapes Go.WideShapes Go.ChangeAt Go.RowKit Go.Joins Go.Deep

theorem smallB_len2 {l : List Opr} {d : Al Nat} (h : smallB l d = true) : l.length ≤ 60 ∧ d.length ≤ 60 := by
  have := of_decide_eq_true h
  exact ⟨this.1, this.2.1⟩
/-- Data that rise, of at most n pairs, with keys of at most a thousand bytes. -/
def Dat (n : Nat) (d : Al Nat) : Prop := RisA d ∧ (∀ p ∈ d, p.1.size ≤ 1000) ∧ d.length ≤ n
theorem dat_of {l : Al Nat} {n : Nat} (h : dataB none l = true) (hl : l.length ≤ n) : Dat n l := by
  obtain ⟨h1, _, h3⟩ := dataB_ris l none h
  exact ⟨h1, fun p hp => Nat.le_trans (key_len (h3 p hp).1) (by decide), hl⟩
theorem do_keys {d : Al Nat} {w : Wrt} {P : ByteArray → Prop} (hd : ∀ p ∈ d, P p.1) (hw : P w.1) : ∀ p ∈ doW d w, P p.1 := by
  intro p hp
  unfold doW at hp
  split at hp
  · exact hd p (List.mem_filter.1 hp).1
  · rcases putA_mem _ _ _ p hp with rfl | hp
    · exact hw
    · exact hd p hp
theorem apply_keys {P : ByteArray → Prop} : ∀ (l : List Wrt) {d : Al Nat}, (∀ p ∈ d, P p.1) → (∀ w ∈ l, P w.1) → ∀ p ∈ applyP d l, P p.1
  | [], _, hd, _ => hd
  | w :: l, d, hd, hl => apply_keys l (do_keys hd (hl w (by simp))) fun x hx => hl x (by simp [hx])
theorem Dat.app {n m : Nat} {d : Al Nat} {l : List Wrt} (h : Dat n d) (hk : ∀ x ∈ l, x.1.size ≤ 1000) (hl : l.length ≤ m) : Dat (n + m) (applyP d l) := by
  refine ⟨ris_apply l h.1, apply_keys (P := fun k => k.size ≤ 1000) l h.2.1 hk, ?_⟩
  have := apply_len l d
  have := h.2.2
  omega
def Okl (l : List Opr) : Prop := l.length ≤ 8 ∧ ∀ o ∈ l, okB o = true
theorem okl_of {l : List Opr} (h : checkP l = 0) : Okl l := ⟨(check_kd h).1, (check_kd h).2.2⟩
theorem Okl.kd {l : List Opr} (h : Okl l) : ∀ o ∈ l, Kd o := fun o ho => (ok_kd (h.2 o ho)).1
theorem Okl.keys {l : List Opr} (h : Okl l) (d : Al Nat) : ∀ x ∈ evalL d l, x.1.size ≤ 1000 := fun x hx => Nat.le_trans (evalL_small l d h.2 x hx) (by decide)
theorem Okl.last {l : List Opr} (h : Okl l) (d : Al Nat) : (∀ x ∈ lastL (evalL d l), x.1.size ≤ 1000) ∧ (lastL (evalL d l)).length ≤ 16 := by
  refine ⟨fun x hx => h.keys d (x.1, x.2) (last_keys hx), ?_⟩
  have := evals_len l d
  have := h.1
  omega
theorem Dat.eval {n : Nat} {d : Al Nat} {l : List Opr} (h : Dat n d) (ho : Okl l) : Dat (n + 16) (evalD d l) := by
  rw [evalD_eq]
  refine h.app (ho.keys d) ?_
  have := evalL_len l d
  have := ho.1
  omega
theorem Dat.last {n : Nat} {d e : Al Nat} {l : List Opr} (h : Dat n d) (ho : Okl l) : Dat (n + 16) (applyP d (lastL (evalL e l))) := h.app (ho.last e).1 (ho.last e).2
theorem inA_len {α : Type} (P : ByteArray → Bool) (d : Al α) : (inA P d).length ≤ d.length := List.length_filter_le _ _
theorem opA_prs (d : Al Nat) (o : Opr) : (opA d o).2.2.length ≤ d.length := by
  unfold opA
  repeat (first | split | exact Nat.zero_le _ | exact inA_len _ _)
theorem evalA_prs : ∀ (l : List Opr) (d : Al Nat), ∀ a ∈ evalA d l, a.2.2.length ≤ d.length + 2 * l.length
  | [], _, a, ha => by simp [evalA] at ha
  | o :: l, d, a, ha => by
    rw [List.length_cons]
    rcases List.mem_cons.1 ha with rfl | ha
    · have := opA_prs d o
      omega
    · have h1 := evalA_prs l _ a ha
      have h2 := apply_len (opW d o) d
      have h3 := opW_len d o
      omega
theorem eval_picked {l : List Opr} {n : Nat} {d : Al Nat} (hd : Dat n d) (ho : Okl l) : Dat n (inA (memL (readsP l)) d) :=
  ⟨risA_in hd.1 _, fun p hp => hd.2.1 p (List.mem_filter.1 hp).1, Nat.le_trans (inA_len _ _) hd.2.2⟩
/-- What Eval comes to, as the laws look at it. -/
def RetE (w : World) (d : Al Nat) (l : List Opr) (e : Ending) (w' : World) : Prop :=
  ∃ v u rs, e = .returned (.tuple #[v, u]) ∧ SlG eW w' v (lastL (evalL d l)) ∧ AnsL w' u rs ∧ FewA rs ∧ rs.map AnR.ans = evalA d l ∧ Below w.heap.size w w'
theorem ev_any (va vs : Value) (l : List Opr) (d : Al Nat) {n : Nat} (w : World) (h : Dat n d) (hn : n ≤ 10000) (ho : Okl l) (hnm : ∀ o ∈ l, o.2.2.2 < 18446744073709551616) (ha : SlG eO w va l) (hs : SlG eP w vs d) : Calls Tryz.prog 35 #[va, vs] w (RetE w d l) := by
  have h3 := h.2.2
  have h4 := ho.1
  refine (eval_any va vs l d w (by omega) (by omega) h.1 (fun p hp => by have := h.2.1 p hp; unfold maxLen; omega) ho.2 hnm ha hs).mono ?_
  rintro e w' ⟨v, u, rs, rfl, h1, h2, h5⟩
  refine ⟨v, u, rs, rfl, h1.sl, anss_list h2, anss_few h2 ?_ ?_, h2.same, h5⟩
  · rw [evalA_length]; omega
  · intro a ha
    have := evalA_prs l d a ha
    omega
def RetA (w : World) (r : Al Nat) (e : Ending) (w' : World) : Prop := ∃ v, e = .returned v ∧ SlG eP w' v r ∧ Below w.heap.size w w'
theorem ap_any (va vs : Value) (d : Al Nat) (l : List Wrt) {n : Nat} (w : World) (h : Dat n d) (hn : n ≤ 10000) (hl : l.length ≤ 1000) (hk : ∀ x ∈ l, x.1.size ≤ 1000) (ha : SlG eP w va d) (hs : SlG eW w vs l) : Calls Tryz.prog 41 #[va, vs] w (RetA w (applyP d l)) := by
  have h3 := h.2.2
  refine (apply_any va vs d l w (by omega) (by omega) h.1 (fun p hp => by have := h.2.1 p hp; unfold maxLen; omega) (fun p hp => by have := hk p hp; unfold maxLen; omega) ha hs).mono ?_
  rintro e w' ⟨v, rfl, h1, h5⟩
  exact ⟨v, rfl, h1.sl, h5⟩
theorem pk_any (va vs : Value) (l : Al Nat) (S : List Sp) {n : Nat} (w : World) (h : Dat n l) (hn : n ≤ 10000) (hS : S.length ≤ 1000000) (hset : IsSet S) (ha : SlG eP w va l) (hs : Sl w vs S) : Calls Tryz.prog 43 #[va, vs] w (RetA w (inA (memL S) l)) := by
  have h3 := h.2.2
  refine (pick_any va vs l S w (by omega) hS hset ha hs).mono ?_
  rintro e w' ⟨v, rfl, h1, h5⟩
  exact ⟨v, rfl, h1.sl, h5⟩
theorem either_evals {a b : List Opr} {d : Al Nat} {n : Nat} (hd : Dat n d) (ha : Okl a) (hb : Okl b) (h : confP a b = false) :
    evalL (evalD d a) b = evalL d b ∧ evalA (evalD d a) b = evalA d b ∧ evalL (evalD d b) a = evalL d a ∧ evalA (evalD d b) a = evalA d a ∧ applyP (evalD d a) (lastL (evalL d b)) = applyP (evalD d b) (lastL (evalL d a)) := by
  have h1 := behind hd.1 hb.kd h
  have h2 := behind hd.1 ha.kd (by rw [conf_comm]; exact h)
  rw [← evalD_eq] at h1 h2
  refine ⟨h1.1, h1.2, h2.1, h2.2, ?_⟩
  rw [apply_last (ris_evalD hd.1 _), apply_last (ris_evalD hd.1 _), evalD_eq, evalD_eq]
  exact either_data hd.1 h
theorem parts_evals {d : Al Nat} {n : Nat} (hd : Dat n d) (l : List Opr) (k : Nat) : evalA d l = evalA d (l.take k) ++ evalA (evalD d (l.take k)) (l.drop k) ∧ applyP d (lastL (evalL d l)) = applyP (evalD d (l.take k)) (lastL (evalL (evalD d (l.take k)) (l.drop k))) := by
  have h1 := evalA_append (l.take k) (l.drop k) d
  have h2 := parts_data hd.1 (l.take k) (l.drop k)
  rw [List.take_append_drop] at h1 h2
  exact ⟨h1, h2⟩
theorem Okl.sub {l m : List Opr} (h : Okl l) (hm : ∀ o ∈ m, o ∈ l) (hl : m.length ≤ l.length) : Okl m := ⟨Nat.le_trans hl h.1, fun o ho => h.2 o (hm o ho)⟩
theorem rs_len {rs : List AnR} {d : Al Nat} {l : List Opr} (h : rs.map AnR.ans = evalA d l) : rs.length = l.length := by
  have := congrArg List.length h
  rwa [List.length_map, evalA_length] at this
theorem few_app {r s : List AnR} (hr : FewA r) (hs : FewA s) (h : r.length + s.length ≤ 1000) : FewA (r ++ s) :=
  ⟨by rw [List.length_append]; exact h, fun x hx => (List.mem_append.1 hx).elim (hr.2 x) (hs.2 x)⟩
theorem ansL_app {w : World} {v u x : Value} {r s : List AnR} (h : SlG eA w v (r ++ s)) (hr : AnsL w u r) (hs : AnsL w x s) : AnsL w v (r ++ s) :=
  ⟨h, fun y hy => (List.mem_append.1 hy).elim (hr.2 y) (hs.2 y)⟩
theorem slG_some {α : Type} {E : Enc α} {w : World} {a : Option Addr} {n c : Nat} {l : List α} (h : SlG E w (.slice a n c) l) (hl : l ≠ []) : ∃ ad, a = some ad := by
  obtain ⟨a', c', hv, _, h2⟩ := h
  obtain ⟨g, o, h3, _⟩ := h2 hl
  cases hv
  exact ⟨_, h3⟩
section
variable {H : Type}
theorem inW_le8 {t : TypeId} {d : DataW H} {k : ByteArray} (h : InW t d k) {ts : List TypeId} {ds : List (DataW H)} (hsz : (DataW.weightsEach Tryz.prog ts ds).all (· ≤ reachBytes) = true) {j : Nat} (ht : ts[j]? = some t) (hd : ds[j]? = some d) : k.size ≤ 140737488355328 := by
  obtain ⟨n, hn, hk⟩ := h
  exact Nat.le_trans hk (reach_of hsz ht hd hn)
end

end SP
end Go.Proofs.YtfdkkgjkhamoeaaGreat

/- TxnEither: of two without Conflict it is the same which comes first. Conditions: the law's own. -/
set_option linter.unusedVariables false
set_option linter.unusedSimpArgs false
namespace Go.Proofs.YtfdkkgjkhamoeaaGreat
open S3 SN
namespace SP
open Go.ChangeShapes Go.WideShapes Go.ChangeAt Go.RowKit Go.Joins Go.Deep

set_option maxRecDepth 100000 in
set_option maxHeartbeats 16000000 in
theorem txnEither_walk (va : Value) (a : List Opr) (vb : Value) (b : List Opr) (vd : Value) (d : Al Nat) (w : World) (hma : a.length ≤ 9223372036854775807) (hra : ∀ o ∈ a, o.2.1.size ≤ 140737488355328 ∧ o.2.2.1.size ≤ 140737488355328) (hna : ∀ o ∈ a, o.2.2.2 < 18446744073709551616) (ha : SlG eO w va a) (hmb : b.length ≤ 9223372036854775807) (hrb : ∀ o ∈ b, o.2.1.size ≤ 140737488355328 ∧ o.2.2.1.size ≤ 140737488355328) (hnb : ∀ o ∈ b, o.2.2.2 < 18446744073709551616) (hb : SlG eO w vb b) (hmd : d.length ≤ 9223372036854775807) (hrd : ∀ p ∈ d, p.1.size ≤ 140737488355328) (hnd : ∀ p ∈ d, p.2 < 18446744073709551616) (hd : SlG eP w vd d) :
    Calls Tryz.prog 7 #[va, vb, vd] w fun e w' => e = .returned (.bool true) ∧ Below w.heap.size w w' := by
  have Ma := Lib.hid hma
  have Ra := Lib.hid hra
  have Na := Lib.hid hna
  have Aa := Lib.hid ha
  have Mb := Lib.hid hmb
  have Rb := Lib.hid hrb
  have Nb := Lib.hid hnb
  have Ab := Lib.hid hb
  have Md := Lib.hid hmd
  have Rd := Lib.hid hrd
  have Nd := Lib.hid hnd
  have Ad := Lib.hid hd
  clear hma hra hna ha hmb hrb hnb hb hmd hrd hnd hd
  go_enter Tryz.func7, Tryz.ntmps7
  cases hc1 : smallB a d
  · have HC1 := Lib.hid hc1
    clear hc1
    go_wp2_with fail
    have h9 := small8_any va vd a d w Ma.out Md.out Ra.out Rd.out Aa.out Ad.out
    rw [HC1.out] at h9
    refine (h9).mono ?_
    rintro e w1 ⟨rfl, h5⟩
    have HX : Hid (Below w.heap.size w w1) := blThen (by repeat (first | with_reducible exact Below.refl _ _ | with_reducible refine blAlloc ?_ _ | with_reducible refine Below.drew ?_)) h5
    have HB_w1 := Lib.hid (HX.out)
    have Aa := Lib.hid (Aa.out.later HX.out)
    have Ab := Lib.hid (Ab.out.later HX.out)
    have Ad := Lib.hid (Ad.out.later HX.out)
    clear h5 HX h9
    go_wp2_with fail
    refine (live8_any w1).mono ?_
    rintro e w2 ⟨rfl, h5⟩
    have HX : Hid (Below w1.heap.size w1 w2) := blThen (by repeat (first | with_reducible exact Below.refl _ _ | with_reducible refine blAlloc ?_ _ | with_reducible refine Below.drew ?_)) h5
    have HB_w2 := Lib.hid (blThen HB_w1.out HX.out)
    have Aa := Lib.hid (Aa.out.later HX.out)
    have Ab := Lib.hid (Ab.out.later HX.out)
    have Ad := Lib.hid (Ad.out.later HX.out)
    clear h5 HX
    go_wp2
    go_ret
    exact ⟨rfl, HB_w2.out⟩
  · have HC1 := Lib.hid hc1
    clear hc1
    have HB1 := Lib.hid (smallB_len2 HC1.out)
    go_wp2_with fail
    have h9 := small8_any va vd a d w Ma.out Md.out Ra.out Rd.out Aa.out Ad.out
    rw [HC1.out] at h9
    refine (h9).mono ?_
    rintro e w1 ⟨rfl, h5⟩
    have HX : Hid (Below w.heap.size w w1) := blThen (by repeat (first | with_reducible exact Below.refl _ _ | with_reducible refine blAlloc ?_ _ | with_reducible refine Below.drew ?_)) h5
    have HB_w1 := Lib.hid (HX.out)
    have Aa := Lib.hid (Aa.out.later HX.out)
    have Ab := Lib.hid (Ab.out.later HX.out)
    have Ad := Lib.hid (Ad.out.later HX.out)
    clear h5 HX h9
    cases hc2 : smallB b []
    · have HC2 := Lib.hid hc2
      clear hc2
      go_wp2_with fail
      have h9 := small8_any vb (.slice none 0 0) b [] w1 Mb.out (by decide) Rb.out (fun o ho => by cases ho) Ab.out (SlG.nil _)
      rw [HC2.out] at h9
      refine (h9).mono ?_
      rintro e w2 ⟨rfl, h5⟩
      have HX : Hid (Below w1.heap.size w1 w2) := blThen (by repeat (first | with_reducible exact Below.refl _ _ | with_reducible refine blAlloc ?_ _ | with_reducible refine Below.drew ?_)) h5
      have HB_w2 := Lib.hid (blThen HB_w1.out HX.out)
      have Aa := Lib.hid (Aa.out.later HX.out)
      have Ab := Lib.hid (Ab.out.later HX.out)
      have Ad := Lib.hid (Ad.out.later HX.out)
      clear h5 HX h9
      go_wp2_with fail
      refine (live8_any w2).mono ?_
      rintro e w3 ⟨rfl, h5⟩
      have HX : Hid (Below w2.heap.size w2 w3) := blThen (by repeat (first | with_reducible exact Below.refl _ _ | with_reducible refine blAlloc ?_ _ | with_reducible refine Below.drew ?_)) h5
      have HB_w3 := Lib.hid (blThen HB_w2.out HX.out)
      have Aa := Lib.hid (Aa.out.later HX.out)
      have Ab := Lib.hid (Ab.out.later HX.out)
      have Ad := Lib.hid (Ad.out.later HX.out)
      clear h5 HX
      go_wp2
      go_ret
      exact ⟨rfl, HB_w3.out⟩
    · have HC2 := Lib.hid hc2
      clear hc2
      have HB2 := Lib.hid (smallB_len2 HC2.out)
      go_wp2_with fail
      have h9 := small8_any vb (.slice none 0 0) b [] w1 Mb.out (by decide) Rb.out (fun o ho => by cases ho) Ab.out (SlG.nil _)
      rw [HC2.out] at h9
      refine (h9).mono ?_
      rintro e w2 ⟨rfl, h5⟩
      have HX : Hid (Below w1.heap.size w1 w2) := blThen (by repeat (first | with_reducible exact Below.refl _ _ | with_reducible refine blAlloc ?_ _ | with_reducible refine Below.drew ?_)) h5
      have HB_w2 := Lib.hid (blThen HB_w1.out HX.out)
      have Aa := Lib.hid (Aa.out.later HX.out)
      have Ab := Lib.hid (Ab.out.later HX.out)
      have Ad := Lib.hid (Ad.out.later HX.out)
      clear h5 HX h9
      by_cases hc3 : checkP a = 0
      rotate_left
      · have hb3 : ((checkP a == 0) = false) := by simpa using hc3
        have hd3 : ((checkP a != 0) = true) := by simpa using hc3
        go_wp2_with fail
        have h9 := check8_any va a w2 (by have := HB1.out; omega) Aa.out
        refine (h9).mono ?_
        rintro e w3 ⟨rfl, h5⟩
        have HX : Hid (Below w2.heap.size w2 w3) := blThen (by repeat (first | with_reducible exact Below.refl _ _ | with_reducible refine blAlloc ?_ _ | with_reducible refine Below.drew ?_)) h5
        have HB_w3 := Lib.hid (blThen HB_w2.out HX.out)
        have Aa := Lib.hid (Aa.out.later HX.out)
        have Ab := Lib.hid (Ab.out.later HX.out)
        have Ad := Lib.hid (Ad.out.later HX.out)
        clear h5 HX h9
        go_wp2_with fail
        refine (num8_any _ w3).mono ?_
        rintro e wq ⟨rfl, rfl⟩
        go_wp2_with fail
        refine (live8_any w3).mono ?_
        rintro e w4 ⟨rfl, h5⟩
        have HX : Hid (Below w3.heap.size w3 w4) := blThen (by repeat (first | with_reducible exact Below.refl _ _ | with_reducible refine blAlloc ?_ _ | with_reducible refine Below.drew ?_)) h5
        have HB_w4 := Lib.hid (blThen HB_w3.out HX.out)
        have Aa := Lib.hid (Aa.out.later HX.out)
        have Ab := Lib.hid (Ab.out.later HX.out)
        have Ad := Lib.hid (Ad.out.later HX.out)
        clear h5 HX
        go_wp2
        go_ret
        exact ⟨rfl, HB_w4.out⟩
      · have HC3 := Lib.hid hc3
        clear hc3
        have HO3 := Lib.hid (okl_of HC3.out)
        go_wp2_with fail
        have h9 := check8_any va a w2 (by have := HB1.out; omega) Aa.out
        rw [HC3.out] at h9
        refine (h9).mono ?_
        rintro e w3 ⟨rfl, h5⟩
        have HX : Hid (Below w2.heap.size w2 w3) := blThen (by repeat (first | with_reducible exact Below.refl _ _ | with_reducible refine blAlloc ?_ _ | with_reducible refine Below.drew ?_)) h5
        have HB_w3 := Lib.hid (blThen HB_w2.out HX.out)
        have Aa := Lib.hid (Aa.out.later HX.out)
        have Ab := Lib.hid (Ab.out.later HX.out)
        have Ad := Lib.hid (Ad.out.later HX.out)
        clear h5 HX h9
        go_wp2_with fail
        refine (num8_any _ w3).mono ?_
        rintro e wq ⟨rfl, rfl⟩
        by_cases hc4 : checkP b = 0
        rotate_left
        · have hb4 : ((checkP b == 0) = false) := by simpa using hc4
          have hd4 : ((checkP b != 0) = true) := by simpa using hc4
          go_wp2_with fail
          have h9 := check8_any vb b w3 (by have := HB2.out; omega) Ab.out
          refine (h9).mono ?_
          rintro e w4 ⟨rfl, h5⟩
          have HX : Hid (Below w3.heap.size w3 w4) := blThen (by repeat (first | with_reducible exact Below.refl _ _ | with_reducible refine blAlloc ?_ _ | with_reducible refine Below.drew ?_)) h5
          have HB_w4 := Lib.hid (blThen HB_w3.out HX.out)
          have Aa := Lib.hid (Aa.out.later HX.out)
          have Ab := Lib.hid (Ab.out.later HX.out)
          have Ad := Lib.hid (Ad.out.later HX.out)
          clear h5 HX h9
          go_wp2_with fail
          refine (num8_any _ w4).mono ?_
          rintro e wq ⟨rfl, rfl⟩
          go_wp2_with fail
          refine (live8_any w4).mono ?_
          rintro e w5 ⟨rfl, h5⟩
          have HX : Hid (Below w4.heap.size w4 w5) := blThen (by repeat (first | with_reducible exact Below.refl _ _ | with_reducible refine blAlloc ?_ _ | with_reducible refine Below.drew ?_)) h5
          have HB_w5 := Lib.hid (blThen HB_w4.out HX.out)
          have Aa := Lib.hid (Aa.out.later HX.out)
          have Ab := Lib.hid (Ab.out.later HX.out)
          have Ad := Lib.hid (Ad.out.later HX.out)
          clear h5 HX
          go_wp2
          go_ret
          exact ⟨rfl, HB_w5.out⟩
        · have HC4 := Lib.hid hc4
          clear hc4
          have HO4 := Lib.hid (okl_of HC4.out)
          go_wp2_with fail
          have h9 := check8_any vb b w3 (by have := HB2.out; omega) Ab.out
          rw [HC4.out] at h9
          refine (h9).mono ?_
          rintro e w4 ⟨rfl, h5⟩
          have HX : Hid (Below w3.heap.size w3 w4) := blThen (by repeat (first | with_reducible exact Below.refl _ _ | with_reducible refine blAlloc ?_ _ | with_reducible refine Below.drew ?_)) h5
          have HB_w4 := Lib.hid (blThen HB_w3.out HX.out)
          have Aa := Lib.hid (Aa.out.later HX.out)
          have Ab := Lib.hid (Ab.out.later HX.out)
          have Ad := Lib.hid (Ad.out.later HX.out)
          clear h5 HX h9
          go_wp2_with fail
          refine (num8_any _ w4).mono ?_
          rintro e wq ⟨rfl, rfl⟩
          cases hc5 : dataB none d
          · have HC5 := Lib.hid hc5
            clear hc5
            go_wp2_with fail
            have h9 := rdata_any vd d w4 (show d.length ≤ 1000000 by have := HB1.out; omega) Nd.out Ad.out
            rw [HC5.out] at h9
            refine (h9).mono ?_
            rintro e w5 ⟨rfl, h5⟩
            have HX : Hid (Below w4.heap.size w4 w5) := blThen (by repeat (first | with_reducible exact Below.refl _ _ | with_reducible refine blAlloc ?_ _ | with_reducible refine Below.drew ?_)) h5
            have HB_w5 := Lib.hid (blThen HB_w4.out HX.out)
            have Aa := Lib.hid (Aa.out.later HX.out)
            have Ab := Lib.hid (Ab.out.later HX.out)
            have Ad := Lib.hid (Ad.out.later HX.out)
            clear h5 HX h9
            go_wp2_with fail
            refine (live8_any w5).mono ?_
            rintro e w6 ⟨rfl, h5⟩
            have HX : Hid (Below w5.heap.size w5 w6) := blThen (by repeat (first | with_reducible exact Below.refl _ _ | with_reducible refine blAlloc ?_ _ | with_reducible refine Below.drew ?_)) h5
            have HB_w6 := Lib.hid (blThen HB_w5.out HX.out)
            have Aa := Lib.hid (Aa.out.later HX.out)
            have Ab := Lib.hid (Ab.out.later HX.out)
            have Ad := Lib.hid (Ad.out.later HX.out)
            clear h5 HX
            go_wp2
            go_ret
            exact ⟨rfl, HB_w6.out⟩
          · have HC5 := Lib.hid hc5
            clear hc5
            have HD5 : Hid (Dat 60 d) := Lib.hid (dat_of HC5.out (show d.length ≤ 60 by have := HB1.out; omega))
            go_wp2_with fail
            have h9 := rdata_any vd d w4 (show d.length ≤ 1000000 by have := HB1.out; omega) Nd.out Ad.out
            rw [HC5.out] at h9
            refine (h9).mono ?_
            rintro e w5 ⟨rfl, h5⟩
            have HX : Hid (Below w4.heap.size w4 w5) := blThen (by repeat (first | with_reducible exact Below.refl _ _ | with_reducible refine blAlloc ?_ _ | with_reducible refine Below.drew ?_)) h5
            have HB_w5 := Lib.hid (blThen HB_w4.out HX.out)
            have Aa := Lib.hid (Aa.out.later HX.out)
            have Ab := Lib.hid (Ab.out.later HX.out)
            have Ad := Lib.hid (Ad.out.later HX.out)
            clear h5 HX h9
            have D0 : Dat 60 d := HD5.out
            have HLa : Hid (a.length ≤ 8 ∧ b.length ≤ 8) := ⟨HO3.out.1, HO4.out.1⟩
            have HDT := Lib.hid D0
            clear D0
            cases hcf : confP a b
            rotate_left
            · have HCF := Lib.hid hcf
              clear hcf
              go_wp2_with fail
              have h9 := conflict_any va vb a b w5 (by have := HLa.out; omega) (by have := HLa.out; omega) HO3.out.2 HO4.out.2 Aa.out Ab.out
              rw [HCF.out] at h9
              refine (h9).mono ?_
              rintro e w6 ⟨rfl, h5⟩
              have HX : Hid (Below w5.heap.size w5 w6) := blThen (by repeat (first | with_reducible exact Below.refl _ _ | with_reducible refine blAlloc ?_ _ | with_reducible refine Below.drew ?_)) h5
              have HB_w6 := Lib.hid (blThen HB_w5.out HX.out)
              have Aa := Lib.hid (Aa.out.later HX.out)
              have Ab := Lib.hid (Ab.out.later HX.out)
              have Ad := Lib.hid (Ad.out.later HX.out)
              clear h5 HX h9
              go_wp2_with fail
              have h9 := conflict_any vb va b a w6 (by have := HLa.out; omega) (by have := HLa.out; omega) HO4.out.2 HO3.out.2 Ab.out Aa.out
              rw [conf_comm b a, HCF.out] at h9
              refine (h9).mono ?_
              rintro e w7 ⟨rfl, h5⟩
              have HX : Hid (Below w6.heap.size w6 w7) := blThen (by repeat (first | with_reducible exact Below.refl _ _ | with_reducible refine blAlloc ?_ _ | with_reducible refine Below.drew ?_)) h5
              have HB_w7 := Lib.hid (blThen HB_w6.out HX.out)
              have Aa := Lib.hid (Aa.out.later HX.out)
              have Ab := Lib.hid (Ab.out.later HX.out)
              have Ad := Lib.hid (Ad.out.later HX.out)
              clear h5 HX h9
              go_wp2_with fail
              have h9 := conflict_any va vb a b w7 (by have := HLa.out; omega) (by have := HLa.out; omega) HO3.out.2 HO4.out.2 Aa.out Ab.out
              rw [HCF.out] at h9
              refine (h9).mono ?_
              rintro e w8 ⟨rfl, h5⟩
              have HX : Hid (Below w7.heap.size w7 w8) := blThen (by repeat (first | with_reducible exact Below.refl _ _ | with_reducible refine blAlloc ?_ _ | with_reducible refine Below.drew ?_)) h5
              have HB_w8 := Lib.hid (blThen HB_w7.out HX.out)
              have Aa := Lib.hid (Aa.out.later HX.out)
              have Ab := Lib.hid (Ab.out.later HX.out)
              have Ad := Lib.hid (Ad.out.later HX.out)
              clear h5 HX h9
              go_wp2_with fail
              refine (live8_any w8).mono ?_
              rintro e w9 ⟨rfl, h5⟩
              have HX : Hid (Below w8.heap.size w8 w9) := blThen (by repeat (first | with_reducible exact Below.refl _ _ | with_reducible refine blAlloc ?_ _ | with_reducible refine Below.drew ?_)) h5
              have HB_w9 := Lib.hid (blThen HB_w8.out HX.out)
              have Aa := Lib.hid (Aa.out.later HX.out)
              have Ab := Lib.hid (Ab.out.later HX.out)
              have Ad := Lib.hid (Ad.out.later HX.out)
              clear h5 HX
              go_wp2
              go_ret
              exact ⟨rfl, HB_w9.out⟩
            · have HCF := Lib.hid hcf
              have HEV := Lib.hid (either_evals HDT.out HO3.out HO4.out hcf)
              clear hcf
              go_wp2_with fail
              have h9 := conflict_any va vb a b w5 (by have := HLa.out; omega) (by have := HLa.out; omega) HO3.out.2 HO4.out.2 Aa.out Ab.out
              rw [HCF.out] at h9
              refine (h9).mono ?_
              rintro e w6 ⟨rfl, h5⟩
              have HX : Hid (Below w5.heap.size w5 w6) := blThen (by repeat (first | with_reducible exact Below.refl _ _ | with_reducible refine blAlloc ?_ _ | with_reducible refine Below.drew ?_)) h5
              have HB_w6 := Lib.hid (blThen HB_w5.out HX.out)
              have Aa := Lib.hid (Aa.out.later HX.out)
              have Ab := Lib.hid (Ab.out.later HX.out)
              have Ad := Lib.hid (Ad.out.later HX.out)
              clear h5 HX h9
              go_wp2_with fail
              have h9 := conflict_any vb va b a w6 (by have := HLa.out; omega) (by have := HLa.out; omega) HO4.out.2 HO3.out.2 Ab.out Aa.out
              rw [conf_comm b a, HCF.out] at h9
              refine (h9).mono ?_
              rintro e w7 ⟨rfl, h5⟩
              have HX : Hid (Below w6.heap.size w6 w7) := blThen (by repeat (first | with_reducible exact Below.refl _ _ | with_reducible refine blAlloc ?_ _ | with_reducible refine Below.drew ?_)) h5
              have HB_w7 := Lib.hid (blThen HB_w6.out HX.out)
              have Aa := Lib.hid (Aa.out.later HX.out)
              have Ab := Lib.hid (Ab.out.later HX.out)
              have Ad := Lib.hid (Ad.out.later HX.out)
              clear h5 HX h9
              go_wp2_with fail
              have h9 := conflict_any va vb a b w7 (by have := HLa.out; omega) (by have := HLa.out; omega) HO3.out.2 HO4.out.2 Aa.out Ab.out
              rw [HCF.out] at h9
              refine (h9).mono ?_
              rintro e w8 ⟨rfl, h5⟩
              have HX : Hid (Below w7.heap.size w7 w8) := blThen (by repeat (first | with_reducible exact Below.refl _ _ | with_reducible refine blAlloc ?_ _ | with_reducible refine Below.drew ?_)) h5
              have HB_w8 := Lib.hid (blThen HB_w7.out HX.out)
              have Aa := Lib.hid (Aa.out.later HX.out)
              have Ab := Lib.hid (Ab.out.later HX.out)
              have Ad := Lib.hid (Ad.out.later HX.out)
              clear h5 HX h9
              go_wp2_with fail
              refine (ev_any va vd a d w8 HDT.out (by omega) HO3.out Na.out Aa.out Ad.out).mono ?_
              rintro e w9 ⟨v1, u1, r1, rfl, h1, h2, h3, h4, h5⟩
              have HX : Hid (Below w8.heap.size w8 w9) := blThen (by repeat (first | with_reducible exact Below.refl _ _ | with_reducible refine blAlloc ?_ _ | with_reducible refine Below.drew ?_)) h5
              have HB_w9 := Lib.hid (blThen HB_w8.out HX.out)
              have Aa := Lib.hid (Aa.out.later HX.out)
              have Ab := Lib.hid (Ab.out.later HX.out)
              have Ad := Lib.hid (Ad.out.later HX.out)
              have HW1 := Lib.hid h1
              have HQ1 := Lib.hid h2
              have HF1 := Lib.hid h3
              have HS1 := Lib.hid h4
              clear h5 HX h1 h2 h3 h4
              go_wp2_with fail
              refine (ap_any vd v1 d (lastL (evalL d a)) w9 HDT.out (by omega) (by have := (HO3.out.last d).2; omega) (HO3.out.last d).1 Ad.out HW1.out).mono ?_
              rintro e w10 ⟨p1, rfl, h1, h5⟩
              rw [eval_last HDT.out.1] at h1
              have HX : Hid (Below w9.heap.size w9 w10) := blThen (by repeat (first | with_reducible exact Below.refl _ _ | with_reducible refine blAlloc ?_ _ | with_reducible refine Below.drew ?_)) h5
              have HB_w10 := Lib.hid (blThen HB_w9.out HX.out)
              have Aa := Lib.hid (Aa.out.later HX.out)
              have Ab := Lib.hid (Ab.out.later HX.out)
              have Ad := Lib.hid (Ad.out.later HX.out)
              have HW1 := Lib.hid (HW1.out.later HX.out)
              have HQ1 := Lib.hid (HQ1.out.later HX.out)
              have HP1 := Lib.hid h1
              clear h5 HX h1
              go_wp2_with fail
              refine (ev_any vb p1 b (evalD d a) w10 (HDT.out.eval HO3.out) (by omega) HO4.out Nb.out Ab.out HP1.out).mono ?_
              rintro e w11 ⟨v2, u2, r2, rfl, h1, h2, h3, h4, h5⟩
              rw [HEV.out.1] at h1
              rw [HEV.out.2.1] at h4
              have HX : Hid (Below w10.heap.size w10 w11) := blThen (by repeat (first | with_reducible exact Below.refl _ _ | with_reducible refine blAlloc ?_ _ | with_reducible refine Below.drew ?_)) h5
              have HB_w11 := Lib.hid (blThen HB_w10.out HX.out)
              have Aa := Lib.hid (Aa.out.later HX.out)
              have Ab := Lib.hid (Ab.out.later HX.out)
              have Ad := Lib.hid (Ad.out.later HX.out)
              have HW1 := Lib.hid (HW1.out.later HX.out)
              have HQ1 := Lib.hid (HQ1.out.later HX.out)
              have HP1 := Lib.hid (HP1.out.later HX.out)
              have HW2 := Lib.hid h1
              have HQ2 := Lib.hid h2
              have HF2 := Lib.hid h3
              have HS2 := Lib.hid h4
              clear h5 HX h1 h2 h3 h4
              go_wp2_with fail
              refine (ap_any p1 v2 (evalD d a) (lastL (evalL d b)) w11 (HDT.out.eval HO3.out) (by omega) (by have := (HO4.out.last d).2; omega) (HO4.out.last d).1 HP1.out HW2.out).mono ?_
              rintro e w12 ⟨p2, rfl, h1, h5⟩
              have HX : Hid (Below w11.heap.size w11 w12) := blThen (by repeat (first | with_reducible exact Below.refl _ _ | with_reducible refine blAlloc ?_ _ | with_reducible refine Below.drew ?_)) h5
              have HB_w12 := Lib.hid (blThen HB_w11.out HX.out)
              have Aa := Lib.hid (Aa.out.later HX.out)
              have Ab := Lib.hid (Ab.out.later HX.out)
              have Ad := Lib.hid (Ad.out.later HX.out)
              have HW1 := Lib.hid (HW1.out.later HX.out)
              have HQ1 := Lib.hid (HQ1.out.later HX.out)
              have HP1 := Lib.hid (HP1.out.later HX.out)
              have HW2 := Lib.hid (HW2.out.later HX.out)
              have HQ2 := Lib.hid (HQ2.out.later HX.out)
              have HP2 := Lib.hid h1
              clear h5 HX h1
              go_wp2_with fail
              refine (ev_any vb vd b d w12 HDT.out (by omega) HO4.out Nb.out Ab.out Ad.out).mono ?_
              rintro e w13 ⟨v3, u3, r3, rfl, h1, h2, h3, h4, h5⟩
              have HX : Hid (Below w12.heap.size w12 w13) := blThen (by repeat (first | with_reducible exact Below.refl _ _ | with_reducible refine blAlloc ?_ _ | with_reducible refine Below.drew ?_)) h5
              have HB_w13 := Lib.hid (blThen HB_w12.out HX.out)
              have Aa := Lib.hid (Aa.out.later HX.out)
              have Ab := Lib.hid (Ab.out.later HX.out)
              have Ad := Lib.hid (Ad.out.later HX.out)
              have HW1 := Lib.hid (HW1.out.later HX.out)
              have HQ1 := Lib.hid (HQ1.out.later HX.out)
              have HP1 := Lib.hid (HP1.out.later HX.out)
              have HW2 := Lib.hid (HW2.out.later HX.out)
              have HQ2 := Lib.hid (HQ2.out.later HX.out)
              have HP2 := Lib.hid (HP2.out.later HX.out)
              have HW3 := Lib.hid h1
              have HQ3 := Lib.hid h2
              have HF3 := Lib.hid h3
              have HS3 := Lib.hid h4
              clear h5 HX h1 h2 h3 h4
              go_wp2_with fail
              refine (ap_any vd v3 d (lastL (evalL d b)) w13 HDT.out (by omega) (by have := (HO4.out.last d).2; omega) (HO4.out.last d).1 Ad.out HW3.out).mono ?_
              rintro e w14 ⟨p3, rfl, h1, h5⟩
              rw [eval_last HDT.out.1] at h1
              have HX : Hid (Below w13.heap.size w13 w14) := blThen (by repeat (first | with_reducible exact Below.refl _ _ | with_reducible refine blAlloc ?_ _ | with_reducible refine Below.drew ?_)) h5
              have HB_w14 := Lib.hid (blThen HB_w13.out HX.out)
              have Aa := Lib.hid (Aa.out.later HX.out)
              have Ab := Lib.hid (Ab.out.later HX.out)
              have Ad := Lib.hid (Ad.out.later HX.out)
              have HW1 := Lib.hid (HW1.out.later HX.out)
              have HQ1 := Lib.hid (HQ1.out.later HX.out)
              have HP1 := Lib.hid (HP1.out.later HX.out)
              have HW2 := Lib.hid (HW2.out.later HX.out)
              have HQ2 := Lib.hid (HQ2.out.later HX.out)
              have HP2 := Lib.hid (HP2.out.later HX.out)
              have HW3 := Lib.hid (HW3.out.later HX.out)
              have HQ3 := Lib.hid (HQ3.out.later HX.out)
              have HP3 := Lib.hid h1
              clear h5 HX h1
              go_wp2_with fail
              refine (ev_any va p3 a (evalD d b) w14 (HDT.out.eval HO4.out) (by omega) HO3.out Na.out Aa.out HP3.out).mono ?_
              rintro e w15 ⟨v4, u4, r4, rfl, h1, h2, h3, h4, h5⟩
              rw [HEV.out.2.2.1] at h1
              rw [HEV.out.2.2.2.1] at h4
              have HX : Hid (Below w14.heap.size w14 w15) := blThen (by repeat (first | with_reducible exact Below.refl _ _ | with_reducible refine blAlloc ?_ _ | with_reducible refine Below.drew ?_)) h5
              have HB_w15 := Lib.hid (blThen HB_w14.out HX.out)
              have Aa := Lib.hid (Aa.out.later HX.out)
              have Ab := Lib.hid (Ab.out.later HX.out)
              have Ad := Lib.hid (Ad.out.later HX.out)
              have HW1 := Lib.hid (HW1.out.later HX.out)
              have HQ1 := Lib.hid (HQ1.out.later HX.out)
              have HP1 := Lib.hid (HP1.out.later HX.out)
              have HW2 := Lib.hid (HW2.out.later HX.out)
              have HQ2 := Lib.hid (HQ2.out.later HX.out)
              have HP2 := Lib.hid (HP2.out.later HX.out)
              have HW3 := Lib.hid (HW3.out.later HX.out)
              have HQ3 := Lib.hid (HQ3.out.later HX.out)
              have HP3 := Lib.hid (HP3.out.later HX.out)
              have HW4 := Lib.hid h1
              have HQ4 := Lib.hid h2
              have HF4 := Lib.hid h3
              have HS4 := Lib.hid h4
              clear h5 HX h1 h2 h3 h4
              go_wp2_with fail
              refine (ap_any p3 v4 (evalD d b) (lastL (evalL d a)) w15 (HDT.out.eval HO4.out) (by omega) (by have := (HO3.out.last d).2; omega) (HO3.out.last d).1 HP3.out HW4.out).mono ?_
              rintro e w16 ⟨p4, rfl, h1, h5⟩
              have HX : Hid (Below w15.heap.size w15 w16) := blThen (by repeat (first | with_reducible exact Below.refl _ _ | with_reducible refine blAlloc ?_ _ | with_reducible refine Below.drew ?_)) h5
              have HB_w16 := Lib.hid (blThen HB_w15.out HX.out)
              have Aa := Lib.hid (Aa.out.later HX.out)
              have Ab := Lib.hid (Ab.out.later HX.out)
              have Ad := Lib.hid (Ad.out.later HX.out)
              have HW1 := Lib.hid (HW1.out.later HX.out)
              have HQ1 := Lib.hid (HQ1.out.later HX.out)
              have HP1 := Lib.hid (HP1.out.later HX.out)
              have HW2 := Lib.hid (HW2.out.later HX.out)
              have HQ2 := Lib.hid (HQ2.out.later HX.out)
              have HP2 := Lib.hid (HP2.out.later HX.out)
              have HW3 := Lib.hid (HW3.out.later HX.out)
              have HQ3 := Lib.hid (HQ3.out.later HX.out)
              have HP3 := Lib.hid (HP3.out.later HX.out)
              have HW4 := Lib.hid (HW4.out.later HX.out)
              have HQ4 := Lib.hid (HQ4.out.later HX.out)
              have HP4 := Lib.hid h1
              clear h5 HX h1
              go_wp2_with fail
              have h9 := ansame_any u1 u4 r1 r4 w16 HF1.out HF4.out HQ1.out HQ4.out
              rw [decide_eq_true (show r1.map AnR.ans = r4.map AnR.ans from HS1.out.trans HS4.out.symm)] at h9
              refine (h9).mono ?_
              rintro e w17 ⟨rfl, h5⟩
              have HX : Hid (Below w16.heap.size w16 w17) := blThen (by repeat (first | with_reducible exact Below.refl _ _ | with_reducible refine blAlloc ?_ _ | with_reducible refine Below.drew ?_)) h5
              have HB_w17 := Lib.hid (blThen HB_w16.out HX.out)
              have Aa := Lib.hid (Aa.out.later HX.out)
              have Ab := Lib.hid (Ab.out.later HX.out)
              have Ad := Lib.hid (Ad.out.later HX.out)
              have HW1 := Lib.hid (HW1.out.later HX.out)
              have HQ1 := Lib.hid (HQ1.out.later HX.out)
              have HP1 := Lib.hid (HP1.out.later HX.out)
              have HW2 := Lib.hid (HW2.out.later HX.out)
              have HQ2 := Lib.hid (HQ2.out.later HX.out)
              have HP2 := Lib.hid (HP2.out.later HX.out)
              have HW3 := Lib.hid (HW3.out.later HX.out)
              have HQ3 := Lib.hid (HQ3.out.later HX.out)
              have HP3 := Lib.hid (HP3.out.later HX.out)
              have HW4 := Lib.hid (HW4.out.later HX.out)
              have HQ4 := Lib.hid (HQ4.out.later HX.out)
              have HP4 := Lib.hid (HP4.out.later HX.out)
              clear h5 HX h9
              go_wp2_with fail
              have h9 := ansame_any u2 u3 r2 r3 w17 HF2.out HF3.out HQ2.out HQ3.out
              rw [decide_eq_true (show r2.map AnR.ans = r3.map AnR.ans from HS2.out.trans HS3.out.symm)] at h9
              refine (h9).mono ?_
              rintro e w18 ⟨rfl, h5⟩
              have HX : Hid (Below w17.heap.size w17 w18) := blThen (by repeat (first | with_reducible exact Below.refl _ _ | with_reducible refine blAlloc ?_ _ | with_reducible refine Below.drew ?_)) h5
              have HB_w18 := Lib.hid (blThen HB_w17.out HX.out)
              have Aa := Lib.hid (Aa.out.later HX.out)
              have Ab := Lib.hid (Ab.out.later HX.out)
              have Ad := Lib.hid (Ad.out.later HX.out)
              have HW1 := Lib.hid (HW1.out.later HX.out)
              have HQ1 := Lib.hid (HQ1.out.later HX.out)
              have HP1 := Lib.hid (HP1.out.later HX.out)
              have HW2 := Lib.hid (HW2.out.later HX.out)
              have HQ2 := Lib.hid (HQ2.out.later HX.out)
              have HP2 := Lib.hid (HP2.out.later HX.out)
              have HW3 := Lib.hid (HW3.out.later HX.out)
              have HQ3 := Lib.hid (HQ3.out.later HX.out)
              have HP3 := Lib.hid (HP3.out.later HX.out)
              have HW4 := Lib.hid (HW4.out.later HX.out)
              have HQ4 := Lib.hid (HQ4.out.later HX.out)
              have HP4 := Lib.hid (HP4.out.later HX.out)
              clear h5 HX h9
              go_wp2_with fail
              have h9 := wrsame_any v1 v4 (lastL (evalL d a)) (lastL (evalL d a)) w18 (by have := (HO3.out.last d).2; omega) (by have := (HO3.out.last d).2; omega) HW1.out HW4.out
              rw [decide_eq_true (show (lastL (evalL d a)) = (lastL (evalL d a)) from rfl)] at h9
              refine (h9).mono ?_
              rintro e w19 ⟨rfl, h5⟩
              have HX : Hid (Below w18.heap.size w18 w19) := blThen (by repeat (first | with_reducible exact Below.refl _ _ | with_reducible refine blAlloc ?_ _ | with_reducible refine Below.drew ?_)) h5
              have HB_w19 := Lib.hid (blThen HB_w18.out HX.out)
              have Aa := Lib.hid (Aa.out.later HX.out)
              have Ab := Lib.hid (Ab.out.later HX.out)
              have Ad := Lib.hid (Ad.out.later HX.out)
              have HW1 := Lib.hid (HW1.out.later HX.out)
              have HQ1 := Lib.hid (HQ1.out.later HX.out)
              have HP1 := Lib.hid (HP1.out.later HX.out)
              have HW2 := Lib.hid (HW2.out.later HX.out)
              have HQ2 := Lib.hid (HQ2.out.later HX.out)
              have HP2 := Lib.hid (HP2.out.later HX.out)
              have HW3 := Lib.hid (HW3.out.later HX.out)
              have HQ3 := Lib.hid (HQ3.out.later HX.out)
              have HP3 := Lib.hid (HP3.out.later HX.out)
              have HW4 := Lib.hid (HW4.out.later HX.out)
              have HQ4 := Lib.hid (HQ4.out.later HX.out)
              have HP4 := Lib.hid (HP4.out.later HX.out)
              clear h5 HX h9
              go_wp2_with fail
              have h9 := wrsame_any v2 v3 (lastL (evalL d b)) (lastL (evalL d b)) w19 (by have := (HO4.out.last d).2; omega) (by have := (HO4.out.last d).2; omega) HW2.out HW3.out
              rw [decide_eq_true (show (lastL (evalL d b)) = (lastL (evalL d b)) from rfl)] at h9
              refine (h9).mono ?_
              rintro e w20 ⟨rfl, h5⟩
              have HX : Hid (Below w19.heap.size w19 w20) := blThen (by repeat (first | with_reducible exact Below.refl _ _ | with_reducible refine blAlloc ?_ _ | with_reducible refine Below.drew ?_)) h5
              have HB_w20 := Lib.hid (blThen HB_w19.out HX.out)
              have Aa := Lib.hid (Aa.out.later HX.out)
              have Ab := Lib.hid (Ab.out.later HX.out)
              have Ad := Lib.hid (Ad.out.later HX.out)
              have HW1 := Lib.hid (HW1.out.later HX.out)
              have HQ1 := Lib.hid (HQ1.out.later HX.out)
              have HP1 := Lib.hid (HP1.out.later HX.out)
              have HW2 := Lib.hid (HW2.out.later HX.out)
              have HQ2 := Lib.hid (HQ2.out.later HX.out)
              have HP2 := Lib.hid (HP2.out.later HX.out)
              have HW3 := Lib.hid (HW3.out.later HX.out)
              have HQ3 := Lib.hid (HQ3.out.later HX.out)
              have HP3 := Lib.hid (HP3.out.later HX.out)
              have HW4 := Lib.hid (HW4.out.later HX.out)
              have HQ4 := Lib.hid (HQ4.out.later HX.out)
              have HP4 := Lib.hid (HP4.out.later HX.out)
              clear h5 HX h9
              go_wp2_with fail
              have h9 := prsame_any p2 p4 (applyP (evalD d a) (lastL (evalL d b))) (applyP (evalD d b) (lastL (evalL d a))) w20 (by have := ((HDT.out.eval HO3.out).last (e := d) HO4.out).2.2; omega) (by have := ((HDT.out.eval HO4.out).last (e := d) HO3.out).2.2; omega) HP2.out HP4.out
              rw [decide_eq_true (show (applyP (evalD d a) (lastL (evalL d b))) = (applyP (evalD d b) (lastL (evalL d a))) from HEV.out.2.2.2.2)] at h9
              refine (h9).mono ?_
              rintro e w21 ⟨rfl, h5⟩
              have HX : Hid (Below w20.heap.size w20 w21) := blThen (by repeat (first | with_reducible exact Below.refl _ _ | with_reducible refine blAlloc ?_ _ | with_reducible refine Below.drew ?_)) h5
              have HB_w21 := Lib.hid (blThen HB_w20.out HX.out)
              have Aa := Lib.hid (Aa.out.later HX.out)
              have Ab := Lib.hid (Ab.out.later HX.out)
              have Ad := Lib.hid (Ad.out.later HX.out)
              have HW1 := Lib.hid (HW1.out.later HX.out)
              have HQ1 := Lib.hid (HQ1.out.later HX.out)
              have HP1 := Lib.hid (HP1.out.later HX.out)
              have HW2 := Lib.hid (HW2.out.later HX.out)
              have HQ2 := Lib.hid (HQ2.out.later HX.out)
              have HP2 := Lib.hid (HP2.out.later HX.out)
              have HW3 := Lib.hid (HW3.out.later HX.out)
              have HQ3 := Lib.hid (HQ3.out.later HX.out)
              have HP3 := Lib.hid (HP3.out.later HX.out)
              have HW4 := Lib.hid (HW4.out.later HX.out)
              have HQ4 := Lib.hid (HQ4.out.later HX.out)
              have HP4 := Lib.hid (HP4.out.later HX.out)
              clear h5 HX h9
              go_wp2_with fail
              refine (live8_any w21).mono ?_
              rintro e w22 ⟨rfl, h5⟩
              have HX : Hid (Below w21.heap.size w21 w22) := blThen (by repeat (first | with_reducible exact Below.refl _ _ | with_reducible refine blAlloc ?_ _ | with_reducible refine Below.drew ?_)) h5
              have HB_w22 := Lib.hid (blThen HB_w21.out HX.out)
              have Aa := Lib.hid (Aa.out.later HX.out)
              have Ab := Lib.hid (Ab.out.later HX.out)
              have Ad := Lib.hid (Ad.out.later HX.out)
              have HW1 := Lib.hid (HW1.out.later HX.out)
              have HQ1 := Lib.hid (HQ1.out.later HX.out)
              have HP1 := Lib.hid (HP1.out.later HX.out)
              have HW2 := Lib.hid (HW2.out.later HX.out)
              have HQ2 := Lib.hid (HQ2.out.later HX.out)
              have HP2 := Lib.hid (HP2.out.later HX.out)
              have HW3 := Lib.hid (HW3.out.later HX.out)
              have HQ3 := Lib.hid (HQ3.out.later HX.out)
              have HP3 := Lib.hid (HP3.out.later HX.out)
              have HW4 := Lib.hid (HW4.out.later HX.out)
              have HQ4 := Lib.hid (HQ4.out.later HX.out)
              have HP4 := Lib.hid (HP4.out.later HX.out)
              clear h5 HX
              go_wp2
              go_ret
              exact ⟨rfl, HB_w22.out⟩

end SP
end Go.Proofs.YtfdkkgjkhamoeaaGreat

/- TxnEither. Conditions: none. -/
set_option linter.unusedVariables false
set_option linter.unusedSimpArgs false
namespace Go.Proofs.YtfdkkgjkhamoeaaGreat
open S3 SN
namespace SP
open Go.ChangeShapes Go.WideShapes Go.ChangeAt Go.RowKit Go.Joins Go.Deep


set_option maxRecDepth 100000 in
theorem txnEither_lifted (os : Os) (started : os.Started) (H : Type) (enc : TypeId × Value → H) :
    ReturnsInHanded {} Tryz.checked os 7 .any (Rows.txnEitherSpec.pre6 enc Tryz.prog Tryz.f7 Rows.txnEitherRow.domain false) (Rows.txnEitherSpec.post enc Tryz.prog Tryz.f7 false true false false) := by
  refine law_lift_sized (C := Tryz.checked) own0 started (by kernel_rfl) Tryz.func7 laid0 rfl (by kernel_rfl) (fun _ _ _ _ => trodAll_mk1 (shut_bool Tryz.underlying4 true)) (fun ds h => match ds, h with | [_, _, _], _ => ⟨rfl, rfl, rfl⟩)
    (ChangeSpec.witness6 (enc := enc) (C := Tryz.checked) false ⟨#[], #[.slice none 0 0, .slice none 0 0, .slice none 0 0], []⟩ 8 (by kernel_rfl) (by kernel_rfl) (by kernel_rfl) (by kernel_rfl)) ?_
  intro W base args ds before hval0 hA0 hlt hsz
  have hval : ∀ (j : Nat) t v, Tryz.f7.params[j]? = some t → args[j]? = some v → Value.okWide Tryz.prog W .any base t v := hval0
  have hA : DataW.TrodAll enc Tryz.prog W 0 (fun _ => true) true Tryz.f7.params.toList args.toList ds before := hA0
  rw [Tryz.params7] at hA hval
  obtain ⟨v0, v1, v2, d0, d1, d2, p0, p1, p2, rfl, rfl, rfl, h0, h1, h2⟩ := trodAll_three hA
  obtain ⟨a, oa, ma, ra⟩ := open_ops (hval 0 22 v0 rfl rfl) h0
  obtain ⟨b, ob, mb, rb⟩ := open_ops (hval 1 22 v1 rfl rfl) h1
  obtain ⟨d, od, md, rd⟩ := open_pairs (hval 2 42 v2 rfl rfl) h2
  exact txnEither_walk v0 a v1 b v2 d W ma (fun o ho => ⟨inW_le8 (ra o ho).2.2.1 hsz (j := 0) (by kernel_rfl) rfl, inW_le8 (ra o ho).2.2.2 hsz (j := 0) (by kernel_rfl) rfl⟩) (fun o ho => (ra o ho).2.1) oa mb (fun o ho => ⟨inW_le8 (rb o ho).2.2.1 hsz (j := 1) (by kernel_rfl) rfl, inW_le8 (rb o ho).2.2.2 hsz (j := 1) (by kernel_rfl) rfl⟩) (fun o ho => (rb o ho).2.1) ob md (fun o ho => inW_le8 (rd o ho).2 hsz (j := 2) (by kernel_rfl) rfl) (fun o ho => (rd o ho).1) od

theorem txnEither_holds : Rows.TxnEitherSaid :=
  OpenClaim.holds_of_wide 7 Tryz.f7 rfl rfl rfl rfl rfl rfl rfl ⟨rfl, rfl, rfl, rfl, rfl⟩ rfl rfl rfl rfl rfl (by kernel_rfl) Tryz.func7 (by kernel_rfl)
    (of_decide_eq_true (by kernel_rfl)) (by unfold Func.isWrapper; rw [if_neg (of_decide_eq_false (by kernel_rfl))]; exact ⟨rfl, rfl⟩)
    (fun os started H enc _ => txnEither_lifted os started H enc)

#print axioms txnEither_holds

end SP
end Go.Proofs.YtfdkkgjkhamoeaaGreat
