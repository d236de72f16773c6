/- TxnParts. Conditions: none. -/
import Derived.WalkSpells
import Derived.Lib.SmallJoins
import Derived.Test.YtfdkkgjkhamoeaaGreatMg42
import Derived.Test.YtfdkkgjkhamoeaaGreatMg43
import Derived.Test.YtfdkkgjkhamoeaaGreatMg37
import Derived.Test.YtfdkkgjkhamoeaaGreatMg38
/- What the laws of stage 8 share: data that stay small, Eval and Apply as the laws call them, facts of checked ops. Conditions: as each theorem states. -/
set_option linter.unusedVariables false
namespace Go.Proofs.YtfdkkgjkhamoeaaGreat
open S3 SN
namespace SP
open Go.ChangeShapes Go.WideShapes Go.ChangeAt Go.RowKit Go.Joins Go.Deep

theorem smallB_len2 {l : List Opr} {d : Al Nat} (h : smallB l d = true) : l.length ≤ 60 ∧ d.length ≤ 60 := by
  have := of_decide_eq_true h
  exact ⟨this.1, this.2.1⟩
/-- Data that rise, of at most n pairs, with keys of at most a thousand bytes. -/
def Dat (n : Nat) (d : Al Nat) : Prop := RisA d ∧ (∀ p ∈ d, p.1.size ≤ 1000) ∧ d.length ≤ n
theorem dat_of {l : Al Nat} {n : Nat} (h : dataB none l = true) (hl : l.length ≤ n) : Dat n l := by
  obtain ⟨h1, _, h3⟩ := dataB_ris l none h
  exact ⟨h1, fun p hp => Nat.le_trans (key_len (h3 p hp).1) (by decide), hl⟩
theorem do_keys {d : Al Nat} {w : Wrt} {P : ByteArray → Prop} (hd : ∀ p ∈ d, P p.1) (hw : P w.1) : ∀ p ∈ doW d w, P p.1 := by
  intro p hp
  unfold doW at hp
  split at hp
  · exact hd p (List.mem_filter.1 hp).1
  · rcases putA_mem _ _ _ p hp with rfl | hp
    · exact hw
    · exact hd p hp
theorem apply_keys {P : ByteArray → Prop} : ∀ (l : List Wrt) {d : Al Nat}, (∀ p ∈ d, P p.1) → (∀ w ∈ l, P w.1) → ∀ p ∈ applyP d l, P p.1
  | [], _, hd, _ => hd
  | w :: l, d, hd, hl => apply_keys l (do_keys hd (hl w (by simp))) fun x hx => hl x (by simp [hx])
theorem Dat.app {n m : Nat} {d : Al Nat} {l : List Wrt} (h : Dat n d) (hk : ∀ x ∈ l, x.1.size ≤ 1000) (hl : l.length ≤ m) : Dat (n + m) (applyP d l) := by
  refine ⟨ris_apply l h.1, apply_keys (P := fun k => k.size ≤ 1000) l h.2.1 hk, ?_⟩
  have := apply_len l d
  have := h.2.2
  omega
def Okl (l : List Opr) : Prop := l.length ≤ 8 ∧ ∀ o ∈ l, okB o = true
theorem okl_of {l : List Opr} (h : checkP l = 0) : Okl l := ⟨(check_kd h).1, (check_kd h).2.2⟩
theorem Okl.kd {l : List Opr} (h : Okl l) : ∀ o ∈ l, Kd o := fun o ho => (ok_kd (h.2 o ho)).1
theorem Okl.keys {l : List Opr} (h : Okl l) (d : Al Nat) : ∀ x ∈ evalL d l, x.1.size ≤ 1000 := fun x hx => Nat.le_trans (evalL_small l d h.2 x hx) (by decide)
theorem Okl.last {l : List Opr} (h : Okl l) (d : Al Nat) : (∀ x ∈ lastL (evalL d l), x.1.size ≤ 1000) ∧ (lastL (evalL d l)).length ≤ 16 := by
  refine ⟨fun x hx => h.keys d (x.1, x.2) (last_keys hx), ?_⟩
  have := evals_len l d
  have := h.1
  omega
theorem Dat.eval {n : Nat} {d : Al Nat} {l : List Opr} (h : Dat n d) (ho : Okl l) : Dat (n + 16) (evalD d l) := by
  rw [evalD_eq]
  refine h.app (ho.keys d) ?_
  have := evalL_len l d
  have := ho.1
  omega
theorem Dat.last {n : Nat} {d e : Al Nat} {l : List Opr} (h : Dat n d) (ho : Okl l) : Dat (n + 16) (applyP d (lastL (evalL e l))) := h.app (ho.last e).1 (ho.last e).2
theorem inA_len {α : Type} (P : ByteArray → Bool) (d : Al α) : (inA P d).length ≤ d.length := List.length_filter_le _ _
theorem opA_prs (d : Al Nat) (o : Opr) : (opA d o).2.2.length ≤ d.length := by
  unfold opA
  repeat (first | split | exact Nat.zero_le _ | exact inA_len _ _)
theorem evalA_prs : ∀ (l : List Opr) (d : Al Nat), ∀ a ∈ evalA d l, a.2.2.length ≤ d.length + 2 * l.length
  | [], _, a, ha => by simp [evalA] at ha
  | o :: l, d, a, ha => by
    rw [List.length_cons]
    rcases List.mem_cons.1 ha with rfl | ha
    · have := opA_prs d o
      omega
    · have h1 := evalA_prs l _ a ha
      have h2 := apply_len (opW d o) d
      have h3 := opW_len d o
      omega
theorem eval_picked {l : List Opr} {n : Nat} {d : Al Nat} (hd : Dat n d) (ho : Okl l) : Dat n (inA (memL (readsP l)) d) :=
  ⟨risA_in hd.1 _, fun p hp => hd.2.1 p (List.mem_filter.1 hp).1, Nat.le_trans (inA_len _ _) hd.2.2⟩
/-- What Eval comes to, as the laws look at it. -/
def RetE (w : World) (d : Al Nat) (l : List Opr) (e : Ending) (w' : World) : Prop :=
  ∃ v u rs, e = .returned (.tuple #[v, u]) ∧ SlG eW w' v (lastL (evalL d l)) ∧ AnsL w' u rs ∧ FewA rs ∧ rs.map AnR.ans = evalA d l ∧ Below w.heap.size w w'
theorem ev_any (va vs : Value) (l : List Opr) (d : Al Nat) {n : Nat} (w : World) (h : Dat n d) (hn : n ≤ 10000) (ho : Okl l) (hnm : ∀ o ∈ l, o.2.2.2 < 18446744073709551616) (ha : SlG eO w va l) (hs : SlG eP w vs d) : Calls Tryz.prog 35 #[va, vs] w (RetE w d l) := by
  have h3 := h.2.2
  have h4 := ho.1
  refine (eval_any va vs l d w (by omega) (by omega) h.1 (fun p hp => by have := h.2.1 p hp; unfold maxLen; omega) ho.2 hnm ha hs).mono ?_
  rintro e w' ⟨v, u, rs, rfl, h1, h2, h5⟩
  refine ⟨v, u, rs, rfl, h1.sl, anss_list h2, anss_few h2 ?_ ?_, h2.same, h5⟩
  · rw [evalA_length]; omega
  · intro a ha
    have := evalA_prs l d a ha
    omega
def RetA (w : World) (r : Al Nat) (e : Ending) (w' : World) : Prop := ∃ v, e = .returned v ∧ SlG eP w' v r ∧ Below w.heap.size w w'
theorem ap_any (va vs : Value) (d : Al Nat) (l : List Wrt) {n : Nat} (w : World) (h : Dat n d) (hn : n ≤ 10000) (hl : l.length ≤ 1000) (hk : ∀ x ∈ l, x.1.size ≤ 1000) (ha : SlG eP w va d) (hs : SlG eW w vs l) : Calls Tryz.prog 41 #[va, vs] w (RetA w (applyP d l)) := by
  have h3 := h.2.2
  refine (apply_any va vs d l w (by omega) (by omega) h.1 (fun p hp => by have := h.2.1 p hp; unfold maxLen; omega) (fun p hp => by have := hk p hp; unfold maxLen; omega) ha hs).mono ?_
  rintro e w' ⟨v, rfl, h1, h5⟩
  exact ⟨v, rfl, h1.sl, h5⟩
theorem pk_any (va vs : Value) (l : Al Nat) (S : List Sp) {n : Nat} (w : World) (h : Dat n l) (hn : n ≤ 10000) (hS : S.length ≤ 1000000) (hset : IsSet S) (ha : SlG eP w va l) (hs : Sl w vs S) : Calls Tryz.prog 43 #[va, vs] w (RetA w (inA (memL S) l)) := by
  have h3 := h.2.2
  refine (pick_any va vs l S w (by omega) hS hset ha hs).mono ?_
  rintro e w' ⟨v, rfl, h1, h5⟩
  exact ⟨v, rfl, h1.sl, h5⟩
theorem either_evals {a b : List Opr} {d : Al Nat} {n : Nat} (hd : Dat n d) (ha : Okl a) (hb : Okl b) (h : confP a b = false) :
    evalL (evalD d a) b = evalL d b ∧ evalA (evalD d a) b = evalA d b ∧ evalL (evalD d b) a = evalL d a ∧ evalA (evalD d b) a = evalA d a ∧ applyP (evalD d a) (lastL (evalL d b)) = applyP (evalD d b) (lastL (evalL d a)) := by
  have h1 := behind hd.1 hb.kd h
  have h2 := behind hd.1 ha.kd (by rw [conf_comm]; exact h)
  rw [← evalD_eq] at h1 h2
  refine ⟨h1.1, h1.2, h2.1, h2.2, ?_⟩
  rw [apply_last (ris_evalD hd.1 _), apply_last (ris_evalD hd.1 _), evalD_eq, evalD_eq]
  exact either_data hd.1 h
theorem parts_evals {d : Al Nat} {n : Nat} (hd : Dat n d) (l : List Opr) (k : Nat) : evalA d l = evalA d (l.take k) ++ evalA (evalD d (l.take k)) (l.drop k) ∧ applyP d (lastL (evalL d l)) = applyP (evalD d (l.take k)) (lastL (evalL (evalD d (l.take k)) (l.drop k))) := by
  have h1 := evalA_append (l.take k) (l.drop k) d
  have h2 := parts_data hd.1 (l.take k) (l.drop k)
  rw [List.take_append_drop] at h1 h2
  exact ⟨h1, h2⟩
theorem Okl.sub {l m : List Opr} (h : Okl l) (hm : ∀ o ∈ m, o ∈ l) (hl : m.length ≤ l.length) : Okl m := ⟨Nat.le_trans hl h.1, fun o ho => h.2 o (hm o ho)⟩
theorem rs_len {rs : List AnR} {d : Al Nat} {l : List Opr} (h : rs.map AnR.ans = evalA d l) : rs.length = l.length := by
  have := congrArg List.length h
  rwa [List.length_map, evalA_length] at this
theorem few_app {r s : List AnR} (hr : FewA r) (hs : FewA s) (h : r.length + s.length ≤ 1000) : FewA (r ++ s) :=
  ⟨by rw [List.length_append]; exact h, fun x hx => (List.mem_append.1 hx).elim (hr.2 x) (hs.2 x)⟩
theorem ansL_app {w : World} {v u x : Value} {r s : List AnR} (h : SlG eA w v (r ++ s)) (hr : AnsL w u r) (hs : AnsL w x s) : AnsL w v (r ++ s) :=
  ⟨h, fun y hy => (List.mem_append.1 hy).elim (hr.2 y) (hs.2 y)⟩
theorem slG_some {α : Type} {E : Enc α} {w : World} {a : Option Addr} {n c : Nat} {l : List α} (h : SlG E w (.slice a n c) l) (hl : l ≠ []) : ∃ ad, a = some ad := by
  obtain ⟨a', c', hv, _, h2⟩ := h
  obtain ⟨g, o, h3, _⟩ := h2 hl
  cases hv
  exact ⟨_, h3⟩
section
variable {H : Type}
theorem inW_le8 {t : TypeId} {d : DataW H} {k : ByteArray} (h : InW t d k) {ts : List TypeId} {ds : List (DataW H)} (hsz : (DataW.weightsEach Tryz.prog ts ds).all (· ≤ reachBytes) = true) {j : Nat} (ht : ts[j]? = some t) (hd : ds[j]? = some d) : k.size ≤ 140737488355328 := by
  obtain ⟨n, hn, hk⟩ := h
  exact Nat.le_trans hk (reach_of hsz ht hd hn)
end

end SP
end Go.Proofs.YtfdkkgjkhamoeaaGreat

/- Openers of a write, of a text, of a number, as they come in. Conditions: none. -/
set_option linter.unusedVariables false
namespace Go.Proofs.YtfdkkgjkhamoeaaGreat
open S3 SN
namespace SP
open Go.ChangeShapes Go.WideShapes Go.ChangeAt Go.RowKit Go.Joins Go.Deep

theorem cellsWr : Tryz.prog.cellsOf 61 = 3 := by kernel_rfl
section
variable {H : Type} {enc : TypeId × Value → H}
set_option maxRecDepth 100000 in
theorem open_write {r : Reach} {b0 : Nat} {w : World} {v : Value} {d : DataW H} {p : List MemPlace} (hv : Value.okWide Tryz.prog w r b0 61 v) (h : DataW.Trod enc Tryz.prog w 0 (fun _ => true) true 61 v d p) :
    ∃ (k : ByteArray) (n : Nat) (g : Bool), v = .agg #[.string k, .int .u64 (n : Int), .bool g] ∧ n < 18446744073709551616 ∧ InW 61 d k := by
  obtain ⟨c0, c1, c2, y0, y1, y2, m, rfl, rfl, rfl, hy0, hy1, hy2⟩ := open_agg3 Tryz.underlying61 (by kernel_rfl) cellsWr hv h
  obtain ⟨x, hx0, hxd, _⟩ := DataW.trod_string Tryz.underlying9 hy0
  obtain ⟨y, hy0', _, wy⟩ := DataW.trod_int Tryz.underlying59 hy1
  obtain ⟨g, hg0, _⟩ := DataW.trod_bool Tryz.underlying4 hy2
  simp only [List.cons.injEq, and_true] at hx0 hy0' hg0
  subst hx0 hy0' hg0
  obtain ⟨yn, hyn, rfl⟩ := nat8 wy
  refine ⟨x, yn, g, rfl, hyn, x.data.toList.length, ?_, by rw [ba_len]; exact Nat.le_refl _⟩
  simp only [DataW.weights, Tryz.underlying61]
  refine List.mem_append_left _ ?_
  rw [hxd]
  simp [DataW.weights]
set_option maxRecDepth 100000 in
theorem open_str {r : Reach} {b0 : Nat} {w : World} {v : Value} {d : DataW H} {p : List MemPlace} (hv : Value.okWide Tryz.prog w r b0 9 v) (h : DataW.Trod enc Tryz.prog w 0 (fun _ => true) true 9 v d p) :
    ∃ k : ByteArray, v = .string k ∧ InW 9 d k := by
  obtain ⟨x, rfl⟩ := okWide_string Tryz.underlying9 hv
  obtain ⟨fuel, hf⟩ := h
  have hf' : DataW.trod enc Tryz.prog w 0 (fun _ => true) true fuel 9 [.string x] = some (d, p) := by simpa [Value.cells] using hf
  obtain ⟨y, hx0, hxd, _⟩ := DataW.trod_string Tryz.underlying9 hf'
  simp only [List.cons.injEq, and_true, Value.string.injEq] at hx0
  subst hx0
  have hxe : d = .lit (.string x.data.toList) := congrArg Prod.fst hxd
  refine ⟨x, rfl, x.data.toList.length, ?_, by rw [ba_len]; exact Nat.le_refl _⟩
  rw [hxe]
  simp [DataW.weights]
set_option maxRecDepth 100000 in
theorem open_num {r : Reach} {b0 : Nat} {w : World} {v : Value} {d : DataW H} {p : List MemPlace} (hv : Value.okWide Tryz.prog w r b0 59 v) (h : DataW.Trod enc Tryz.prog w 0 (fun _ => true) true 59 v d p) :
    ∃ n : Nat, v = .int .u64 (n : Int) ∧ n < 18446744073709551616 := by
  obtain ⟨x, rfl, _, _, wx⟩ := open_int Tryz.underlying59 hv h
  obtain ⟨n, hn, rfl⟩ := nat8 wx
  exact ⟨n, rfl, hn⟩
set_option maxRecDepth 100000 in
theorem ops_cap {r : Reach} {b0 : Nat} {w : World} {v : Value} {d : DataW H} {p : List MemPlace} (hv : Value.okWide Tryz.prog w r b0 22 v) (h : DataW.Trod enc Tryz.prog w 0 (fun _ => true) true 22 v d p) : ∀ a n c, v = .slice a n c → n ≤ c ∧ c ≤ maxLen := by
  intro a0 len0 cap0 e
  subst e
  obtain ⟨fuel, hf⟩ := h
  have hf' : DataW.trod enc Tryz.prog w 0 (fun _ => true) true fuel 22 [.slice a0 len0 cap0] = some (d, p) := by simpa [Value.cells] using hf
  rcases open_slice Tryz.underlying22 hf' with ⟨hcs, _⟩ | ⟨a, len, cap, m, n, D, Pl, hcs, _, hl, hm, hmm, hx, hi⟩
  · simp only [List.cons.injEq, Value.slice.injEq, and_true] at hcs
    obtain ⟨rfl, rfl, rfl⟩ := hcs
    exact ⟨Nat.le_refl _, Nat.zero_le _⟩
  · simp only [List.cons.injEq, Value.slice.injEq, and_true] at hcs
    obtain ⟨rfl, rfl, rfl⟩ := hcs
    exact ⟨hl, hm⟩
end

end SP
end Go.Proofs.YtfdkkgjkhamoeaaGreat

/- TxnParts: ops one behind the other are what comes of the first ones, and then of the others. Conditions: the law's own. -/
set_option linter.unusedVariables false
set_option linter.unusedSimpArgs false
namespace Go.Proofs.YtfdkkgjkhamoeaaGreat
open S3 SN
namespace SP
open Go.ChangeShapes Go.WideShapes Go.ChangeAt Go.RowKit Go.Joins Go.Deep

set_option maxRecDepth 100000 in
set_option maxHeartbeats 16000000 in
theorem txnParts_walk (vl : Value) (l : List Opr) (vd : Value) (d : Al Nat) (cut : Int) (w : World) (hml : l.length ≤ 9223372036854775807) (hrl : ∀ o ∈ l, o.2.1.size ≤ 140737488355328 ∧ o.2.2.1.size ≤ 140737488355328) (hnl : ∀ o ∈ l, o.2.2.2 < 18446744073709551616) (hl : SlG eO w vl l) (hmd : d.length ≤ 9223372036854775807) (hrd : ∀ p ∈ d, p.1.size ≤ 140737488355328) (hnd : ∀ p ∈ d, p.2 < 18446744073709551616) (hd : SlG eP w vd d) (hcp : ∀ a n c, vl = .slice a n c → n ≤ c) :
    Calls Tryz.prog 9 #[vl, vd, .int .i64 cut] w fun e w' => e = .returned (.bool true) ∧ Below w.heap.size w w' := by
  have Ml := Lib.hid hml
  have Rl := Lib.hid hrl
  have Nl := Lib.hid hnl
  have Al := Lib.hid hl
  have Md := Lib.hid hmd
  have Rd := Lib.hid hrd
  have Nd := Lib.hid hnd
  have Ad := Lib.hid hd
  have hcp := Lib.hid hcp
  clear hml hrl hnl hl hmd hrd hnd hd
  go_enter Tryz.func9, Tryz.ntmps9
  obtain ⟨aS, cS, rfl⟩ := Al.out.form
  have HCP : Hid (l.length ≤ cS) := Lib.hid (hcp.out _ _ _ rfl)
  cases hc1 : smallB l d
  · have HC1 := Lib.hid hc1
    clear hc1
    go_wp2_with fail
    have h9 := small8_any (.slice aS l.length cS) vd l d w Ml.out Md.out Rl.out Rd.out Al.out Ad.out
    rw [HC1.out] at h9
    refine (h9).mono ?_
    rintro e w1 ⟨rfl, h5⟩
    have HX : Hid (Below w.heap.size w w1) := blThen (by repeat (first | with_reducible exact Below.refl _ _ | with_reducible refine blAlloc ?_ _ | with_reducible refine Below.drew ?_)) h5
    have HB_w1 := Lib.hid (HX.out)
    have Al := Lib.hid (Al.out.later HX.out)
    have Ad := Lib.hid (Ad.out.later HX.out)
    clear h5 HX h9
    go_wp2_with fail
    refine (live8_any w1).mono ?_
    rintro e w2 ⟨rfl, h5⟩
    have HX : Hid (Below w1.heap.size w1 w2) := blThen (by repeat (first | with_reducible exact Below.refl _ _ | with_reducible refine blAlloc ?_ _ | with_reducible refine Below.drew ?_)) h5
    have HB_w2 := Lib.hid (blThen HB_w1.out HX.out)
    have Al := Lib.hid (Al.out.later HX.out)
    have Ad := Lib.hid (Ad.out.later HX.out)
    clear h5 HX
    go_wp2
    go_ret
    exact ⟨rfl, HB_w2.out⟩
  · have HC1 := Lib.hid hc1
    clear hc1
    have HB1 := Lib.hid (smallB_len2 HC1.out)
    go_wp2_with fail
    have h9 := small8_any (.slice aS l.length cS) vd l d w Ml.out Md.out Rl.out Rd.out Al.out Ad.out
    rw [HC1.out] at h9
    refine (h9).mono ?_
    rintro e w1 ⟨rfl, h5⟩
    have HX : Hid (Below w.heap.size w w1) := blThen (by repeat (first | with_reducible exact Below.refl _ _ | with_reducible refine blAlloc ?_ _ | with_reducible refine Below.drew ?_)) h5
    have HB_w1 := Lib.hid (HX.out)
    have Al := Lib.hid (Al.out.later HX.out)
    have Ad := Lib.hid (Ad.out.later HX.out)
    clear h5 HX h9
    by_cases hc3 : checkP l = 0
    rotate_left
    · have hb3 : ((checkP l == 0) = false) := by simpa using hc3
      have hd3 : ((checkP l != 0) = true) := by simpa using hc3
      go_wp2_with fail
      have h9 := check8_any (.slice aS l.length cS) l w1 (by have := HB1.out; omega) Al.out
      refine (h9).mono ?_
      rintro e w2 ⟨rfl, h5⟩
      have HX : Hid (Below w1.heap.size w1 w2) := blThen (by repeat (first | with_reducible exact Below.refl _ _ | with_reducible refine blAlloc ?_ _ | with_reducible refine Below.drew ?_)) h5
      have HB_w2 := Lib.hid (blThen HB_w1.out HX.out)
      have Al := Lib.hid (Al.out.later HX.out)
      have Ad := Lib.hid (Ad.out.later HX.out)
      clear h5 HX h9
      go_wp2_with fail
      refine (num8_any _ w2).mono ?_
      rintro e wq ⟨rfl, rfl⟩
      go_wp2_with fail
      refine (live8_any w2).mono ?_
      rintro e w3 ⟨rfl, h5⟩
      have HX : Hid (Below w2.heap.size w2 w3) := blThen (by repeat (first | with_reducible exact Below.refl _ _ | with_reducible refine blAlloc ?_ _ | with_reducible refine Below.drew ?_)) h5
      have HB_w3 := Lib.hid (blThen HB_w2.out HX.out)
      have Al := Lib.hid (Al.out.later HX.out)
      have Ad := Lib.hid (Ad.out.later HX.out)
      clear h5 HX
      go_wp2
      go_ret
      exact ⟨rfl, HB_w3.out⟩
    · have HC3 := Lib.hid hc3
      clear hc3
      have HO3 := Lib.hid (okl_of HC3.out)
      go_wp2_with fail
      have h9 := check8_any (.slice aS l.length cS) l w1 (by have := HB1.out; omega) Al.out
      rw [HC3.out] at h9
      refine (h9).mono ?_
      rintro e w2 ⟨rfl, h5⟩
      have HX : Hid (Below w1.heap.size w1 w2) := blThen (by repeat (first | with_reducible exact Below.refl _ _ | with_reducible refine blAlloc ?_ _ | with_reducible refine Below.drew ?_)) h5
      have HB_w2 := Lib.hid (blThen HB_w1.out HX.out)
      have Al := Lib.hid (Al.out.later HX.out)
      have Ad := Lib.hid (Ad.out.later HX.out)
      clear h5 HX h9
      go_wp2_with fail
      refine (num8_any _ w2).mono ?_
      rintro e wq ⟨rfl, rfl⟩
      cases hc5 : dataB none d
      · have HC5 := Lib.hid hc5
        clear hc5
        go_wp2_with fail
        have h9 := rdata_any vd d w2 (show d.length ≤ 1000000 by have := HB1.out; omega) Nd.out Ad.out
        rw [HC5.out] at h9
        refine (h9).mono ?_
        rintro e w3 ⟨rfl, h5⟩
        have HX : Hid (Below w2.heap.size w2 w3) := blThen (by repeat (first | with_reducible exact Below.refl _ _ | with_reducible refine blAlloc ?_ _ | with_reducible refine Below.drew ?_)) h5
        have HB_w3 := Lib.hid (blThen HB_w2.out HX.out)
        have Al := Lib.hid (Al.out.later HX.out)
        have Ad := Lib.hid (Ad.out.later HX.out)
        clear h5 HX h9
        go_wp2_with fail
        refine (live8_any w3).mono ?_
        rintro e w4 ⟨rfl, h5⟩
        have HX : Hid (Below w3.heap.size w3 w4) := blThen (by repeat (first | with_reducible exact Below.refl _ _ | with_reducible refine blAlloc ?_ _ | with_reducible refine Below.drew ?_)) h5
        have HB_w4 := Lib.hid (blThen HB_w3.out HX.out)
        have Al := Lib.hid (Al.out.later HX.out)
        have Ad := Lib.hid (Ad.out.later HX.out)
        clear h5 HX
        go_wp2
        go_ret
        exact ⟨rfl, HB_w4.out⟩
      · have HC5 := Lib.hid hc5
        clear hc5
        have HD5 : Hid (Dat 60 d) := Lib.hid (dat_of HC5.out (show d.length ≤ 60 by have := HB1.out; omega))
        go_wp2_with fail
        have h9 := rdata_any vd d w2 (show d.length ≤ 1000000 by have := HB1.out; omega) Nd.out Ad.out
        rw [HC5.out] at h9
        refine (h9).mono ?_
        rintro e w3 ⟨rfl, h5⟩
        have HX : Hid (Below w2.heap.size w2 w3) := blThen (by repeat (first | with_reducible exact Below.refl _ _ | with_reducible refine blAlloc ?_ _ | with_reducible refine Below.drew ?_)) h5
        have HB_w3 := Lib.hid (blThen HB_w2.out HX.out)
        have Al := Lib.hid (Al.out.later HX.out)
        have Ad := Lib.hid (Ad.out.later HX.out)
        clear h5 HX h9
        by_cases hi6 : cut < 1
        · have hdc1 : decide (cut < 1) = true := decide_eq_true hi6
          go_wp2_with fail
          refine (live8_any w3).mono ?_
          rintro e w4 ⟨rfl, h5⟩
          have HX : Hid (Below w3.heap.size w3 w4) := blThen (by repeat (first | with_reducible exact Below.refl _ _ | with_reducible refine blAlloc ?_ _ | with_reducible refine Below.drew ?_)) h5
          have HB_w4 := Lib.hid (blThen HB_w3.out HX.out)
          have Al := Lib.hid (Al.out.later HX.out)
          have Ad := Lib.hid (Ad.out.later HX.out)
          clear h5 HX
          go_wp2
          go_ret
          exact ⟨rfl, HB_w4.out⟩
        · have hdc1 : decide (cut < 1) = false := decide_eq_false hi6
          by_cases hi7 : (l.length : Int) ≤ cut
          · have hdc2 : decide ((l.length : Int) ≤ cut) = true := decide_eq_true hi7
            go_wp2_with fail
            refine (live8_any w3).mono ?_
            rintro e w4 ⟨rfl, h5⟩
            have HX : Hid (Below w3.heap.size w3 w4) := blThen (by repeat (first | with_reducible exact Below.refl _ _ | with_reducible refine blAlloc ?_ _ | with_reducible refine Below.drew ?_)) h5
            have HB_w4 := Lib.hid (blThen HB_w3.out HX.out)
            have Al := Lib.hid (Al.out.later HX.out)
            have Ad := Lib.hid (Ad.out.later HX.out)
            clear h5 HX
            go_wp2
            go_ret
            exact ⟨rfl, HB_w4.out⟩
          · have hdc2 : decide ((l.length : Int) ≤ cut) = false := decide_eq_false hi7
            have HLl : Hid (l.length ≤ 8) := HO3.out.1
            have HDT : Hid (Dat 60 d) := HD5
            obtain ⟨k, rfl⟩ : ∃ k : Nat, cut = (k : Int) := ⟨cut.toNat, by omega⟩
            have hkl : k < l.length := by omega
            have HKL := Lib.hid hkl
            obtain ⟨ad, rfl⟩ := slG_some Al.out (fun e => by rw [e] at hkl; simp at hkl)
            have hkC : (k : Int) ≤ (cS : Int) := by have := HCP.out; omega
            have hkC1 : k ≤ cS := by omega
            have hkN : (k : Int) ≤ (l.length : Int) := by omega
            have hkN1 : k ≤ l.length := by omega
            have hlC : (l.length : Int) ≤ (cS : Int) := by have := HCP.out; omega
            have hlC1 : l.length ≤ cS := by omega
            have hk0 : (0 : Int) ≤ (k : Int) := by omega
            have hkn : ¬ cS = k := by omega
            have hkz : ¬ cS - k = 0 := by omega
            have hcS : ¬ cS = 0 := by omega
            have HOT : Hid (Okl (l.take k)) := Lib.hid (HO3.out.sub (fun o ho => List.mem_of_mem_take ho) (by rw [List.length_take]; omega))
            have HOD : Hid (Okl (l.drop k)) := Lib.hid (HO3.out.sub (fun o ho => List.mem_of_mem_drop ho) (by rw [List.length_drop]; omega))
            have NT : Hid (∀ o ∈ l.take k, o.2.2.2 < 18446744073709551616) := Lib.hid fun o ho => Nl.out o (List.mem_of_mem_take ho)
            have ND : Hid (∀ o ∈ l.drop k, o.2.2.2 < 18446744073709551616) := Lib.hid fun o ho => Nl.out o (List.mem_of_mem_drop ho)
            have AT := Lib.hid (slG_take Al.out k hkN1)
            have AD := Lib.hid (slG_dropA Al.out k (cS - k) (l.length - k) hkN1 rfl)
            have HEV := Lib.hid (parts_evals HDT.out l k)
            have hdc1 : decide ((k : Int) < 1) = false := decide_eq_false (by omega)
            have hdc2 : decide ((l.length : Int) ≤ (k : Int)) = false := decide_eq_false (by omega)
            clear hkl
            go_wp2_with fail
            refine (ev_any _ vd l d w3 HDT.out (by omega) HO3.out Nl.out Al.out Ad.out).mono ?_
            rintro e w4 ⟨v1, u1, r1, rfl, h1, h2, h3, h4, h5⟩
            have HX : Hid (Below w3.heap.size w3 w4) := blThen (by repeat (first | with_reducible exact Below.refl _ _ | with_reducible refine blAlloc ?_ _ | with_reducible refine Below.drew ?_)) h5
            have HB_w4 := Lib.hid (blThen HB_w3.out HX.out)
            have Al := Lib.hid (Al.out.later HX.out)
            have Ad := Lib.hid (Ad.out.later HX.out)
            have AT := Lib.hid (AT.out.later HX.out)
            have AD := Lib.hid (AD.out.later HX.out)
            have HW1 := Lib.hid h1
            have HQ1 := Lib.hid h2
            have HF1 := Lib.hid h3
            have HS1 := Lib.hid h4
            clear h5 HX h1 h2 h3 h4
            go_wp2_with fail
            refine (ev_any _ vd (l.take k) d w4 HDT.out (by omega) HOT.out NT.out AT.out Ad.out).mono ?_
            rintro e w5 ⟨v2, u2, r2, rfl, h1, h2, h3, h4, h5⟩
            have HX : Hid (Below w4.heap.size w4 w5) := blThen (by repeat (first | with_reducible exact Below.refl _ _ | with_reducible refine blAlloc ?_ _ | with_reducible refine Below.drew ?_)) h5
            have HB_w5 := Lib.hid (blThen HB_w4.out HX.out)
            have Al := Lib.hid (Al.out.later HX.out)
            have Ad := Lib.hid (Ad.out.later HX.out)
            have AT := Lib.hid (AT.out.later HX.out)
            have AD := Lib.hid (AD.out.later HX.out)
            have HW1 := Lib.hid (HW1.out.later HX.out)
            have HQ1 := Lib.hid (HQ1.out.later HX.out)
            have HW2 := Lib.hid h1
            have HQ2 := Lib.hid h2
            have HF2 := Lib.hid h3
            have HS2 := Lib.hid h4
            clear h5 HX h1 h2 h3 h4
            go_wp2_with fail
            refine (ap_any vd v2 d (lastL (evalL d (l.take k))) w5 HDT.out (by omega) (by have := (HOT.out.last d).2; omega) (HOT.out.last d).1 Ad.out HW2.out).mono ?_
            rintro e w6 ⟨p2, rfl, h1, h5⟩
            rw [eval_last HDT.out.1] at h1
            have HX : Hid (Below w5.heap.size w5 w6) := blThen (by repeat (first | with_reducible exact Below.refl _ _ | with_reducible refine blAlloc ?_ _ | with_reducible refine Below.drew ?_)) h5
            have HB_w6 := Lib.hid (blThen HB_w5.out HX.out)
            have Al := Lib.hid (Al.out.later HX.out)
            have Ad := Lib.hid (Ad.out.later HX.out)
            have AT := Lib.hid (AT.out.later HX.out)
            have AD := Lib.hid (AD.out.later HX.out)
            have HW1 := Lib.hid (HW1.out.later HX.out)
            have HQ1 := Lib.hid (HQ1.out.later HX.out)
            have HW2 := Lib.hid (HW2.out.later HX.out)
            have HQ2 := Lib.hid (HQ2.out.later HX.out)
            have HP2 := Lib.hid h1
            clear h5 HX h1
            go_wp2_with fail
            refine (ev_any _ p2 (l.drop k) (evalD d (l.take k)) w6 (HDT.out.eval HOT.out) (by omega) HOD.out ND.out AD.out HP2.out).mono ?_
            rintro e w7 ⟨v3, u3, r3, rfl, h1, h2, h3, h4, h5⟩
            have HX : Hid (Below w6.heap.size w6 w7) := blThen (by repeat (first | with_reducible exact Below.refl _ _ | with_reducible refine blAlloc ?_ _ | with_reducible refine Below.drew ?_)) h5
            have HB_w7 := Lib.hid (blThen HB_w6.out HX.out)
            have Al := Lib.hid (Al.out.later HX.out)
            have Ad := Lib.hid (Ad.out.later HX.out)
            have AT := Lib.hid (AT.out.later HX.out)
            have AD := Lib.hid (AD.out.later HX.out)
            have HW1 := Lib.hid (HW1.out.later HX.out)
            have HQ1 := Lib.hid (HQ1.out.later HX.out)
            have HW2 := Lib.hid (HW2.out.later HX.out)
            have HQ2 := Lib.hid (HQ2.out.later HX.out)
            have HP2 := Lib.hid (HP2.out.later HX.out)
            have HW3 := Lib.hid h1
            have HQ3 := Lib.hid h2
            have HF3 := Lib.hid h3
            have HS3 := Lib.hid h4
            clear h5 HX h1 h2 h3 h4
            have HLA : Hid (r2.length + r3.length ≤ 1000) := by
              have h1 := rs_len HS2.out
              have h2 := rs_len HS3.out
              have := HLl.out
              rw [List.length_take] at h1
              rw [List.length_drop] at h2
              exact Lib.hid (by omega)
            have HOE : Hid (OwnG eA 71 (w7.alloc (.cells #[] 71)) w7.heap.size (.slice (some ⟨w7.heap.size, 0, none⟩) 0 0) []) := Lib.hid (own_emptyG w7 71 _ _ rfl (Nat.le_refl _))
            have HBE : Hid (Below w7.heap.size w7 (w7.alloc (.cells #[] 71))) := Lib.hid (blAlloc (Below.refl _ _) _)
            go_wp2_with (first
              | (have htok := HO8; clear htok; at_builtin; go_must (refine append_G 46 _ 40 info_an Tryz.underlying46 rfl (by decide) rfl _ _ rfl w7.heap.size _ r2 rfl HO8.out _ r3 rfl (HQ3.out.1.later HB8.out) (by have := HLA.out; omega) HB8.out.size ?_; intro v9 w9 h1 h2; have HO9 := Lib.hid h1; have HX : Hid (Below w7.heap.size w7 w9) := Lib.hid (grown_belowG HB8.out HO8.out (Nat.le_refl _) HB8.out.size h2); clear h1 h2))
              | (at_builtin; go_must (refine append_G 46 _ 40 info_an Tryz.underlying46 rfl (by decide) rfl _ _ rfl w7.heap.size _ [] rfl HOE.out _ r2 rfl (HQ2.out.1.later HBE.out) (by have := HLA.out; simp only [List.length_nil]; omega) HBE.out.size ?_; intro v8 w8 h1 h2; rw [List.nil_append] at h1; have HO8 := Lib.hid h1; have HB8 : Hid (Below w7.heap.size w7 w8) := Lib.hid (grown_belowG HBE.out HOE.out (Nat.le_refl _) HBE.out.size h2); clear h1 h2)))
            have HB_w9 := Lib.hid (blThen HB_w7.out HX.out)
            have Al := Lib.hid (Al.out.later HX.out)
            have Ad := Lib.hid (Ad.out.later HX.out)
            have AT := Lib.hid (AT.out.later HX.out)
            have AD := Lib.hid (AD.out.later HX.out)
            have HW1 := Lib.hid (HW1.out.later HX.out)
            have HQ1 := Lib.hid (HQ1.out.later HX.out)
            have HW2 := Lib.hid (HW2.out.later HX.out)
            have HQ2 := Lib.hid (HQ2.out.later HX.out)
            have HP2 := Lib.hid (HP2.out.later HX.out)
            have HW3 := Lib.hid (HW3.out.later HX.out)
            have HQ3 := Lib.hid (HQ3.out.later HX.out)
            have HQ9 := Lib.hid (ansL_app HO9.out.sl HQ2.out HQ3.out)
            have HF9 := Lib.hid (few_app HF2.out HF3.out HLA.out)
            have HS9 : Hid ((r2 ++ r3).map AnR.ans = evalA d l) := Lib.hid (by rw [List.map_append, HS2.out, HS3.out]; exact HEV.out.1.symm)
            generalize r2 ++ r3 = r9 at *
            clear HX HOE HBE HO8 HB8 HO9
            have h9 := ansame_any u1 v9 r1 r9 w9 HF1.out HF9.out HQ1.out HQ9.out
            rw [decide_eq_true (show r1.map AnR.ans = r9.map AnR.ans from HS1.out.trans HS9.out.symm)] at h9
            go_wp2_with fail
            refine (h9).mono ?_
            rintro e w10 ⟨rfl, h5⟩
            have HX : Hid (Below w9.heap.size w9 w10) := blThen (by repeat (first | with_reducible exact Below.refl _ _ | with_reducible refine blAlloc ?_ _ | with_reducible refine Below.drew ?_)) h5
            have HB_w10 := Lib.hid (blThen HB_w9.out HX.out)
            have Al := Lib.hid (Al.out.later HX.out)
            have Ad := Lib.hid (Ad.out.later HX.out)
            have AT := Lib.hid (AT.out.later HX.out)
            have AD := Lib.hid (AD.out.later HX.out)
            have HW1 := Lib.hid (HW1.out.later HX.out)
            have HQ1 := Lib.hid (HQ1.out.later HX.out)
            have HW2 := Lib.hid (HW2.out.later HX.out)
            have HP2 := Lib.hid (HP2.out.later HX.out)
            have HW3 := Lib.hid (HW3.out.later HX.out)
            have HQ9 := Lib.hid (HQ9.out.later HX.out)
            clear h5 HX h9
            go_wp2_with fail
            refine (ap_any vd v1 d (lastL (evalL d l)) w10 HDT.out (by omega) (by have := (HO3.out.last d).2; omega) (HO3.out.last d).1 Ad.out HW1.out).mono ?_
            rintro e w11 ⟨p1, rfl, h1, h5⟩
            have HX : Hid (Below w10.heap.size w10 w11) := blThen (by repeat (first | with_reducible exact Below.refl _ _ | with_reducible refine blAlloc ?_ _ | with_reducible refine Below.drew ?_)) h5
            have HB_w11 := Lib.hid (blThen HB_w10.out HX.out)
            have Al := Lib.hid (Al.out.later HX.out)
            have Ad := Lib.hid (Ad.out.later HX.out)
            have AT := Lib.hid (AT.out.later HX.out)
            have AD := Lib.hid (AD.out.later HX.out)
            have HW1 := Lib.hid (HW1.out.later HX.out)
            have HQ1 := Lib.hid (HQ1.out.later HX.out)
            have HW2 := Lib.hid (HW2.out.later HX.out)
            have HP2 := Lib.hid (HP2.out.later HX.out)
            have HW3 := Lib.hid (HW3.out.later HX.out)
            have HQ9 := Lib.hid (HQ9.out.later HX.out)
            have HP1 := Lib.hid h1
            clear h5 HX h1
            go_wp2_with fail
            refine (ap_any p2 v3 (evalD d (l.take k)) (lastL (evalL (evalD d (l.take k)) (l.drop k))) w11 (HDT.out.eval HOT.out) (by omega) (by have := (HOD.out.last (evalD d (l.take k))).2; omega) (HOD.out.last (evalD d (l.take k))).1 HP2.out HW3.out).mono ?_
            rintro e w12 ⟨p3, rfl, h1, h5⟩
            have HX : Hid (Below w11.heap.size w11 w12) := blThen (by repeat (first | with_reducible exact Below.refl _ _ | with_reducible refine blAlloc ?_ _ | with_reducible refine Below.drew ?_)) h5
            have HB_w12 := Lib.hid (blThen HB_w11.out HX.out)
            have Al := Lib.hid (Al.out.later HX.out)
            have Ad := Lib.hid (Ad.out.later HX.out)
            have AT := Lib.hid (AT.out.later HX.out)
            have AD := Lib.hid (AD.out.later HX.out)
            have HW1 := Lib.hid (HW1.out.later HX.out)
            have HQ1 := Lib.hid (HQ1.out.later HX.out)
            have HW2 := Lib.hid (HW2.out.later HX.out)
            have HP2 := Lib.hid (HP2.out.later HX.out)
            have HW3 := Lib.hid (HW3.out.later HX.out)
            have HQ9 := Lib.hid (HQ9.out.later HX.out)
            have HP1 := Lib.hid (HP1.out.later HX.out)
            have HP3 := Lib.hid h1
            clear h5 HX h1
            go_wp2_with fail
            have h9 := prsame_any p1 p3 (applyP d (lastL (evalL d l))) (applyP (evalD d (l.take k)) (lastL (evalL (evalD d (l.take k)) (l.drop k)))) w12 (by have := (HDT.out.last (e := d) HO3.out).2.2; omega) (by have := ((HDT.out.eval HOT.out).last (e := evalD d (l.take k)) HOD.out).2.2; omega) HP1.out HP3.out
            rw [decide_eq_true (show (applyP d (lastL (evalL d l))) = (applyP (evalD d (l.take k)) (lastL (evalL (evalD d (l.take k)) (l.drop k)))) from HEV.out.2)] at h9
            refine (h9).mono ?_
            rintro e w13 ⟨rfl, h5⟩
            have HX : Hid (Below w12.heap.size w12 w13) := blThen (by repeat (first | with_reducible exact Below.refl _ _ | with_reducible refine blAlloc ?_ _ | with_reducible refine Below.drew ?_)) h5
            have HB_w13 := Lib.hid (blThen HB_w12.out HX.out)
            have Al := Lib.hid (Al.out.later HX.out)
            have Ad := Lib.hid (Ad.out.later HX.out)
            have AT := Lib.hid (AT.out.later HX.out)
            have AD := Lib.hid (AD.out.later HX.out)
            have HW1 := Lib.hid (HW1.out.later HX.out)
            have HQ1 := Lib.hid (HQ1.out.later HX.out)
            have HW2 := Lib.hid (HW2.out.later HX.out)
            have HP2 := Lib.hid (HP2.out.later HX.out)
            have HW3 := Lib.hid (HW3.out.later HX.out)
            have HQ9 := Lib.hid (HQ9.out.later HX.out)
            have HP1 := Lib.hid (HP1.out.later HX.out)
            have HP3 := Lib.hid (HP3.out.later HX.out)
            clear h5 HX h9
            go_wp2_with fail
            refine (live8_any w13).mono ?_
            rintro e w14 ⟨rfl, h5⟩
            have HX : Hid (Below w13.heap.size w13 w14) := blThen (by repeat (first | with_reducible exact Below.refl _ _ | with_reducible refine blAlloc ?_ _ | with_reducible refine Below.drew ?_)) h5
            have HB_w14 := Lib.hid (blThen HB_w13.out HX.out)
            have Al := Lib.hid (Al.out.later HX.out)
            have Ad := Lib.hid (Ad.out.later HX.out)
            have AT := Lib.hid (AT.out.later HX.out)
            have AD := Lib.hid (AD.out.later HX.out)
            have HW1 := Lib.hid (HW1.out.later HX.out)
            have HQ1 := Lib.hid (HQ1.out.later HX.out)
            have HW2 := Lib.hid (HW2.out.later HX.out)
            have HP2 := Lib.hid (HP2.out.later HX.out)
            have HW3 := Lib.hid (HW3.out.later HX.out)
            have HQ9 := Lib.hid (HQ9.out.later HX.out)
            have HP1 := Lib.hid (HP1.out.later HX.out)
            have HP3 := Lib.hid (HP3.out.later HX.out)
            clear h5 HX
            go_wp2
            go_ret
            exact ⟨rfl, HB_w14.out⟩

end SP
end Go.Proofs.YtfdkkgjkhamoeaaGreat

/- TxnParts. Conditions: none. -/
set_option linter.unusedVariables false
set_option linter.unusedSimpArgs false
namespace Go.Proofs.YtfdkkgjkhamoeaaGreat
open S3 SN
namespace SP
open Go.ChangeShapes Go.WideShapes Go.ChangeAt Go.RowKit Go.Joins Go.Deep


set_option maxRecDepth 100000 in
theorem txnParts_lifted (os : Os) (started : os.Started) (H : Type) (enc : TypeId × Value → H) :
    ReturnsInHanded {} Tryz.checked os 9 .any (Rows.txnPartsSpec.pre6 enc Tryz.prog Tryz.f9 Rows.txnPartsRow.domain false) (Rows.txnPartsSpec.post enc Tryz.prog Tryz.f9 false true false false) := by
  refine law_lift_sized (C := Tryz.checked) own0 started (by kernel_rfl) Tryz.func9 laid0 rfl (by kernel_rfl) (fun _ _ _ _ => trodAll_mk1 (shut_bool Tryz.underlying4 true)) (fun ds h => match ds, h with | [_, _, _], _ => ⟨rfl, rfl, rfl⟩)
    (ChangeSpec.witness6 (enc := enc) (C := Tryz.checked) false ⟨#[], #[.slice none 0 0, .slice none 0 0, .int .i64 0], []⟩ 8 (by kernel_rfl) (by kernel_rfl) (by kernel_rfl) (by kernel_rfl)) ?_
  intro W base args ds before hval0 hA0 hlt hsz
  have hval : ∀ (j : Nat) t v, Tryz.f9.params[j]? = some t → args[j]? = some v → Value.okWide Tryz.prog W .any base t v := hval0
  have hA : DataW.TrodAll enc Tryz.prog W 0 (fun _ => true) true Tryz.f9.params.toList args.toList ds before := hA0
  rw [Tryz.params9] at hA hval
  obtain ⟨v0, v1, v2, d0, d1, d2, p0, p1, p2, rfl, rfl, rfl, h0, h1, h2⟩ := trodAll_three hA
  obtain ⟨l, ol, ml, rl⟩ := open_ops (hval 0 22 v0 rfl rfl) h0
  obtain ⟨d, od, md, rd⟩ := open_pairs (hval 1 42 v1 rfl rfl) h1
  have hcp := ops_cap (hval 0 22 v0 rfl rfl) h0
  obtain ⟨cut, rfl, _, _, _⟩ := open_int Tryz.underlying3 (hval 2 3 v2 rfl rfl) h2
  exact txnParts_walk v0 l v1 d cut W ml (fun o ho => ⟨inW_le8 (rl o ho).2.2.1 hsz (j := 0) (by kernel_rfl) rfl, inW_le8 (rl o ho).2.2.2 hsz (j := 0) (by kernel_rfl) rfl⟩) (fun o ho => (rl o ho).2.1) ol md (fun o ho => inW_le8 (rd o ho).2 hsz (j := 1) (by kernel_rfl) rfl) (fun o ho => (rd o ho).1) od (fun a n c e => (hcp a n c e).1)

theorem txnParts_holds : Rows.TxnPartsSaid :=
  OpenClaim.holds_of_wide 9 Tryz.f9 rfl rfl rfl rfl rfl rfl rfl ⟨rfl, rfl, rfl, rfl, rfl⟩ rfl rfl rfl rfl rfl (by kernel_rfl) Tryz.func9 (by kernel_rfl)
    (of_decide_eq_true (by kernel_rfl)) (by unfold Func.isWrapper; rw [if_neg (of_decide_eq_false (by kernel_rfl))]; exact ⟨rfl, rfl⟩)
    (fun os started H enc _ => txnParts_lifted os started H enc)

#print axioms txnParts_holds

end SP
end Go.Proofs.YtfdkkgjkhamoeaaGreat
