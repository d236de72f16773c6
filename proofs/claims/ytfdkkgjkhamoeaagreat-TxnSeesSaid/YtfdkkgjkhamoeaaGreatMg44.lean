/- TxnSees. Conditions: none. -/
import Derived.WalkSpells
import Derived.Lib.SmallJoins
import Derived.Deep.RegionHeld3
import Derived.Test.YtfdkkgjkhamoeaaGreatMg42
import Derived.Test.YtfdkkgjkhamoeaaGreatMg43
import Derived.Test.YtfdkkgjkhamoeaaGreatMg37
import Derived.Test.YtfdkkgjkhamoeaaGreatMg38
/- What the laws of stage 8 share: data that stay small, Eval and Apply as the laws call them, facts of checked ops. Conditions: as each theorem states. -/
set_option linter.unusedVariables false
namespace Go.Proofs.YtfdkkgjkhamoeaaGreat
open S3 SN
namespace SP
open Go.ChangeShapes Go.WideShapes Go.ChangeAt Go.RowKit Go.Joins Go.Deep

theorem smallB_len2 {l : List Opr} {d : Al Nat} (h : smallB l d = true) : l.length ≤ 60 ∧ d.length ≤ 60 := by
  have := of_decide_eq_true h
  exact ⟨this.1, this.2.1⟩
/-- Data that rise, of at most n pairs, with keys of at most a thousand bytes. -/
def Dat (n : Nat) (d : Al Nat) : Prop := RisA d ∧ (∀ p ∈ d, p.1.size ≤ 1000) ∧ d.length ≤ n
theorem dat_of {l : Al Nat} {n : Nat} (h : dataB none l = true) (hl : l.length ≤ n) : Dat n l := by
  obtain ⟨h1, _, h3⟩ := dataB_ris l none h
  exact ⟨h1, fun p hp => Nat.le_trans (key_len (h3 p hp).1) (by decide), hl⟩
theorem do_keys {d : Al Nat} {w : Wrt} {P : ByteArray → Prop} (hd : ∀ p ∈ d, P p.1) (hw : P w.1) : ∀ p ∈ doW d w, P p.1 := by
  intro p hp
  unfold doW at hp
  split at hp
  · exact hd p (List.mem_filter.1 hp).1
  · rcases putA_mem _ _ _ p hp with rfl | hp
    · exact hw
    · exact hd p hp
theorem apply_keys {P : ByteArray → Prop} : ∀ (l : List Wrt) {d : Al Nat}, (∀ p ∈ d, P p.1) → (∀ w ∈ l, P w.1) → ∀ p ∈ applyP d l, P p.1
  | [], _, hd, _ => hd
  | w :: l, d, hd, hl => apply_keys l (do_keys hd (hl w (by simp))) fun x hx => hl x (by simp [hx])
theorem Dat.app {n m : Nat} {d : Al Nat} {l : List Wrt} (h : Dat n d) (hk : ∀ x ∈ l, x.1.size ≤ 1000) (hl : l.length ≤ m) : Dat (n + m) (applyP d l) := by
  refine ⟨ris_apply l h.1, apply_keys (P := fun k => k.size ≤ 1000) l h.2.1 hk, ?_⟩
  have := apply_len l d
  have := h.2.2
  omega
def Okl (l : List Opr) : Prop := l.length ≤ 8 ∧ ∀ o ∈ l, okB o = true
theorem okl_of {l : List Opr} (h : checkP l = 0) : Okl l := ⟨(check_kd h).1, (check_kd h).2.2⟩
theorem Okl.kd {l : List Opr} (h : Okl l) : ∀ o ∈ l, Kd o := fun o ho => (ok_kd (h.2 o ho)).1
theorem Okl.keys {l : List Opr} (h : Okl l) (d : Al Nat) : ∀ x ∈ evalL d l, x.1.size ≤ 1000 := fun x hx => Nat.le_trans (evalL_small l d h.2 x hx) (by decide)
theorem Okl.last {l : List Opr} (h : Okl l) (d : Al Nat) : (∀ x ∈ lastL (evalL d l), x.1.size ≤ 1000) ∧ (lastL (evalL d l)).length ≤ 16 := by
  refine ⟨fun x hx => h.keys d (x.1, x.2) (last_keys hx), ?_⟩
  have := evals_len l d
  have := h.1
  omega
theorem Dat.eval {n : Nat} {d : Al Nat} {l : List Opr} (h : Dat n d) (ho : Okl l) : Dat (n + 16) (evalD d l) := by
  rw [evalD_eq]
  refine h.app (ho.keys d) ?_
  have := evalL_len l d
  have := ho.1
  omega
theorem Dat.last {n : Nat} {d e : Al Nat} {l : List Opr} (h : Dat n d) (ho : Okl l) : Dat (n + 16) (applyP d (lastL (evalL e l))) := h.app (ho.last e).1 (ho.last e).2
theorem inA_len {α : Type} (P : ByteArray → Bool) (d : Al α) : (inA P d).length ≤ d.length := List.length_filter_le _ _
theorem opA_prs (d : Al Nat) (o : Opr) : (opA d o).2.2.length ≤ d.length := by
  unfold opA
  repeat (first | split | exact Nat.zero_le _ | exact inA_len _ _)
theorem evalA_prs : ∀ (l : List Opr) (d : Al Nat), ∀ a ∈ evalA d l, a.2.2.length ≤ d.length + 2 * l.length
  | [], _, a, ha => by simp [evalA] at ha
  | o :: l, d, a, ha => by
    rw [List.length_cons]
    rcases List.mem_cons.1 ha with rfl | ha
    · have := opA_prs d o
      omega
    · have h1 := evalA_prs l _ a ha
      have h2 := apply_len (opW d o) d
      have h3 := opW_len d o
      omega
theorem eval_picked {l : List Opr} {n : Nat} {d : Al Nat} (hd : Dat n d) (ho : Okl l) : Dat n (inA (memL (readsP l)) d) :=
  ⟨risA_in hd.1 _, fun p hp => hd.2.1 p (List.mem_filter.1 hp).1, Nat.le_trans (inA_len _ _) hd.2.2⟩
/-- What Eval comes to, as the laws look at it. -/
def RetE (w : World) (d : Al Nat) (l : List Opr) (e : Ending) (w' : World) : Prop :=
  ∃ v u rs, e = .returned (.tuple #[v, u]) ∧ SlG eW w' v (lastL (evalL d l)) ∧ AnsL w' u rs ∧ FewA rs ∧ rs.map AnR.ans = evalA d l ∧ Below w.heap.size w w'
theorem ev_any (va vs : Value) (l : List Opr) (d : Al Nat) {n : Nat} (w : World) (h : Dat n d) (hn : n ≤ 10000) (ho : Okl l) (hnm : ∀ o ∈ l, o.2.2.2 < 18446744073709551616) (ha : SlG eO w va l) (hs : SlG eP w vs d) : Calls Tryz.prog 35 #[va, vs] w (RetE w d l) := by
  have h3 := h.2.2
  have h4 := ho.1
  refine (eval_any va vs l d w (by omega) (by omega) h.1 (fun p hp => by have := h.2.1 p hp; unfold maxLen; omega) ho.2 hnm ha hs).mono ?_
  rintro e w' ⟨v, u, rs, rfl, h1, h2, h5⟩
  refine ⟨v, u, rs, rfl, h1.sl, anss_list h2, anss_few h2 ?_ ?_, h2.same, h5⟩
  · rw [evalA_length]; omega
  · intro a ha
    have := evalA_prs l d a ha
    omega
def RetA (w : World) (r : Al Nat) (e : Ending) (w' : World) : Prop := ∃ v, e = .returned v ∧ SlG eP w' v r ∧ Below w.heap.size w w'
theorem ap_any (va vs : Value) (d : Al Nat) (l : List Wrt) {n : Nat} (w : World) (h : Dat n d) (hn : n ≤ 10000) (hl : l.length ≤ 1000) (hk : ∀ x ∈ l, x.1.size ≤ 1000) (ha : SlG eP w va d) (hs : SlG eW w vs l) : Calls Tryz.prog 41 #[va, vs] w (RetA w (applyP d l)) := by
  have h3 := h.2.2
  refine (apply_any va vs d l w (by omega) (by omega) h.1 (fun p hp => by have := h.2.1 p hp; unfold maxLen; omega) (fun p hp => by have := hk p hp; unfold maxLen; omega) ha hs).mono ?_
  rintro e w' ⟨v, rfl, h1, h5⟩
  exact ⟨v, rfl, h1.sl, h5⟩
theorem pk_any (va vs : Value) (l : Al Nat) (S : List Sp) {n : Nat} (w : World) (h : Dat n l) (hn : n ≤ 10000) (hS : S.length ≤ 1000000) (hset : IsSet S) (ha : SlG eP w va l) (hs : Sl w vs S) : Calls Tryz.prog 43 #[va, vs] w (RetA w (inA (memL S) l)) := by
  have h3 := h.2.2
  refine (pick_any va vs l S w (by omega) hS hset ha hs).mono ?_
  rintro e w' ⟨v, rfl, h1, h5⟩
  exact ⟨v, rfl, h1.sl, h5⟩
theorem either_evals {a b : List Opr} {d : Al Nat} {n : Nat} (hd : Dat n d) (ha : Okl a) (hb : Okl b) (h : confP a b = false) :
    evalL (evalD d a) b = evalL d b ∧ evalA (evalD d a) b = evalA d b ∧ evalL (evalD d b) a = evalL d a ∧ evalA (evalD d b) a = evalA d a ∧ applyP (evalD d a) (lastL (evalL d b)) = applyP (evalD d b) (lastL (evalL d a)) := by
  have h1 := behind hd.1 hb.kd h
  have h2 := behind hd.1 ha.kd (by rw [conf_comm]; exact h)
  rw [← evalD_eq] at h1 h2
  refine ⟨h1.1, h1.2, h2.1, h2.2, ?_⟩
  rw [apply_last (ris_evalD hd.1 _), apply_last (ris_evalD hd.1 _), evalD_eq, evalD_eq]
  exact either_data hd.1 h
theorem parts_evals {d : Al Nat} {n : Nat} (hd : Dat n d) (l : List Opr) (k : Nat) : evalA d l = evalA d (l.take k) ++ evalA (evalD d (l.take k)) (l.drop k) ∧ applyP d (lastL (evalL d l)) = applyP (evalD d (l.take k)) (lastL (evalL (evalD d (l.take k)) (l.drop k))) := by
  have h1 := evalA_append (l.take k) (l.drop k) d
  have h2 := parts_data hd.1 (l.take k) (l.drop k)
  rw [List.take_append_drop] at h1 h2
  exact ⟨h1, h2⟩
theorem Okl.sub {l m : List Opr} (h : Okl l) (hm : ∀ o ∈ m, o ∈ l) (hl : m.length ≤ l.length) : Okl m := ⟨Nat.le_trans hl h.1, fun o ho => h.2 o (hm o ho)⟩
theorem rs_len {rs : List AnR} {d : Al Nat} {l : List Opr} (h : rs.map AnR.ans = evalA d l) : rs.length = l.length := by
  have := congrArg List.length h
  rwa [List.length_map, evalA_length] at this
theorem few_app {r s : List AnR} (hr : FewA r) (hs : FewA s) (h : r.length + s.length ≤ 1000) : FewA (r ++ s) :=
  ⟨by rw [List.length_append]; exact h, fun x hx => (List.mem_append.1 hx).elim (hr.2 x) (hs.2 x)⟩
theorem ansL_app {w : World} {v u x : Value} {r s : List AnR} (h : SlG eA w v (r ++ s)) (hr : AnsL w u r) (hs : AnsL w x s) : AnsL w v (r ++ s) :=
  ⟨h, fun y hy => (List.mem_append.1 hy).elim (hr.2 y) (hs.2 y)⟩
theorem slG_some {α : Type} {E : Enc α} {w : World} {a : Option Addr} {n c : Nat} {l : List α} (h : SlG E w (.slice a n c) l) (hl : l ≠ []) : ∃ ad, a = some ad := by
  obtain ⟨a', c', hv, _, h2⟩ := h
  obtain ⟨g, o, h3, _⟩ := h2 hl
  cases hv
  exact ⟨_, h3⟩
section
variable {H : Type}
theorem inW_le8 {t : TypeId} {d : DataW H} {k : ByteArray} (h : InW t d k) {ts : List TypeId} {ds : List (DataW H)} (hsz : (DataW.weightsEach Tryz.prog ts ds).all (· ≤ reachBytes) = true) {j : Nat} (ht : ts[j]? = some t) (hd : ds[j]? = some d) : k.size ≤ 140737488355328 := by
  obtain ⟨n, hn, hk⟩ := h
  exact Nat.le_trans hk (reach_of hsz ht hd hn)
end

end SP
end Go.Proofs.YtfdkkgjkhamoeaaGreat

/- Openers of a write, of a text, of a number, as they come in. Conditions: none. -/
set_option linter.unusedVariables false
namespace Go.Proofs.YtfdkkgjkhamoeaaGreat
open S3 SN
namespace SP
open Go.ChangeShapes Go.WideShapes Go.ChangeAt Go.RowKit Go.Joins Go.Deep

theorem cellsWr : Tryz.prog.cellsOf 61 = 3 := by kernel_rfl
section
variable {H : Type} {enc : TypeId × Value → H}
set_option maxRecDepth 100000 in
theorem open_write {r : Reach} {b0 : Nat} {w : World} {v : Value} {d : DataW H} {p : List MemPlace} (hv : Value.okWide Tryz.prog w r b0 61 v) (h : DataW.Trod enc Tryz.prog w 0 (fun _ => true) true 61 v d p) :
    ∃ (k : ByteArray) (n : Nat) (g : Bool), v = .agg #[.string k, .int .u64 (n : Int), .bool g] ∧ n < 18446744073709551616 ∧ InW 61 d k := by
  obtain ⟨c0, c1, c2, y0, y1, y2, m, rfl, rfl, rfl, hy0, hy1, hy2⟩ := open_agg3 Tryz.underlying61 (by kernel_rfl) cellsWr hv h
  obtain ⟨x, hx0, hxd, _⟩ := DataW.trod_string Tryz.underlying9 hy0
  obtain ⟨y, hy0', _, wy⟩ := DataW.trod_int Tryz.underlying59 hy1
  obtain ⟨g, hg0, _⟩ := DataW.trod_bool Tryz.underlying4 hy2
  simp only [List.cons.injEq, and_true] at hx0 hy0' hg0
  subst hx0 hy0' hg0
  obtain ⟨yn, hyn, rfl⟩ := nat8 wy
  refine ⟨x, yn, g, rfl, hyn, x.data.toList.length, ?_, by rw [ba_len]; exact Nat.le_refl _⟩
  simp only [DataW.weights, Tryz.underlying61]
  refine List.mem_append_left _ ?_
  rw [hxd]
  simp [DataW.weights]
set_option maxRecDepth 100000 in
theorem open_str {r : Reach} {b0 : Nat} {w : World} {v : Value} {d : DataW H} {p : List MemPlace} (hv : Value.okWide Tryz.prog w r b0 9 v) (h : DataW.Trod enc Tryz.prog w 0 (fun _ => true) true 9 v d p) :
    ∃ k : ByteArray, v = .string k ∧ InW 9 d k := by
  obtain ⟨x, rfl⟩ := okWide_string Tryz.underlying9 hv
  obtain ⟨fuel, hf⟩ := h
  have hf' : DataW.trod enc Tryz.prog w 0 (fun _ => true) true fuel 9 [.string x] = some (d, p) := by simpa [Value.cells] using hf
  obtain ⟨y, hx0, hxd, _⟩ := DataW.trod_string Tryz.underlying9 hf'
  simp only [List.cons.injEq, and_true, Value.string.injEq] at hx0
  subst hx0
  have hxe : d = .lit (.string x.data.toList) := congrArg Prod.fst hxd
  refine ⟨x, rfl, x.data.toList.length, ?_, by rw [ba_len]; exact Nat.le_refl _⟩
  rw [hxe]
  simp [DataW.weights]
set_option maxRecDepth 100000 in
theorem open_num {r : Reach} {b0 : Nat} {w : World} {v : Value} {d : DataW H} {p : List MemPlace} (hv : Value.okWide Tryz.prog w r b0 59 v) (h : DataW.Trod enc Tryz.prog w 0 (fun _ => true) true 59 v d p) :
    ∃ n : Nat, v = .int .u64 (n : Int) ∧ n < 18446744073709551616 := by
  obtain ⟨x, rfl, _, _, wx⟩ := open_int Tryz.underlying59 hv h
  obtain ⟨n, hn, rfl⟩ := nat8 wx
  exact ⟨n, rfl, hn⟩
set_option maxRecDepth 100000 in
theorem ops_cap {r : Reach} {b0 : Nat} {w : World} {v : Value} {d : DataW H} {p : List MemPlace} (hv : Value.okWide Tryz.prog w r b0 22 v) (h : DataW.Trod enc Tryz.prog w 0 (fun _ => true) true 22 v d p) : ∀ a n c, v = .slice a n c → n ≤ c ∧ c ≤ maxLen := by
  intro a0 len0 cap0 e
  subst e
  obtain ⟨fuel, hf⟩ := h
  have hf' : DataW.trod enc Tryz.prog w 0 (fun _ => true) true fuel 22 [.slice a0 len0 cap0] = some (d, p) := by simpa [Value.cells] using hf
  rcases open_slice Tryz.underlying22 hf' with ⟨hcs, _⟩ | ⟨a, len, cap, m, n, D, Pl, hcs, _, hl, hm, hmm, hx, hi⟩
  · simp only [List.cons.injEq, Value.slice.injEq, and_true] at hcs
    obtain ⟨rfl, rfl, rfl⟩ := hcs
    exact ⟨Nat.le_refl _, Nat.zero_le _⟩
  · simp only [List.cons.injEq, Value.slice.injEq, and_true] at hcs
    obtain ⟨rfl, rfl, rfl⟩ := hcs
    exact ⟨hl, hm⟩
end

end SP
end Go.Proofs.YtfdkkgjkhamoeaaGreat

/- TxnSees: a get behind a put finds what was put; behind a drop nothing; a scan finds just what data have. Conditions: the law's own. -/
set_option linter.unusedVariables false
set_option linter.unusedSimpArgs false
namespace Go.Proofs.YtfdkkgjkhamoeaaGreat
open S3 SN
namespace SP
open Go.ChangeShapes Go.WideShapes Go.ChangeAt Go.RowKit Go.Joins Go.Deep


def seesL (key : ByteArray) (n : Nat) (to_ : ByteArray) : List Opr := [(3, key, ⟨#[]⟩, n), (1, key, ⟨#[]⟩, 0), (5, key, ⟨#[]⟩, 0), (1, key, ⟨#[]⟩, 0), (2, key, to_, 0)]
theorem sees_cells (key : ByteArray) (n : Nat) (to_ : ByteArray) : (cellsG eO (seesL key n to_)).toArray = #[.int .i64 3, .string key, .string ⟨#[]⟩, .int .u64 (n : Int), .int .i64 1, .string key, .string ⟨#[]⟩, .int .u64 0, .int .i64 5, .string key, .string ⟨#[]⟩, .int .u64 0, .int .i64 1, .string key, .string ⟨#[]⟩, .int .u64 0, .int .i64 2, .string key, .string to_, .int .u64 0] := rfl
theorem sees_eval {d : Al Nat} (hd : RisA d) (key : ByteArray) (n : Nat) (to_ : ByteArray) :
    evalA d (seesL key n to_) = [(true, 0, []), (true, n, []), (true, 0, []), (false, 0, []), (true, 0, inA (inS (key, to_)) (delA d key))] ∧ lastL (evalL d (seesL key n to_)) = [(key, 0, true)] := by
  have g1 : getA (putA d key n) key = some n := by rw [getA_put hd, if_pos rfl]
  have g2 : getA (delA (putA d key n) key) key = none := by rw [getA_del, if_pos rfl]
  have hq := sees_del hd key n
  have g3 : getA (delA d key) key = none := by rw [getA_del, if_pos rfl]
  refine ⟨?_, ?_⟩
  · simp only [seesL, evalA, opA, opW, applyP, List.foldl, doW, hasP, valP]
    have q1 : doW d (key, n, false) = putA d key n := rfl
    have q2 : doW (putA d key n) (key, 0, true) = delA (putA d key n) key := rfl
    simp [q1, q2, g1, g2, g3, hq]
  · simp only [seesL, evalL, opW, applyP, List.foldl, doW, List.append_nil, List.nil_append]
    simp [lastL, putA, lt_irrefl]
theorem five_of {α β : Type} {f : α → β} {r : List α} {x0 x1 x2 x3 x4 : β} (h : r.map f = [x0, x1, x2, x3, x4]) : ∃ a0 a1 a2 a3 a4, r = [a0, a1, a2, a3, a4] ∧ f a0 = x0 ∧ f a1 = x1 ∧ f a2 = x2 ∧ f a3 = x3 ∧ f a4 = x4 := by
  match r, h with
  | [a0, a1, a2, a3, a4], h =>
    simp only [List.map_cons, List.map_nil, List.cons.injEq, and_true] at h
    exact ⟨a0, a1, a2, a3, a4, rfl, h.1, h.2.1, h.2.2.1, h.2.2.2.1, h.2.2.2.2⟩
  | [], h => simp at h
  | [_], h => simp at h
  | [_, _], h => simp at h
  | [_, _, _], h => simp at h
  | [_, _, _, _], h => simp at h
  | _ :: _ :: _ :: _ :: _ :: _ :: _, h => simp at h
theorem sees_span {key to_ : ByteArray} {n : Nat} (h : Okl (seesL key n to_)) : IsSet [(key, to_)] := by
  have h1 := (ok_kd (h.2 (2, key, to_, 0) (by simp [seesL]))).2.2.2.2 rfl
  exact set_one (by unfold fullS; simpa [Bool.or_eq_true] using h1)
theorem row1sp (X : World) (a : Sp) (n : Nat) (h : X.heap.size = n) : Sl (X.alloc (.cells #[.string a.1, .string a.2] 75)) (.slice (some ⟨n, 0, none⟩) 1 1) [a] := by
  subst h
  exact one_sl (box2_new X a) 1
theorem memL_sp (s : Sp) : memL [s] = inS s := by funext x; exact memL_one s x

set_option maxRecDepth 100000 in
set_option maxHeartbeats 16000000 in
theorem txnSees_walk (key : ByteArray) (n : Nat) (vd : Value) (d : Al Nat) (to_ : ByteArray) (w : World) (hks : key.size ≤ 140737488355328) (hts : to_.size ≤ 140737488355328) (hn : n < 18446744073709551616) (hmd : d.length ≤ 9223372036854775807) (hrd : ∀ p ∈ d, p.1.size ≤ 140737488355328) (hnd : ∀ p ∈ d, p.2 < 18446744073709551616) (hd : SlG eP w vd d) :
    Calls Tryz.prog 10 #[.string key, .int .u64 (n : Int), vd, .string to_] w fun e w' => e = .returned (.bool true) ∧ Below w.heap.size w w' := by
  have Md := Lib.hid hmd
  have Rd := Lib.hid hrd
  have Nd := Lib.hid hnd
  have HB0 : Hid (Below w.heap.size w (w.alloc (.cells #[.int .i64 3, .string key, .string ⟨#[]⟩, .int .u64 (n : Int), .int .i64 1, .string key, .string ⟨#[]⟩, .int .u64 0, .int .i64 5, .string key, .string ⟨#[]⟩, .int .u64 0, .int .i64 1, .string key, .string ⟨#[]⟩, .int .u64 0, .int .i64 2, .string key, .string to_, .int .u64 0] 69))) := Lib.hid (blAlloc (Below.refl _ _) _)
  have Al : Hid (SlG eO (w.alloc (.cells #[.int .i64 3, .string key, .string ⟨#[]⟩, .int .u64 (n : Int), .int .i64 1, .string key, .string ⟨#[]⟩, .int .u64 0, .int .i64 5, .string key, .string ⟨#[]⟩, .int .u64 0, .int .i64 1, .string key, .string ⟨#[]⟩, .int .u64 0, .int .i64 2, .string key, .string to_, .int .u64 0] 69)) (.slice (some ⟨w.heap.size, 0, none⟩) 5 5) (seesL key n to_)) := Lib.hid (list_G eO w _ (seesL key n to_) _ 5 _ (sees_cells _ _ _).symm rfl rfl)
  have Ad := Lib.hid (hd.later HB0.out)
  have Rl : Hid (∀ o ∈ seesL key n to_, o.2.1.size ≤ 140737488355328 ∧ o.2.2.1.size ≤ 140737488355328) := Lib.hid fun o ho => by
    simp only [seesL, List.mem_cons, List.not_mem_nil, or_false] at ho
    rcases ho with rfl | rfl | rfl | rfl | rfl <;> exact ⟨hks, by first | exact hts | exact Nat.zero_le _⟩
  have Nl : Hid (∀ o ∈ seesL key n to_, o.2.2.2 < 18446744073709551616) := Lib.hid fun o ho => by
    simp only [seesL, List.mem_cons, List.not_mem_nil, or_false] at ho
    rcases ho with rfl | rfl | rfl | rfl | rfl <;> first | exact hn | exact (show (0 : Nat) < 18446744073709551616 by decide)
  have HLN : Hid ((seesL key n to_).length = 5) := Lib.hid rfl
  have HKS2 : Hid (Okl (seesL key n to_) → key.size ≤ 16) := Lib.hid fun h => key_len (ok_kd (h.2 (1, key, ⟨#[]⟩, 0) (by simp [seesL]))).2.1
  clear hks hts hn hmd hrd hnd hd
  generalize hLQ : seesL key n to_ = l at *
  have HLQ : Hid (l = seesL key n to_) := Lib.hid hLQ.symm
  clear hLQ
  go_enter Tryz.func10, Tryz.ntmps10
  go_wp2_with fail
  generalize (w.alloc (.cells #[.int .i64 3, .string key, .string ⟨#[]⟩, .int .u64 (n : Int), .int .i64 1, .string key, .string ⟨#[]⟩, .int .u64 0, .int .i64 5, .string key, .string ⟨#[]⟩, .int .u64 0, .int .i64 1, .string key, .string ⟨#[]⟩, .int .u64 0, .int .i64 2, .string key, .string to_, .int .u64 0] 69)) = w0 at *
  cases hc1 : smallB l d
  · have HC1 := Lib.hid hc1
    clear hc1
    go_wp2_with fail
    have h9 := small8_any _ vd l d w0 (by rw [HLN.out]; decide) Md.out Rl.out Rd.out Al.out Ad.out
    rw [HC1.out] at h9
    refine (h9).mono ?_
    rintro e w1 ⟨rfl, h5⟩
    have HX : Hid (Below w0.heap.size w0 w1) := blThen (by repeat (first | with_reducible exact Below.refl _ _ | with_reducible refine blAlloc ?_ _ | with_reducible refine Below.drew ?_)) h5
    have HB_w1 := Lib.hid (blThen HB0.out HX.out)
    have Al := Lib.hid (Al.out.later HX.out)
    have Ad := Lib.hid (Ad.out.later HX.out)
    clear h5 HX h9
    go_wp2_with fail
    refine (live8_any w1).mono ?_
    rintro e w2 ⟨rfl, h5⟩
    have HX : Hid (Below w1.heap.size w1 w2) := blThen (by repeat (first | with_reducible exact Below.refl _ _ | with_reducible refine blAlloc ?_ _ | with_reducible refine Below.drew ?_)) h5
    have HB_w2 := Lib.hid (blThen HB_w1.out HX.out)
    have Al := Lib.hid (Al.out.later HX.out)
    have Ad := Lib.hid (Ad.out.later HX.out)
    clear h5 HX
    go_wp2
    go_ret
    exact ⟨rfl, HB_w2.out⟩
  · have HC1 := Lib.hid hc1
    clear hc1
    have HB1 := Lib.hid (smallB_len2 HC1.out)
    go_wp2_with fail
    have h9 := small8_any _ vd l d w0 (by rw [HLN.out]; decide) Md.out Rl.out Rd.out Al.out Ad.out
    rw [HC1.out] at h9
    refine (h9).mono ?_
    rintro e w1 ⟨rfl, h5⟩
    have HX : Hid (Below w0.heap.size w0 w1) := blThen (by repeat (first | with_reducible exact Below.refl _ _ | with_reducible refine blAlloc ?_ _ | with_reducible refine Below.drew ?_)) h5
    have HB_w1 := Lib.hid (blThen HB0.out HX.out)
    have Al := Lib.hid (Al.out.later HX.out)
    have Ad := Lib.hid (Ad.out.later HX.out)
    clear h5 HX h9
    by_cases hc3 : checkP l = 0
    rotate_left
    · have hb3 : ((checkP l == 0) = false) := by simpa using hc3
      have hd3 : ((checkP l != 0) = true) := by simpa using hc3
      go_wp2_with fail
      have h9 := check8_any _ l w1 (by rw [HLN.out]; decide) Al.out
      refine (h9).mono ?_
      rintro e w2 ⟨rfl, h5⟩
      have HX : Hid (Below w1.heap.size w1 w2) := blThen (by repeat (first | with_reducible exact Below.refl _ _ | with_reducible refine blAlloc ?_ _ | with_reducible refine Below.drew ?_)) h5
      have HB_w2 := Lib.hid (blThen HB_w1.out HX.out)
      have Al := Lib.hid (Al.out.later HX.out)
      have Ad := Lib.hid (Ad.out.later HX.out)
      clear h5 HX h9
      go_wp2_with fail
      refine (num8_any _ w2).mono ?_
      rintro e wq ⟨rfl, rfl⟩
      go_wp2_with fail
      refine (live8_any w2).mono ?_
      rintro e w3 ⟨rfl, h5⟩
      have HX : Hid (Below w2.heap.size w2 w3) := blThen (by repeat (first | with_reducible exact Below.refl _ _ | with_reducible refine blAlloc ?_ _ | with_reducible refine Below.drew ?_)) h5
      have HB_w3 := Lib.hid (blThen HB_w2.out HX.out)
      have Al := Lib.hid (Al.out.later HX.out)
      have Ad := Lib.hid (Ad.out.later HX.out)
      clear h5 HX
      go_wp2
      go_ret
      exact ⟨rfl, HB_w3.out⟩
    · have HC3 := Lib.hid hc3
      clear hc3
      have HO3 := Lib.hid (okl_of HC3.out)
      go_wp2_with fail
      have h9 := check8_any _ l w1 (by rw [HLN.out]; decide) Al.out
      rw [HC3.out] at h9
      refine (h9).mono ?_
      rintro e w2 ⟨rfl, h5⟩
      have HX : Hid (Below w1.heap.size w1 w2) := blThen (by repeat (first | with_reducible exact Below.refl _ _ | with_reducible refine blAlloc ?_ _ | with_reducible refine Below.drew ?_)) h5
      have HB_w2 := Lib.hid (blThen HB_w1.out HX.out)
      have Al := Lib.hid (Al.out.later HX.out)
      have Ad := Lib.hid (Ad.out.later HX.out)
      clear h5 HX h9
      go_wp2_with fail
      refine (num8_any _ w2).mono ?_
      rintro e wq ⟨rfl, rfl⟩
      cases hc5 : dataB none d
      · have HC5 := Lib.hid hc5
        clear hc5
        go_wp2_with fail
        have h9 := rdata_any vd d w2 (show d.length ≤ 1000000 by have := HB1.out; omega) Nd.out Ad.out
        rw [HC5.out] at h9
        refine (h9).mono ?_
        rintro e w3 ⟨rfl, h5⟩
        have HX : Hid (Below w2.heap.size w2 w3) := blThen (by repeat (first | with_reducible exact Below.refl _ _ | with_reducible refine blAlloc ?_ _ | with_reducible refine Below.drew ?_)) h5
        have HB_w3 := Lib.hid (blThen HB_w2.out HX.out)
        have Al := Lib.hid (Al.out.later HX.out)
        have Ad := Lib.hid (Ad.out.later HX.out)
        clear h5 HX h9
        go_wp2_with fail
        refine (live8_any w3).mono ?_
        rintro e w4 ⟨rfl, h5⟩
        have HX : Hid (Below w3.heap.size w3 w4) := blThen (by repeat (first | with_reducible exact Below.refl _ _ | with_reducible refine blAlloc ?_ _ | with_reducible refine Below.drew ?_)) h5
        have HB_w4 := Lib.hid (blThen HB_w3.out HX.out)
        have Al := Lib.hid (Al.out.later HX.out)
        have Ad := Lib.hid (Ad.out.later HX.out)
        clear h5 HX
        go_wp2
        go_ret
        exact ⟨rfl, HB_w4.out⟩
      · have HC5 := Lib.hid hc5
        clear hc5
        have HD5 : Hid (Dat 60 d) := Lib.hid (dat_of HC5.out (show d.length ≤ 60 by have := HB1.out; omega))
        go_wp2_with fail
        have h9 := rdata_any vd d w2 (show d.length ≤ 1000000 by have := HB1.out; omega) Nd.out Ad.out
        rw [HC5.out] at h9
        refine (h9).mono ?_
        rintro e w3 ⟨rfl, h5⟩
        have HX : Hid (Below w2.heap.size w2 w3) := blThen (by repeat (first | with_reducible exact Below.refl _ _ | with_reducible refine blAlloc ?_ _ | with_reducible refine Below.drew ?_)) h5
        have HB_w3 := Lib.hid (blThen HB_w2.out HX.out)
        have Al := Lib.hid (Al.out.later HX.out)
        have Ad := Lib.hid (Ad.out.later HX.out)
        clear h5 HX h9
        have HKS : Hid (key.size ≤ 16) := Lib.hid (HKS2.out HO3.out)
        have HLl : Hid (l.length ≤ 8) := Lib.hid HO3.out.1
        have HDT : Hid (Dat 60 d) := HD5
        have HEV := sees_eval HDT.out.1 key n to_
        rw [← HLQ.out] at HEV
        have HEV := Lib.hid HEV
        have HST : Hid (IsSet [(key, to_)]) := Lib.hid (sees_span (n := n) (by rw [← HLQ.out]; exact HO3.out))
        go_wp2_with fail
        refine (ev_any _ vd l d w3 HDT.out (by omega) HO3.out Nl.out Al.out Ad.out).mono ?_
        rintro e w4 ⟨v1, u1, r1, rfl, h1, h2, h3, h4, h5⟩
        have HX : Hid (Below w3.heap.size w3 w4) := blThen (by repeat (first | with_reducible exact Below.refl _ _ | with_reducible refine blAlloc ?_ _ | with_reducible refine Below.drew ?_)) h5
        have HB_w4 := Lib.hid (blThen HB_w3.out HX.out)
        have Al := Lib.hid (Al.out.later HX.out)
        have Ad := Lib.hid (Ad.out.later HX.out)
        have HW1 := Lib.hid h1
        have HQ1 := Lib.hid h2
        have HF1 := Lib.hid h3
        have HS1 := Lib.hid h4
        clear h5 HX h1 h2 h3 h4
        obtain ⟨b1, d1, rfl⟩ := HQ1.out.1.form
        obtain ⟨a1, c1, rfl⟩ := HW1.out.form
        obtain ⟨z0, z1, z2, z3, z4, hr, e0, e1, e2, e3, e4⟩ := five_of (HS1.out.trans HEV.out.1)
        have hwl := HEV.out.2
        rw [hwl] at HW1
        rw [hwl]
        clear hwl
        subst hr
        obtain ⟨g, o, ea, hg, p00, _, _⟩ := ans_at HQ1.out.1 (k := 0) (x := z0) rfl
        subst ea
        obtain ⟨g1, o1, ea, _, p10, p11, _⟩ := ans_at HQ1.out.1 (k := 1) (x := z1) rfl
        cases ea
        obtain ⟨g1, o1, ea, _, p20, _, _⟩ := ans_at HQ1.out.1 (k := 2) (x := z2) rfl
        cases ea
        obtain ⟨g1, o1, ea, _, p30, p31, _⟩ := ans_at HQ1.out.1 (k := 3) (x := z3) rfl
        cases ea
        obtain ⟨g1, o1, ea, _, _, _, p42⟩ := ans_at HQ1.out.1 (k := 4) (x := z4) rfl
        cases ea
        obtain ⟨gw, ow, ea, _, _, _, q02⟩ := wrs_at HW1.out (k := 0) (x := (key, 0, true)) rfl
        subst ea
        have y0 : z0.yes = true := congrArg (fun a => a.1) e0
        have y1 : z1.yes = true := congrArg (fun a => a.1) e1
        have n1 : z1.num = n := congrArg (fun a => a.2.1) e1
        have y2 : z2.yes = true := congrArg (fun a => a.1) e2
        have y3 : z3.yes = false := congrArg (fun a => a.1) e3
        have n3 : z3.num = 0 := congrArg (fun a => a.2.1) e3
        have P4 : Hid (z4.prs = inA (inS (key, to_)) (delA d key)) := Lib.hid (congrArg (fun a => a.2.2) e4)
        have HP4 : Hid (SlG eP w4 (.slice z4.at_ z4.prs.length z4.cap) z4.prs) := Lib.hid (HQ1.out.2 z4 (by simp))
        have HP4L : Hid (z4.prs.length ≤ 1000) := Lib.hid (by rw [P4.out]; exact Nat.le_trans (inA_len _ _) (Nat.le_trans (delA_len _ _) (by have := HDT.out.2.2; omega)))
        rw [y0] at p00
        rw [y1] at p10
        rw [n1] at p11
        rw [y2] at p20
        rw [y3] at p30
        rw [n3] at p31
        simp only [Nat.zero_mul, Nat.add_zero] at p00 q02
        simp only [List.length_cons, List.length_nil] at HQ1 HW1
        clear y0 y1 n1 y2 y3 n3 e0 e1 e2 e3 e4
        go_wp2_with fail
        refine (ap_any vd _ d [(key, 0, true)] _ HDT.out (by omega) (by simp) (fun x hx => by simp only [List.mem_singleton] at hx; subst hx; have := HKS.out; simp only; omega) (Ad.out.later (by repeat (first | with_reducible exact Below.refl _ _ | with_reducible refine blAlloc ?_ _ | with_reducible refine Below.drew ?_))) (list_G eW w4 _ [(key, 0, true)] _ 1 _ rfl rfl rfl)).mono ?_
        rintro e w5 ⟨p6, rfl, h1, h5⟩
        have KK := Lib.hid (fun (Y : World) (hY : Below w4.heap.size w4 Y) => (cell_in hY hg p42 : Y.cell? ⟨g, o + 4 * 3 + 2, none⟩ = some (.slice z4.at_ z4.prs.length z4.cap)))
        have HX : Hid (Below w4.heap.size w4 w5) := blThen (by repeat (first | with_reducible exact Below.refl _ _ | with_reducible refine blAlloc ?_ _ | with_reducible refine Below.drew ?_)) h5
        have HB_w5 := Lib.hid (blThen HB_w4.out HX.out)
        have Al := Lib.hid (Al.out.later HX.out)
        have Ad := Lib.hid (Ad.out.later HX.out)
        have HW1 := Lib.hid (HW1.out.later HX.out)
        have HQ1 := Lib.hid (HQ1.out.later HX.out)
        have HP4 := Lib.hid (HP4.out.later HX.out)
        have HP6 := Lib.hid h1
        have HX8 := Lib.hid HX.out
        clear h5 HX h1
        have HDD : Hid (Dat 60 (delA d key)) := Lib.hid ⟨risA_del HDT.out.1 _, fun p hp => HDT.out.2.1 p (List.mem_filter.1 hp).1, Nat.le_trans (delA_len _ _) HDT.out.2.2⟩
        have HPK : Hid (applyP d [(key, 0, true)] = delA d key) := Lib.hid rfl
        have HP6 : Hid (SlG eP w5 p6 (delA d key)) := HP6
        have K8 := Lib.hid (fun (Y : World) (hY : Below w5.heap.size w5 Y) => KK.out Y (blThen HX8.out hY))
        go_wp2_with fail
        refine wp_region_held_drew (S := fun Y => Y.cell? ⟨g, o + 4 * 3 + 2, none⟩ = some (.slice z4.at_ z4.prs.length z4.cap)) (by kernel_rfl) (K8.out _ (Below.refl w5.heap.size w5).drew) (fun hHeld => ?_)
        refine wpAnyH_take (i := 0) (oi := { dst := some 110, op := Op.move (Operand.tmp 11), type := 46, pos := "law.go:182", after := #[], guard := none }) (v := ?_) rfl (by kernel_rfl) (by kernel_rfl) (by kernel_rfl) (fun _ _ _ h => h) (Or.inl ⟨by rfl, ?_⟩) (by assumption) ?_
        rotate_left
        · intro w hSw
          try dsimp only at hSw
          go_simp
          try with_reducible rfl
        try simp only [Act.put, List.setIfInBounds_toArray, List.set_cons_zero, List.set_cons_succ]
        refine wpAnyH_take (i := 1) (oi := { dst := some 111, op := Op.indexAddr 46 (Operand.tmp 110) (Operand.const (Value.int IntKind.i64 4)), type := 0, pos := "law.go:182", after := #[{ on := 0, ground := Ground.data }], guard := none }) (v := ?_) rfl (by kernel_rfl) (by kernel_rfl) (by kernel_rfl) (fun _ _ _ h => h) (Or.inl ⟨by rfl, ?_⟩) (by assumption) ?_
        rotate_left
        · intro w hSw
          try dsimp only at hSw
          go_simp
          try with_reducible rfl
        try simp only [Act.put, List.setIfInBounds_toArray, List.set_cons_zero, List.set_cons_succ]
        refine wpAnyH_take (i := 2) (oi := { dst := some 112, op := Op.fieldAddr 71 (Operand.tmp 111) 2, type := 0, pos := "law.go:182", after := #[{ on := 1, ground := Ground.data }], guard := none }) (v := ?_) rfl (by kernel_rfl) (by kernel_rfl) (by kernel_rfl) (fun _ _ _ h => h) (Or.inl ⟨by rfl, ?_⟩) (by assumption) ?_
        rotate_left
        · intro w hSw
          try dsimp only at hSw
          go_simp
          try with_reducible rfl
        try simp only [Act.put, List.setIfInBounds_toArray, List.set_cons_zero, List.set_cons_succ]
        refine wpAnyH_take (i := 3) (oi := { dst := some 113, op := Op.load 42 (Operand.tmp 112), type := 42, pos := "law.go:182", after := #[{ on := 2, ground := Ground.data }], guard := none }) (v := ?_) rfl (by kernel_rfl) (by kernel_rfl) (by kernel_rfl) (fun _ _ _ h => h) (Or.inl ⟨by rfl, ?_⟩) (by assumption) ?_
        rotate_left
        · intro w hSw
          try dsimp only at hSw
          go_simp
          try with_reducible rfl
        try simp only [Act.put, List.setIfInBounds_toArray, List.set_cons_zero, List.set_cons_succ]
        refine wpAnyH_take (i := 4) (oi := { dst := some 114, op := Op.move (Operand.tmp 12), type := 42, pos := "law.go:182", after := #[], guard := none }) (v := ?_) rfl (by kernel_rfl) (by kernel_rfl) (by kernel_rfl) (fun _ _ _ h => h) (Or.inl ⟨by rfl, ?_⟩) (by assumption) ?_
        rotate_left
        · intro w hSw
          try dsimp only at hSw
          go_simp
          try with_reducible rfl
        try simp only [Act.put, List.setIfInBounds_toArray, List.set_cons_zero, List.set_cons_succ]
        refine wpAnyH_take (i := 5) (oi := { dst := some 115, op := Op.move (Operand.tmp 0), type := 9, pos := "law.go:182", after := #[], guard := none }) (v := ?_) rfl (by kernel_rfl) (by kernel_rfl) (by kernel_rfl) (fun _ _ _ h => h) (Or.inl ⟨by rfl, ?_⟩) (by assumption) ?_
        rotate_left
        · intro w hSw
          try dsimp only at hSw
          go_simp
          try with_reducible rfl
        try simp only [Act.put, List.setIfInBounds_toArray, List.set_cons_zero, List.set_cons_succ]
        refine wpAnyH_take (i := 6) (oi := { dst := some 116, op := Op.move (Operand.tmp 3), type := 9, pos := "law.go:182", after := #[], guard := none }) (v := ?_) rfl (by kernel_rfl) (by kernel_rfl) (by kernel_rfl) (fun _ _ _ h => h) (Or.inl ⟨by rfl, ?_⟩) (by assumption) ?_
        rotate_left
        · intro w hSw
          try dsimp only at hSw
          go_simp
          try with_reducible rfl
        try simp only [Act.put, List.setIfInBounds_toArray, List.set_cons_zero, List.set_cons_succ]
        refine wpAnyH_take (i := 7) (oi := { dst := some 117, op := Op.build 75 #[(0, Operand.tmp 115), (1, Operand.tmp 116)], type := 75, pos := "law.go:182", after := #[{ on := 5, ground := Ground.data }, { on := 6, ground := Ground.data }], guard := none }) (v := ?_) rfl (by kernel_rfl) (by kernel_rfl) (by kernel_rfl) (fun _ _ _ h => h) (Or.inl ⟨by rfl, ?_⟩) (by assumption) ?_
        rotate_left
        · intro w hSw
          try dsimp only at hSw
          go_simp
          try with_reducible rfl
        try simp only [Act.put, List.setIfInBounds_toArray, List.set_cons_zero, List.set_cons_succ]
        refine wpAnyH_ready (rs := [8]) (by kernel_rfl) (by simp) ?_
        refine AllReadyH.cons (o := { dst := some 118, op := Op.buildSlice 40 1 #[(0, Operand.tmp 117)], type := 40, pos := "law.go:182", after := #[{ on := 7, ground := Ground.data }], guard := none }) rfl (fun K hK => ?_) ?_
        rotate_left
        · exact AllReadyH.nil
        go_simp
        refine hK.out _ _ (K8.out _ (by repeat (first | with_reducible exact Below.refl _ _ | with_reducible refine blAlloc ?_ _ | with_reducible refine Below.drew ?_))) (fun hHeld => ?_)
        clear hK K
        try simp only [Act.put, List.setIfInBounds_toArray, List.set_cons_zero, List.set_cons_succ]
        refine wpAnyH_ready (rs := [9]) (by kernel_rfl) (by simp) ?_
        refine AllReadyH.cons (o := { dst := some 119, op := Op.call { callee := Callee.value (Operand.func 43), args := #[Operand.tmp 114, Operand.tmp 118], argTypes := #[42, 40] }, type := 42, pos := "law.go:182", after := #[{ on := 4, ground := Ground.data }, { on := 8, ground := Ground.data }], guard := none }) rfl (fun K hK => ?_) ?_
        rotate_left
        · exact AllReadyH.nil
        go_simp
        go_at_call 43
        refine (pk_any p6 _ (delA d key) [(key, to_)] _ HDD.out (by omega) (by simp) HST.out (HP6.out.later (by repeat (first | with_reducible exact Below.refl _ _ | with_reducible refine blAlloc ?_ _ | with_reducible refine Below.drew ?_))) (row1sp w5.drew (key, to_) _ rfl)).mono ?_
        rintro e y1 ⟨x9, rfl, h1, h5⟩
        have HX : Hid (Below w5.heap.size w5 y1) := Lib.hid (blThen (by repeat (first | with_reducible exact Below.refl _ _ | with_reducible refine blAlloc ?_ _ | with_reducible refine Below.drew ?_)) h5)
        have HB_y1 : Hid (Below w5.heap.size w5 y1) := Lib.hid (HX.out)
        have Ad := Lib.hid (Ad.out.later HX.out)
        have HW1 := Lib.hid (HW1.out.later HX.out)
        have HP4 := Lib.hid (HP4.out.later HX.out)
        have HP6 := Lib.hid (HP6.out.later HX.out)
        have HX9 := Lib.hid h1
        clear h5 HX h1
        refine hK.out _ _ (K8.out _ HB_y1.out) (fun hHeld => ?_)
        clear hK K
        try simp only [Act.put, List.setIfInBounds_toArray, List.set_cons_zero, List.set_cons_succ]
        refine wpAnyH_ready (rs := [10]) (by kernel_rfl) (by simp) ?_
        refine AllReadyH.cons (o := { dst := some 120, op := Op.call { callee := Callee.value (Operand.func 40), args := #[Operand.tmp 113, Operand.tmp 119], argTypes := #[42, 42] }, type := 4, pos := "law.go:182", after := #[{ on := 3, ground := Ground.data }, { on := 9, ground := Ground.data }, { on := 9, ground := Ground.chain }], guard := none }) rfl (fun K hK => ?_) ?_
        rotate_left
        · exact AllReadyH.nil
        go_simp
        have h9 := prsame_any _ x9 z4.prs (inA (memL [(key, to_)]) (delA d key)) y1 (by have := HP4L.out; omega) (Nat.le_trans (inA_len _ _) (by have := HDD.out.2.2; omega)) HP4.out HX9.out
        rw [decide_eq_true (show z4.prs = inA (memL [(key, to_)]) (delA d key) from by rw [P4.out, memL_sp])] at h9
        go_at_call 40
        refine (h9).mono ?_
        rintro e y2 ⟨rfl, h5⟩
        have HX : Hid (Below y1.heap.size y1 y2) := Lib.hid (blThen (by repeat (first | with_reducible exact Below.refl _ _ | with_reducible refine blAlloc ?_ _ | with_reducible refine Below.drew ?_)) h5)
        have HB_y2 : Hid (Below w5.heap.size w5 y2) := Lib.hid (blThen HB_y1.out HX.out)
        have Ad := Lib.hid (Ad.out.later HX.out)
        have HW1 := Lib.hid (HW1.out.later HX.out)
        have HP4 := Lib.hid (HP4.out.later HX.out)
        have HP6 := Lib.hid (HP6.out.later HX.out)
        have HX9 := Lib.hid (HX9.out.later HX.out)
        clear h5 HX h9
        refine hK.out _ _ (K8.out _ HB_y2.out) (fun hHeld => ?_)
        clear hK K
        try simp only [Act.put, List.setIfInBounds_toArray, List.set_cons_zero, List.set_cons_succ]
        refine wpAnyH_take (i := 11) (oi := { dst := some 121, op := Op.move (Operand.tmp 120), type := 4, pos := "law.go:182", after := #[{ on := 10, ground := Ground.data }, { on := 10, ground := Ground.chain }], guard := none }) (v := ?_) rfl (by kernel_rfl) (by kernel_rfl) (by kernel_rfl) (fun _ _ _ h => h) (Or.inl ⟨by rfl, ?_⟩) (by assumption) ?_
        rotate_left
        · intro w hSw
          try dsimp only at hSw
          go_simp
          try with_reducible rfl
        try simp only [Act.put, List.setIfInBounds_toArray, List.set_cons_zero, List.set_cons_succ]
        refine wpAnyH_take (i := 12) (oi := { dst := some 122, op := Op.move (Operand.tmp 2), type := 42, pos := "law.go:182", after := #[{ on := 11, ground := Ground.guard }], guard := some (11, true) }) (v := ?_) rfl (by kernel_rfl) (by kernel_rfl) (by kernel_rfl) (fun _ _ _ h => h) (Or.inl ⟨by rfl, ?_⟩) (by assumption) ?_
        rotate_left
        · intro w hSw
          try dsimp only at hSw
          go_simp
          try with_reducible rfl
        try simp only [Act.put, List.setIfInBounds_toArray, List.set_cons_zero, List.set_cons_succ]
        refine wpAnyH_take (i := 13) (oi := { dst := some 123, op := Op.move (Operand.tmp 10), type := 45, pos := "law.go:182", after := #[{ on := 11, ground := Ground.guard }], guard := some (11, true) }) (v := ?_) rfl (by kernel_rfl) (by kernel_rfl) (by kernel_rfl) (fun _ _ _ h => h) (Or.inl ⟨by rfl, ?_⟩) (by assumption) ?_
        rotate_left
        · intro w hSw
          try dsimp only at hSw
          go_simp
          try with_reducible rfl
        try simp only [Act.put, List.setIfInBounds_toArray, List.set_cons_zero, List.set_cons_succ]
        refine wpAnyH_take (i := 15) (oi := { dst := some 125, op := Op.move (Operand.tmp 12), type := 42, pos := "law.go:182", after := #[{ on := 11, ground := Ground.guard }], guard := some (11, true) }) (v := ?_) rfl (by kernel_rfl) (by kernel_rfl) (by kernel_rfl) (fun _ _ _ h => h) (Or.inl ⟨by rfl, ?_⟩) (by assumption) ?_
        rotate_left
        · intro w hSw
          try dsimp only at hSw
          go_simp
          try with_reducible rfl
        try simp only [Act.put, List.setIfInBounds_toArray, List.set_cons_zero, List.set_cons_succ]
        refine wpAnyH_ready (rs := [14]) (by kernel_rfl) (by simp) ?_
        refine AllReadyH.cons (o := { dst := some 124, op := Op.call { callee := Callee.value (Operand.func 41), args := #[Operand.tmp 122, Operand.tmp 123], argTypes := #[42, 45] }, type := 42, pos := "law.go:182", after := #[{ on := 12, ground := Ground.data }, { on := 13, ground := Ground.data }, { on := 11, ground := Ground.chain }, { on := 11, ground := Ground.guard }], guard := some (11, true) }) rfl (fun K hK => ?_) ?_
        rotate_left
        · exact AllReadyH.nil
        go_simp
        go_at_call 41
        refine (ap_any vd _ d [(key, 0, true)] y2 HDT.out (by omega) (by simp) (fun x hx => by simp only [List.mem_singleton] at hx; subst hx; have := HKS.out; simp only; omega) Ad.out HW1.out).mono ?_
        rintro e y3 ⟨x14, rfl, h1, h5⟩
        have HX : Hid (Below y2.heap.size y2 y3) := Lib.hid (blThen (by repeat (first | with_reducible exact Below.refl _ _ | with_reducible refine blAlloc ?_ _ | with_reducible refine Below.drew ?_)) h5)
        have HB_y3 : Hid (Below w5.heap.size w5 y3) := Lib.hid (blThen HB_y2.out HX.out)
        have Ad := Lib.hid (Ad.out.later HX.out)
        have HW1 := Lib.hid (HW1.out.later HX.out)
        have HP4 := Lib.hid (HP4.out.later HX.out)
        have HP6 := Lib.hid (HP6.out.later HX.out)
        have HX9 := Lib.hid (HX9.out.later HX.out)
        have HX14 := Lib.hid h1
        clear h5 HX h1
        refine hK.out _ _ (K8.out _ HB_y3.out) (fun hHeld => ?_)
        clear hK K
        try simp only [Act.put, List.setIfInBounds_toArray, List.set_cons_zero, List.set_cons_succ]
        refine wpAnyH_ready (rs := [16]) (by kernel_rfl) (by simp) ?_
        refine AllReadyH.cons (o := { dst := some 126, op := Op.call { callee := Callee.value (Operand.func 40), args := #[Operand.tmp 124, Operand.tmp 125], argTypes := #[42, 42] }, type := 4, pos := "law.go:182", after := #[{ on := 14, ground := Ground.data }, { on := 15, ground := Ground.data }, { on := 14, ground := Ground.chain }, { on := 11, ground := Ground.guard }], guard := some (11, true) }) rfl (fun K hK => ?_) ?_
        rotate_left
        · exact AllReadyH.nil
        go_simp
        have h9 := prsame_any x14 p6 (applyP d [(key, 0, true)]) (delA d key) y3 (by rw [HPK.out]; have := HDD.out.2.2; omega) (by have := HDD.out.2.2; omega) HX14.out HP6.out
        rw [decide_eq_true HPK.out] at h9
        go_at_call 40
        refine (h9).mono ?_
        rintro e y4 ⟨rfl, h5⟩
        have HX : Hid (Below y3.heap.size y3 y4) := Lib.hid (blThen (by repeat (first | with_reducible exact Below.refl _ _ | with_reducible refine blAlloc ?_ _ | with_reducible refine Below.drew ?_)) h5)
        have HB_y4 : Hid (Below w5.heap.size w5 y4) := Lib.hid (blThen HB_y3.out HX.out)
        have Ad := Lib.hid (Ad.out.later HX.out)
        have HW1 := Lib.hid (HW1.out.later HX.out)
        have HP4 := Lib.hid (HP4.out.later HX.out)
        have HP6 := Lib.hid (HP6.out.later HX.out)
        have HX9 := Lib.hid (HX9.out.later HX.out)
        have HX14 := Lib.hid (HX14.out.later HX.out)
        clear h5 HX h9
        refine hK.out _ _ (K8.out _ HB_y4.out) (fun hHeld => ?_)
        clear hK K
        try simp only [Act.put, List.setIfInBounds_toArray, List.set_cons_zero, List.set_cons_succ]
        refine wpAnyH_take (i := 17) (oi := { dst := some 127, op := Op.pick (Operand.tmp 121) (Operand.tmp 126) (Operand.const (Value.bool false)), type := 4, pos := "law.go:182", after := #[{ on := 11, ground := Ground.data }, { on := 16, ground := Ground.data }], guard := none }) (v := ?_) rfl (by kernel_rfl) (by kernel_rfl) (by kernel_rfl) (fun _ _ _ h => h) (Or.inl ⟨by rfl, ?_⟩) (by assumption) ?_
        rotate_left
        · intro w hSw
          try dsimp only at hSw
          go_simp
          try with_reducible rfl
        try simp only [Act.put, List.setIfInBounds_toArray, List.set_cons_zero, List.set_cons_succ]
        refine wpAnyH_take (i := 18) (oi := { dst := some 128, op := Op.move (Operand.tmp 127), type := 4, pos := "law.go:182", after := #[{ on := 17, ground := Ground.data }, { on := 16, ground := Ground.chain }], guard := none }) (v := ?_) rfl (by kernel_rfl) (by kernel_rfl) (by kernel_rfl) (fun _ _ _ h => h) (Or.inl ⟨by rfl, ?_⟩) (by assumption) ?_
        rotate_left
        · intro w hSw
          try dsimp only at hSw
          go_simp
          try with_reducible rfl
        try simp only [Act.put, List.setIfInBounds_toArray, List.set_cons_zero, List.set_cons_succ]
        refine wpAnyH_ready (rs := [19]) (by kernel_rfl) (by simp) ?_
        refine AllReadyH.cons (o := { dst := some 129, op := Op.call { callee := Callee.value (Operand.func 14), args := #[], argTypes := #[] }, type := 4, pos := "law.go:182", after := #[{ on := 18, ground := Ground.chain }, { on := 18, ground := Ground.guard }], guard := some (18, true) }) rfl (fun K hK => ?_) ?_
        rotate_left
        · exact AllReadyH.nil
        go_simp
        go_at_call 14
        refine (live8_any y4).mono ?_
        rintro e y5 ⟨rfl, h5⟩
        have HX : Hid (Below y4.heap.size y4 y5) := Lib.hid (blThen (by repeat (first | with_reducible exact Below.refl _ _ | with_reducible refine blAlloc ?_ _ | with_reducible refine Below.drew ?_)) h5)
        have HB_y5 : Hid (Below w5.heap.size w5 y5) := Lib.hid (blThen HB_y4.out HX.out)
        have Ad := Lib.hid (Ad.out.later HX.out)
        have HW1 := Lib.hid (HW1.out.later HX.out)
        have HP4 := Lib.hid (HP4.out.later HX.out)
        have HP6 := Lib.hid (HP6.out.later HX.out)
        have HX9 := Lib.hid (HX9.out.later HX.out)
        have HX14 := Lib.hid (HX14.out.later HX.out)
        clear h5 HX
        refine hK.out _ _ (K8.out _ HB_y5.out) (fun hHeld => ?_)
        clear hK K
        try simp only [Act.put, List.setIfInBounds_toArray, List.set_cons_zero, List.set_cons_succ]
        refine wpAnyH_take (i := 20) (oi := { dst := some 130, op := Op.pick (Operand.tmp 128) (Operand.tmp 129) (Operand.const (Value.bool false)), type := 4, pos := "law.go:182", after := #[{ on := 18, ground := Ground.data }, { on := 19, ground := Ground.data }], guard := none }) (v := ?_) rfl (by kernel_rfl) (by kernel_rfl) (by kernel_rfl) (fun _ _ _ h => h) (Or.inl ⟨by rfl, ?_⟩) (by assumption) ?_
        rotate_left
        · intro w hSw
          try dsimp only at hSw
          go_simp
          try with_reducible rfl
        try simp only [Act.put, List.setIfInBounds_toArray, List.set_cons_zero, List.set_cons_succ]
        refine wpAnyH_take (i := 21) (oi := { dst := some 8, op := Op.assign (Operand.tmp 130), type := 4, pos := "law.go:182", after := #[{ on := 20, ground := Ground.data }, { on := 19, ground := Ground.chain }, { on := 0, ground := Ground.phase }, { on := 1, ground := Ground.phase }, { on := 2, ground := Ground.phase }, { on := 3, ground := Ground.phase }, { on := 4, ground := Ground.phase }, { on := 5, ground := Ground.phase }, { on := 6, ground := Ground.phase }, { on := 7, ground := Ground.phase }, { on := 8, ground := Ground.phase }, { on := 9, ground := Ground.phase }, { on := 10, ground := Ground.phase }, { on := 11, ground := Ground.phase }, { on := 12, ground := Ground.phase }, { on := 13, ground := Ground.phase }, { on := 14, ground := Ground.phase }, { on := 15, ground := Ground.phase }, { on := 16, ground := Ground.phase }, { on := 17, ground := Ground.phase }, { on := 18, ground := Ground.phase }, { on := 19, ground := Ground.phase }, { on := 20, ground := Ground.phase }], guard := none }) (v := ?_) rfl (by kernel_rfl) (by kernel_rfl) (by kernel_rfl) (fun _ _ _ h => h) (Or.inl ⟨by rfl, ?_⟩) (by assumption) ?_
        rotate_left
        · intro w hSw
          try dsimp only at hSw
          go_simp
          try with_reducible rfl
        try simp only [Act.put, List.setIfInBounds_toArray, List.set_cons_zero, List.set_cons_succ]
        refine wpAnyH_done (by kernel_rfl) ?_ _
        go_wp2
        go_ret
        exact ⟨rfl, blThen HB_w5.out HB_y5.out⟩

end SP
end Go.Proofs.YtfdkkgjkhamoeaaGreat

/- TxnSees. Conditions: none. -/
set_option linter.unusedVariables false
set_option linter.unusedSimpArgs false
namespace Go.Proofs.YtfdkkgjkhamoeaaGreat
open S3 SN
namespace SP
open Go.ChangeShapes Go.WideShapes Go.ChangeAt Go.RowKit Go.Joins Go.Deep


set_option maxRecDepth 100000 in
theorem txnSees_lifted (os : Os) (started : os.Started) (H : Type) (enc : TypeId × Value → H) :
    ReturnsInHanded {} Tryz.checked os 10 .any (Rows.txnSeesSpec.pre6 enc Tryz.prog Tryz.f10 Rows.txnSeesRow.domain false) (Rows.txnSeesSpec.post enc Tryz.prog Tryz.f10 false true false false) := by
  refine law_lift_sized (C := Tryz.checked) own0 started (by kernel_rfl) Tryz.func10 laid0 rfl (by kernel_rfl) (fun _ _ _ _ => trodAll_mk1 (shut_bool Tryz.underlying4 true)) (fun ds h => match ds, h with | [_, _, _, _], _ => ⟨rfl, rfl, rfl⟩)
    (ChangeSpec.witness6 (enc := enc) (C := Tryz.checked) false ⟨#[], #[.string ⟨#[]⟩, .int .u64 0, .slice none 0 0, .string ⟨#[]⟩], []⟩ 8 (by kernel_rfl) (by kernel_rfl) (by kernel_rfl) (by kernel_rfl)) ?_
  intro W base args ds before hval0 hA0 hlt hsz
  have hval : ∀ (j : Nat) t v, Tryz.f10.params[j]? = some t → args[j]? = some v → Value.okWide Tryz.prog W .any base t v := hval0
  have hA : DataW.TrodAll enc Tryz.prog W 0 (fun _ => true) true Tryz.f10.params.toList args.toList ds before := hA0
  rw [Tryz.params10] at hA hval
  obtain ⟨v0, v1, v2, v3, d0, d1, d2, d3, p0, p1, p2, p3, rfl, rfl, rfl, h0, h1, h2, h3⟩ := trodAll_four hA
  obtain ⟨key, rfl, ik⟩ := open_str (hval 0 9 v0 rfl rfl) h0
  obtain ⟨n, rfl, hn⟩ := open_num (hval 1 59 v1 rfl rfl) h1
  obtain ⟨d, od, md, rd⟩ := open_pairs (hval 2 42 v2 rfl rfl) h2
  obtain ⟨to_, rfl, it⟩ := open_str (hval 3 9 v3 rfl rfl) h3
  exact txnSees_walk key n v2 d to_ W (inW_le8 ik hsz (j := 0) (by kernel_rfl) rfl) (inW_le8 it hsz (j := 3) (by kernel_rfl) rfl) hn md (fun o ho => inW_le8 (rd o ho).2 hsz (j := 2) (by kernel_rfl) rfl) (fun o ho => (rd o ho).1) od

theorem txnSees_holds : Rows.TxnSeesSaid :=
  OpenClaim.holds_of_wide 10 Tryz.f10 rfl rfl rfl rfl rfl rfl rfl ⟨rfl, rfl, rfl, rfl, rfl⟩ rfl rfl rfl rfl rfl (by kernel_rfl) Tryz.func10 (by kernel_rfl)
    (of_decide_eq_true (by kernel_rfl)) (by unfold Func.isWrapper; rw [if_neg (of_decide_eq_false (by kernel_rfl))]; exact ⟨rfl, rfl⟩)
    (fun os started H enc _ => txnSees_lifted os started H enc)

#print axioms txnSees_holds

end SP
end Go.Proofs.YtfdkkgjkhamoeaaGreat
