/- What follows of ops: what is read suffices, in either order, in parts. Conditions: none. -/
import Derived.Test.YtgipkikedacmdaaGreatMg01
import Derived.Test.YtgipkikedacmdaaGreatMg02
import Derived.Test.YtgipkikedacmdaaGreatMg09
set_option maxRecDepth 100000
set_option maxHeartbeats 16000000
set_option linter.unusedVariables false
namespace Go.Proofs.YtgipkikedacmdaaGreat
open S3 SN
namespace SP
theorem snoc_ind {α : Type} {P : List α → Prop} (nil : P []) (snoc : ∀ l a, P l → P (l ++ [a])) (l : List α) : P l := by
 have h : ∀ r : List α, P r.reverse := by
  intro r
  induction r with
  | nil => exact nil
  | cons a r ih => rw [List.reverse_cons]; exact snoc _ _ ih
 have := h l.reverse
 rwa [List.reverse_reverse] at this
abbrev Opr := Int × ByteArray × ByteArray × Nat
abbrev Wrt := ByteArray × Nat × Bool
abbrev Ans := Bool × Nat × Al Nat
def valP (d : Al Nat) (k : ByteArray) : Nat := (getA d k).getD 0
def hasP (d : Al Nat) (k : ByteArray) : Bool := (getA d k).isSome
def doW (d : Al Nat) (w : Wrt) : Al Nat := if w.2.2 = true then delA d w.1 else putA d w.1 w.2.1
def applyP (d : Al Nat) (l : List Wrt) : Al Nat := l.foldl doW d
def movB (d : Al Nat) (o : Opr) : Bool := coN (valP d o.2.1) o.2.2.2 && coN o.2.2.2 0
def opW (d : Al Nat) (o : Opr) : List Wrt :=
 if o.1 = 3 then [(o.2.1, o.2.2.2, false)]
 else if o.1 = 4 then [(o.2.1, adN (valP d o.2.1) o.2.2.2, false)]
 else if o.1 = 5 then [(o.2.1, 0, true)]
 else if o.1 = 6 then (if movB d o = true then [(o.2.1, adN (valP d o.2.1) (ngN o.2.2.2), false), (o.2.2.1, adN (valP d o.2.2.1) o.2.2.2, false)] else [])
 else []
def opA (d : Al Nat) (o : Opr) : Ans :=
 if o.1 = 1 then (hasP d o.2.1, valP d o.2.1, [])
 else if o.1 = 2 then (true, 0, inA (inS (o.2.1, o.2.2.1)) d)
 else if o.1 = 3 then (true, 0, [])
 else if o.1 = 4 then (hasP d o.2.1, adN (valP d o.2.1) o.2.2.2, [])
 else if o.1 = 5 then (hasP d o.2.1, 0, [])
 else (movB d o, 0, [])
def evalD : Al Nat → List Opr → Al Nat
 | d, [] => d
 | d, o :: l => evalD (applyP d (opW d o)) l
def evalL : Al Nat → List Opr → List Wrt
 | _, [] => []
 | d, o :: l => opW d o ++ evalL (applyP d (opW d o)) l
def evalA : Al Nat → List Opr → List Ans
 | _, [] => []
 | d, o :: l => opA d o :: evalA (applyP d (opW d o)) l
def lastL (l : List Wrt) : Al (Nat × Bool) := l.foldl (fun ws w => putA ws w.1 w.2) []
def ptS (k : ByteArray) : Sp := (k, k ++ ⟨#[0]⟩)
def rdS (o : Opr) : List Sp := if o.1 = 1 ∨ o.1 = 4 ∨ o.1 = 5 then [ptS o.2.1] else if o.1 = 2 then [(o.2.1, o.2.2.1)] else if o.1 = 6 then [ptS o.2.1, ptS o.2.2.1] else []
def wrS (o : Opr) : List Sp := if o.1 = 3 ∨ o.1 = 4 ∨ o.1 = 5 then [ptS o.2.1] else if o.1 = 6 then [ptS o.2.1, ptS o.2.2.1] else []
def readsP (l : List Opr) : List Sp := uniL (l.flatMap rdS)
def writesP (l : List Opr) : List Sp := uniL (l.flatMap wrS)
def allP (l : List Opr) : List Sp := uniL (readsP l ++ writesP l)
def confP (a b : List Opr) : Bool := decide (setL 1 (writesP a) (allP b) ≠ []) || decide (setL 1 (writesP b) (allP a) ≠ [])
theorem ris_do {d : Al Nat} (h : RisA d) (w : Wrt) : RisA (doW d w) := by
 unfold doW
 split
 ·exact risA_del h _
 ·exact risA_put h _ _
theorem ris_apply (l : List Wrt) : ∀ {d : Al Nat}, RisA d → RisA (applyP d l) := by
 induction l with
 | nil => intro d h; exact h
 | cons w l ih => intro d h; exact ih (ris_do h w)
theorem apply_append (d : Al Nat) (l m : List Wrt) : applyP d (l ++ m) = applyP (applyP d l) m := List.foldl_append ..
theorem apply_cons (d : Al Nat) (w : Wrt) (l : List Wrt) : applyP d (w :: l) = applyP (doW d w) l := rfl
theorem apply_nil (d : Al Nat) : applyP d [] = d := rfl
theorem evalD_eq : ∀ (l : List Opr) (d : Al Nat), evalD d l = applyP d (evalL d l)
 | [], _ => rfl
 | o :: l, d => by
  show evalD (applyP d (opW d o)) l = applyP d (opW d o ++ evalL (applyP d (opW d o)) l)
  rw [apply_append, evalD_eq l]
theorem opW_len (d : Al Nat) (o : Opr) : (opW d o).length ≤ 2 := by
 unfold opW
 split
 ·simp
 ·split
  ·simp
  ·split
   ·simp
   ·split
    ·split <;> simp
    ·simp
theorem evalL_len : ∀ (l : List Opr) (d : Al Nat), (evalL d l).length ≤ 2 * l.length
 | [], _ => by simp [evalL]
 | o :: l, d => by
  show (opW d o ++ evalL (applyP d (opW d o)) l).length ≤ 2 * (l.length + 1)
  have h1 := opW_len d o
  have h2 := evalL_len l (applyP d (opW d o))
  rw [List.length_append]
  omega
theorem doW_len (d : Al Nat) (w : Wrt) : (doW d w).length ≤ d.length + 1 := by
 unfold doW
 split
 ·have := delA_len d w.1; omega
 ·exact putA_len _ _ _
theorem apply_len (l : List Wrt) : ∀ (d : Al Nat), (applyP d l).length ≤ d.length + l.length := by
 induction l with
 | nil => intro d; exact Nat.le_refl _
 | cons w l ih =>
  intro d
  have h1 := ih (doW d w)
  have h2 := doW_len d w
  rw [apply_cons, List.length_cons]
  omega
def lastO (l : List Wrt) (k : ByteArray) : Option (Nat × Bool) := l.foldl (fun a w => if w.1 = k then some w.2 else a) none
theorem lastO_snoc (l : List Wrt) (w : Wrt) (k : ByteArray) : lastO (l ++ [w]) k = if w.1 = k then some w.2 else lastO l k := by unfold lastO; rw [List.foldl_append]; rfl
theorem lastL_snoc (l : List Wrt) (w : Wrt) : lastL (l ++ [w]) = putA (lastL l) w.1 w.2 := by unfold lastL; rw [List.foldl_append]; rfl
theorem ris_last (l : List Wrt) : RisA (lastL l) := by
 induction l using snoc_ind with
 | nil => exact risA_nil
 | snoc l w ih => rw [lastL_snoc]; exact risA_put ih _ _
theorem get_last (l : List Wrt) (k : ByteArray) : getA (lastL l) k = lastO l k := by
 induction l using snoc_ind with
 | nil => rfl
 | snoc l w ih => rw [lastL_snoc, lastO_snoc, getA_put (ris_last l), ih]
theorem get_do {d : Al Nat} (h : RisA d) (w : Wrt) (k : ByteArray) : getA (doW d w) k = if w.1 = k then (if w.2.2 = true then none else some w.2.1) else getA d k := by
 unfold doW
 by_cases hg : w.2.2 = true
 ·rw [if_pos hg, if_pos hg, getA_del]
 ·rw [if_neg hg, if_neg hg, getA_put h]
def overO (o : Option (Nat × Bool)) (x : Option Nat) : Option Nat := match o with | none => x | some (n, g) => if g = true then none else some n
theorem get_apply {d : Al Nat} (h : RisA d) (l : List Wrt) (k : ByteArray) : getA (applyP d l) k = overO (lastO l k) (getA d k) := by
 induction l using snoc_ind with
 | nil => rfl
 | snoc l w ih =>
  rw [apply_append, apply_cons, apply_nil, get_do (ris_apply l h), lastO_snoc]
  by_cases e : w.1 = k
  ·rw [if_pos e, if_pos e]; rfl
  ·rw [if_neg e, if_neg e, ih]
theorem lastO_none {l : List Wrt} {k : ByteArray} : lastO l k = none ↔ ∀ w ∈ l, w.1 ≠ k := by
 induction l using snoc_ind with
 | nil => simp [lastO]
 | snoc l w ih =>
  rw [lastO_snoc]
  by_cases e : w.1 = k
  ·rw [if_pos e]
   simp only [reduceCtorEq, false_iff]
   intro h
   exact h w (by simp) e
  ·rw [if_neg e, ih]
   constructor
   ·intro h x hx
    rcases List.mem_append.1 hx with hx | hx
    ·exact h x hx
    ·simp only [List.mem_singleton] at hx
     subst hx
     exact e
   ·intro h x hx
    exact h x (by simp [hx])
theorem lastO_some {l : List Wrt} {k : ByteArray} {v : Nat × Bool} (h : lastO l k = some v) : (k, v) ∈ l := by
 induction l using snoc_ind with
 | nil => simp [lastO] at h
 | snoc l w ih =>
  rw [lastO_snoc] at h
  by_cases e : w.1 = k
  ·rw [if_pos e] at h
   obtain rfl := Option.some.inj h
   subst e
   simp
  ·rw [if_neg e] at h
   exact List.mem_append_left _ (ih h)

theorem mem_pt (k x : ByteArray) : inS (ptS k) x = decide (x = k) := by
 unfold inS ptS
 rw [noT_next, lt_next]
 by_cases e : x = k
 ·subst e; simp [lt_irrefl]
 ·rw [decide_eq_false e]
  cases h1 : ltT x k
  ·cases h2 : ltT k x
   ·exact absurd (lt_total h1 h2) e
   ·rfl
  ·rfl
theorem memL_flat (f : Opr → List Sp) (l : List Opr) (x : ByteArray) : memL (l.flatMap f) x = l.any fun o => memL (f o) x := by
 induction l with
 | nil => rfl
 | cons o l ih => rw [List.flatMap_cons, memL_append, ih, List.any_cons]
theorem reads_mem (l : List Opr) (x : ByteArray) : memL (readsP l) x = l.any fun o => memL (rdS o) x := by unfold readsP; rw [uniL_mem, memL_flat]
theorem writes_mem (l : List Opr) (x : ByteArray) : memL (writesP l) x = l.any fun o => memL (wrS o) x := by unfold writesP; rw [uniL_mem, memL_flat]
theorem all_mem (l : List Opr) (x : ByteArray) : memL (allP l) x = (memL (readsP l) x || memL (writesP l) x) := by unfold allP; rw [uniL_mem, memL_append]
theorem opW_keys (d : Al Nat) (o : Opr) : ∀ w ∈ opW d o, memL (wrS o) w.1 = true := by
 intro w hw
 unfold opW at hw
 unfold wrS
 split at hw
 ·rename_i h
  simp at hw; subst hw
  simp [h, memL, mem_pt]
 ·split at hw
  ·rename_i h
   simp at hw; subst hw
   simp [h, memL, mem_pt]
  ·split at hw
   ·rename_i h
    simp at hw; subst hw
    simp [h, memL, mem_pt]
   ·split at hw
    ·rename_i h
     split at hw
     ·simp at hw
      rcases hw with rfl | rfl <;> simp [h, memL, mem_pt]
     ·simp at hw
    ·simp at hw
theorem evalL_keys : ∀ (l : List Opr) (d : Al Nat), ∀ w ∈ evalL d l, memL (writesP l) w.1 = true
 | [], _, w, hw => by simp [evalL] at hw
 | o :: l, d, w, hw => by
  rw [writes_mem, List.any_cons, Bool.or_eq_true]
  rcases List.mem_append.1 hw with h | h
  ·exact .inl (opW_keys d o w h)
  ·have := evalL_keys l _ w h
   rw [writes_mem] at this
   exact .inr this
def Kd (o : Opr) : Prop := 1 ≤ o.1 ∧ o.1 ≤ 6
theorem val_agr {d e : Al Nat} {k : ByteArray} (h : getA d k = getA e k) : valP d k = valP e k ∧ hasP d k = hasP e k := by unfold valP hasP; rw [h]; exact ⟨rfl, rfl⟩
theorem op_agr {d e : Al Nat} (hd : RisA d) (he : RisA e) (o : Opr) (hk : Kd o) (h : ∀ k, memL (rdS o) k = true → getA d k = getA e k) : opW d o = opW e o ∧ opA d o = opA e o := by
 obtain ⟨kd, key, to, n⟩ := o
 have h6 : kd = 1 ∨ kd = 2 ∨ kd = 3 ∨ kd = 4 ∨ kd = 5 ∨ kd = 6 := by
  obtain ⟨h1, h2⟩ := hk
  simp only at h1 h2
  omega
 rcases h6 with rfl | rfl | rfl | rfl | rfl | rfl
 ·obtain ⟨h1, h2⟩ := val_agr (h key (by simp [rdS, memL, mem_pt]))
  refine ⟨rfl, ?_⟩
  simp [opA, h1, h2]
 ·refine ⟨rfl, ?_⟩
  have e1 : inA (inS (key, to)) d = inA (inS (key, to)) e := alExt (risA_in hd _) (risA_in he _) fun x => by
   rw [getA_in, getA_in]
   split
   ·rename_i hx
    exact h x (by simp [rdS, memL, hx])
   ·rfl
  simp [opA, e1]
 ·exact ⟨rfl, rfl⟩
 ·obtain ⟨h1, h2⟩ := val_agr (h key (by simp [rdS, memL, mem_pt]))
  refine ⟨?_, ?_⟩
  ·simp [opW, h1]
  ·simp [opA, h1, h2]
 ·obtain ⟨h1, h2⟩ := val_agr (h key (by simp [rdS, memL, mem_pt]))
  refine ⟨rfl, ?_⟩
  simp [opA, h2]
 ·obtain ⟨h1, h2⟩ := val_agr (h key (by simp [rdS, memL, mem_pt]))
  obtain ⟨h3, h4⟩ := val_agr (h to (by simp [rdS, memL, mem_pt]))
  refine ⟨?_, ?_⟩
  ·simp [opW, movB, h1, h3]
  ·simp [opA, movB, h1]
theorem get_applys {d e : Al Nat} (hd : RisA d) (he : RisA e) (l : List Wrt) {k : ByteArray} (h : getA d k = getA e k) : getA (applyP d l) k = getA (applyP e l) k := by rw [get_apply hd, get_apply he, h]
theorem eval_agr : ∀ (l : List Opr) {d e : Al Nat}, RisA d → RisA e → (∀ o ∈ l, Kd o) → (∀ o ∈ l, ∀ k, memL (rdS o) k = true → getA d k = getA e k) → evalL d l = evalL e l ∧ evalA d l = evalA e l
 | [], _, _, _, _, _, _ => ⟨rfl, rfl⟩
 | o :: l, d, e, hd, he, hk, h => by
  obtain ⟨h1, h2⟩ := op_agr hd he o (hk o (by simp)) (h o (by simp))
  obtain ⟨h3, h4⟩ := eval_agr l (d := applyP d (opW d o)) (e := applyP e (opW d o)) (ris_apply _ hd) (ris_apply _ he) (fun x hx => hk x (by simp [hx]))
   (fun x hx k hm => get_applys hd he _ (h x (by simp [hx]) k hm))
  refine ⟨?_, ?_⟩
  ·show opW d o ++ evalL (applyP d (opW d o)) l = opW e o ++ evalL (applyP e (opW e o)) l
   rw [← h1, h3]
  ·show opA d o :: evalA (applyP d (opW d o)) l = opA e o :: evalA (applyP e (opW e o)) l
   rw [← h1, h2, h4]
theorem conf_false {a b : List Opr} (h : confP a b = false) : (∀ k, memL (writesP a) k = true → memL (allP b) k = false) ∧ ∀ k, memL (writesP b) k = true → memL (allP a) k = false := by
 unfold confP at h
 rw [Bool.or_eq_false_iff] at h
 have h1 := of_decide_eq_false h.1
 have h2 := of_decide_eq_false h.2
 have h1 := Classical.not_not.1 h1
 have h2 := Classical.not_not.1 h2
 have key : ∀ {p q : List Sp}, setL 1 p q = [] → ∀ k, memL p k = true → memL q k = false := by
  intro p q e k hm
  have := setL_mem 1 p q k
  rw [e, hm, memL_nil] at this
  simpa [wantB] using this.symm
 exact ⟨key h1, key h2⟩
theorem last_out {a : List Opr} {d : Al Nat} {k : ByteArray} (h : memL (writesP a) k = false) : lastO (evalL d a) k = none := by
 rw [lastO_none]
 intro w hw e
 have := evalL_keys a d w hw
 rw [e, h] at this
 cases this
theorem get_out {a : List Opr} {d : Al Nat} (hd : RisA d) {k : ByteArray} (h : memL (writesP a) k = false) : getA (applyP d (evalL d a)) k = getA d k := by rw [get_apply hd, last_out h]; rfl
theorem behind {a b : List Opr} {d : Al Nat} (hd : RisA d) (hb : ∀ o ∈ b, Kd o) (h : confP a b = false) : evalL (applyP d (evalL d a)) b = evalL d b ∧ evalA (applyP d (evalL d a)) b = evalA d b := by
 refine eval_agr b (ris_apply _ hd) hd hb fun o ho k hm => ?_
 refine get_out hd ?_
 cases hw : memL (writesP a) k
 ·rfl
 ·have h1 := (conf_false h).1 k hw
  rw [all_mem, Bool.or_eq_false_iff, reads_mem] at h1
  have h2 : (b.any fun o => memL (rdS o) k) = true := List.any_eq_true.2 ⟨o, ho, hm⟩
  rw [h1.1] at h2
  cases h2
theorem last_keys {l : List Wrt} {k : ByteArray} {v : Nat × Bool} (h : (k, v) ∈ lastL l) : (k, v) ∈ l := lastO_some (by rw [← get_last]; exact (getA_mem (ris_last l)).2 h)
theorem evals_len (l : List Opr) (d : Al Nat) : (lastL (evalL d l)).length ≤ 2 * l.length := by
 refine Nat.le_trans ?_ (evalL_len l d)
 generalize evalL d l = w
 induction w using snoc_ind with
 | nil => exact Nat.le_refl _
 | snoc w x ih =>
  rw [lastL_snoc, List.length_append]
  have := putA_len (lastL w) x.1 x.2
  simp only [List.length_singleton]
  omega
end SP
end Go.Proofs.YtgipkikedacmdaaGreat
