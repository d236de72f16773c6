/- Lists of keys and what is at them, by rising key: what is put, what is taken away, what stays. Conditions: none. -/
import Derived.Test.YtjlkgbejldcklaaGreatMg00
namespace Go.Proofs.YtjlkgbejldcklaaGreat
open S3
namespace SP
abbrev Al (α : Type) := List (ByteArray × α)
section
variable {α : Type}
def getA : Al α → ByteArray → Option α
  | [], _ => none
  | p :: l, k => if p.1 = k then some p.2 else getA l k
def RisA (l : Al α) : Prop := l.Pairwise fun a b => ltT a.1 b.1 = true
def putA : Al α → ByteArray → α → Al α
  | [], k, v => [(k, v)]
  | p :: l, k, v => if ltT p.1 k = true then p :: putA l k v else if ltT k p.1 = true then (k, v) :: p :: l else (k, v) :: l
def delA (l : Al α) (k : ByteArray) : Al α := l.filter fun p => decide (p.1 ≠ k)
def inA (P : ByteArray → Bool) (l : Al α) : Al α := l.filter fun p => P p.1
theorem getA_nil (k : ByteArray) : getA ([] : Al α) k = none := rfl
theorem getA_cons (p : ByteArray × α) (l : Al α) (k : ByteArray) : getA (p :: l) k = if p.1 = k then some p.2 else getA l k := rfl
theorem risA_nil : RisA ([] : Al α) := List.Pairwise.nil
theorem risA_cons {p : ByteArray × α} {l : Al α} : RisA (p :: l) ↔ (∀ q ∈ l, ltT p.1 q.1 = true) ∧ RisA l := List.pairwise_cons
theorem lt_ne {a b : ByteArray} (h : ltT a b = true) : a ≠ b := by rintro rfl; rw [lt_irrefl] at h; cases h
theorem getA_none {l : Al α} {k : ByteArray} (h : ∀ q ∈ l, q.1 ≠ k) : getA l k = none := by
  induction l with
  | nil => rfl
  | cons p l ih =>
    rw [getA_cons, if_neg (h p (by simp))]
    exact ih fun q hq => h q (by simp [hq])
theorem getA_below {p : ByteArray × α} {l : Al α} (h : RisA (p :: l)) {k : ByteArray} (hk : ltT p.1 k = false) : getA l k = none :=
  getA_none fun q hq e => by
    have := (risA_cons.1 h).1 q hq
    rw [e, hk] at this
    cases this
theorem getA_mem {l : Al α} (h : RisA l) {k : ByteArray} {v : α} : getA l k = some v ↔ (k, v) ∈ l := by
  induction l with
  | nil => simp [getA]
  | cons p l ih =>
    obtain ⟨h1, h2⟩ := risA_cons.1 h
    rw [getA_cons]
    by_cases e : p.1 = k
    · rw [if_pos e]
      constructor
      · intro hv
        obtain rfl := Option.some.inj hv
        subst e
        simp
      · intro hm
        rcases List.mem_cons.1 hm with e2 | hm
        · rw [← e2]
        · exact absurd e (lt_ne (h1 _ hm))
    · rw [if_neg e, ih h2]
      constructor
      · intro hm; exact List.mem_cons_of_mem _ hm
      · intro hm
        rcases List.mem_cons.1 hm with e2 | hm
        · exact absurd (by rw [← e2]) e
        · exact hm
theorem putA_mem (l : Al α) (k : ByteArray) (v : α) : ∀ q ∈ putA l k v, q = (k, v) ∨ q ∈ l := by
  induction l with
  | nil => intro q hq; simpa [putA] using hq
  | cons p l ih =>
    intro q hq
    unfold putA at hq
    split at hq
    · rcases List.mem_cons.1 hq with rfl | hq
      · exact .inr (by simp)
      · rcases ih q hq with h | h
        · exact .inl h
        · exact .inr (by simp [h])
    · split at hq
      · rcases List.mem_cons.1 hq with rfl | hq
        · exact .inl rfl
        · exact .inr hq
      · rcases List.mem_cons.1 hq with rfl | hq
        · exact .inl rfl
        · exact .inr (by simp [hq])
theorem risA_put {l : Al α} (h : RisA l) (k : ByteArray) (v : α) : RisA (putA l k v) := by
  induction l with
  | nil => simp [putA, RisA]
  | cons p l ih =>
    obtain ⟨h1, h2⟩ := risA_cons.1 h
    unfold putA
    split
    · rename_i hlt
      refine risA_cons.2 ⟨fun q hq => ?_, ih h2⟩
      rcases putA_mem l k v q hq with rfl | hq
      · exact hlt
      · exact h1 q hq
    · rename_i hlt
      split
      · rename_i hk
        refine risA_cons.2 ⟨fun q hq => ?_, h⟩
        rcases List.mem_cons.1 hq with rfl | hq
        · exact hk
        · exact lt_trans hk (h1 q hq)
      · rename_i hk
        have e : p.1 = k := lt_total (by simpa using hlt) (by simpa using hk)
        exact risA_cons.2 ⟨fun q hq => by rw [← e]; exact h1 q hq, h2⟩
theorem getA_put {l : Al α} (h : RisA l) (k : ByteArray) (v : α) (x : ByteArray) : getA (putA l k v) x = if k = x then some v else getA l x := by
  induction l with
  | nil => rfl
  | cons p l ih =>
    obtain ⟨h1, h2⟩ := risA_cons.1 h
    unfold putA
    split
    · rename_i hlt
      rw [getA_cons, getA_cons, ih h2]
      by_cases e : p.1 = x
      · rw [if_pos e, if_pos e, if_neg]
        rintro rfl
        exact lt_ne hlt e
      · rw [if_neg e, if_neg e]
    · rename_i hlt
      split
      · rfl
      · rename_i hk
        have e : p.1 = k := lt_total (by simpa using hlt) (by simpa using hk)
        rw [getA_cons, getA_cons]
        by_cases e2 : k = x
        · rw [if_pos e2, if_pos e2]
        · rw [if_neg e2, if_neg e2, if_neg (by rw [e]; exact e2)]
theorem putA_len (l : Al α) (k : ByteArray) (v : α) : (putA l k v).length ≤ l.length + 1 := by
  induction l with
  | nil => simp [putA]
  | cons p l ih =>
    unfold putA
    split
    · simp only [List.length_cons]; omega
    · split <;> simp only [List.length_cons] <;> omega
theorem risA_in {l : Al α} (h : RisA l) (P : ByteArray → Bool) : RisA (inA P l) := h.filter _
theorem getA_in (l : Al α) (P : ByteArray → Bool) (x : ByteArray) : getA (inA P l) x = if P x = true then getA l x else none := by
  induction l with
  | nil => simp [inA, getA]
  | cons p l ih =>
    unfold inA at *
    rw [List.filter_cons]
    cases hp : P p.1
    · rw [if_neg (by simp), ih, getA_cons]
      by_cases e : p.1 = x
      · subst e; simp [hp]
      · rw [if_neg e]
    · rw [if_pos rfl, getA_cons, getA_cons, ih]
      by_cases e : p.1 = x
      · subst e; simp [hp]
      · rw [if_neg e, if_neg e]
theorem delA_in (l : Al α) (k : ByteArray) : delA l k = inA (fun x => decide (x ≠ k)) l := rfl
theorem risA_del {l : Al α} (h : RisA l) (k : ByteArray) : RisA (delA l k) := h.filter _
theorem getA_del (l : Al α) (k x : ByteArray) : getA (delA l k) x = if k = x then none else getA l x := by
  rw [delA_in, getA_in]
  by_cases e : k = x
  · subst e; simp
  · rw [if_pos (by simpa using fun h => e h.symm), if_neg e]
theorem delA_len (l : Al α) (k : ByteArray) : (delA l k).length ≤ l.length := List.length_filter_le _ _
theorem alExt {l m : Al α} (hl : RisA l) (hm : RisA m) (h : ∀ x, getA l x = getA m x) : l = m := by
  induction l generalizing m with
  | nil =>
    cases m with
    | nil => rfl
    | cons q m =>
      have := h q.1
      rw [getA_nil, getA_cons, if_pos rfl] at this
      cases this
  | cons p l ih =>
    cases m with
    | nil =>
      have := h p.1
      rw [getA_nil, getA_cons, if_pos rfl] at this
      cases this
    | cons q m =>
      obtain ⟨h1, h2⟩ := risA_cons.1 hl
      obtain ⟨h3, h4⟩ := risA_cons.1 hm
      have e1 : p.1 = q.1 := by
        cases hpq : ltT p.1 q.1
        · cases hqp : ltT q.1 p.1
          · exact lt_total hpq hqp
          · have := h q.1
            rw [getA_cons q, if_pos rfl, getA_cons, if_neg (fun e => lt_ne hqp e.symm), getA_below hl hpq] at this
            cases this
        · have := h p.1
          rw [getA_cons p, if_pos rfl, getA_cons, if_neg (fun e => lt_ne hpq e.symm), getA_below hm (lt_asymm hpq)] at this
          cases this
      have e2 : p = q := by
        have := h p.1
        rw [getA_cons p, if_pos rfl, getA_cons, if_pos e1.symm] at this
        exact Prod.ext e1 (Option.some.inj this)
      subst e2
      congr 1
      refine ih h2 h4 fun x => ?_
      have := h x
      rw [getA_cons, getA_cons] at this
      by_cases e : p.1 = x
      · subst e
        rw [getA_below hl (lt_irrefl _), getA_below hm (lt_irrefl _)]
      · rw [if_neg e, if_neg e] at this
        exact this
end
end SP
end Go.Proofs.YtjlkgbejldcklaaGreat
