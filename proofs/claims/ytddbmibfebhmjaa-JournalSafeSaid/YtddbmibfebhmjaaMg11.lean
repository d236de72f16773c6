/- Texts in their order, byte by byte; spans; sets of spans: two sets with the same texts are one list. Conditions: none. -/
import GoSem.Op.String
set_option maxRecDepth 100000
set_option maxHeartbeats 16000000
namespace Go.Proofs.Ytddbmibfebhmjaa
namespace S3
def ltT (a b : ByteArray) : Bool := Op.bytesLess a.toList b.toList
def noT (a : ByteArray) : Bool := a.toList.isEmpty
theorem byteArray_toList_loop (bs : ByteArray) : ∀ (n i : Nat) (r : List UInt8), bs.size - i = n → i ≤ bs.size → ByteArray.toList.loop bs i r = r.reverse ++ bs.data.toList.drop i := by
 intro n
 induction n with
 | zero =>
  intro i r h hi
  have e : i = bs.size := by omega
  subst e
  have hd : bs.data.toList.drop bs.size = [] := List.drop_of_length_le (by simp)
  rw [ByteArray.toList.loop, if_neg (Nat.lt_irrefl _), hd, List.append_nil]
 | succ n ih =>
  intro i r h hi
  have hlt : i < bs.size := by omega
  rw [ByteArray.toList.loop, if_pos hlt, ih (i + 1) _ (by omega) (by omega)]
  have hl : i < bs.data.toList.length := by simpa using hlt
  rw [List.drop_eq_getElem_cons hl]
  have hg : bs.get! i = bs.data.toList[i] := by
   cases bs with
   | mk d =>
    have hd : i < d.size := hlt
    simp [ByteArray.get!, hd]
  simp [hg]
theorem toList_data (bs : ByteArray) : bs.toList = bs.data.toList := by
 unfold ByteArray.toList
 rw [byteArray_toList_loop bs bs.size 0 [] (by omega) (by omega)]
 simp
theorem text_ext {a b : ByteArray} (h : a.toList = b.toList) : a = b := by
 rw [toList_data, toList_data] at h
 cases a; cases b
 congr
 exact Array.toList_inj.1 h
theorem bytesLess_irrefl : ∀ l : List UInt8, Op.bytesLess l l = false
 | [] => rfl
 | a :: l => by simp [Op.bytesLess, bytesLess_irrefl l]
theorem bytesLess_trans : ∀ a b c : List UInt8, Op.bytesLess a b = true → Op.bytesLess b c = true → Op.bytesLess a c = true
 | [], [], _, h, _ => by simp [Op.bytesLess] at h
 | _ :: _, [], _, h, _ => by simp [Op.bytesLess] at h
 | _, _ :: _, [], _, h => by simp [Op.bytesLess] at h
 | [], _ :: _, _ :: _, _, _ => rfl
 | a :: x, b :: y, c :: z, h1, h2 => by
  simp only [Op.bytesLess, Bool.or_eq_true, Bool.and_eq_true, decide_eq_true_eq, beq_iff_eq] at *
  rcases h1 with h1 | ⟨rfl, h1⟩
  ·rcases h2 with h2 | ⟨rfl, h2⟩
   ·exact .inl (UInt8.lt_trans h1 h2)
   ·exact .inl h1
  ·rcases h2 with h2 | ⟨rfl, h2⟩
   ·exact .inl h2
   ·exact .inr ⟨rfl, bytesLess_trans x y z h1 h2⟩
theorem bytesLess_total : ∀ a b : List UInt8, Op.bytesLess a b = false → Op.bytesLess b a = false → a = b
 | [], [], _, _ => rfl
 | [], _ :: _, h, _ => by simp [Op.bytesLess] at h
 | _ :: _, [], _, h => by simp [Op.bytesLess] at h
 | a :: x, b :: y, h1, h2 => by
  simp only [Op.bytesLess, Bool.or_eq_false_iff, Bool.and_eq_false_imp, decide_eq_false_iff_not, beq_iff_eq] at *
  have e : a = b := by
   have h3 := h1.1
   have h4 := h2.1
   rw [UInt8.not_lt] at h3 h4
   exact UInt8.le_antisymm h4 h3
  subst e
  rw [bytesLess_total x y (h1.2 rfl) (h2.2 rfl)]
theorem lt_irrefl (a : ByteArray) : ltT a a = false := bytesLess_irrefl _
theorem lt_trans {a b c : ByteArray} (h1 : ltT a b = true) (h2 : ltT b c = true) : ltT a c = true := bytesLess_trans _ _ _ h1 h2
theorem lt_total {a b : ByteArray} (h1 : ltT a b = false) (h2 : ltT b a = false) : a = b := text_ext (bytesLess_total _ _ h1 h2)
theorem lt_asymm {a b : ByteArray} (h1 : ltT a b = true) : ltT b a = false := by
 cases h : ltT b a
 ·rfl
 ·have := lt_trans h1 h
  rw [lt_irrefl] at this
  cases this
theorem ge_lt {a b c : ByteArray} (h1 : ltT b a = false) (h2 : ltT b c = true) : ltT a c = true := by
 cases h : ltT a b
 ·rw [lt_total h h1]; exact h2
 ·exact lt_trans h h2
theorem lt_ge {a b c : ByteArray} (h1 : ltT a b = true) (h2 : ltT c b = false) : ltT a c = true := by
 cases h : ltT b c
 ·rw [← lt_total h h2]; exact h1
 ·exact lt_trans h1 h
theorem ge_trans {a b c : ByteArray} (h1 : ltT b a = false) (h2 : ltT c b = false) : ltT c a = false := by
 cases h : ltT c a
 ·rfl
 ·have := lt_ge h h1
  rw [this] at h2
  cases h2
theorem noT_iff {a : ByteArray} : noT a = true ↔ a = ⟨#[]⟩ := by
 constructor
 ·intro h
  refine text_ext ?_
  rw [show a.toList = [] from by simpa [noT] using h, toList_data]
 ·rintro rfl
  unfold noT
  rw [toList_data]
  rfl
theorem not_lt_noT {a b : ByteArray} (h : noT b = true) : ltT a b = false := by
 unfold ltT noT at *
 rw [show b.toList = [] from by simpa using h]
 cases a.toList <;> rfl
theorem noT_of_lt {a b : ByteArray} (h : ltT a b = true) : noT b = false := by
 cases hb : noT b
 ·rfl
 ·rw [not_lt_noT hb] at h
  cases h
abbrev Sp := ByteArray × ByteArray
def inS (s : Sp) (k : ByteArray) : Bool := !ltT k s.1 && (noT s.2 || ltT k s.2)
def memL (l : List Sp) (k : ByteArray) : Bool := l.any fun s => inS s k
def fullS (s : Sp) : Bool := noT s.2 || ltT s.1 s.2
def Apart (s t : Sp) : Prop := noT s.2 = false ∧ ltT s.2 t.1 = true
def IsSet (l : List Sp) : Prop := (∀ s ∈ l, fullS s = true) ∧ l.Pairwise Apart
theorem memL_nil (k : ByteArray) : memL [] k = false := rfl
theorem memL_cons (s : Sp) (l : List Sp) (k : ByteArray) : memL (s :: l) k = (inS s k || memL l k) := rfl
theorem memL_true {l : List Sp} {k : ByteArray} : memL l k = true ↔ ∃ s ∈ l, inS s k = true := by simp [memL]
theorem memL_false {l : List Sp} {k : ByteArray} : memL l k = false ↔ ∀ s ∈ l, inS s k = false := by simp [memL]
theorem isSet_nil : IsSet [] := ⟨fun _ h => (by simp at h), List.Pairwise.nil⟩
theorem isSet_cons {s : Sp} {l : List Sp} : IsSet (s :: l) ↔ fullS s = true ∧ (∀ t ∈ l, Apart s t) ∧ IsSet l := by
 unfold IsSet
 rw [List.pairwise_cons]
 constructor
 ·rintro ⟨h1, h2, h3⟩
  exact ⟨h1 s (by simp), h2, fun t ht => h1 t (by simp [ht]), h3⟩
 ·rintro ⟨h1, h2, h3, h4⟩
  refine ⟨fun t ht => ?_, h2, h4⟩
  rcases List.mem_cons.1 ht with rfl | ht
  ·exact h1
  ·exact h3 t ht
theorem inS_from {s : Sp} (h : fullS s = true) : inS s s.1 = true := by
 unfold inS fullS at *
 rw [lt_irrefl]
 simpa using h
theorem inS_below {s : Sp} {k : ByteArray} (h : ltT k s.1 = true) : inS s k = false := by simp [inS, h]
theorem inS_to {s : Sp} {k : ByteArray} (h1 : noT s.2 = false) (h2 : ltT k s.2 = false) : inS s k = false := by simp [inS, h1, h2]
theorem apart_in {s t : Sp} {k : ByteArray} (h : Apart s t) (hk : inS t k = true) : inS s k = false := by
 obtain ⟨h1, h2⟩ := h
 refine inS_to h1 ?_
 simp only [inS, Bool.and_eq_true, Bool.not_eq_true'] at hk
 cases h3 : ltT k s.2
 ·rfl
 ·have := lt_trans h3 h2
  rw [hk.1] at this
  cases this
theorem first_le {s : Sp} {l : List Sp} {k : ByteArray} (h : IsSet (s :: l)) (hk : memL (s :: l) k = true) : ltT k s.1 = false := by
 obtain ⟨hf, ha, _⟩ := isSet_cons.1 h
 rw [memL_true] at hk
 obtain ⟨t, ht, hk⟩ := hk
 rcases List.mem_cons.1 ht with rfl | ht
 ·simp only [inS, Bool.and_eq_true, Bool.not_eq_true'] at hk
  exact hk.1
 ·obtain ⟨h1, h2⟩ := ha t ht
  simp only [inS, Bool.and_eq_true, Bool.not_eq_true'] at hk
  unfold fullS at hf
  rw [h1] at hf
  simp only [Bool.false_or] at hf
  exact ge_trans (lt_asymm (lt_trans hf h2)) hk.1
theorem first_to {s : Sp} {l : List Sp} (h : IsSet (s :: l)) (h1 : noT s.2 = false) : memL (s :: l) s.2 = false := by
 obtain ⟨hf, ha, _⟩ := isSet_cons.1 h
 rw [memL_false]
 intro t ht
 rcases List.mem_cons.1 ht with rfl | ht
 ·exact inS_to h1 (lt_irrefl _)
 ·exact inS_below (ha t ht).2
theorem set_uniq : ∀ {l m : List Sp}, IsSet l → IsSet m → (∀ k, memL l k = memL m k) → l = m
 | [], [], _, _, _ => rfl
 | [], t :: m, _, h2, h => by
  have := h t.1
  rw [memL_nil, memL_cons, inS_from (isSet_cons.1 h2).1] at this
  cases this
 | s :: l, [], h1, _, h => by
  have := h s.1
  rw [memL_nil, memL_cons, inS_from (isSet_cons.1 h1).1] at this
  cases this
 | s :: l, t :: m, h1, h2, h => by
  obtain ⟨f1, a1, r1⟩ := isSet_cons.1 h1
  obtain ⟨f2, a2, r2⟩ := isSet_cons.1 h2
  have hs : memL (s :: l) s.1 = true := by rw [memL_cons, inS_from f1]; rfl
  have ht : memL (t :: m) t.1 = true := by rw [memL_cons, inS_from f2]; rfl
  have e1 : s.1 = t.1 := lt_total (first_le h2 ((h _).symm.trans hs)) (first_le h1 ((h _).trans ht))
  have key : ∀ {u v : Sp} {p q : List Sp}, IsSet (u :: p) → IsSet (v :: q) → (∀ k, memL (u :: p) k = memL (v :: q) k) → u.1 = v.1 → noT u.2 = false → noT v.2 = false ∧ ltT u.2 v.2 = false := by
   intro u v p q hu hv hk e hn
   have hm : memL (v :: q) u.2 = false := (hk _).symm.trans (first_to hu hn)
   rw [memL_cons, Bool.or_eq_false_iff] at hm
   have hu1 : ltT u.2 v.1 = false := by
    rw [← e]
    have := (isSet_cons.1 hu).1
    unfold fullS at this
    rw [hn] at this
    exact lt_asymm (by simpa using this)
   have := hm.1
   unfold inS at this
   rw [hu1] at this
   simpa using this
  have e2 : s.2 = t.2 := by
   cases n1 : noT s.2
   ·obtain ⟨n2, l2⟩ := key h1 h2 h e1 n1
    obtain ⟨_, l1⟩ := key h2 h1 (fun k => (h k).symm) e1.symm n2
    exact lt_total l2 l1
   ·cases n2 : noT t.2
    ·obtain ⟨n1', _⟩ := key h2 h1 (fun k => (h k).symm) e1.symm n2
     rw [n1] at n1'
     cases n1'
    ·rw [noT_iff.1 n1, noT_iff.1 n2]
  have e : s = t := Prod.ext e1 e2
  subst e
  congr 1
  refine set_uniq r1 r2 fun k => ?_
  have hk := h k
  rw [memL_cons, memL_cons] at hk
  cases hs : inS s k
  ·rw [hs] at hk
   simpa using hk
  ·have n1 : memL l k = false := memL_false.2 fun u hu => by
    cases hi : inS u k
    ·rfl
    ·rw [apart_in (a1 u hu) hi] at hs
     cases hs
   have n2 : memL m k = false := memL_false.2 fun u hu => by
    cases hi : inS u k
    ·rfl
    ·rw [apart_in (a2 u hu) hi] at hs
     cases hs
   rw [n1, n2]
end S3
end Go.Proofs.Ytddbmibfebhmjaa
