/- Topologies as lists: shards, whether they may be, which shard holds a text, which have a node, which meet a set; what follows of a topology that may be. Conditions: none. -/
import Derived.Test.YtopogdfmbdbimaaKo
namespace Go.Proofs.Ytopogdfmbdbimaa

/-- A shard: its span; where its nodes lie, their capacity; its nodes. -/
structure Sh where
  sp : Sp
  na : Option Addr
  nc : Nat
  nodes : List Int

def nodeB (n : Int) : Bool := decide (1 ≤ n ∧ n ≤ 7)
/-- Nodes, rising, from behind p on. -/
def risF : Int → List Int → Bool
  | _, [] => true
  | p, n :: r => nodeB n && (decide (p < n) && risF n r)
def nodesB (l : List Int) : Bool := decide (1 ≤ l.length ∧ l.length ≤ 5) && risF 0 l
/-- Spans that lie one behind the other, from a text on, to no end. -/
def rowF : ByteArray → List Sp → Bool
  | x, [] => noT x
  | x, s :: r => (s.1.toList == x.toList) && ((r.isEmpty || (ltT s.1 s.2 && decide (s.2.size ≤ 16))) && rowF s.2 r)
def spans (l : List Sh) : List Sp := l.map (·.sp)
def topoB (l : List Sh) : Bool := decide (1 ≤ l.length ∧ l.length ≤ 8) && (rowF ⟨#[]⟩ (spans l) && l.all fun s => nodesB s.nodes)

theorem nodeB_iff {n : Int} : nodeB n = true ↔ 1 ≤ n ∧ n ≤ 7 := by simp [nodeB]
theorem risF_facts : ∀ {l : List Int} {p : Int}, risF p l = true → (∀ n ∈ l, p < n ∧ 1 ≤ n ∧ n ≤ 7) ∧ l.Pairwise (· < ·)
  | [], _, _ => ⟨fun _ h => (by cases h), List.Pairwise.nil⟩
  | n :: r, p, h => by
    simp only [risF, Bool.and_eq_true, decide_eq_true_eq, nodeB_iff] at h
    obtain ⟨h1, h2, h3⟩ := h
    obtain ⟨h4, h5⟩ := risF_facts h3
    refine ⟨fun m hm => ?_, List.pairwise_cons.2 ⟨fun m hm => (h4 m hm).1, h5⟩⟩
    rcases List.mem_cons.1 hm with rfl | hm
    · exact ⟨h2, h1⟩
    · have := h4 m hm
      exact ⟨by omega, this.2⟩

/-- What a topology that may be is. -/
structure Topo (l : List Sh) : Prop where
  pos : 1 ≤ l.length
  len : l.length ≤ 8
  full : ∀ s ∈ l, fullS s.sp = true
  once : ∀ k, ∃ i, i < l.length ∧ ∀ (j : Nat) (s : Sh), l[j]? = some s → inS s.sp k = decide (j = i)
  few : ∀ s ∈ l, 1 ≤ s.nodes.length ∧ s.nodes.length ≤ 5
  node : ∀ s ∈ l, ∀ n ∈ s.nodes, 1 ≤ n ∧ n ≤ 7
  rise : ∀ s ∈ l, s.nodes.Pairwise (· < ·)

theorem row_ahead : ∀ {l : List Sp} {x : ByteArray}, rowF x l = true → (∀ s ∈ l, fullS s = true) ∧ (∀ k, ltT k x = true → ∀ s ∈ l, inS s k = false)
  | [], _, _ => ⟨fun _ h => (by cases h), fun _ _ _ h => (by cases h)⟩
  | s :: r, x, h => by
    simp only [rowF, Bool.and_eq_true, Bool.or_eq_true, beq_iff_eq] at h
    obtain ⟨h1, h2, h3⟩ := h
    have e : s.1 = x := text_ext h1
    obtain ⟨h4, h5⟩ := row_ahead h3
    have hf : fullS s = true := by
      rcases h2 with h2 | ⟨h2, _⟩
      · have : r = [] := by simpa using h2
        subst this
        have h6 : noT s.2 = true := h3
        simp [fullS, h6]
      · simp [fullS, h2]
    refine ⟨fun t ht => ?_, fun k hk t ht => ?_⟩
    · rcases List.mem_cons.1 ht with rfl | ht
      · exact hf
      · exact h4 t ht
    · rcases List.mem_cons.1 ht with rfl | ht
      · exact inS_below (by rw [e]; exact hk)
      · rcases h2 with h2 | ⟨h2, _⟩
        · have : r = [] := by simpa using h2
          subst this
          cases ht
        · exact h5 k (lt_trans hk (by rw [← e]; exact h2)) t ht
theorem row_once : ∀ {l : List Sp} {x : ByteArray}, l ≠ [] → rowF x l = true → ∀ k, ltT k x = false → ∃ i, i < l.length ∧ ∀ (j : Nat) (s : Sp), l[j]? = some s → inS s k = decide (j = i)
  | [], _, h, _, _, _ => absurd rfl h
  | s :: r, x, _, h, k, hk => by
    simp only [rowF, Bool.and_eq_true, Bool.or_eq_true, beq_iff_eq] at h
    obtain ⟨h1, h2, h3⟩ := h
    have e : s.1 = x := text_ext h1
    by_cases hr : r = []
    · subst hr
      have h6 : noT s.2 = true := h3
      refine ⟨0, by simp, fun j t ht => ?_⟩
      cases j with
      | zero =>
        simp only [List.getElem?_cons_zero, Option.some.injEq] at ht
        subst ht
        simp [inS, e, hk, h6]
      | succ j => simp at ht
    · have hlt : ltT s.1 s.2 = true := by
        rcases h2 with h2 | ⟨h2, _⟩
        · exact absurd (by simpa using h2) hr
        · exact h2
      cases hc : ltT k s.2
      · obtain ⟨i, hi, hat⟩ := row_once hr h3 k hc
        refine ⟨i + 1, by simpa using hi, fun j t ht => ?_⟩
        cases j with
        | zero =>
          simp only [List.getElem?_cons_zero, Option.some.injEq] at ht
          subst ht
          rw [inS_to (noT_of_lt hlt) hc]
          simp
        | succ j =>
          rw [hat j t (by simpa using ht)]
          simp
      · refine ⟨0, by simp, fun j t ht => ?_⟩
        cases j with
        | zero =>
          simp only [List.getElem?_cons_zero, Option.some.injEq] at ht
          subst ht
          simp [inS, e, hk, hc]
        | succ j =>
          have hm : t ∈ r := List.mem_of_getElem? (by simpa using ht)
          rw [(row_ahead h3).2 k hc t hm]
          simp
theorem spans_at {l : List Sh} {j : Nat} {s : Sh} (h : l[j]? = some s) : (spans l)[j]? = some s.sp := by simp [spans, h]
theorem topo_of {l : List Sh} (h : topoB l = true) : Topo l := by
  simp only [topoB, Bool.and_eq_true, decide_eq_true_eq, List.all_eq_true] at h
  obtain ⟨⟨h1, h2⟩, h3, h4⟩ := h
  have hn : ∀ s ∈ l, (1 ≤ s.nodes.length ∧ s.nodes.length ≤ 5) ∧ (∀ n ∈ s.nodes, 0 < n ∧ 1 ≤ n ∧ n ≤ 7) ∧ s.nodes.Pairwise (· < ·) := fun s hs => by
    have := h4 s hs
    simp only [nodesB, Bool.and_eq_true, decide_eq_true_eq] at this
    exact ⟨this.1, risF_facts this.2⟩
  refine ⟨h1, h2, fun s hs => (row_ahead h3).1 _ (List.mem_map.2 ⟨s, hs, rfl⟩), fun k => ?_, fun s hs => (hn s hs).1, fun s hs n hm => ((hn s hs).2.1 n hm).2, fun s hs => (hn s hs).2.2⟩
  have hne : spans l ≠ [] := by
    intro e
    have : (spans l).length = l.length := by simp [spans]
    rw [e] at this
    simp at this
    omega
  obtain ⟨i, hi, hat⟩ := row_once hne h3 k (not_lt_noT (noT_iff.2 rfl))
  exact ⟨i, by simpa [spans] using hi, fun j s hs => hat j s.sp (spans_at hs)⟩

/-- Whether a shard has a node. -/
def hasN (l : List Int) (n : Int) : Bool := l.any (· == n)
def shHas (l : List Sh) (i : Nat) (n : Int) : Bool := match l[i]? with | some s => hasN s.nodes n | none => false
/-- Whether the shard at a place, if that is one, has a node. -/
def atHas (l : List Sh) (i : Int) (n : Int) : Bool := decide (0 ≤ i) && shHas l i.toNat n
/-- Whether one of the shards at these places has a node. -/
def anyHas (l : List Sh) (P : List Int) (n : Int) : Bool := P.any fun i => atHas l i n
theorem shHas_at {l : List Sh} {i : Nat} {s : Sh} (h : l[i]? = some s) (n : Int) : shHas l i n = hasN s.nodes n := by unfold shHas; rw [h]
theorem shHas_out {l : List Sh} {i : Nat} (h : l.length ≤ i) (n : Int) : shHas l i n = false := by unfold shHas; rw [List.getElem?_eq_none h]
theorem atHas_at {l : List Sh} {i : Nat} {s : Sh} (h : l[i]? = some s) (n : Int) : atHas l i n = hasN s.nodes n := by simp [atHas, shHas_at h]
theorem atHas_neg {l : List Sh} {i : Int} (h : i < 0) (n : Int) : atHas l i n = false := by simp [atHas]; intro h2; omega
theorem atHas_out {l : List Sh} {i : Int} (h : (l.length : Int) ≤ i) (n : Int) : atHas l i n = false := by
  unfold atHas
  rw [shHas_out (by omega)]
  simp
theorem hasN_mem {l : List Int} {n : Int} : hasN l n = true ↔ n ∈ l := by simp [hasN]
/-- The places of the first k shards that have a node. -/
def ofTo (p : Nat → Bool) (k : Nat) : List Int := ((List.range k).filter p).map Int.ofNat
theorem ofTo_zero (p : Nat → Bool) : ofTo p 0 = [] := rfl
theorem ofTo_succ (p : Nat → Bool) (k : Nat) : ofTo p (k + 1) = ofTo p k ++ if p k = true then [(k : Int)] else [] := by
  unfold ofTo
  rw [List.range_succ, List.filter_append, List.map_append]
  cases h : p k <;> simp [h]
theorem ofTo_len (p : Nat → Bool) (k : Nat) : (ofTo p k).length ≤ k := by
  unfold ofTo
  rw [List.length_map]
  exact Nat.le_trans (List.length_filter_le _ _) (by simp)
theorem ofTo_mem (p : Nat → Bool) (k : Nat) (n : Int) : n ∈ ofTo p k ↔ ∃ i, i < k ∧ p i = true ∧ n = (i : Int) := by
  unfold ofTo
  simp only [List.mem_map, List.mem_filter, List.mem_range]
  constructor
  · rintro ⟨i, ⟨h1, h2⟩, rfl⟩; exact ⟨i, h1, h2, rfl⟩
  · rintro ⟨i, h1, h2, rfl⟩; exact ⟨i, ⟨h1, h2⟩, rfl⟩
theorem ofTo_all (p : Nat → Bool) (k : Nat) (h : ∀ i, i < k → p i = true) : ofTo p k = (List.range k).map Int.ofNat := by
  unfold ofTo
  rw [List.filter_eq_self.2 fun i hi => h i (List.mem_range.1 hi)]
theorem ofTo_none (p : Nat → Bool) (k : Nat) (h : ∀ i, i < k → p i = false) : ofTo p k = [] := by
  unfold ofTo
  rw [List.filter_eq_nil_iff.2 fun i hi => by rw [h i (List.mem_range.1 hi)]; simp]
  rfl
theorem ofTo_congr {p q : Nat → Bool} {k : Nat} (h : ∀ i, i < k → p i = q i) : ofTo p k = ofTo q k := by
  unfold ofTo
  rw [List.filter_congr fun i hi => h i (List.mem_range.1 hi)]
theorem ofTo_rises (p : Nat → Bool) (k : Nat) : (ofTo p k).Pairwise (· < ·) := by
  unfold ofTo
  rw [List.pairwise_map]
  refine List.Pairwise.filter _ ?_
  have := List.pairwise_lt_range (n := k)
  exact this.imp fun h => by simpa using h
/-- The shards that have a node. -/
def ofL (l : List Sh) (n : Int) : List Int := ofTo (fun i => shHas l i n) l.length
/-- Whether the shard at a place meets a set. -/
def shMeets (l : List Sh) (X : List Sp) (i : Nat) : Bool := match l[i]? with | some s => !(setL 1 [s.sp] X).isEmpty | none => false
theorem shMeets_at {l : List Sh} {i : Nat} {s : Sh} (h : l[i]? = some s) (X : List Sp) : shMeets l X i = !(setL 1 [s.sp] X).isEmpty := by unfold shMeets; rw [h]
def touchL (l : List Sh) (X : List Sp) : List Int := ofTo (shMeets l X) l.length
/-- The spans of the first k shards that have a node. -/
def ownTo (l : List Sh) (n : Int) (k : Nat) : List Sp := ((l.take k).filter fun s => hasN s.nodes n).map (·.sp)
theorem ownTo_zero (l : List Sh) (n : Int) : ownTo l n 0 = [] := rfl
theorem ownTo_succ {l : List Sh} {n : Int} {k : Nat} {s : Sh} (h : l[k]? = some s) : ownTo l n (k + 1) = ownTo l n k ++ if hasN s.nodes n = true then [s.sp] else [] := by
  unfold ownTo
  rw [List.take_add_one, h, List.filter_append, List.map_append]
  cases hc : hasN s.nodes n <;> simp [hc]
theorem ownTo_len (l : List Sh) (n : Int) (k : Nat) : (ownTo l n k).length ≤ k := by
  unfold ownTo
  rw [List.length_map]
  exact Nat.le_trans (List.length_filter_le _ _) (by simp; omega)
def ownL (l : List Sh) (n : Int) : List Sp := uniL (ownTo l n l.length)
theorem ownL_mem (l : List Sh) (n : Int) (k : ByteArray) : memL (ownL l n) k = l.any fun s => hasN s.nodes n && inS s.sp k := by
  unfold ownL ownTo
  rw [uniL_mem, List.take_length]
  unfold memL
  rw [List.any_map, List.any_filter]
  rfl
/-- The nodes, of 1 to 7, of the shards at these places. -/
def nodesTo (f : Int → Bool) (k : Nat) : List Int := ofTo (fun i => nodeB i && f i) k
def nodesL (l : List Sh) (P : List Int) : List Int := nodesTo (anyHas l P) 8

theorem find_all {l : List Sh} {k : ByteArray} {i : Nat} (hi : ∀ (j : Nat) (s : Sh), l[j]? = some s → inS s.sp k = decide (j = i)) (n : Int) : memL (ownL l n) k = shHas l i n := by
  rw [ownL_mem, Bool.eq_iff_iff, List.any_eq_true]
  constructor
  · rintro ⟨s, hs, he⟩
    obtain ⟨j, hj, rfl⟩ := List.mem_iff_getElem.1 hs
    have hjs : l[j]? = some l[j] := List.getElem?_eq_getElem hj
    simp only [Bool.and_eq_true] at he
    have := hi j _ hjs
    rw [he.2] at this
    have e : j = i := by simpa using this.symm
    subst e
    rw [shHas_at hjs]
    exact he.1
  · intro he
    unfold shHas at he
    cases hs : l[i]? with
    | none => rw [hs] at he; cases he
    | some s =>
      rw [hs] at he
      refine ⟨s, List.mem_of_getElem? hs, ?_⟩
      have he' : hasN s.nodes n = true := he
      rw [he', hi i s hs]
      simp
/-- A set meets a span just if a text is in both. -/
theorem meets_iff (s : Sp) (X : List Sp) : (!(setL 1 [s] X).isEmpty) = true ↔ ∃ k, inS s k = true ∧ memL X k = true := by
  rw [Bool.not_eq_true', ← Bool.not_eq_true, List.isEmpty_iff]
  constructor
  · intro h
    apply Classical.byContradiction
    intro hno
    refine h (set_uniq (setL_set 1 [s] X) isSet_nil fun k => ?_)
    rw [setL_mem, memL_nil, memL_cons, memL_nil, Bool.or_false]
    show (inS s k && memL X k) = false
    cases h1 : inS s k <;> cases h2 : memL X k <;> simp_all
  · rintro ⟨k, h1, h2⟩ h
    have := setL_mem 1 [s] X k
    rw [h, memL_nil, memL_cons, memL_nil, h1, h2] at this
    cases this

end Go.Proofs.Ytopogdfmbdbimaa
