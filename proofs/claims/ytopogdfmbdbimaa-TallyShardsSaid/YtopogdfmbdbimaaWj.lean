/- The program's tally keeps the interface (TallyC): whatever was asked, whoever answered. Conditions: at most a thousand answers, a thousand places. -/
import Derived.Test.YtopogdfmbdbimaaWi
import Derived.Test.YtopogdfmbdbimaaVi
set_option linter.unusedVariables false
namespace Go.Proofs.Ytopogdfmbdbimaa
open Go.RowKit Go.Sort Go.Shelf Go.Maps

theorem nodesL_rises (l : List Sh) (P : List Int) : (nodesL l P).Pairwise (· < ·) := ofTo_rises _ _
/-- The nodes of one shard are the shard's. -/
theorem nodesL_one {l : List Sh} (h : Topo l) {i : Int} {s : Sh} (hs : atSh l i = some s) : nodesL l [i] = s.nodes := by
  obtain ⟨p, rfl, hp, hsp⟩ := atSh_some hs
  have hm := List.mem_of_getElem? hsp
  refine rises_uniq (nodesL_rises _ _) (h.rise s hm) fun n => ?_
  rw [mem_nodesL]
  have e : anyHas l [(p : Int)] n = hasN s.nodes n := by
    simp [anyHas, atHas_at hsp]
  rw [e, hasN_mem]
  exact ⟨fun h => h.2, fun hn => ⟨nodeB_iff.2 (h.node s hm n hn), hn⟩⟩
theorem nodesL_wf (l : List Sh) (P : List Int) : WfL (nodesL l P) := fun n hn => by
  have := nodeB_iff.1 (mem_nodesL.1 hn).1
  exact WalkArith.wf_i64 (by omega)
/-- Shard by shard. -/
theorem enough_forAll {l : List Sh} (ht : Topo l) {Q P N : List Int} {D : DataW Unit} {ms : List Sh} {need : Nat → Nat} (hm : ms.map (·.nodes) = msOf l Q) (hQ : ∀ i, (atSh l i).isSome = true → (i ∈ Q ↔ i ∈ P)) (hD : ∀ n, inD D n = hasN N n) :
    enough need ms D = forAll l P fun s => decide (need s.nodes.length ≤ cntF (hasN N) s.nodes) := by
  have e1 : enough need ms D = (msOf l Q).all fun ns => decide (need ns.length ≤ (ns.filter (inD D)).length) := by
    rw [← hm]
    simp [enough, List.all_map]
    rfl
  have hfun : inD D = hasN N := funext hD
  rw [e1, hfun, Bool.eq_iff_iff, forAll_true, List.all_eq_true]
  constructor
  · intro h i hi s hs
    have h2 := h (nodesL l [i]) (List.mem_map.2 ⟨i, List.mem_filter.2 ⟨(hQ i (by rw [hs]; rfl)).2 hi, by rw [hs]; rfl⟩, rfl⟩)
    rw [nodesL_one ht hs] at h2
    exact h2
  · intro h ns hns
    obtain ⟨i, hi, rfl⟩ := List.mem_map.1 hns
    obtain ⟨h1, h2⟩ := List.mem_filter.1 hi
    obtain ⟨s, hs⟩ := Option.isSome_iff_exists.1 h2
    have h3 := h i ((hQ i h2).1 h1) s hs
    rw [nodesL_one ht hs]
    exact h3
theorem enough_quo {l : List Sh} {P : List Int} {f : Int → Bool} : (forAll l P fun s => decide (s.nodes.length / 2 + 1 ≤ cntF f s.nodes)) = quoB l P f := by
  unfold quoB
  congr 1
  funext s
  rw [decide_eq_decide]
  omega
theorem enough_each {l : List Sh} {P : List Int} {f : Int → Bool} : (forAll l P fun s => decide (1 ≤ cntF f s.nodes)) = eachB l P f := rfl
theorem cnt_full {f : Int → Bool} {l : List Int} : l.length ≤ cntF f l ↔ ∀ n ∈ l, f n = true := by
  constructor
  · intro h n hn
    have e : l.filter f = l := List.filter_sublist.eq_of_length_le h
    exact (List.mem_filter.1 (by rw [e]; exact hn : n ∈ l.filter f)).2
  · intro h
    rw [cntF_all h]
    exact Nat.le_refl _
theorem enough_done {l : List Sh} (ht : Topo l) {P : List Int} {f : Int → Bool} : (forAll l P fun s => decide (s.nodes.length ≤ cntF f s.nodes)) = doneB l P f := by
  unfold doneB
  rw [Bool.eq_iff_iff, forAll_true, List.all_eq_true]
  constructor
  · intro h n hn
    obtain ⟨h1, h2⟩ := mem_nodesL.1 hn
    unfold anyHas at h2
    obtain ⟨i, hi, h3⟩ := List.any_eq_true.1 h2
    rw [atHas_sh] at h3
    cases hs : atSh l i with
    | none => rw [hs] at h3; cases h3
    | some s =>
      rw [hs] at h3
      exact cnt_full.1 (of_decide_eq_true (h i hi s hs)) n (hasN_mem.1 h3)
  · intro h i hi s hs
    exact decide_eq_true (cnt_full.2 fun n hn => h n (at_nodesL ht hi hs hn))

/-- The program's tally. -/
def PTo (W0 w : World) (b : Nat) (l : List Sh) (P N : List Int) (F : Nat → Prop) : Prop :=
  Topo l ∧ (∀ n ∈ N, n ∈ nodesL l P) ∧ ∃ A B mb k vs vn ms D Q, W0.heap.size ≤ A ∧ (∀ x, F x ↔ A ≤ x ∧ x < B) ∧ PTd w A B b mb k vs vn ms (nodesL l P) D ∧ k ≤ N.length ∧ (∀ n, inD D n = hasN N n) ∧ ms.map (·.nodes) = msOf l Q ∧ (∀ i, (atSh l i).isSome = true → (i ∈ Q ↔ i ∈ P)) ∧ Q.length ≤ 1000000
theorem ms_few {ms : List Sh} {l : List Sh} {Q : List Int} (hm : ms.map (·.nodes) = msOf l Q) (hQ : Q.length ≤ 1000000) : ms.length ≤ 1000000 ∧ ∀ m ∈ ms, m.nodes.length ≤ 1000000 ∧ WfL m.nodes := by
  constructor
  · have h := congrArg List.length hm
    rw [List.length_map] at h
    have := msOf_len l Q
    omega
  · intro m hmm
    have h : m.nodes ∈ msOf l Q := by rw [← hm]; exact List.mem_map.2 ⟨m, hmm, rfl⟩
    obtain ⟨i, _, e⟩ := List.mem_map.1 h
    rw [← e]
    exact ⟨Nat.le_trans (nodesL_len _ _) (by decide), nodesL_wf _ _⟩
theorem empty_in (n : Int) : inD (.map []) n = hasN [] n := rfl
theorem pt_new (W0 w : World) (a : Option Addr) (c : Nat) (l : List Sh) (ap : Option Addr) (cp : Nat) (S : List Int) (ht : Topo l) (hs : S.length ≤ 1000) (ha : Hl W0 a l) (hb0 : Below W0.heap.size W0 w) (hp : Il w ap cp S) :
    Calls Try.prog 11 #[.slice a l.length c, .slice ap S.length cp] w fun e w' => ∃ b F, e = .returned (.pointer (some ⟨b, 0, none⟩)) ∧ PTo W0 w' b l (placesL l S) [] F ∧ Below w.heap.size w w' ∧ ∀ x, F x → w.heap.size ≤ x := by
  refine (tnew_any W0 w a c l ap cp S (Nat.le_trans ht.len (by decide)) (topo_n5 ht) (Nat.le_trans hs (by decide)) ha hb0 hp).mono ?_
  rintro e w' ⟨b, mb, vs, vn, ms, rfl, hn, hm⟩
  refine ⟨b, fun x => w.heap.size ≤ x ∧ x < w'.heap.size, rfl, ⟨ht, fun n hn => (by cases hn), w.heap.size, w'.heap.size, mb, 0, vs, vn, ms, .map [], compL (sortL S), hb0.size, fun _ => Iff.rfl, ?_, Nat.zero_le _, empty_in, hm, fun i hi => ?_, ?_⟩, hn.bel, fun x h => h.1⟩
  · rw [nodes_places]
    exact ⟨hn.blk, hn.own, hn.each, hn.nds, hn.map, hn.lob, hn.lom, hn.blk.lt, hn.map.lt, fun x hx => (by obtain ⟨_, cur, hh⟩ := hn.own.block x hx; exact lt_of_block hh), fun x hx => hn.nds.blt x hx, fun m hm x hx => (hn.each m hm).blt x hx, Nat.le_refl _⟩
  · rw [compL_mem, sortL_mem, places_mem]
    exact ⟨fun h => ⟨h, hi⟩, fun h => h.1⟩
  · have := compL_length (sortL S)
    rw [sortL_length] at this
    omega
theorem pt_add {W0 w : World} {b : Nat} {l : List Sh} {P N : List Int} {F : Nat → Prop} (n : Int) (hwf : (Lit.int .i64 n).wf = true) (hN : N.length ≤ 1000) (h : PTo W0 w b l P N F) :
    Calls Try.prog 26 #[.pointer (some ⟨b, 0, none⟩), .int .i64 n] w fun e w' => ∃ F', e = .returned (.bool (addB l P N n)) ∧ PTo W0 w' b l P (addS l P N n) F' ∧ Keeps F w w' ∧ ∀ x, F' x → F x ∨ w.heap.size ≤ x := by
  obtain ⟨ht, hin, A, B, mb, k, vs, vn, ms, D, Q, hA, hF, hd, hk, hD, hm, hQ, hQl⟩ := h
  refine (tadd_any w A B b mb k vs vn ms _ D n hd (Nat.le_trans (nodesL_len _ _) (by decide)) (by omega) hwf).mono ?_
  rintro e w' ⟨rfl, D', k', hk', hd', hD', hks⟩
  rw [hD n] at hk' hD'
  refine ⟨F, by rw [hD n]; rfl, ⟨ht, ?_, A, B, mb, k', vs, vn, ms, D', Q, hA, hF, hd', ?_, ?_, hm, hQ, hQl⟩, ?_, fun x hx => .inl hx⟩
  · intro m hmm
    unfold addS at hmm
    split at hmm
    · rename_i hadd
      rcases List.mem_append.1 hmm with h | h
      · exact hin m h
      · simp only [List.mem_singleton] at h
        subst h
        unfold addB at hadd
        rw [Bool.and_eq_true] at hadd
        exact hasN_mem.1 hadd.2
    · exact hin m hmm
  · unfold addS addB
    rcases hk' with rfl | ⟨h1, rfl⟩
    · split
      · rw [List.length_append]
        omega
      · exact hk
    · rw [if_pos h1, List.length_append]
      simp
      omega
  · intro m
    rw [hD' m, hD m]
    unfold addS addB
    split
    · rename_i hadd
      rw [hadd, has_snoc]
      simp
    · rename_i hadd
      have : (!hasN N n && hasN (nodesL l P) n) = false := by simpa using hadd
      rw [this]
      simp
  · exact hks.mono fun x _ e => by
      subst e
      exact (hF _).2 ⟨hd.lom, hd.him⟩
theorem tallyC_holds : TallyC PTo where
  keep := by
    rintro W0 w w' b l P N F S ⟨ht, hin, A, B, mb, k, vs, vn, ms, D, Q, hA, hF, hd, r⟩ hk _ hS
    exact ⟨ht, hin, A, B, mb, k, vs, vn, ms, D, Q, hA, hF, hd.keep hk fun x h1 h2 => hS x ((hF x).2 ⟨h1, h2⟩), r⟩
  sep := by
    rintro W0 w b l P N F ⟨ht, hin, A, B, mb, k, vs, vn, ms, D, Q, hA, hF, hd, r⟩ x hx
    have := (hF x).1 hx
    have := hd.size
    omega
  new := fun W0 w a c l ap cp S ht hs ha hb hp => pt_new W0 w a c l ap cp S ht hs ha hb hp
  add := fun n hwf hN h => pt_add n hwf hN h
  has := by
    rintro W0 w b l P N F n hwf hN ⟨ht, hin, A, B, mb, k, vs, vn, ms, D, Q, hA, hF, hd, hk, hD, hm, hQ, hQl⟩
    refine (thas_any b mb k vs vn D n w hwf hd.blk hd.map).mono ?_
    rintro e w' ⟨rfl, hb⟩
    exact ⟨by rw [hD n], hb⟩
  nodes := by
    rintro W0 w b l P N F hN ⟨ht, hin, A, B, mb, k, vs, vn, ms, D, Q, hA, hF, hd, hk, hD, hm, hQ, hQl⟩
    have h := tnodes_any w A B b mb k vs vn ms _ D hd (by omega)
    rwa [keys_row hd.map (l := pickL l P N true) ((nodesL_rises l P).sublist List.filter_sublist) (fun n => by
      unfold pickL
      rw [hD n, List.mem_filter, hasN_mem]
      constructor
      · rintro ⟨_, h⟩
        exact hasN_mem.1 (by simpa using h)
      · intro h
        exact ⟨hin n h, by simpa using hasN_mem.2 h⟩)] at h
  waiting := by
    rintro W0 w b l P N F hN ⟨ht, hin, A, B, mb, k, vs, vn, ms, D, Q, hA, hF, hd, hk, hD, hm, hQ, hQl⟩
    have h := twaiting_any w A B b mb k vs vn ms _ D hd (Nat.le_trans (nodesL_len _ _) (by decide)) (nodesL_wf _ _)
    have e : (nodesL l P).filter (fun x => !inD D x) = pickL l P N false := by
      unfold pickL
      refine List.filter_congr fun n _ => ?_
      rw [hD n]
      cases hasN N n <;> rfl
    rwa [e] at h
  quorum := by
    rintro W0 w b l P N F hN ⟨ht, hin, A, B, mb, k, vs, vn, ms, D, Q, hA, hF, hd, hk, hD, hm, hQ, hQl⟩
    have h := tquorum_any w A B b mb k vs vn ms _ D hd (ms_few hm hQl).1 (ms_few hm hQl).2
    rwa [enough_forAll ht hm hQ hD, enough_quo] at h
  all := by
    rintro W0 w b l P N F hN ⟨ht, hin, A, B, mb, k, vs, vn, ms, D, Q, hA, hF, hd, hk, hD, hm, hQ, hQl⟩
    have h := tall_any w A B b mb k vs vn ms _ D hd (ms_few hm hQl).1 (ms_few hm hQl).2
    rwa [enough_forAll ht hm hQ hD, enough_done ht] at h
  each := by
    rintro W0 w b l P N F hN ⟨ht, hin, A, B, mb, k, vs, vn, ms, D, Q, hA, hF, hd, hk, hD, hm, hQ, hQl⟩
    have h := teach_any w A B b mb k vs vn ms _ D hd (ms_few hm hQl).1 (ms_few hm hQl).2
    rwa [enough_forAll ht hm hQ hD, enough_each] at h

end Go.Proofs.Ytopogdfmbdbimaa
