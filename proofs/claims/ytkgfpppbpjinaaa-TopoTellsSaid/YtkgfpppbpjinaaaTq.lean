/- live of the law: two shards. Conditions: none. -/
import Derived.Test.YtkgfpppbpjinaaaTp
set_option linter.unusedVariables false
namespace Go.Proofs.Ytkgfpppbpjinaaa
open Go.RowKit

def tM : ByteArray := ⟨#[109]⟩
def tK : ByteArray := ⟨#[107]⟩
def twoL (A B : Nat) : List Sh := [⟨(⟨#[]⟩, tM), some ⟨A, 0, none⟩, 3, [1, 2, 3]⟩, ⟨(tM, ⟨#[]⟩), some ⟨B, 0, none⟩, 3, [3, 4, 5]⟩]
theorem two_any (w : World) : Calls Try.prog 31 #[] w fun e w' => ∃ A B C, e = .returned (.slice (some ⟨C, 0, none⟩) 2 2) ∧ Hl w' (some ⟨C, 0, none⟩) (twoL A B) ∧ Below w.heap.size w w' := by
  go_enter Try.func31, Try.ntmps31
  go_wp2
  go_ret
  have hb1 := blAlloc (Below.refl w.heap.size w) (.cells #[.int .i64 1, .int .i64 2, .int .i64 3] 3)
  have hx1 := heap_alloc_new w (.cells #[.int .i64 1, .int .i64 2, .int .i64 3] 3)
  generalize hw1 : w.alloc (.cells #[.int .i64 1, .int .i64 2, .int .i64 3] 3) = w1 at *
  have hs1 : w1.heap.size = w.heap.size + 1 := by rw [← hw1]; simp
  have hb2 := blAlloc (Below.refl w1.heap.size w1) (.cells #[.int .i64 3, .int .i64 4, .int .i64 5] 3)
  have hx2 := heap_alloc_new w1 (.cells #[.int .i64 3, .int .i64 4, .int .i64 5] 3)
  generalize hw2 : w1.alloc (.cells #[.int .i64 3, .int .i64 4, .int .i64 5] 3) = w2 at *
  have hs2 : w2.heap.size = w.heap.size + 1 + 1 := by rw [← hw2, World.size_alloc, hs1]
  have hb3 := blAlloc (Below.refl w2.heap.size w2) (.cells #[.string ⟨#[]⟩, .string ⟨#[109]⟩, .slice (some ⟨w.heap.size, 0, none⟩) 3 3, .string ⟨#[109]⟩, .string ⟨#[]⟩, .slice (some ⟨w.heap.size + 1, 0, none⟩) 3 3] 37)
  have hx3 := heap_alloc_new w2 (.cells #[.string ⟨#[]⟩, .string ⟨#[109]⟩, .slice (some ⟨w.heap.size, 0, none⟩) 3 3, .string ⟨#[109]⟩, .string ⟨#[]⟩, .slice (some ⟨w.heap.size + 1, 0, none⟩) 3 3] 37)
  rw [hs1] at hx2
  rw [hs2] at hx3
  have hl1 : Il w1 (some ⟨w.heap.size, 0, none⟩) 3 [1, 2, 3] := il_row hx1 rfl 3
  have hl2 : Il w2 (some ⟨w.heap.size + 1, 0, none⟩) 3 [3, 4, 5] := il_row hx2 rfl 3
  refine ⟨w.heap.size, w.heap.size + 1, w.heap.size + 1 + 1, rfl, ⟨fun s hs => ?_, fun _ => ⟨w.heap.size + 1 + 1, 0, rfl, lt_of_block hx3, fun i s hi => ?_⟩⟩, hb1.trans ((hb2.mono hb1.size).trans (hb3.mono (hb1.trans (hb2.mono hb1.size)).size))⟩
  · simp only [twoL, List.mem_cons, List.not_mem_nil, or_false] at hs
    rcases hs with rfl | rfl
    · exact (hl1.later hb2).later hb3
    · exact hl2.later hb3
  · match i, hi with
    | 0, hi =>
      simp only [twoL, List.getElem?_cons_zero, Option.some.injEq] at hi
      subst hi
      refine ⟨?_, ?_, ?_⟩ <;> (rw [cell_of_row _ _ _ _ _ _ hx3]; rfl)
    | 1, hi =>
      simp only [twoL, List.getElem?_cons_succ, List.getElem?_cons_zero, Option.some.injEq] at hi
      subst hi
      refine ⟨?_, ?_, ?_⟩ <;> (rw [cell_of_row _ _ _ _ _ _ hx3]; rfl)
    | i + 2, hi => simp [twoL] at hi
theorem two_topo (A B : Nat) : topoB (twoL A B) = true := by
  have h : topoB (twoL 0 0) = true := by decide +kernel
  exact h
theorem in0k : inS (⟨#[]⟩, tM) tK = true := by decide +kernel
theorem in1k : inS (tM, ⟨#[]⟩) tK = false := by decide +kernel
theorem in0m : inS (⟨#[]⟩, tM) tM = false := by decide +kernel
theorem in1m : inS (tM, ⟨#[]⟩) tM = true := by decide +kernel
theorem two_at (A B : Nat) (k : ByteArray) (i : Nat) (hi : i < 2) (h0 : inS (⟨#[]⟩, tM) k = decide (0 = i)) (h1 : inS (tM, ⟨#[]⟩) k = decide (1 = i)) : At (twoL A B) k i := by
  refine ⟨hi, fun j s hs => ?_⟩
  match j, hs with
  | 0, hs =>
    simp only [twoL, List.getElem?_cons_zero, Option.some.injEq] at hs
    subst hs
    exact h0
  | 1, hs =>
    simp only [twoL, List.getElem?_cons_succ, List.getElem?_cons_zero, Option.some.injEq] at hs
    subst hs
    exact h1
  | j + 2, hs => simp [twoL] at hs
theorem two_k (A B : Nat) : At (twoL A B) tK 0 := two_at A B tK 0 (by decide) in0k in1k
theorem two_m (A B : Nat) : At (twoL A B) tM 1 := two_at A B tM 1 (by decide) in0m in1m
theorem uni_two : uniL [(⟨#[]⟩, tM), (tM, ⟨#[]⟩)] = [(⟨#[]⟩, ⟨#[]⟩)] := by decide +kernel
theorem two_own (A B : Nat) : ownL (twoL A B) 3 = [(⟨#[]⟩, ⟨#[]⟩)] := uni_two
theorem two_nodes (A B : Nat) : nodesL (twoL A B) [0, 1] = [1, 2, 3, 4, 5] := by
  have h : nodesL (twoL 0 0) [0, 1] = [1, 2, 3, 4, 5] := by decide +kernel
  exact h
theorem two_k1 (A B : Nat) : (nodeB 5 && anyHas (twoL A B) [1] 5) = true := by
  have h : (nodeB 5 && anyHas (twoL 0 0) [1] 5) = true := by decide +kernel
  exact h
theorem two_k0 (A B : Nat) : (nodeB 5 && anyHas (twoL A B) [0] 5) = false := by
  have h : (nodeB 5 && anyHas (twoL 0 0) [0] 5) = false := by decide +kernel
  exact h
theorem two_len (A B : Nat) : (twoL A B).length ≤ 1000000 := by simp [twoL]
theorem two_cells {w : World} {A B C : Nat} (h : Hl w (some ⟨C, 0, none⟩) (twoL A B)) : w.cell? ⟨C, 0, none⟩ = some (.string ⟨#[]⟩) ∧ w.cell? ⟨C, 1, none⟩ = some (.string tM) ∧ w.cell? ⟨C, 2, none⟩ = some (.slice (some ⟨A, 0, none⟩) 3 3) := by
  obtain ⟨g, o, he, _, c0, c1, c2⟩ := h.at (k := 0) rfl
  simp only [Option.some.injEq, Addr.mk.injEq, and_true] at he
  obtain ⟨rfl, rfl⟩ := he
  exact ⟨c0, c1, c2⟩
theorem il_two (X : World) (n : Nat) (h : X.heap.size = n) : Il (X.alloc (.cells #[.int .i64 0, .int .i64 1] 3)) (some ⟨n, 0, none⟩) 2 [0, 1] := by
  subst h
  exact il_row (heap_alloc_new X _) rfl 2
theorem il_five (X : World) (n : Nat) (h : X.heap.size = n) : Il (X.alloc (.cells #[.int .i64 1, .int .i64 2, .int .i64 3, .int .i64 4, .int .i64 5] 3)) (some ⟨n, 0, none⟩) 5 [1, 2, 3, 4, 5] := by
  subst h
  exact il_row (heap_alloc_new X _) rfl 5
theorem topo_n5 {l : List Sh} (h : Topo l) : ∀ s ∈ l, s.nodes.length ≤ 1000000 := fun s hs => Nat.le_trans (h.few s hs).2 (by decide)
theorem topo_sh {l : List Sh} (h : Topo l) (n : Int) : ∀ i, i < l.length → shHas' l n i = shHas l i n := by
  intro i hi
  obtain ⟨s, hs⟩ := at_lt hi
  unfold shHas'
  rw [shHas_at hs]
  cases hh : hasN s.nodes n
  · simp
  · have := h.node s (List.mem_of_getElem? hs) n (hasN_mem.1 hh)
    rw [nodeB_iff.2 this]
    rfl

set_option maxRecDepth 100000 in
set_option maxHeartbeats 4000000 in
theorem tlive_any (w : World) : Calls Try.prog 10 #[] w fun e w' => e = .returned (.bool true) ∧ Below w.heap.size w w' := by
  have HB := Lib.hid (Below.refl w.heap.size w)
  go_enter Try.func10, Try.ntmps10
  go_wp2_with fail
  refine (two_any _).mono ?_
  rintro e _ ⟨A, B, C, rfl, hh, hb⟩
  have HT := Lib.hid hh
  have HTP := Lib.hid (topo_of (two_topo A B))
  have HN5 := Lib.hid (topo_n5 HTP.out)
  clear hh
  have QUO := quorum_any ⟨(⟨#[]⟩, tM), some ⟨A, 0, none⟩, 3, [1, 2, 3]⟩
  unfold shV at QUO
  change ∀ w, Calls Try.prog 16 #[.agg #[.string ⟨#[]⟩, .string tM, .slice (some ⟨A, 0, none⟩) 3 3]] w fun e w' => e = .returned (.int .i64 (wrap64 (wrap64 (((3 : Nat) : Int).tdiv 2) + 1))) ∧ Below w.heap.size w w' at QUO
  replace HB := Lib.hid (blThen HB.out hb)
  clear hb
  go_wp2_with fail
  refine (tcheck_any _ _ (twoL A B) _ HT.out).mono ?_
  rintro e _ ⟨rfl, hb⟩
  replace HB := Lib.hid (blThen HB.out hb)
  replace HT := Lib.hid (HT.out.later hb)
  clear hb
  rw [two_topo, show errT true = 0 from rfl]
  go_wp2_with fail
  refine (tnum_any _ _).mono ?_
  rintro e _ ⟨rfl, rfl⟩
  go_wp2_with fail
  refine (find_any _ _ (twoL A B) _ 0 _ (two_len A B) HT.out HTP.out.full (two_k A B)).mono ?_
  rintro e _ ⟨rfl, hb⟩
  replace HB := Lib.hid (blThen HB.out hb)
  replace HT := Lib.hid (HT.out.later hb)
  clear hb
  go_wp2_with fail
  refine (find_any _ _ (twoL A B) _ 1 _ (two_len A B) HT.out HTP.out.full (two_m A B)).mono ?_
  rintro e _ ⟨rfl, hb⟩
  replace HB := Lib.hid (blThen HB.out hb)
  replace HT := Lib.hid (HT.out.later hb)
  clear hb
  go_wp2_with fail
  refine (owned_any _ _ (twoL A B) 3 _ (two_len A B) HN5.out (topo_sh HTP.out 3) HT.out).mono ?_
  rintro e _ ⟨_, rfl, ho, hb⟩
  obtain ⟨ao, co, rfl⟩ := ho.form
  have HSo := Lib.hid ho.sl
  clear ho
  replace HB := Lib.hid (blThen HB.out hb)
  replace HT := Lib.hid (HT.out.later hb)
  clear hb
  rw [two_own] at HSo ⊢
  go_wp2_with fail
  refine (same_any _ _ [(⟨#[]⟩, ⟨#[]⟩)] [(⟨#[]⟩, ⟨#[]⟩)] _ (by decide) (by decide) (HSo.out.later (blAlloc (Below.refl _ _) _)) (sl_one _ (⟨#[]⟩, ⟨#[]⟩) _ rfl)).mono ?_
  rintro e _ ⟨rfl, hb⟩
  replace hb := blThen (blAlloc (Below.refl _ _) _) hb
  replace HB := Lib.hid (blThen HB.out hb)
  replace HT := Lib.hid (HT.out.later hb)
  replace HSo := Lib.hid (HSo.out.later hb)
  clear hb
  rw [show sameB [(⟨#[]⟩, ⟨#[]⟩)] [(⟨#[]⟩, ⟨#[]⟩)] = true by simp [sameB]]
  clear HSo
  obtain ⟨c0, c1, c2⟩ := two_cells HT.out
  go_wp2_with fail
  refine (QUO _).mono ?_
  rintro e _ ⟨rfl, hb⟩
  replace HB := Lib.hid (blThen HB.out hb)
  replace HT := Lib.hid (HT.out.later hb)
  clear hb
  rw [show wrap64 (wrap64 (((3 : Nat) : Int).tdiv 2) + 1) = 2 by decide +kernel]
  clear c0 c1 c2
  go_wp2_with fail
  refine (nodes_any _ _ (twoL A B) _ _ [0, 1] _ (two_len A B) (by decide) HN5.out (HT.out.later (blAlloc (Below.refl _ _) _)) (il_two _ _ rfl)).mono ?_
  rintro e _ ⟨_, rfl, ho, hb⟩
  obtain ⟨an, cn, rfl⟩ := ho.form
  have HIn := Lib.hid ho.at
  clear ho
  replace hb := blThen (blAlloc (Below.refl _ _) _) hb
  replace HB := Lib.hid (blThen HB.out hb)
  replace HT := Lib.hid (HT.out.later hb)
  clear hb
  rw [two_nodes] at HIn ⊢
  go_wp2_with fail
  refine (ints_any _ _ _ _ [1, 2, 3, 4, 5] [1, 2, 3, 4, 5] _ (by decide) (HIn.out.later (blAlloc (Below.refl _ _) _)) (il_five _ _ rfl)).mono ?_
  rintro e _ ⟨rfl, hb⟩
  replace hb := blThen (blAlloc (Below.refl _ _) _) hb
  replace HB := Lib.hid (blThen HB.out hb)
  replace HT := Lib.hid (HT.out.later hb)
  replace HIn := Lib.hid (HIn.out.later hb)
  clear hb
  rw [show sameI [1, 2, 3, 4, 5] [1, 2, 3, 4, 5] = true from rfl]
  clear HIn
  go_wp2_with fail
  refine (tcheck_any none 0 [] _ ⟨fun s hs => (by cases hs), fun h => absurd rfl h⟩).mono ?_
  rintro e _ ⟨rfl, hb⟩
  replace HB := Lib.hid (blThen HB.out hb)
  replace HT := Lib.hid (HT.out.later hb)
  clear hb
  rw [show errT (topoB []) = 40 from rfl]
  go_wp2_with fail
  refine (tnum_any _ _).mono ?_
  rintro e _ ⟨rfl, rfl⟩
  go_wp2_with fail
  refine (keeps_any _ _ (twoL A B) 5 _ _ [1] _ (two_len A B) (by decide) HN5.out (HT.out.later (blAlloc (Below.refl _ _) _)) (one_newI _ _ _ rfl)).mono ?_
  rintro e _ ⟨rfl, hb⟩
  replace hb := blThen (blAlloc (Below.refl _ _) _) hb
  replace HB := Lib.hid (blThen HB.out hb)
  replace HT := Lib.hid (HT.out.later hb)
  clear hb
  rw [two_k1]
  go_wp2_with fail
  refine (keeps_any _ _ (twoL A B) 5 _ _ [0] _ (two_len A B) (by decide) HN5.out (HT.out.later (blAlloc (Below.refl _ _) _)) (one_newI _ _ _ rfl)).mono ?_
  rintro e _ ⟨rfl, hb⟩
  replace hb := blThen (blAlloc (Below.refl _ _) _) hb
  replace HB := Lib.hid (blThen HB.out hb)
  replace HT := Lib.hid (HT.out.later hb)
  clear hb
  rw [two_k0]
  go_wp2
  go_ret
  exact ⟨rfl, HB.out⟩

end Go.Proofs.Ytkgfpppbpjinaaa
