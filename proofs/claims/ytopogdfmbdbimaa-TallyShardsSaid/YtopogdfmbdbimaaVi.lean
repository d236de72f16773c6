/- live of the law of tallies, over whatever tally keeps the interface. Conditions: none. -/
import Derived.Test.YtopogdfmbdbimaaVh
import Derived.Test.YtopogdfmbdbimaaTq
set_option linter.unusedVariables false
set_option linter.unusedSimpArgs false
namespace Go.Proofs.Ytopogdfmbdbimaa
open Go.RowKit

theorem two5_any (w : World) : Calls Try.prog 30 #[] w fun e w' => ∃ A B C, e = .returned (.slice (some ⟨C, 0, none⟩) 2 2) ∧ Hl w' (some ⟨C, 0, none⟩) (twoL A B) ∧ Below w.heap.size w w' := by
  go_enter Try.func30, Try.ntmps30
  go_wp2
  go_ret
  have hb1 := blAlloc (Below.refl w.heap.size w) (.cells #[.int .i64 1, .int .i64 2, .int .i64 3] 3)
  have hx1 := heap_alloc_new w (.cells #[.int .i64 1, .int .i64 2, .int .i64 3] 3)
  generalize hw1 : w.alloc (.cells #[.int .i64 1, .int .i64 2, .int .i64 3] 3) = w1 at *
  have hs1 : w1.heap.size = w.heap.size + 1 := by rw [← hw1]; simp
  have hb2 := blAlloc (Below.refl w1.heap.size w1) (.cells #[.int .i64 3, .int .i64 4, .int .i64 5] 3)
  have hx2 := heap_alloc_new w1 (.cells #[.int .i64 3, .int .i64 4, .int .i64 5] 3)
  generalize hw2 : w1.alloc (.cells #[.int .i64 3, .int .i64 4, .int .i64 5] 3) = w2 at *
  have hs2 : w2.heap.size = w.heap.size + 1 + 1 := by rw [← hw2, World.size_alloc, hs1]
  have hb3 := blAlloc (Below.refl w2.heap.size w2) (.cells #[.string ⟨#[]⟩, .string ⟨#[109]⟩, .slice (some ⟨w.heap.size, 0, none⟩) 3 3, .string ⟨#[109]⟩, .string ⟨#[]⟩, .slice (some ⟨w.heap.size + 1, 0, none⟩) 3 3] 40)
  have hx3 := heap_alloc_new w2 (.cells #[.string ⟨#[]⟩, .string ⟨#[109]⟩, .slice (some ⟨w.heap.size, 0, none⟩) 3 3, .string ⟨#[109]⟩, .string ⟨#[]⟩, .slice (some ⟨w.heap.size + 1, 0, none⟩) 3 3] 40)
  rw [hs1] at hx2
  rw [hs2] at hx3
  have hl1 : Il w1 (some ⟨w.heap.size, 0, none⟩) 3 [1, 2, 3] := il_row hx1 rfl 3
  have hl2 : Il w2 (some ⟨w.heap.size + 1, 0, none⟩) 3 [3, 4, 5] := il_row hx2 rfl 3
  refine ⟨w.heap.size, w.heap.size + 1, w.heap.size + 1 + 1, rfl, ⟨fun s hs => ?_, fun _ => ⟨w.heap.size + 1 + 1, 0, rfl, lt_of_block hx3, fun i s hi => ?_⟩⟩, hb1.trans ((hb2.mono hb1.size).trans (hb3.mono (hb1.trans (hb2.mono hb1.size)).size))⟩
  · simp only [twoL, List.mem_cons, List.not_mem_nil, or_false] at hs
    rcases hs with rfl | rfl
    · exact (hl1.later hb2).later hb3
    · exact hl2.later hb3
  · match i, hi with
    | 0, hi =>
      simp only [twoL, List.getElem?_cons_zero, Option.some.injEq] at hi
      subst hi
      refine ⟨?_, ?_, ?_⟩ <;> (rw [cell_of_row _ _ _ _ _ _ hx3]; rfl)
    | 1, hi =>
      simp only [twoL, List.getElem?_cons_succ, List.getElem?_cons_zero, Option.some.injEq] at hi
      subst hi
      refine ⟨?_, ?_, ?_⟩ <;> (rw [cell_of_row _ _ _ _ _ _ hx3]; rfl)
    | i + 2, hi => simp [twoL] at hi
theorem tw_places (A B : Nat) : placesL (twoL A B) [0, 1] = [0, 1] := by
  have h : placesL (twoL 0 0) [0, 1] = [0, 1] := by decide +kernel
  exact h
theorem tw_av (A B : Nat) : addB (twoL A B) [0, 1] [] 2 = true := by
  have h : addB (twoL 0 0) [0, 1] [] 2 = true := by decide +kernel
  exact h
theorem tw_an (A B : Nat) : addS (twoL A B) [0, 1] [] 2 = [2] := by
  have h : addS (twoL 0 0) [0, 1] [] 2 = [2] := by decide +kernel
  exact h
theorem tw_bv (A B : Nat) : addB (twoL A B) [0, 1] [2] 3 = true := by
  have h : addB (twoL 0 0) [0, 1] [2] 3 = true := by decide +kernel
  exact h
theorem tw_bn (A B : Nat) : addS (twoL A B) [0, 1] [2] 3 = [2, 3] := by
  have h : addS (twoL 0 0) [0, 1] [2] 3 = [2, 3] := by decide +kernel
  exact h
theorem tw_cv (A B : Nat) : addB (twoL A B) [0, 1] [2, 3] 3 = false := by
  have h : addB (twoL 0 0) [0, 1] [2, 3] 3 = false := by decide +kernel
  exact h
theorem tw_cn (A B : Nat) : addS (twoL A B) [0, 1] [2, 3] 3 = [2, 3] := by
  have h : addS (twoL 0 0) [0, 1] [2, 3] 3 = [2, 3] := by decide +kernel
  exact h
theorem tw_dv (A B : Nat) : addB (twoL A B) [0, 1] [2, 3] 6 = false := by
  have h : addB (twoL 0 0) [0, 1] [2, 3] 6 = false := by decide +kernel
  exact h
theorem tw_dn (A B : Nat) : addS (twoL A B) [0, 1] [2, 3] 6 = [2, 3] := by
  have h : addS (twoL 0 0) [0, 1] [2, 3] 6 = [2, 3] := by decide +kernel
  exact h
theorem tw_ev (A B : Nat) : addB (twoL A B) [0, 1] [2, 3] 4 = true := by
  have h : addB (twoL 0 0) [0, 1] [2, 3] 4 = true := by decide +kernel
  exact h
theorem tw_en (A B : Nat) : addS (twoL A B) [0, 1] [2, 3] 4 = [2, 3, 4] := by
  have h : addS (twoL 0 0) [0, 1] [2, 3] 4 = [2, 3, 4] := by decide +kernel
  exact h
theorem tw_q0 (A B : Nat) : quoB (twoL A B) [0, 1] (hasN [2, 3]) = false := by
  have h : quoB (twoL 0 0) [0, 1] (hasN [2, 3]) = false := by decide +kernel
  exact h
theorem tw_e0 (A B : Nat) : eachB (twoL A B) [0, 1] (hasN [2, 3]) = true := by
  have h : eachB (twoL 0 0) [0, 1] (hasN [2, 3]) = true := by decide +kernel
  exact h
theorem tw_q1 (A B : Nat) : quoB (twoL A B) [0, 1] (hasN [2, 3, 4]) = true := by
  have h : quoB (twoL 0 0) [0, 1] (hasN [2, 3, 4]) = true := by decide +kernel
  exact h
theorem tw_d1 (A B : Nat) : doneB (twoL A B) [0, 1] (hasN [2, 3, 4]) = false := by
  have h : doneB (twoL 0 0) [0, 1] (hasN [2, 3, 4]) = false := by decide +kernel
  exact h
theorem tw_w (A B : Nat) : pickL (twoL A B) [0, 1] [2, 3, 4] false = [1, 5] := by
  have h : pickL (twoL 0 0) [0, 1] [2, 3, 4] false = [1, 5] := by decide +kernel
  exact h
theorem tw_n (A B : Nat) : pickL (twoL A B) [0, 1] [2, 3, 4] true = [2, 3, 4] := by
  have h : pickL (twoL 0 0) [0, 1] [2, 3, 4] true = [2, 3, 4] := by decide +kernel
  exact h
theorem il_15 (X : World) (n : Nat) (h : X.heap.size = n) : Il (X.alloc (.cells #[.int .i64 1, .int .i64 5] 3)) (some ⟨n, 0, none⟩) 2 [1, 5] := by
  subst h
  exact il_row (heap_alloc_new X _) rfl 2
theorem il_234 (X : World) (n : Nat) (h : X.heap.size = n) : Il (X.alloc (.cells #[.int .i64 2, .int .i64 3, .int .i64 4] 3)) (some ⟨n, 0, none⟩) 3 [2, 3, 4] := by
  subst h
  exact il_row (heap_alloc_new X _) rfl 3
/-- A tally that takes something up changes nothing below its blocks. -/
theorem add_moves {w0 w w' : World} {F F' : Nat → Prop} (hb : Below w0.heap.size w0 w) (hF : ∀ x, F x → w0.heap.size ≤ x) (hk : Keeps F w w') (hn : ∀ x, F' x → F x ∨ w.heap.size ≤ x) : Below w0.heap.size w0 w' ∧ ∀ x, F' x → w0.heap.size ≤ x :=
  ⟨hb.trans (hk.below hb.size fun x hx hs => by have := hF x hs; omega), fun x hx => by
    rcases hn x hx with h | h
    · exact hF x h
    · exact Nat.le_trans hb.size h⟩
theorem TallyC.later {PT : World → World → Nat → List Sh → List Int → List Int → (Nat → Prop) → Prop} (TC : TallyC PT) {W0 w w' : World} {b : Nat} {l : List Sh} {P N : List Int} {F : Nat → Prop} (h : PT W0 w b l P N F) (hb : Below w.heap.size w w') : PT W0 w' b l P N F :=
  TC.keep h (Keeps.ofBelow (S := fun _ => False) hb) (fun _ h => h.elim) (fun _ _ h => h)

set_option maxRecDepth 100000 in
set_option maxHeartbeats 4000000 in
theorem tlive5_any {PT : World → World → Nat → List Sh → List Int → List Int → (Nat → Prop) → Prop} (TC : TallyC PT) (w : World) : Calls Try.prog 10 #[] w fun e w' => e = .returned (.bool true) ∧ Below w.heap.size w w' := by
  have HB := Lib.hid (Below.refl w.heap.size w)
  go_enter Try.func10, Try.ntmps10
  go_wp2_with fail
  refine (two5_any _).mono ?_
  rintro e W1 ⟨A, B, C, rfl, hh, hb⟩
  have HTP := Lib.hid (topo_of (two_topo A B))
  replace HB := Lib.hid (blThen HB.out hb)
  clear hb
  go_wp2_with fail
  refine (TC.new W1 _ _ _ (twoL A B) _ _ [0, 1] HTP.out (by decide) hh (blAlloc (Below.refl _ _) _) (il_two _ _ rfl)).mono ?_
  rintro e _ ⟨b, F, rfl, hp, hb, hf⟩
  rw [tw_places] at hp
  have HP := Lib.hid hp
  have HF : Hid (∀ x, F x → w.heap.size ≤ x) := fun x hx => Nat.le_trans (Nat.le_trans HB.out.size (by simp)) (hf x hx)
  replace hb := blThen (blAlloc (Below.refl _ _) _) hb
  replace HB := Lib.hid (blThen HB.out hb)
  clear hb hp hf hh HTP
  go_wp2_with fail
  refine (TC.add (2) (by decide) (by decide) HP.out).mono ?_
  rintro e _ ⟨F2, rfl, hp, hk, hn⟩
  have hq := add_moves HB.out HF.out hk hn
  replace HB := Lib.hid hq.1
  replace HF := Lib.hid hq.2
  clear hq
  rw [tw_an] at hp
  replace HP := Lib.hid hp
  clear hp hk hn
  rw [tw_av]
  go_wp2_with fail
  refine (TC.add (3) (by decide) (by decide) HP.out).mono ?_
  rintro e _ ⟨F2, rfl, hp, hk, hn⟩
  have hq := add_moves HB.out HF.out hk hn
  replace HB := Lib.hid hq.1
  replace HF := Lib.hid hq.2
  clear hq
  rw [tw_bn] at hp
  replace HP := Lib.hid hp
  clear hp hk hn
  rw [tw_bv]
  go_wp2_with fail
  refine (TC.add (3) (by decide) (by decide) HP.out).mono ?_
  rintro e _ ⟨F2, rfl, hp, hk, hn⟩
  have hq := add_moves HB.out HF.out hk hn
  replace HB := Lib.hid hq.1
  replace HF := Lib.hid hq.2
  clear hq
  rw [tw_cn] at hp
  replace HP := Lib.hid hp
  clear hp hk hn
  rw [tw_cv]
  go_wp2_with fail
  refine (TC.add (6) (by decide) (by decide) HP.out).mono ?_
  rintro e _ ⟨F2, rfl, hp, hk, hn⟩
  have hq := add_moves HB.out HF.out hk hn
  replace HB := Lib.hid hq.1
  replace HF := Lib.hid hq.2
  clear hq
  rw [tw_dn] at hp
  replace HP := Lib.hid hp
  clear hp hk hn
  rw [tw_dv]
  go_wp2_with fail
  refine (TC.quorum (by decide) HP.out).mono ?_
  rintro e _ ⟨rfl, hb⟩
  replace HB := Lib.hid (blThen HB.out hb)
  replace HP := Lib.hid (TC.later HP.out hb)
  clear hb
  rw [tw_q0]
  go_wp2_with fail
  refine (TC.each (by decide) HP.out).mono ?_
  rintro e _ ⟨rfl, hb⟩
  replace HB := Lib.hid (blThen HB.out hb)
  replace HP := Lib.hid (TC.later HP.out hb)
  clear hb
  rw [tw_e0]
  go_wp2_with fail
  refine (TC.add (4) (by decide) (by decide) HP.out).mono ?_
  rintro e _ ⟨F2, rfl, hp, hk, hn⟩
  have hq := add_moves HB.out HF.out hk hn
  replace HB := Lib.hid hq.1
  replace HF := Lib.hid hq.2
  clear hq
  rw [tw_en] at hp
  replace HP := Lib.hid hp
  clear hp hk hn
  rw [tw_ev]
  go_wp2_with fail
  refine (TC.quorum (by decide) HP.out).mono ?_
  rintro e _ ⟨rfl, hb⟩
  replace HB := Lib.hid (blThen HB.out hb)
  replace HP := Lib.hid (TC.later HP.out hb)
  clear hb
  rw [tw_q1]
  go_wp2_with fail
  refine (TC.all (by decide) HP.out).mono ?_
  rintro e _ ⟨rfl, hb⟩
  replace HB := Lib.hid (blThen HB.out hb)
  replace HP := Lib.hid (TC.later HP.out hb)
  clear hb
  rw [tw_d1]
  go_wp2_with fail
  refine (TC.waiting (by decide) HP.out).mono ?_
  rintro e _ ⟨_, rfl, ho, hb⟩
  obtain ⟨aw, cw, rfl⟩ := ho.form
  have HIw := Lib.hid ho.at
  clear ho
  replace HB := Lib.hid (blThen HB.out hb)
  replace HP := Lib.hid (TC.later HP.out hb)
  clear hb
  rw [tw_w] at HIw ⊢
  go_wp2_with fail
  refine (ints_any _ _ _ _ [1, 5] [1, 5] _ (by decide) (HIw.out.later (blAlloc (Below.refl _ _) _)) (il_15 _ _ rfl)).mono ?_
  rintro e _ ⟨rfl, hb⟩
  replace hb := blThen (blAlloc (Below.refl _ _) _) hb
  replace HB := Lib.hid (blThen HB.out hb)
  replace HIw := Lib.hid (HIw.out.later hb)
  replace HP := Lib.hid (TC.later HP.out hb)
  clear hb
  rw [show sameI [1, 5] [1, 5] = true from rfl]
  clear HIw
  go_wp2_with fail
  refine (TC.nodes (by decide) HP.out).mono ?_
  rintro e _ ⟨_, rfl, ho, hb⟩
  obtain ⟨an, cn, rfl⟩ := ho.form
  have HIn := Lib.hid ho.at
  clear ho
  replace HB := Lib.hid (blThen HB.out hb)
  replace HP := Lib.hid (TC.later HP.out hb)
  clear hb
  rw [tw_n] at HIn ⊢
  go_wp2_with fail
  refine (ints_any _ _ _ _ [2, 3, 4] [2, 3, 4] _ (by decide) (HIn.out.later (blAlloc (Below.refl _ _) _)) (il_234 _ _ rfl)).mono ?_
  rintro e _ ⟨rfl, hb⟩
  replace hb := blThen (blAlloc (Below.refl _ _) _) hb
  replace HB := Lib.hid (blThen HB.out hb)
  replace HIn := Lib.hid (HIn.out.later hb)
  replace HP := Lib.hid (TC.later HP.out hb)
  clear hb
  rw [show sameI [2, 3, 4] [2, 3, 4] = true from rfl]
  clear HIn
  go_wp2
  go_ret
  exact ⟨rfl, HB.out⟩

end Go.Proofs.Ytopogdfmbdbimaa
