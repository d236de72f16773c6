/- Add, Nodes, Waiting, Quorum, All, Each of a tally of the program's. Conditions: lists of at most a million. -/
import Derived.Test.YtopogdfmbdbimaaWf
set_option linter.unusedVariables false
namespace Go.Proofs.Ytopogdfmbdbimaa
open Go.RowKit Go.Sort Go.Shelf Go.Maps

theorem inD_put {D : DataW Unit} (hD : IsMap D) (n m : Int) : inD (D.put (.int .i64 n) (.agg [])) m = (inD D m || (n == m)) := by
  unfold inD
  by_cases h : n = m
  · subst h
    rw [has_put_same (k := .int .i64 n) hD (show WideAt.IsKeyLit (.int .i64 n) from trivial)]
    simp
  · rw [has_put_other (fun e => h (by simpa using e.symm))]
    have : (n == m) = false := by simpa using h
    rw [this, Bool.or_false]

set_option maxRecDepth 100000 in
set_option maxHeartbeats 2000000 in
theorem tadd_any (w : World) (A B b mb k : Nat) (vs vn : Value) (ms : List Sh) (ns : List Int) (D : DataW Unit) (n : Int) (h : PTd w A B b mb k vs vn ms ns D) (hlen : ns.length ≤ 1000000) (hk : k ≤ 1000000) (hwf : (Lit.int .i64 n).wf = true) :
    Calls Try.prog 26 #[.pointer (some ⟨b, 0, none⟩), .int .i64 n] w fun e w' => e = .returned (.bool (!inD D n && hasN ns n)) ∧ ∃ D' k', (k' = k ∨ ((!inD D n && hasN ns n) = true ∧ k' = k + 1)) ∧ PTd w' A B b mb k' vs vn ms ns D' ∧ (∀ m, inD D' m = (inD D m || ((!inD D n && hasN ns n) && (n == m)))) ∧ Keeps (fun x => x = mb) w w' := by
  obtain ⟨na, nc, rfl⟩ := h.nds.form
  have c1 := h.blk.c1
  have c2 := h.blk.c2
  have hbl := h.blk.lt
  have HP := Lib.hid h
  have HH := Lib.hid (thas_any b mb k vs (.slice na ns.length nc) D n w hwf h.blk h.map)
  have HK := Lib.hid (keyOf_int_mk Try.underlying3 hwf)
  have HIL := Lib.hid h.nds.at
  have HKM : Hid (k < maxLen) := by show _ < _; unfold maxLen; omega
  clear h hwf hk
  generalize hi : inD D n = i at *
  have HI := Lib.hid hi
  clear hi
  cases i
  · generalize hc : hasN ns n = c at *
    have HC := Lib.hid hc
    clear hc
    have HCC : Hid (∀ w' : World, Below w.heap.size w w' → Calls Try.prog 43 #[.slice na ns.length nc, .int .i64 n] w' fun e w2 => e = .returned (.bool c) ∧ Below w'.heap.size w' w2) := fun w' hb => by
      rw [← HC.out]
      exact contains_any na nc ns n w' hlen (HIL.out.later hb)
    have HKP := Lib.hid (fun (w2 : World) (hb : Below w.heap.size w w2) => (⟨cell_in hb hbl c1, cell_in hb hbl c2, Nat.lt_of_lt_of_le hbl hb.size⟩ : w2.cell? ⟨b, 1, none⟩ = some (.slice na ns.length nc) ∧ w2.cell? ⟨b, 2, none⟩ = some (.map (some mb)) ∧ b < w2.heap.size))
    clear hlen c1 c2 hbl
    cases c
    · go_enter Try.func26, Try.ntmps26
      go_wp2_with (first
        | (go_at_call 24; refine HH.out.mono ?_; rintro e w1 ⟨rfl, hb⟩; obtain ⟨c1, c2, hbl⟩ := HKP.out w1 hb; have HB := Lib.hid hb; clear hb)
        | (go_at_call 43; refine (HCC.out _ HB.out).mono ?_; rintro e w2 ⟨rfl, hb⟩; have HB2 := Lib.hid (blThen HB.out hb); clear hb))
      go_ret
      exact ⟨rfl, D, k, .inl rfl, HP.out.later HB2.out, fun m => by simp, Keeps.ofBelow HB2.out⟩
    · go_enter Try.func26, Try.ntmps26
      go_wp2_with (first
        | (go_at_call 24; refine HH.out.mono ?_; rintro e w1 ⟨rfl, hb⟩; obtain ⟨c1, c2, hbl⟩ := HKP.out w1 hb; have HB := Lib.hid hb; clear hb)
        | (go_at_call 43; refine (HCC.out _ HB.out).mono ?_; rintro e w2 ⟨rfl, hb⟩; have HB2 := Lib.hid (blThen HB.out hb); clear hb c1 c2 hbl; obtain ⟨c1, c2, hbl⟩ := HKP.out w2 HB2.out; have HP2 := Lib.hid (HP.out.later HB2.out))
        | (at_mapUpdate; refine wpList_mapUpdate_own _ rfl _ _ _ 46 rfl 3 58 lawI Try.underlying46 unitElem mb k D rfl HP2.out.map HKM.out _ _ _ rfl rfl HK.out (.agg []) [] unitElem_mk ?_; intro w3 hm3 hg3; have HM3 := Lib.hid hm3; have HG3 := Lib.hid hg3; clear hm3 hg3))
      go_ret
      have hks : Keeps (fun x => x = mb) w2 w3 := Keeps.grown HG3.out fun x _ e => by simpa using e.symm
      have hp2 := HP2.out
      refine ⟨rfl, _, k + 1, .inr ⟨rfl, rfl⟩, ⟨?_, ?_, ?_, ?_, HM3.out, hp2.lob, hp2.lom, hp2.hib, hp2.him, hp2.his, hp2.hin, hp2.hie, Nat.le_trans hp2.size hks.size⟩, fun m => ?_, (Keeps.ofBelow HB2.out).then hks⟩
      · refine (hks.block b hp2.blk.lt fun e => ?_).trans hp2.blk
        subst e
        obtain ⟨es, clock, hh, _⟩ := hp2.map
        have := hp2.blk
        unfold Tly at this
        rw [hh] at this
        cases this
      · refine hp2.own.keep hks fun x hx e => ?_
        subst e
        obtain ⟨_, cur, hh2⟩ := hp2.own.block _ hx
        obtain ⟨es, clock, hh, _⟩ := hp2.map
        rw [hh] at hh2
        cases hh2
      · intro m hm
        refine (hp2.each m hm).keep hks fun x hx e => ?_
        subst e
        obtain ⟨_, cur, hh2⟩ := (hp2.each m hm).blockI _ hx
        obtain ⟨es, clock, hh, _⟩ := hp2.map
        rw [hh] at hh2
        cases hh2
      · refine hp2.nds.keep hks fun x hx e => ?_
        subst e
        obtain ⟨_, cur, hh2⟩ := hp2.nds.blockI _ hx
        obtain ⟨es, clock, hh, _⟩ := hp2.map
        rw [hh] at hh2
        cases hh2
      · rw [inD_put (World.ownsMap.isMap hp2.map)]
        simp
  · go_enter Try.func26, Try.ntmps26
    go_wp2_with (go_at_call 24; refine HH.out.mono ?_; rintro e w1 ⟨rfl, hb⟩; have HB := Lib.hid hb; clear hb)
    go_ret
    exact ⟨rfl, D, k, .inl rfl, HP.out.later HB.out, fun m => by simp, Keeps.ofBelow HB.out⟩

theorem keysL_len {w : World} {mb k : Nat} {D : DataW Unit} (h : MapI w mb k D) : (intKeys D).length ≤ k ∧ Maps.size D ≤ k := by
  have h1 := World.ownsMap.size_le h
  obtain ⟨es, rfl⟩ := World.ownsMap.isMap h
  refine ⟨?_, h1⟩
  have : (intKeys (.map es : DataW Unit)).length = Maps.size (.map es : DataW Unit) := by
    show (es.map _).length = _
    rw [List.length_map]
    rfl
  omega
/-- The keys, sorted, are a row that rises, with just the numbers that have answered. -/
theorem keys_row {w : World} {mb k : Nat} {D : DataW Unit} (h : MapI w mb k D) {l : List Int} (hl : l.Pairwise (· < ·)) (hm : ∀ n, n ∈ l ↔ inD D n = true) : sortL (intKeys D) = l := by
  have hn : l.Nodup := List.nodup_iff_pairwise_ne.2 (hl.imp fun h => by omega)
  have hp : l.Perm (intKeys D) := CollectedI.perm (left := fun _ => false) ⟨hn, fun x => (hm x).trans ⟨fun h => ⟨h, rfl⟩, fun h => h.1⟩⟩ h lawI Try.underlying3 (fun _ => rfl)
  rw [show sortL (intKeys D) = sortL l from (mergeSort_of_perm_i hp).symm]
  refine rises_uniq (strict_of (sortL_rises l) ?_) hl (sortL_mem l)
  exact (List.mergeSort_perm l _).nodup_iff.2 hn

set_option maxHeartbeats 1000000 in
theorem tnodes_any (w : World) (A B b mb k : Nat) (vs vn : Value) (ms : List Sh) (ns : List Int) (D : DataW Unit) (h : PTd w A B b mb k vs vn ms ns D) (hk : k ≤ 1000000) :
    Calls Try.prog 20 #[.pointer (some ⟨b, 0, none⟩)] w (RetI w (sortL (intKeys D))) := by
  have c2 := h.blk.c2
  have hbl := h.blk.lt
  have HKL := Lib.hid (keysL_len h.map)
  have hb1 := blAlloc (Below.refl w.heap.size w) (.cells #[.map (some mb)] 46)
  have HB1 := Lib.hid hb1
  have HBX := Lib.hid (box1_new w 46 (.map (some mb)))
  have HS := Lib.hid (sortedKeys_any w.heap.size mb k D _ (by have := HKL.out; omega) (by have := HKL.out; omega) HBX.out (h.map.later hb1 h.map.lt))
  clear h hk hb1
  go_enter Try.func20, Try.ntmps20
  go_wp2_with (first
    | (go_at_call 40; refine (keys_any (some mb) _).mono ?_; rintro e w1 ⟨rfl, rfl⟩)
    | (go_at_call 33; refine HS.out.mono ?_; rintro e w1 ⟨v, rfl, ho, hb⟩; have HO := Lib.hid ho; have HB := Lib.hid (blThen HB1.out hb); clear ho hb))
  go_ret
  exact ⟨v, rfl, HO.out.mono (by simp), HB.out⟩

set_option maxHeartbeats 1000000 in
theorem twaiting_any (w : World) (A B b mb k : Nat) (vs vn : Value) (ms : List Sh) (ns : List Int) (D : DataW Unit) (h : PTd w A B b mb k vs vn ms ns D) (hlen : ns.length ≤ 1000000) (hwf : WfL ns) :
    Calls Try.prog 22 #[.pointer (some ⟨b, 0, none⟩)] w (RetI w (ns.filter fun x => !inD D x)) := by
  obtain ⟨na, nc, rfl⟩ := h.nds.form
  have c1 := h.blk.c1
  have hbl := h.blk.lt
  have HL := Lib.hid (late_any b mb k vs _ D na nc ns w hlen hwf h.nds.at h.blk h.map)
  clear h hlen hwf
  go_enter Try.func22, Try.ntmps22
  go_wp2_with (go_at_call 42; refine HL.out.mono ?_; rintro e w1 ⟨v, rfl, ho, hb⟩; have HO := Lib.hid ho; have HB := Lib.hid hb; clear ho hb)
  go_ret
  exact ⟨v, rfl, HO.out, HB.out⟩

theorem quorum_need (s : Sh) (w : World) (hs : s.nodes.length ≤ 1000000) : Calls Try.prog 36 #[shV s] w fun e w' => e = .returned (.int .i64 ((s.nodes.length / 2 + 1 : Nat) : Int)) ∧ Below w.heap.size w w' := by
  refine (quorum_any s w).mono ?_
  rintro e w' ⟨rfl, hb⟩
  refine ⟨?_, hb⟩
  have e1 : ((s.nodes.length : Int).tdiv 2) = ((s.nodes.length / 2 : Nat) : Int) := by
    rw [Int.tdiv_eq_ediv_of_nonneg (by omega)]
    omega
  rw [e1, w64_nat (x := ((s.nodes.length / 2 : Nat) : Int)) (by omega) (by omega), w64_nat (by omega) (by omega)]
  rfl
set_option maxHeartbeats 1000000 in
theorem all_need (s : Sh) (w : World) (hs : s.nodes.length ≤ 1000000) : Calls Try.prog 38 #[shV s] w fun e w' => e = .returned (.int .i64 (s.nodes.length : Int)) ∧ Below w.heap.size w w' := by
  unfold shV
  clear hs
  go_enter Try.func38, Try.ntmps38
  go_wp2
  go_ret
  exact ⟨rfl, blAlloc (Below.refl _ _) _⟩
set_option maxHeartbeats 1000000 in
theorem each_need (s : Sh) (w : World) (hs : s.nodes.length ≤ 1000000) : Calls Try.prog 39 #[shV s] w fun e w' => e = .returned (.int .i64 ((1 : Nat) : Int)) ∧ Below w.heap.size w w' := by
  unfold shV
  clear hs
  go_enter Try.func39, Try.ntmps39
  go_wp2
  go_ret
  exact ⟨rfl, blAlloc (Below.refl _ _) _⟩

section
variable (w : World) (A B b mb k : Nat) (vs vn : Value) (ms : List Sh) (ns : List Int) (D : DataW Unit) (h : PTd w A B b mb k vs vn ms ns D) (hlen : ms.length ≤ 1000000) (hwf : ∀ m ∈ ms, m.nodes.length ≤ 1000000 ∧ WfL m.nodes)
include h hlen hwf
set_option maxHeartbeats 1000000 in
theorem tquorum_any : Calls Try.prog 13 #[.pointer (some ⟨b, 0, none⟩)] w fun e w' => e = .returned (.bool (enough (fun n => n / 2 + 1) ms D)) ∧ Below w.heap.size w w' := by
  have HI := Lib.hid (inEach_any 36 (fun n => n / 2 + 1) (fun n hn => by show n / 2 + 1 ≤ _; omega) quorum_need (enters_of Try.func36 (by kernel_rfl) rfl) w A B b mb k vs vn ms ns D h hlen hwf)
  clear h hlen hwf
  go_enter Try.func13, Try.ntmps13
  go_wp2_with (go_at_call 35; refine HI.out.mono ?_; rintro e w1 ⟨rfl, hb⟩)
  go_ret
  exact ⟨rfl, hb⟩
set_option maxHeartbeats 1000000 in
theorem tall_any : Calls Try.prog 15 #[.pointer (some ⟨b, 0, none⟩)] w fun e w' => e = .returned (.bool (enough (fun n => n) ms D)) ∧ Below w.heap.size w w' := by
  have HI := Lib.hid (inEach_any 38 (fun n => n) (fun n hn => by show n ≤ _; omega) all_need (enters_of Try.func38 (by kernel_rfl) rfl) w A B b mb k vs vn ms ns D h hlen hwf)
  clear h hlen hwf
  go_enter Try.func15, Try.ntmps15
  go_wp2_with (go_at_call 35; refine HI.out.mono ?_; rintro e w1 ⟨rfl, hb⟩)
  go_ret
  exact ⟨rfl, hb⟩
set_option maxHeartbeats 1000000 in
theorem teach_any : Calls Try.prog 17 #[.pointer (some ⟨b, 0, none⟩)] w fun e w' => e = .returned (.bool (enough (fun _ => 1) ms D)) ∧ Below w.heap.size w w' := by
  have HI := Lib.hid (inEach_any 39 (fun _ => 1) (fun n hn => by show 1 ≤ _; omega) each_need (enters_of Try.func39 (by kernel_rfl) rfl) w A B b mb k vs vn ms ns D h hlen hwf)
  clear h hlen hwf
  go_enter Try.func17, Try.ntmps17
  go_wp2_with (go_at_call 35; refine HI.out.mono ?_; rintro e w1 ⟨rfl, hb⟩)
  go_ret
  exact ⟨rfl, hb⟩
end

end Go.Proofs.Ytopogdfmbdbimaa
