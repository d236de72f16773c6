/- Lists of dependencies that came in, with the reach of each list. Conditions: none. -/
import Derived.Deep.RegionHeld3
import Derived.WalkSpells
import Derived.Test.YtjlkgbejldcklaaGreatMg52
import Derived.Test.YtjlkgbejldcklaaGreatMg40
import Derived.Test.YtjlkgbejldcklaaGreatMg37
import Derived.Test.YtjlkgbejldcklaaGreatMg44
/- The reference's Merge of Deps. Conditions: at most a thousand Deps, a million stamps in all. -/
set_option linter.unusedVariables false
set_option linter.unusedSimpArgs false
namespace Go.Proofs.YtjlkgbejldcklaaGreat
open S1
namespace SD
open Go.ChangeShapes Go.WideShapes Go.ChangeAt Go.RowKit Go.Joins Go.Deep

theorem addD_few : ∀ (d : Dd) (s : Int) (l : List (Int × Int)), (addD d s l).length ≤ d.length + 1 ∧ idsN (addD d s l) ≤ idsN d + l.length ∧ addD d s l ≠ []
  | [], s, l => by
    rw [addD_nil]
    refine ⟨by simp, ?_, by simp⟩
    rw [idsN_cons, idsN_nil]
    have := sortL_length l
    simpa using this
  | x :: r, s, l => by
    obtain ⟨h1, h2, h3⟩ := addD_few r s l
    rw [addD_cons, idsN_cons]
    split
    · refine ⟨by simpa using h1, ?_, by simp⟩
      rw [idsN_cons]
      omega
    · split
      · refine ⟨by simp, ?_, by simp⟩
        rw [idsN_cons]
        have := sortL_length (x.2 ++ l)
        rw [List.length_append] at this
        show (sortL (x.2 ++ l)).length + _ ≤ _
        omega
      · refine ⟨by simp, ?_, by simp⟩
        rw [idsN_cons, idsN_cons]
        have := sortL_length l
        show (sortL l).length + _ ≤ _
        omega
theorem joinD_snoc (d : Dd) (x : Int × List (Int × Int)) : joinD [] (d ++ [x]) = addD (joinD [] d) x.1 x.2 := by
  unfold joinD
  rw [List.foldl_append]
  rfl
theorem joinD_few (d : Dd) : ∀ acc : Dd, (joinD acc d).length ≤ acc.length + d.length ∧ idsN (joinD acc d) ≤ idsN acc + idsN d := by
  induction d with
  | nil => intro acc; exact ⟨by simp [joinD], by simp [joinD, idsN]⟩
  | cons x r ih =>
    intro acc
    obtain ⟨h1, h2⟩ := ih (addD acc x.1 x.2)
    obtain ⟨h3, h4, _⟩ := addD_few acc x.1 x.2
    have e : joinD acc (x :: r) = joinD (addD acc x.1 x.2) r := rfl
    rw [e, idsN_cons, List.length_cons]
    omega
/-- What is merged so far: nil, or a row of Deps. -/
def OutAt (w : World) (v : Value) (d : Dd) : Prop := (v = .slice none 0 0 ∧ d = []) ∨ ∃ g o c L, v = .slice (some ⟨g, o, none⟩) L.length c ∧ L.length ≤ c ∧ g < w.heap.size ∧ RowD w g o L ∧ Dl w (some ⟨g, o, none⟩) L ∧ toD L = d
theorem OutAt.later {w w' : World} {v : Value} {d : Dd} (h : OutAt w v d) (hb : Below w.heap.size w w') : OutAt w' v d := by
  rcases h with h | ⟨g, o, c, L, hv, hc, hg, hr, hl, ht⟩
  · exact .inl h
  · exact .inr ⟨g, o, c, L, hv, hc, Nat.lt_of_lt_of_le hg hb.size, hr.later hg hb, hl.later hb, ht⟩
theorem OutAt.form {w : World} {v : Value} {d : Dd} (h : OutAt w v d) : ∃ a n c, v = .slice a n c := by
  rcases h with ⟨rfl, _⟩ | ⟨g, o, c, L, rfl, _⟩
  · exact ⟨_, _, _, rfl⟩
  · exact ⟨_, _, _, rfl⟩
theorem retD_out {w w' : World} {r : Dd} {v : Value} (h : RetD w r (.returned v) w') (hne : r ≠ []) : OutAt w' v r ∧ Below w.heap.size w w' := by
  obtain ⟨a, c, l, hv, ht, hl, hn, hc, hb⟩ := h
  simp only [Ending.returned.injEq] at hv
  have hl0 : l ≠ [] := by rintro rfl; exact hne (by rw [← ht]; rfl)
  obtain ⟨g, o, rfl, hg, hr⟩ := hl.2 hl0
  exact ⟨.inr ⟨g, o, c, l, hv, hc, hg, hr, hl, ht⟩, hb⟩
theorem out_ret {w w' : World} {r : Dd} {v : Value} (h : OutAt w' v r) (hb : Below w.heap.size w w') : RetD w r (.returned v) w' := by
  rcases h with ⟨rfl, rfl⟩ | ⟨g, o, c, L, rfl, hc, hg, hr, hl, ht⟩
  · exact ⟨none, 0, [], rfl, rfl, Dl.nil _ _, fun _ => rfl, Nat.le_refl _, hb⟩
  · exact ⟨_, c, L, rfl, ht, hl, fun h => (by cases h), hc, hb⟩
theorem radd_out {w : World} {v : Value} {d : Dd} (h : OutAt w v d) (s : Int) (ax : Option Addr) (cx : Nat) (X : List (Int × Int)) (hd : d.length ≤ 1000000) (hn : idsN d + X.length ≤ 1000000) (hx : SL w ax X) (hxn : ax = none → cx = 0) :
    Calls Tryz.prog 27 #[v, .int .i64 s, .slice ax X.length cx] w (fun e w' => ∃ v', e = .returned v' ∧ OutAt w' v' (addD d s X) ∧ Below w.heap.size w w') := by
  have fin : ∀ e w', RetD w (addD d s X) e w' → ∃ v', e = .returned v' ∧ OutAt w' v' (addD d s X) ∧ Below w.heap.size w w' := by
    intro e w' h
    have he : ∃ v', e = .returned v' := by obtain ⟨a, c, l, hv, _⟩ := h; exact ⟨_, hv⟩
    obtain ⟨v', rfl⟩ := he
    exact ⟨v', rfl, retD_out h (addD_few d s X).2.2⟩
  rcases h with ⟨rfl, rfl⟩ | ⟨g, o, c, L, rfl, hc, hg, hr, hl, rfl⟩
  · exact (radd_nil s ax cx X w (by omega) hx hxn).mono fin
  · refine (radd_any g o c L s ax cx X w (by rw [toD_length] at hd; exact hd) (fun x hm => ?_) (by omega) hc hl hg hr hx hxn).mono fin
    have := idsN_mem (d := toD L) (x := x.d) (List.mem_map.2 ⟨x, hm, rfl⟩)
    have e : x.d.2.length = x.ids.length := rfl
    omega

end SD
end Go.Proofs.YtjlkgbejldcklaaGreat

/- The reference's Merge of Deps, walked. Conditions: at most a thousand Deps, a million stamps in all. -/
set_option linter.unusedVariables false
set_option linter.unusedSimpArgs false
namespace Go.Proofs.YtjlkgbejldcklaaGreat
open S1
namespace SD
open Go.ChangeShapes Go.WideShapes Go.ChangeAt Go.RowKit Go.Joins Go.Deep

theorem allR_take1 {rs : List DRow} {k j : Nat} {r : DRow} {s : Dp} (h : rs[k]? = some r) (hs : r.2.1[j]? = some s) : toD (allR (rs.take k) ++ r.2.1.take (j + 1)) = toD (allR (rs.take k) ++ r.2.1.take j) ++ [(s.sh, s.ids)] := by
  rw [List.take_add_one, hs, toD_append, toD_append, toD_append, List.append_assoc]
  rfl
theorem part_ids {rs : List DRow} {k j : Nat} {r : DRow} {s : Dp} (h : rs[k]? = some r) (hs : r.2.1[j]? = some s) : idsN (toD (allR (rs.take k) ++ r.2.1.take j)) + s.ids.length ≤ idsN (toD (allR rs)) := by
  have e1 := allR_split rs (k + 1)
  rw [allR_take h] at e1
  have e2 : r.2.1 = r.2.1.take (j + 1) ++ r.2.1.drop (j + 1) := (List.take_append_drop _ _).symm
  rw [e1, toD_append, toD_append, idsN_append, idsN_append, toD_append, idsN_append]
  have h3 : idsN (toD r.2.1) = idsN (toD (r.2.1.take (j + 1))) + idsN (toD (r.2.1.drop (j + 1))) := by
    rw [← idsN_append, ← toD_append, List.take_append_drop]
  have h4 : idsN (toD (r.2.1.take (j + 1))) = idsN (toD (r.2.1.take j)) + s.ids.length := by
    rw [toD_take, toD_take]
    exact idsN_take (toD_at hs)
  omega

set_option maxRecDepth 100000 in
set_option maxHeartbeats 4000000 in
theorem refmerge_any (A : Option Addr) (c : Nat) (rs : List DRow) (w : World) (hlen : rs.length ≤ 1000000) (hall : (allR rs).length ≤ 100000) (hn : idsN (toD (allR rs)) ≤ 1000000) (hl : Dls w A rs) :
    Calls Tryz.prog 24 #[.slice A rs.length c] w (RetD w (mergeD (rs.map fun r => toD r.2.1))) := by
  have HL := Lib.hid hl
  have HALL := Lib.hid hall
  have HN := Lib.hid hn
  clear hl hall hn
  go_enter Tryz.func24, Tryz.ntmps24
  go_wp2_with fail
  go_loopw [3, 4] (fun v i wr => ∃ k : Nat, k ≤ rs.length ∧ i = .int .i64 k ∧ OutAt wr v (joinD [] (toD (allR (rs.take k)))) ∧ Below w.heap.size w wr) (fun _ i _ => rs.length - (intOf i).toNat)
  case atStart => exact ⟨0, Nat.zero_le _, rfl, .inl ⟨rfl, rfl⟩, Below.refl _ _⟩
  case round =>
    obtain ⟨k, hk, rfl, ho, hb⟩ := hrel
    have HB := Lib.hid hb
    have HO := Lib.hid ho
    obtain ⟨av, nv, cv, rfl⟩ := ho.form
    clear hb ho
    by_cases hlt : k < rs.length
    · obtain ⟨r, hr⟩ := at_ltD hlt
      have HRK := Lib.hid hr
      obtain ⟨G, O, rfl, hG, hcell, hdl⟩ := HL.out.at hr
      unfold drV at hcell
      have hk1 : (k : Int) < (rs.length : Int) := by omega
      have hdk : decide ((k : Int) < (rs.length : Int)) = true := decide_eq_true hk1
      have HR := Lib.hid hdl
      have HC := Lib.hid (fun (W : World) (hb : Below w.heap.size w W) => (⟨cell_in hb hG hcell, Nat.lt_of_lt_of_le hG hb.size⟩ : W.cell? ⟨G, O + k, none⟩ = some (.slice r.1 r.2.1.length r.2.2) ∧ G < W.heap.size))
      have hrl : r.2.1.length ≤ 100000 := by
        have h1 := allR_part HRK.out (Nat.le_refl _)
        have h2 := HALL.out
        rw [List.length_append, List.take_length] at h1
        omega
      clear hr hG hcell hdl
      go_wp2_with fail
      go_loopw [3, 5] (fun v i wr => ∃ j : Nat, j ≤ r.2.1.length ∧ i = .int .i64 j ∧ OutAt wr v (joinD [] (toD (allR (rs.take k) ++ r.2.1.take j))) ∧ Below w.heap.size w wr) (fun _ i _ => r.2.1.length - (intOf i).toNat)
      case atStart => exact ⟨0, Nat.zero_le _, rfl, by rw [List.take_zero, List.append_nil]; exact HO.out, HB.out⟩
      case round =>
        clear HO HB
        obtain ⟨j, hj, rfl, ho, hb⟩ := hrel
        have HB := Lib.hid hb
        have HO := Lib.hid ho
        obtain ⟨av, nv, cv, rfl⟩ := ho.form
        obtain ⟨g0, g1⟩ := HC.out _ hb
        clear hb ho
        by_cases hjl : j < r.2.1.length
        · obtain ⟨s, hs⟩ := at_ltD hjl
          obtain ⟨b, o, hra, hbg, hx, hy, hi⟩ := HR.out.at hs
          have hj1 : (j : Int) < (r.2.1.length : Int) := by omega
          have hdj : decide ((j : Int) < (r.2.1.length : Int)) = true := decide_eq_true hj1
          have HT := Lib.hid (allR_take1 HRK.out hs)
          have HPI := Lib.hid (part_ids HRK.out hs)
          have HPL := Lib.hid (allR_part HRK.out hj)
          have HI := Lib.hid hi
          unfold ilD at hy
          rw [hra] at g0
          have HS := Lib.hid (fun (W : World) (hb : Below w.heap.size w W) => (⟨by have := (HC.out _ hb).1; rw [hra] at this; exact this, cell_in hb hbg hx, cell_in hb hbg hy⟩ : W.cell? ⟨G, O + k, none⟩ = some (.slice (some ⟨b, o, none⟩) r.2.1.length r.2.2) ∧ W.cell? ⟨b, o + j * 2, none⟩ = some (.int .i64 s.sh) ∧ W.cell? ⟨b, o + j * 2 + 1, none⟩ = some (.slice s.ia s.ids.length s.ic)))
          have hbw : b < wr.heap.size := Nat.lt_of_lt_of_le hbg HB.out.size
          generalize hD : toD (allR (rs.take k) ++ r.2.1.take j) = D at *
          have HD2 : Hid (D.length ≤ 1000000 ∧ idsN D + s.ids.length ≤ 1000000) := by
            have h1 := HPL.out
            have h2 := HALL.out
            have h3 := HN.out
            have h4 := HPI.out
            have h5 : D.length = (allR (rs.take k) ++ r.2.1.take j).length := by rw [← hD, toD_length]
            refine ⟨?_, ?_⟩ <;> omega
          have HD3 : Hid ((joinD [] D).length ≤ 1000000 ∧ idsN (joinD [] D) + s.ids.length ≤ 1000000) := by
            have h1 := joinD_few D []
            have h2 := HD2.out
            rw [idsN_nil] at h1
            simp only [List.length_nil] at h1
            refine ⟨?_, ?_⟩ <;> omega
          clear hD hs hx hy hi hbg hra HD2 HPI HPL
          go_wp2_with fail
          go_region_held3 (fun X => X.cell? ⟨G, O + k, none⟩ = some (.slice (some ⟨b, o, none⟩) r.2.1.length r.2.2) ∧ X.cell? ⟨b, o + j * 2, none⟩ = some (.int .i64 s.sh) ∧ X.cell? ⟨b, o + j * 2 + 1, none⟩ = some (.slice s.ia s.ids.length s.ic))
            (first | exact HS.out _ HB2.out | exact HS.out _ HB.out.drew | exact HS.out _ HB.out)
            (first | ((try go_simp); go_at_call 27; go_must (refine (radd_out (HO.out.later (Below.refl _ _).drew) s.sh s.ia s.ic s.ids HD3.out.1 HD3.out.2 (HI.out.1.later HB.out.drew) HI.out.2.1).mono ?_; rintro e w2 ⟨v2, rfl, h1, h5⟩; obtain ⟨a2, n2, c2, rfl⟩ := h1.form; have HO2 := Lib.hid h1; have HB2 : Hid (Below w.heap.size w w2) := blThen HB.out.drew h5; clear h1 h5)))
          all_goals
            go_wp2
            go_roundw
            case rel => exact ⟨j + 1, hjl, by go_num, by rw [HT.out, joinD_snoc]; exact HO2.out, HB2.out⟩
            case measure => simp [intOf]; omega
        · have hge : ¬ (j : Int) < (r.2.1.length : Int) := by omega
          have hdj : decide ((j : Int) < (r.2.1.length : Int)) = false := decide_eq_false hge
          have HT : Hid (allR (rs.take k) ++ r.2.1.take j = allR (rs.take (k + 1))) := by
            show _ = _
            rw [allR_take HRK.out, List.take_of_length_le (l := r.2.1) (by omega)]
          rw [HT.out] at HO
          go_wp2_with fail
          go_roundw
          case rel => exact ⟨k + 1, hlt, by go_num, HO.out, HB.out⟩
          case measure => simp [intOf]; omega
    · have hge : ¬ (k : Int) < (rs.length : Int) := by omega
      have hdk : decide ((k : Int) < (rs.length : Int)) = false := decide_eq_false hge
      have HT : Hid (joinD [] (toD (allR (rs.take k))) = mergeD (rs.map fun r => toD r.2.1)) := by
        show _ = _
        rw [List.take_of_length_le (by omega), mergeD_flat, flat_toD]
      rw [HT.out] at HO
      go_wp2
      go_ret
      exact out_ret HO.out HB.out

end SD
end Go.Proofs.YtjlkgbejldcklaaGreat

/- Lists of dependencies that came in, with the reach of each list. Conditions: none. -/
set_option linter.unusedVariables false
set_option maxRecDepth 100000
namespace Go.Proofs.YtjlkgbejldcklaaGreat
open S1
namespace SD
open Go.ChangeShapes Go.WideShapes Go.ChangeAt Go.RowKit Go.Joins Go.Deep

theorem cells_dl6 : Tryz.prog.cellsOf 22 = 1 := by kernel_rfl
/-- What is known of one list of a row of lists. -/
def RowOk (N : List Nat) (r : DRow) : Prop := r.2.1.length ≤ 9223372036854775807 ∧ (r.1 = none → r.2.2 = 0) ∧ r.2.1.length ≤ r.2.2 ∧ WfD r.2.1 ∧ (∀ s ∈ r.2.1, s.ids.length ≤ 9223372036854775807) ∧ ∀ s ∈ r.2.1, s.ids.length = 0 ∨ ∃ n ∈ N, s.ids.length ≤ n

section
variable {H : Type} {enc : TypeId × Value → H}
theorem dlists_cells {w : World} {cs : List Value} {fuel : Nat} {x : DataW H × List MemPlace} (hf' : DataW.trod enc Tryz.prog w 0 (fun _ => true) true fuel 40 cs = some x) :
    ∃ (a : Option Addr) (rs : List DRow) (cap : Nat), cs = [.slice a rs.length cap] ∧ Dls w a rs ∧ rs.length ≤ 9223372036854775807 ∧ (a = none → cap = 0) ∧ rs.length ≤ cap ∧ ∀ r ∈ rs, RowOk (x.1.weights Tryz.prog 40) r := by
  rcases open_slice Tryz.underlying40 hf' with ⟨hcs, _⟩ | ⟨a, len, cap, m, n, D, Pl, hcs, _, hl, hm, hmm, hx, hi⟩
  · exact ⟨none, [], 0, hcs, ⟨fun r h => (by cases h), fun h => absurd rfl h⟩, Nat.zero_le _, fun _ => rfl, Nat.le_refl _, fun r h => (by cases h)⟩
  · subst hcs
    simp only [if_true] at hmm
    subst hmm
    have hone : ∀ i, i < len → ∃ q : DRow, w.cell? (a.add i) = some (drV q) ∧ Dl w q.1 q.2.1 ∧ RowOk ((D i).weights Tryz.prog 22) q := by
      intro i hlt
      obtain ⟨cs', hc, ht⟩ := hi i (by omega)
      rw [cells_dl6] at hc
      obtain ⟨_, hlen, hat⟩ := World.cells?_some hc
      match cs', hlen with
      | [c0], _ =>
        obtain ⟨qa, ql, qc, h0, h1, h2, h3, h4, h5, h6, h7⟩ := deps_cells ht
        simp only [List.cons.injEq, and_true] at h0
        subst h0
        refine ⟨(qa, ql, qc), ?_, h1, h2, h3, h4, h5, h6, h7⟩
        have := hat 0 (by omega)
        rw [Nat.mul_one] at this
        have e : (a.add i).add 0 = a.add i := by unfold Addr.add; split <;> simp_all
        rw [e] at this
        exact this
    obtain ⟨f, hf2⟩ : ∃ f : Nat → DRow, ∀ i, i < len → w.cell? (a.add i) = some (drV (f i)) ∧ Dl w (f i).1 (f i).2.1 ∧ RowOk ((D i).weights Tryz.prog 22) (f i) :=
      ⟨fun i => if h : i < len then Classical.choose (hone i h) else (none, [], 0), fun i hlt => by simp only [hlt, dif_pos]; exact Classical.choose_spec (hone i hlt)⟩
    have hlen : ((List.range len).map f).length = len := by simp
    have hat : ∀ (j : Nat) (s : DRow), ((List.range len).map f)[j]? = some s → j < len ∧ s = f j := by
      intro j s hj
      have hjl : j < len := by
        have := (List.getElem?_eq_some_iff.1 hj).1
        simpa using this
      exact ⟨hjl, by simpa [List.getElem?_map, List.getElem?_range, hjl, eq_comm] using hj⟩
    have hmem : ∀ s ∈ (List.range len).map f, ∃ i, i < len ∧ s = f i := by
      intro s hs
      obtain ⟨i, hi2, rfl⟩ := List.mem_map.1 hs
      exact ⟨i, List.mem_range.1 hi2, rfl⟩
    unfold maxLen at hm
    refine ⟨some a, (List.range len).map f, _, by rw [hlen], ⟨fun s hs => ?_, fun hne => ?_⟩, by rw [hlen]; omega, fun h => (by cases h), by rw [hlen]; exact hl, fun s hs => ?_⟩
    · obtain ⟨i, hil, rfl⟩ := hmem s hs
      exact (hf2 i hil).2.1
    · have h0 : 0 < len := by
        rcases Nat.eq_zero_or_pos len with h | h
        · subst h
          exact absurd rfl hne
        · exact h
      have h00 := (hf2 0 h0).1
      have e : a.add 0 = a := by unfold Addr.add; split <;> simp_all
      rw [e] at h00
      obtain ⟨b, off, spot⟩ := a
      have hspot : spot = none := World.cell?_spot h00
      subst hspot
      refine ⟨b, off, rfl, World.block_lt_of_cell? _ _ h00, fun i s hi' => ?_⟩
      obtain ⟨hil, rfl⟩ := hat i s hi'
      obtain ⟨g0, _⟩ := hf2 i hil
      rw [Go.WideShapes.add_plain] at g0
      exact g0
    · obtain ⟨i, hil, rfl⟩ := hmem s hs
      obtain ⟨h1, h2, h3, h4, h5, h6⟩ := (hf2 i hil).2.2
      refine ⟨h1, h2, h3, h4, h5, fun s hs => ?_⟩
      rcases h6 s hs with h | ⟨n, hn, h⟩
      · exact .inl h
      · refine .inr ⟨n, ?_, h⟩
        rw [hx]
        exact weights_elem6 Tryz.underlying40 (List.mem_map.2 ⟨i, List.mem_range.2 hil, rfl⟩) hn
/-- Lists of dependencies that came in. -/
theorem open_dlists {r : Reach} {b0 : Nat} {w : World} {v : Value} {d : DataW H} {p : List MemPlace} (hv : Value.okWide Tryz.prog w r b0 40 v) (h : DataW.Trod enc Tryz.prog w 0 (fun _ => true) true 40 v d p) :
    ∃ (a : Option Addr) (rs : List DRow) (cap : Nat), v = .slice a rs.length cap ∧ Dls w a rs ∧ rs.length ≤ 9223372036854775807 ∧ (a = none → cap = 0) ∧ rs.length ≤ cap ∧ (∀ r ∈ rs, r.2.1.length ≤ 9223372036854775807 ∧ (r.1 = none → r.2.2 = 0) ∧ r.2.1.length ≤ r.2.2 ∧ WfD r.2.1) ∧
      ∀ (ts : List TypeId) (ds : List (DataW H)) (i : Nat), (DataW.weightsEach Tryz.prog ts ds).all (· ≤ reachBytes) = true → ts[i]? = some 40 → ds[i]? = some d → ∀ r ∈ rs, ∀ s ∈ r.2.1, s.ids.length ≤ 140737488355328 := by
  obtain ⟨a0, len, cap, rfl⟩ := okWide_slice Tryz.underlying40 hv
  obtain ⟨fuel, hf⟩ := h
  have hf' : DataW.trod enc Tryz.prog w 0 (fun _ => true) true fuel 40 [.slice a0 len cap] = some (d, p) := by simpa [Value.cells] using hf
  obtain ⟨a, l, cap', hcs, h1, h2, h3, h4, h7⟩ := dlists_cells hf'
  simp only [List.cons.injEq, and_true] at hcs
  refine ⟨a, l, cap', hcs, h1, h2, h3, h4, fun r hr => ⟨(h7 r hr).1, (h7 r hr).2.1, (h7 r hr).2.2.1, (h7 r hr).2.2.2.1⟩, fun ts ds i hsz ht hd r hr s hs => ?_⟩
  rcases (h7 r hr).2.2.2.2.2 s hs with h | ⟨n, hn, h⟩
  · omega
  · have h8 := List.all_eq_true.1 hsz n (DataW.weights_mem_each ht hd n hn)
    have h9 := reachBytes_lt
    simp only [decide_eq_true_eq] at h8
    omega
end

end SD
end Go.Proofs.YtjlkgbejldcklaaGreat
