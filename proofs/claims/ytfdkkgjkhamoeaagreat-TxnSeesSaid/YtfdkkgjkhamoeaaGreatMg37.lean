/- Answers and Data of the reference. Conditions: at most a million elements. -/
import Derived.Lib.AppendZerosOnto
import Derived.WalkSpells
import Derived.Deep.RegionHeld3
import Derived.Deep.QuietTactic
import Derived.Test.YtfdkkgjkhamoeaaGreatMg36
import Derived.Test.YtfdkkgjkhamoeaaGreatMg34
/- ofEach, Reads, Writes, All, Conflict of package txn. Conditions: at most eight ops that may be. -/
set_option linter.unusedVariables false
set_option linter.unusedSimpArgs false
namespace Go.Proofs.YtfdkkgjkhamoeaaGreat
open S3 SN
namespace SP
open Go.ChangeShapes Go.WideShapes Go.ChangeAt Go.RowKit Go.Joins Go.Deep

theorem rdS_len (o : Opr) : (rdS o).length ≤ 2 := by unfold rdS; split <;> (try split) <;> (try split) <;> simp
theorem wrS_len (o : Opr) : (wrS o).length ≤ 2 := by unfold wrS; split <;> (try split) <;> simp
theorem flat_take (f : Opr → List Sp) {l : List Opr} {k : Nat} {x : Opr} (hx : l[k]? = some x) : (l.take (k + 1)).flatMap f = (l.take k).flatMap f ++ f x := by
  rw [List.take_add_one, hx, List.flatMap_append]
  simp
theorem flat_len (f : Opr → List Sp) (hf : ∀ o, (f o).length ≤ 2) : ∀ l : List Opr, (l.flatMap f).length ≤ 2 * l.length
  | [] => by simp
  | o :: l => by
    rw [List.flatMap_cons, List.length_append, List.length_cons]
    have := hf o
    have := flat_len f hf l
    omega

set_option maxRecDepth 100000 in
set_option maxHeartbeats 4000000 in
theorem each_reads (va : Value) (l : List Opr) (w : World) (hlen : l.length ≤ 1000) (hok : ∀ o ∈ l, okB o = true) (h : SlG eO w va l) : Calls Tryz.prog 62 #[va, .func (.func 63) #[] #[]] w (RetO w (uniL (l.flatMap rdS))) := by
  obtain ⟨a, cap, rfl⟩ := h.form
  have HL := Lib.hid h
  have HOK := Lib.hid hok
  clear h hok
  go_enter Tryz.func62, Tryz.ntmps62
  go_wp2_with fail
  go_loopw [5, 10] (fun v i wr => ∃ k : Nat, k ≤ l.length ∧ i = .int .i64 k ∧ OwnL wr w.heap.size v ((l.take k).flatMap rdS) ∧ Below w.heap.size w wr) (fun _ i _ => l.length - (intOf i).toNat)
  case atStart => exact ⟨0, Nat.zero_le _, rfl, OwnL.nil _ _, Below.refl _ _⟩
  case round =>
    obtain ⟨k, hk, rfl, ho, hb⟩ := hrel
    have HB := Lib.hid hb
    have HO := Lib.hid ho
    obtain ⟨av, cv, rfl⟩ := ho.form
    have HLL : Hid (((l.take k).flatMap rdS).length ≤ 2000) := by
      have h1 := flat_len rdS rdS_len (l.take k)
      rw [List.length_take] at h1
      show _ ≤ _
      omega
    clear hb ho
    generalize hD : (l.take k).flatMap rdS = D at *
    generalize hN : D.length = N at *
    have HD := Lib.hid hD
    have HN := Lib.hid hN
    clear hD hN
    by_cases hlt : k < l.length
    · obtain ⟨⟨kd, key, to, n⟩, hx⟩ := at_lt hlt
      have HLr := HL.out.later HB.out
      obtain ⟨g, o, hA, hg, c0, c1, c2, c3⟩ := ops_at HLr hx
      simp only at c0 c1 c2 c3
      have HOX := Lib.hid (HOK.out _ (List.mem_of_getElem? hx))
      have hk1 : (k : Int) < (l.length : Int) := by omega
      have hdk : decide ((k : Int) < (l.length : Int)) = true := decide_eq_true hk1
      have hdn : decide (k < l.length) = true := decide_eq_true hlt
      have HT := Lib.hid (flat_take rdS hx)
      rw [HD.out] at HT
      have HF := Lib.hid (rdS_len (kd, key, to, n))
      clear hx HLr
      subst hA
      generalize hR : rdS (kd, key, to, n) = R at *
      have HB0 : Hid (Below w.heap.size w (wr.alloc (.cells #[.int .i64 kd, .string key, .string to, .int .u64 (n : Int)] 69))) := blAlloc HB.out _
      have HO0 := Lib.hid (HO.out.later (blAlloc (Below.refl wr.heap.size wr) (.cells #[.int .i64 kd, .string key, .string to, .int .u64 (n : Int)] 69)))
      go_wp2_with (first
        | (go_at_call 63; go_must (refine (reads_any (kd, key, to, n) HOX.out _).mono ?_; rintro e w2 ⟨v, rfl, h1, h2⟩; rw [hR] at h1; obtain ⟨a2, n2, rfl⟩ := h1.form; have HB2 : Hid (Below w.heap.size w w2) := blThen HB0.out h2; have HO2 := Lib.hid (HO0.out.later h2); have HS2 := Lib.hid h1.sl; clear h1 h2))
        | (at_builtin; go_must (refine append_sp rfl _ _ rfl w.heap.size _ D rfl HO2.out _ R rfl HS2.out (by have := HLL.out; have := HN.out; have := HF.out; omega) HB2.out.size ?_; intro v3 w3 h1 h2; have HO3 := Lib.hid h1; have HB3 : Hid (Below w.heap.size w w3) := grown_below HB2.out HO2.out (Nat.le_refl _) HB2.out.size h2; clear h1 h2)))
      go_roundw
      case rel => exact ⟨k + 1, hlt, by go_num, by rw [HT.out]; exact HO3.out, HB3.out⟩
      case measure => simp [intOf]; omega
    · have hge : ¬ (k : Int) < (l.length : Int) := by omega
      have hdk : decide ((k : Int) < (l.length : Int)) = false := decide_eq_false hge
      have hdn : decide (k < l.length) = false := decide_eq_false hlt
      have hE : D = l.flatMap rdS := by rw [← HD.out, List.take_of_length_le (by omega)]
      have HE := Lib.hid hE
      clear hE
      have HO := Lib.hid (show OwnL wr w.heap.size (.slice av N cv) D from HO.out)
      go_wp2_with (go_at_call 66; go_must (refine (union_any _ D _ (by have := HLL.out; have := HN.out; omega) HO.out.sl).mono ?_; rintro e w2 ⟨v, rfl, h1, h2⟩; rw [HE.out] at h1; have H1 := Lib.hid (h1.mono HB.out.size); have H2 : Hid (Below w.heap.size w w2) := blThen HB.out h2; clear h1 h2))
      go_ret
      exact ⟨_, rfl, H1.out, H2.out⟩

set_option maxRecDepth 100000 in
set_option maxHeartbeats 4000000 in
theorem each_writes (va : Value) (l : List Opr) (w : World) (hlen : l.length ≤ 1000) (hok : ∀ o ∈ l, okB o = true) (h : SlG eO w va l) : Calls Tryz.prog 62 #[va, .func (.func 65) #[] #[]] w (RetO w (uniL (l.flatMap wrS))) := by
  obtain ⟨a, cap, rfl⟩ := h.form
  have HL := Lib.hid h
  have HOK := Lib.hid hok
  clear h hok
  go_enter Tryz.func62, Tryz.ntmps62
  go_wp2_with fail
  go_loopw [5, 10] (fun v i wr => ∃ k : Nat, k ≤ l.length ∧ i = .int .i64 k ∧ OwnL wr w.heap.size v ((l.take k).flatMap wrS) ∧ Below w.heap.size w wr) (fun _ i _ => l.length - (intOf i).toNat)
  case atStart => exact ⟨0, Nat.zero_le _, rfl, OwnL.nil _ _, Below.refl _ _⟩
  case round =>
    obtain ⟨k, hk, rfl, ho, hb⟩ := hrel
    have HB := Lib.hid hb
    have HO := Lib.hid ho
    obtain ⟨av, cv, rfl⟩ := ho.form
    have HLL : Hid (((l.take k).flatMap wrS).length ≤ 2000) := by
      have h1 := flat_len wrS wrS_len (l.take k)
      rw [List.length_take] at h1
      show _ ≤ _
      omega
    clear hb ho
    generalize hD : (l.take k).flatMap wrS = D at *
    generalize hN : D.length = N at *
    have HD := Lib.hid hD
    have HN := Lib.hid hN
    clear hD hN
    by_cases hlt : k < l.length
    · obtain ⟨⟨kd, key, to, n⟩, hx⟩ := at_lt hlt
      have HLr := HL.out.later HB.out
      obtain ⟨g, o, hA, hg, c0, c1, c2, c3⟩ := ops_at HLr hx
      simp only at c0 c1 c2 c3
      have HOX := Lib.hid (HOK.out _ (List.mem_of_getElem? hx))
      have hk1 : (k : Int) < (l.length : Int) := by omega
      have hdk : decide ((k : Int) < (l.length : Int)) = true := decide_eq_true hk1
      have hdn : decide (k < l.length) = true := decide_eq_true hlt
      have HT := Lib.hid (flat_take wrS hx)
      rw [HD.out] at HT
      have HF := Lib.hid (wrS_len (kd, key, to, n))
      clear hx HLr
      subst hA
      generalize hR : wrS (kd, key, to, n) = R at *
      have HB0 : Hid (Below w.heap.size w (wr.alloc (.cells #[.int .i64 kd, .string key, .string to, .int .u64 (n : Int)] 69))) := blAlloc HB.out _
      have HO0 := Lib.hid (HO.out.later (blAlloc (Below.refl wr.heap.size wr) (.cells #[.int .i64 kd, .string key, .string to, .int .u64 (n : Int)] 69)))
      go_wp2_with (first
        | (go_at_call 65; go_must (refine (writes_any (kd, key, to, n) HOX.out _).mono ?_; rintro e w2 ⟨v, rfl, h1, h2⟩; rw [hR] at h1; obtain ⟨a2, n2, rfl⟩ := h1.form; have HB2 : Hid (Below w.heap.size w w2) := blThen HB0.out h2; have HO2 := Lib.hid (HO0.out.later h2); have HS2 := Lib.hid h1.sl; clear h1 h2))
        | (at_builtin; go_must (refine append_sp rfl _ _ rfl w.heap.size _ D rfl HO2.out _ R rfl HS2.out (by have := HLL.out; have := HN.out; have := HF.out; omega) HB2.out.size ?_; intro v3 w3 h1 h2; have HO3 := Lib.hid h1; have HB3 : Hid (Below w.heap.size w w3) := grown_below HB2.out HO2.out (Nat.le_refl _) HB2.out.size h2; clear h1 h2)))
      go_roundw
      case rel => exact ⟨k + 1, hlt, by go_num, by rw [HT.out]; exact HO3.out, HB3.out⟩
      case measure => simp [intOf]; omega
    · have hge : ¬ (k : Int) < (l.length : Int) := by omega
      have hdk : decide ((k : Int) < (l.length : Int)) = false := decide_eq_false hge
      have hdn : decide (k < l.length) = false := decide_eq_false hlt
      have hE : D = l.flatMap wrS := by rw [← HD.out, List.take_of_length_le (by omega)]
      have HE := Lib.hid hE
      clear hE
      have HO := Lib.hid (show OwnL wr w.heap.size (.slice av N cv) D from HO.out)
      go_wp2_with (go_at_call 66; go_must (refine (union_any _ D _ (by have := HLL.out; have := HN.out; omega) HO.out.sl).mono ?_; rintro e w2 ⟨v, rfl, h1, h2⟩; rw [HE.out] at h1; have H1 := Lib.hid (h1.mono HB.out.size); have H2 : Hid (Below w.heap.size w w2) := blThen HB.out h2; clear h1 h2))
      go_ret
      exact ⟨_, rfl, H1.out, H2.out⟩

set_option maxRecDepth 100000 in
theorem treads_any (va : Value) (l : List Opr) (w : World) (hlen : l.length ≤ 1000) (hok : ∀ o ∈ l, okB o = true) (h : SlG eO w va l) : Calls Tryz.prog 25 #[va] w (RetO w (readsP l)) := by
  obtain ⟨a, cap, rfl⟩ := h.form
  go_enter Tryz.func25, Tryz.ntmps25
  go_wp2_with (go_at_call 62; refine (each_reads _ l _ hlen hok h).mono ?_; rintro e w2 ⟨v, rfl, h1, h2⟩; have H1 := Lib.hid h1; have H2 := Lib.hid h2; clear h1 h2)
  go_ret
  exact ⟨_, rfl, H1.out, H2.out⟩

set_option maxRecDepth 100000 in
theorem twrites_any (va : Value) (l : List Opr) (w : World) (hlen : l.length ≤ 1000) (hok : ∀ o ∈ l, okB o = true) (h : SlG eO w va l) : Calls Tryz.prog 27 #[va] w (RetO w (writesP l)) := by
  obtain ⟨a, cap, rfl⟩ := h.form
  go_enter Tryz.func27, Tryz.ntmps27
  go_wp2_with (go_at_call 62; refine (each_writes _ l _ hlen hok h).mono ?_; rintro e w2 ⟨v, rfl, h1, h2⟩; have H1 := Lib.hid h1; have H2 := Lib.hid h2; clear h1 h2)
  go_ret
  exact ⟨_, rfl, H1.out, H2.out⟩

end SP
end Go.Proofs.YtfdkkgjkhamoeaaGreat

/- All and Conflict of package txn; slices.Grow of nothing and slices.Concat of two lists of spans. Conditions: at most a thousand ops that may be. -/
set_option linter.unusedVariables false
set_option linter.unusedSimpArgs false
namespace Go.Proofs.YtfdkkgjkhamoeaaGreat
open S3 SN
namespace SP
open Go.ChangeShapes Go.WideShapes Go.ChangeAt Go.RowKit Go.Joins Go.Deep

theorem und_int8 : Tryz.prog.underlying 3 = some (.int .i64) := Tryz.underlying3
set_option maxRecDepth 100000 in
set_option maxHeartbeats 1000000 in
theorem grow0_any (n : Nat) (w : World) (hn : n ≤ 100000) : Calls Tryz.prog 105 #[.slice none 0 0, .int .i64 (n : Int)] w (RetO w []) := by
  obtain ⟨i0, hi, hz0, hz1, hz2⟩ := info_parts info_sp
  have h1 : ¬ ((n : Int) < 0) := by omega
  by_cases h0 : n = 0
  · subst h0
    go_enter Tryz.func105, Tryz.ntmps105
    go_wp2
    go_ret
    exact ⟨_, rfl, OwnL.nil _ _, Below.refl _ _⟩
  · have h2 : wrap64 ((n : Int) - 0) = (n : Int) := by unfold wrap64; omega
    have h3 : (0 : Int) < (n : Int) := by omega
    have hrz : ∀ ty, (Builtin.append_ #[40, 3] ty #[.slice none 0 0, .int .i64 (n : Int)]).run Tryz.prog w =
        .ok (.slice (some ⟨w.heap.size, 0, none⟩) n (grownCap w n 0 75)) (w.drew.alloc (.cells (([] : List Value).toArray ++ Builtin.zeroCells (Value.agg #[.string ⟨#[]⟩, .string ⟨#[]⟩]).cells n ++ Builtin.zeroCells (Value.agg #[.string ⟨#[]⟩, .string ⟨#[]⟩]).cells (grownCap w n 0 75 - n)) 75)) := by
      intro ty
      have h := Lib.run_append_grow_zeros (P := Tryz.prog) w 40 3 ty 75 i0 (.agg #[.string ⟨#[]⟩, .string ⟨#[]⟩]) .i64 .i64 Tryz.underlying40 Tryz.underlying3 hi hz0 none 0 0 [] (run_firstCells_none _ _ _ _ _) n (by omega) (by rw [hz1]; decide) (by omega) (by omega) (by rw [hz2]; omega) (growslice_fits (by omega) (by rw [hz2]; omega))
      rw [Nat.zero_add] at h
      exact h
    have hge := grownCap_ge w n 0 75
    have hle := grownCap_le_maxLen w n 0 75 (by unfold maxLen; omega)
    generalize grownCap w n 0 75 = G at *
    have hG : (G : Int) ≤ 9223372036854775807 := by unfold maxLen at hle; omega
    have hcs : (([] : List Value).toArray ++ Builtin.zeroCells (Value.agg #[.string ⟨#[]⟩, .string ⟨#[]⟩]).cells n ++ Builtin.zeroCells (Value.agg #[.string ⟨#[]⟩, .string ⟨#[]⟩]).cells (G - n)).size = G * 2 := by
      rw [Array.size_append, Array.size_append, size_zeroCells, size_zeroCells]
      show 0 + n * 2 + (G - n) * 2 = G * 2
      omega
    generalize ([] : List Value).toArray ++ Builtin.zeroCells (Value.agg #[.string ⟨#[]⟩, .string ⟨#[]⟩]).cells n ++ Builtin.zeroCells (Value.agg #[.string ⟨#[]⟩, .string ⟨#[]⟩]).cells (G - n) = C at *
    have hb : Below w.heap.size w (w.drew.alloc (.cells C 75)) := blAlloc ((Below.refl _ _).drew) _
    have HOW : Hid (OwnL (w.drew.alloc (.cells C 75)) w.heap.size (.slice (some ⟨w.heap.size, 0, none⟩) 0 G) []) := by
      refine ⟨rfl, .inr ⟨w.heap.size, G, C, rfl, Nat.le_refl _, ?_, Nat.zero_le _, hle, hcs, by simp [cellsL]⟩⟩
      show (w.heap.push _)[w.heap.size]? = _
      simp
    go_enter Tryz.func105, Tryz.ntmps105
    go_wp2_with (at_builtin; refine Lib.wpList_append_run _ rfl _ _ _ _ rfl _ _ rfl rfl _ _ (hrz _) ?_)
    all_goals
      go_ret
      exact ⟨_, rfl, HOW.out, hb⟩

set_option maxRecDepth 100000 in
set_option maxHeartbeats 4000000 in
theorem concat2_any (b c : Nat) (a1 a2 : Option Addr) (c1 c2 : Nat) (l1 l2 : List Sp) (w : World) (h1 : l1.length ≤ 10000) (h2 : l2.length ≤ 10000) (hb : b < w.heap.size) (k0 : w.cell? ⟨b, 0, none⟩ = some (.slice a1 l1.length c1)) (k1 : w.cell? ⟨b, 1, none⟩ = some (.slice a2 l2.length c2))
    (hs1 : Sl w (.slice a1 l1.length c1) l1) (hs2 : Sl w (.slice a2 l2.length c2) l2) : Calls Tryz.prog 67 #[.slice (some ⟨b, 0, none⟩) 2 c] w (RetO w (l1 ++ l2)) := by
  have HS1 := Lib.hid hs1
  have HS2 := Lib.hid hs2
  have HK := Lib.hid (fun (Y : World) (h : Below w.heap.size w Y) => (⟨cell_in h hb k0, cell_in h hb k1⟩ : Y.cell? ⟨b, 0, none⟩ = some (.slice a1 l1.length c1) ∧ Y.cell? ⟨b, 1, none⟩ = some (.slice a2 l2.length c2)))
  clear hs1 hs2
  generalize hN1 : l1.length = n1 at *
  generalize hN2 : l2.length = n2 at *
  have HN1 := Lib.hid hN1
  have HN2 := Lib.hid hN2
  clear hN1 hN2
  have w1 : wrap64 (0 + (n1 : Int)) = (n1 : Int) := by unfold wrap64; omega
  have w2 : wrap64 ((n1 : Int) + (n2 : Int)) = ((n1 + n2 : Nat) : Int) := by unfold wrap64; omega
  have p1 : ¬ ((n1 : Int) < 0) := by omega
  have p2 : ¬ (((n1 + n2 : Nat) : Int) < 0) := by omega
  go_enter Tryz.func67, Tryz.ntmps67
  go_wp2_with fail
  go_loopw [3, 11] (fun v i wr => w = wr ∧ ((i = .int .i64 0 ∧ v = .int .i64 0) ∨ (i = .int .i64 1 ∧ v = .int .i64 (n1 : Int)) ∨ (i = .int .i64 2 ∧ v = .int .i64 ((n1 + n2 : Nat) : Int)))) (fun _ i _ => 2 - (intOf i).toNat)
  case atStart => exact ⟨rfl, .inl ⟨rfl, rfl⟩⟩
  case round =>
    obtain ⟨rfl, ⟨rfl, rfl⟩ | ⟨rfl, rfl⟩ | ⟨rfl, rfl⟩⟩ := hrel
    · go_wp2
      go_roundw
      case rel => exact ⟨by first | trivial | rfl, .inr (.inl ⟨rfl, by first | rfl | go_num⟩)⟩
      case measure => decide
    · go_wp2
      go_roundw
      case rel => exact ⟨by first | trivial | rfl, .inr (.inr ⟨rfl, by first | rfl | go_num⟩)⟩
      case measure => decide
    · go_wp2_with (go_at_call 105; go_must (refine (grow0_any (n1 + n2) _ (by omega)).mono ?_; rintro e w3 ⟨v, rfl, h1, h2⟩; have H3 := Lib.hid h1; have HB3 := Lib.hid h2; obtain ⟨g3, d3, rfl⟩ := h1.form; clear h1 h2))
      go_loopw [6, 27] (fun v i wx => Below w.heap.size w wx ∧ ((i = .int .i64 0 ∧ OwnL wx w.heap.size v []) ∨ (i = .int .i64 1 ∧ OwnL wx w.heap.size v l1) ∨ (i = .int .i64 2 ∧ OwnL wx w.heap.size v (l1 ++ l2)))) (fun _ i _ => 2 - (intOf i).toNat)
      case atStart => exact ⟨HB3.out, .inl ⟨rfl, H3.out⟩⟩
      case round =>
        clear H3 HB3
        obtain ⟨hb, ⟨rfl, ho⟩ | ⟨rfl, ho⟩ | ⟨rfl, ho⟩⟩ := hrel
        · have HB := Lib.hid hb
          have HO := Lib.hid ho
          obtain ⟨q0, q1⟩ := HK.out _ hb
          have HT1 := Lib.hid (HS1.out.later hb)
          obtain ⟨av, cv, rfl⟩ := ho.form
          clear hb ho
          go_wp2_with (at_builtin; go_must (refine append_sp rfl _ _ rfl w.heap.size _ [] rfl HO.out _ l1 rfl HT1.out (by have := HN1.out; simp only [List.length_nil]; omega) HB.out.size ?_; intro v4 w4 h1 h2; have HO4 := Lib.hid h1; have HB4 : Hid (Below w.heap.size w w4) := grown_below HB.out HO.out (Nat.le_refl _) HB.out.size h2; clear h1 h2))
          go_roundw
          case rel => exact ⟨HB4.out, .inr (.inl ⟨rfl, by have := HO4.out; rwa [List.nil_append] at this⟩)⟩
          case measure => decide
        · have HB := Lib.hid hb
          have HO := Lib.hid ho
          obtain ⟨q0, q1⟩ := HK.out _ hb
          have HT2 := Lib.hid (HS2.out.later hb)
          obtain ⟨av, cv, rfl⟩ := ho.form
          rw [HN1.out] at HO ⊢
          clear hb ho
          go_wp2_with (at_builtin; go_must (refine append_sp rfl _ _ rfl w.heap.size _ l1 rfl HO.out _ l2 rfl HT2.out (by have := HN1.out; have := HN2.out; omega) HB.out.size ?_; intro v4 w4 h1 h2; have HO4 := Lib.hid h1; have HB4 : Hid (Below w.heap.size w w4) := grown_below HB.out HO.out (Nat.le_refl _) HB.out.size h2; clear h1 h2))
          go_roundw
          case rel => exact ⟨HB4.out, .inr (.inr ⟨rfl, HO4.out⟩)⟩
          case measure => decide
        · have HB := Lib.hid hb
          have HO := Lib.hid ho
          obtain ⟨av, cv, rfl⟩ := ho.form
          generalize (l1 ++ l2).length = N at *
          clear hb ho
          go_wp2
          go_ret
          exact ⟨_, rfl, HO.out, HB.out⟩

theorem cells_two (X : World) (u v : Value) (t : TypeId) (n : Nat) (h : X.heap.size = n) : (X.alloc (.cells #[u, v] t)).cell? ⟨n, 0, none⟩ = some u ∧ (X.alloc (.cells #[u, v] t)).cell? ⟨n, 1, none⟩ = some v ∧ n < (X.alloc (.cells #[u, v] t)).heap.size := by
  subst h
  have hb : (X.alloc (.cells #[u, v] t)).heap[X.heap.size]? = some (.cells #[u, v] t (0, 0)) := by
    show (X.heap.push _)[X.heap.size]? = _
    simp
  refine ⟨?_, ?_, by simp⟩
  · simp only [World.cell?, hb]; rfl
  · simp only [World.cell?, hb]; rfl
theorem uni_len (l : List Sp) : (uniL l).length ≤ 2 * l.length := by
  unfold uniL
  have := setL_len 0 l []
  simpa using this
theorem reads_len (l : List Opr) : (readsP l).length ≤ 4 * l.length := by
  unfold readsP
  have h1 := uni_len (l.flatMap rdS)
  have h2 := flat_len rdS rdS_len l
  omega
theorem writes_len (l : List Opr) : (writesP l).length ≤ 4 * l.length := by
  unfold writesP
  have h1 := uni_len (l.flatMap wrS)
  have h2 := flat_len wrS wrS_len l
  omega
theorem all_len (l : List Opr) : (allP l).length ≤ 16 * l.length := by
  unfold allP
  have h1 := uni_len (readsP l ++ writesP l)
  have h2 := reads_len l
  have h3 := writes_len l
  rw [List.length_append] at h1
  omega
set_option maxRecDepth 100000 in
set_option maxHeartbeats 4000000 in
theorem tall_any (va : Value) (l : List Opr) (w : World) (hlen : l.length ≤ 1000) (hok : ∀ o ∈ l, okB o = true) (h : SlG eO w va l) : Calls Tryz.prog 29 #[va] w (RetO w (allP l)) := by
  obtain ⟨a, cap, rfl⟩ := h.form
  have HL := Lib.hid h
  have HOK := Lib.hid hok
  have HR := Lib.hid (reads_len l)
  have HW := Lib.hid (writes_len l)
  clear h hok
  go_enter Tryz.func29, Tryz.ntmps29
  go_wp2_with fail
  refine (treads_any _ l w hlen HOK.out HL.out).mono ?_
  rintro e w1 ⟨v, rfl, h1, h2⟩
  have HB1 := Lib.hid h2
  have HO1 := Lib.hid h1
  obtain ⟨g1, d1, rfl⟩ := h1.form
  clear h1 h2
  go_wp2_with fail
  refine (twrites_any _ l _ hlen HOK.out (HL.out.later HB1.out)).mono ?_
  rintro e w2 ⟨v, rfl, h1, h2⟩
  have HB2 : Hid (Below w.heap.size w w2) := blThen HB1.out h2
  have HO2 := Lib.hid h1
  have HP1 := Lib.hid (HO1.out.later h2)
  obtain ⟨g2, d2, rfl⟩ := h1.form
  clear h1 h2
  obtain ⟨q0, q1, q2⟩ := cells_two w2 (.slice g1 (readsP l).length d1) (.slice g2 (writesP l).length d2) 40 _ rfl
  have HBa := Lib.hid (blAlloc (Below.refl w2.heap.size w2) (.cells #[.slice g1 (readsP l).length d1, .slice g2 (writesP l).length d2] 40))
  have HB3 := Lib.hid (blAlloc HB2.out (.cells #[.slice g1 (readsP l).length d1, .slice g2 (writesP l).length d2] 40))
  have HC := Lib.hid (concat2_any w2.heap.size 2 g1 g2 d1 d2 (readsP l) (writesP l) _ (by have := HR.out; omega) (by have := HW.out; omega) q2 q0 q1 (HP1.out.sl.later HBa.out) (HO2.out.sl.later HBa.out))
  clear q0 q1 q2
  generalize hNr : (readsP l).length = nr at *
  generalize hNw : (writesP l).length = nw at *
  go_wp2_with fail
  refine HC.out.mono ?_
  rintro e w3 ⟨v, rfl, h1, h2⟩
  have HB4 : Hid (Below w.heap.size w w3) := blThen HB3.out h2
  have HO3 := Lib.hid h1
  obtain ⟨g3, d3, rfl⟩ := h1.form
  have HLN : Hid ((readsP l ++ writesP l).length ≤ 100000) := by
    show _ ≤ _
    rw [List.length_append, hNr, hNw]
    have := HR.out; have := HW.out; omega
  clear h1 h2 hNr hNw
  have HU := Lib.hid (union_any (.slice g3 (readsP l ++ writesP l).length d3) (readsP l ++ writesP l) w3 (by have := HLN.out; omega) HO3.out.sl)
  generalize (readsP l ++ writesP l).length = N at *
  go_wp2_with fail
  refine HU.out.mono ?_
  rintro e w4 ⟨v, rfl, h1, h2⟩
  have H1 := Lib.hid (h1.mono HB4.out.size)
  have H2 : Hid (Below w.heap.size w w4) := blThen HB4.out h2
  clear h1 h2
  go_wp2
  go_ret
  exact ⟨_, rfl, H1.out, H2.out⟩

theorem ne_nil_b (l : List Sp) : (!l.isEmpty) = decide (l ≠ []) := by cases l <;> simp
theorem writes_set (l : List Opr) : IsSet (writesP l) := uniL_set _
theorem reads_set (l : List Opr) : IsSet (readsP l) := uniL_set _
theorem all_set (l : List Opr) : IsSet (allP l) := uniL_set _

set_option maxRecDepth 100000 in
set_option maxHeartbeats 8000000 in
theorem conflict_any (va vb : Value) (a b : List Opr) (w : World) (hla : a.length ≤ 1000) (hlb : b.length ≤ 1000) (hoa : ∀ o ∈ a, okB o = true) (hob : ∀ o ∈ b, okB o = true) (ha : SlG eO w va a) (hb : SlG eO w vb b) :
    Calls Tryz.prog 31 #[va, vb] w fun e w' => e = .returned (.bool (confP a b)) ∧ Below w.heap.size w w' := by
  obtain ⟨aa, ca, rfl⟩ := ha.form
  obtain ⟨ab, cb, rfl⟩ := hb.form
  have HLa := Lib.hid ha
  have HLb := Lib.hid hb
  have HOKa := Lib.hid hoa
  have HOKb := Lib.hid hob
  have HB0 : Hid (Below w.heap.size w w) := Below.refl _ _
  clear ha hb hoa hob
  generalize hv : confP a b = v
  unfold confP at hv
  have HV := Lib.hid hv
  clear hv
  go_enter Tryz.func31, Tryz.ntmps31
  go_wp2_with fail
  refine (twrites_any _ a _ hla HOKa.out (HLa.out.later HB0.out)).mono ?_
  rintro e w1 ⟨v, rfl, h1, h2⟩
  have HB1 : Hid (Below w.heap.size w w1) := blThen HB0.out h2
  have HOW1 := Lib.hid h1
  obtain ⟨g1, d1, rfl⟩ := h1.form
  clear h1 h2
  generalize hNw1 : (writesP a).length = nw1 at *
  have HNw1 := Lib.hid hNw1
  clear hNw1
  go_wp2_with fail
  refine (tall_any _ b _ hlb HOKb.out (HLb.out.later HB1.out)).mono ?_
  rintro e w2 ⟨v, rfl, h1, h2⟩
  have HB2 : Hid (Below w.heap.size w w2) := blThen HB1.out h2
  have HSA1 := Lib.hid h1.sl
  have HSW1 := Lib.hid (HOW1.out.later h2).sl
  obtain ⟨g2, d2, rfl⟩ := h1.form
  clear h1 h2
  generalize hNa1 : (allP b).length = na1 at *
  have HNa1 := Lib.hid hNa1
  clear hNa1
  go_wp2_with fail
  refine (meet_any' _ _ (writesP a) (allP b) _ (by have := writes_len a; omega) (by have := all_len b; omega) HSW1.out HSA1.out (writes_set a) (all_set b)).mono ?_
  rw [ne_nil_b]
  rintro e w3 ⟨rfl, h5⟩
  have HB3 : Hid (Below w.heap.size w w3) := blThen HB2.out h5
  clear h5
  cases hm : decide (setL 1 (writesP a) (allP b) ≠ [])
  · rw [hm, Bool.false_or] at HV
    clear hm
    go_wp2_with fail
    refine (twrites_any _ b _ hlb HOKb.out (HLb.out.later HB3.out)).mono ?_
    rintro e w4 ⟨v, rfl, h1, h2⟩
    have HB4 : Hid (Below w.heap.size w w4) := blThen HB3.out h2
    have HOW4 := Lib.hid h1
    obtain ⟨g4, d4, rfl⟩ := h1.form
    clear h1 h2
    generalize hNw4 : (writesP b).length = nw4 at *
    have HNw4 := Lib.hid hNw4
    clear hNw4
    go_wp2_with fail
    refine (tall_any _ a _ hla HOKa.out (HLa.out.later HB4.out)).mono ?_
    rintro e w5 ⟨v, rfl, h1, h2⟩
    have HB5 : Hid (Below w.heap.size w w5) := blThen HB4.out h2
    have HSA4 := Lib.hid h1.sl
    have HSW4 := Lib.hid (HOW4.out.later h2).sl
    obtain ⟨g5, d5, rfl⟩ := h1.form
    clear h1 h2
    generalize hNa4 : (allP a).length = na4 at *
    have HNa4 := Lib.hid hNa4
    clear hNa4
    go_wp2_with fail
    refine (meet_any' _ _ (writesP b) (allP a) _ (by have := writes_len b; omega) (by have := all_len a; omega) HSW4.out HSA4.out (writes_set b) (all_set a)).mono ?_
    rw [ne_nil_b]
    rintro e w6 ⟨rfl, h5⟩
    have HB6 : Hid (Below w.heap.size w w6) := blThen HB5.out h5
    clear h5
    rw [HV.out]
    go_wp2
    go_ret
    exact ⟨rfl, HB6.out⟩
  · rw [hm, Bool.true_or] at HV
    have HV2 : v = true := HV.out.symm
    subst HV2
    clear hm HV
    go_wp2
    go_ret
    exact ⟨rfl, HB3.out⟩

end SP
end Go.Proofs.YtfdkkgjkhamoeaaGreat

/- Reads, Writes, All, Conflict of the reference. Conditions: at most a thousand ops that may be. -/
set_option linter.unusedVariables false
set_option linter.unusedSimpArgs false
namespace Go.Proofs.YtfdkkgjkhamoeaaGreat
open S3 SN
namespace SP
open Go.ChangeShapes Go.WideShapes Go.ChangeAt Go.RowKit Go.Joins Go.Deep

theorem rpoint_any (k : ByteArray) (w : World) (hk : k.size ≤ 1000000000) : Calls Tryz.prog 64 #[.string k] w fun e w' => e = .returned (.agg #[.string k, .string (k ++ ⟨#[0]⟩)]) ∧ Below w.heap.size w w' := by
  have hs : ((k.size + (⟨#[0]⟩ : ByteArray).size : Nat) : Int) ≤ IntKind.i64.max := by
    show ((k.size + 1 : Nat) : Int) ≤ 9223372036854775807
    omega
  go_enter Tryz.func64, Tryz.ntmps64
  go_wp2
  exact bodyPost_ret (v := .agg #[.string k, .string (k ++ ⟨#[0]⟩)]) (by simp [results, Tryz.results64, go_sem]) rfl ⟨rfl, blAlloc (Below.refl _ _) _⟩
/-- append to a list of spans, of one operation. -/
theorem wp_append_sp {w : World} {o : Oper} {a : Act} {K : Act → World → Prop} {Q : Exit → Act → World → Prop} (s x : Operand)
    (ho : o.op = .call { callee := .builtin .append, args := #[s, x], argTypes := #[40, 40] })
    (base : Nat) (v : Value) (d : List Sp) (hs : a.eval s = v) (hown : OwnL w base v d) (g c : Nat) (l : List Sp) (hx : a.eval x = .slice (some ⟨g, 0, none⟩) l.length c) (hsl : Row2 w g 0 l)
    (hlen : d.length + l.length ≤ 4000000) (hbase : base ≤ w.heap.size)
    (h : ∀ v' w', OwnL w' base v' (d ++ l) → w.grownBy w' v.ownBlock → K (a.put o.dst v') w') : o.wp Tryz.prog a w K Q := by
  obtain ⟨i0, hi, hz0, hz1, hz2⟩ := info_parts info_sp
  refine wp_append_own w s x 40 ho base 75 i0 (.agg #[.string ⟨#[]⟩, .string ⟨#[]⟩]) 2 32 Tryz.underlying40 hi hz0 hz1 hz2 rfl (by decide) v d.length (cellsL d) hs hown ⟨g, 0, none⟩ l.length c (cellsL l) hx (cellsL_length l) hsl.cells (cellsL_one l) (by unfold maxLen; omega) (by omega) hbase fun v' w' h2 h3 _ => ?_
  refine h v' w' ?_ h3
  show w'.ownsRow base _ 2 v' _ _
  rw [List.length_append, cellsL_append]
  exact h2
theorem row_one (X : World) (a : Sp) (n : Nat) (h : X.heap.size = n) : Row2 (X.alloc (.cells #[.string a.1, .string a.2] 75)) n 0 [a] := by
  subst h
  obtain ⟨a', c', e, _, hr⟩ := one_sl (box2_new X a) 1
  obtain ⟨g, o, e2, _, h2⟩ := hr (by simp)
  cases e
  cases e2
  exact h2
theorem row_two (X : World) (a b : Sp) (n : Nat) (h : X.heap.size = n) : Row2 (X.alloc (.cells #[.string a.1, .string a.2, .string b.1, .string b.2] 75)) n 0 [a, b] := by
  obtain ⟨a', c', e, _, hr⟩ := two_newS X a b n h
  obtain ⟨g, o, e2, _, h2⟩ := hr (by simp)
  cases e
  cases e2
  exact h2

set_option maxRecDepth 100000 in
set_option maxHeartbeats 8000000 in
theorem rreads_any (va : Value) (l : List Opr) (w : World) (hlen : l.length ≤ 1000) (hok : ∀ o ∈ l, okB o = true) (h : SlG eO w va l) : Calls Tryz.prog 26 #[va] w (RetO w (uniL (l.flatMap rdS))) := by
  obtain ⟨a, cap, rfl⟩ := h.form
  have HL := Lib.hid h
  have HOK := Lib.hid hok
  clear h hok
  go_enter Tryz.func26, Tryz.ntmps26
  go_wp2_with fail
  go_loopw [3, 4] (fun v i wr => ∃ k : Nat, k ≤ l.length ∧ i = .int .i64 k ∧ OwnL wr w.heap.size v ((l.take k).flatMap rdS) ∧ Below w.heap.size w wr) (fun _ i _ => l.length - (intOf i).toNat)
  case atStart => exact ⟨0, Nat.zero_le _, rfl, OwnL.nil _ _, Below.refl _ _⟩
  case round =>
    obtain ⟨k, hk, rfl, ho, hb⟩ := hrel
    have HB := Lib.hid hb
    have HO := Lib.hid ho
    obtain ⟨av, cv, rfl⟩ := ho.form
    have HLL : Hid (((l.take k).flatMap rdS).length ≤ 2000) := by
      have h1 := flat_len rdS rdS_len (l.take k)
      rw [List.length_take] at h1
      show _ ≤ _
      omega
    clear hb ho
    generalize hD : (l.take k).flatMap rdS = D at *
    generalize hN : D.length = N at *
    have HD := Lib.hid hD
    have HN := Lib.hid hN
    clear hD hN
    by_cases hlt : k < l.length
    · obtain ⟨⟨kd, key, to, n⟩, hx⟩ := at_lt hlt
      obtain ⟨g, o, hA, hg, d0, d1, d2, d3⟩ := ops_at HL.out hx
      simp only at d0 d1 d2 d3
      have K3 := Lib.hid (fun (Y : World) (hY : Below w.heap.size w Y) => (⟨cell_in hY hg d1, cell_in hY hg d2⟩ : Y.cell? ⟨g, o + k * 4 + 1, none⟩ = some (.string key) ∧ Y.cell? ⟨g, o + k * 4 + 2, none⟩ = some (.string to)))
      have c0 := cell_in HB.out hg d0
      have c1 := cell_in HB.out hg d1
      have c2 := cell_in HB.out hg d2
      obtain ⟨hkd, hky, _, h6, _⟩ := ok_kd (HOK.out _ (List.mem_of_getElem? hx))
      simp only at hky h6
      have hkl : key.size ≤ 1000000000 := by have := key_len hky; omega
      have HK6 : Hid (kd = 6 → to.size ≤ 1000000000) := fun e => by have := key_len (h6 e).1; omega
      have hk1 : (k : Int) < (l.length : Int) := by omega
      have hk0 : (0 : Int) ≤ (k : Int) := by omega
      have hdk : decide ((k : Int) < (l.length : Int)) = true := decide_eq_true hk1
      have hdn : decide (k < l.length) = true := decide_eq_true hlt
      have HT := Lib.hid (flat_take rdS hx)
      rw [HD.out] at HT
      have hcs : kd = 1 ∨ kd = 2 ∨ kd = 3 ∨ kd = 4 ∨ kd = 5 ∨ kd = 6 := by
        unfold Kd at hkd
        simp only at hkd
        omega
      clear hx hkd h6 hky d0 d1 d2 d3
      subst hA
      rcases hcs with rfl | rfl | rfl | rfl | rfl | rfl
      · clear HK6
        go_wp2_with (first
          | (go_at_call 64; refine (rpoint_any key _ hkl).mono ?_; rintro e w2 ⟨rfl, h5⟩; have HB2 : Hid (Below w.heap.size w w2) := blThen HB.out h5; have HO2 := Lib.hid (HO.out.later h5); clear h5)
          | (at_builtin; go_must (refine append_sp rfl _ _ rfl w.heap.size _ D rfl (HO2.out.later (blAlloc (Below.refl _ _) _)) _ [ptS key] rfl (one_sl (box2_new _ (ptS key)) _) (by have := HLL.out; have := HN.out; simp only [List.length_cons, List.length_nil]; omega) (blAlloc HB2.out _).size ?_; intro v3 w3 h1 h2; have HO3 := Lib.hid h1; have HB3 : Hid (Below w.heap.size w w3) := grown_below (blAlloc HB2.out _) (HO2.out.later (blAlloc (Below.refl _ _) _)) (Nat.le_refl _) (blAlloc HB2.out _).size h2; clear h1 h2)))
        go_roundw
        case rel => exact ⟨k + 1, hlt, by go_num, by rw [HT.out]; exact HO3.out, HB3.out⟩
        case measure => simp [intOf]; omega
      · clear HK6
        go_wp2_with fail
        refine wp_region_held_drew (S := fun Y => Y.cell? ⟨g, o + k * 4 + 1, none⟩ = some (.string key) ∧ Y.cell? ⟨g, o + k * 4 + 2, none⟩ = some (.string to)) (by kernel_rfl) (K3.out _ HB.out.drew) (fun hHeld => ?_)
        refine wpAnyH_take (i := 0) (oi := { dst := some 48, op := Op.move (Operand.tmp 3), type := 40, pos := "ref.go:60", after := #[], guard := none }) (v := ?_) rfl (by kernel_rfl) (by kernel_rfl) (by kernel_rfl) (fun _ _ _ h => h) (Or.inl ⟨by rfl, ?_⟩) (by assumption) ?_
        rotate_left
        · intro w hSw
          try dsimp only at hSw
          go_simp
          try with_reducible rfl
        try simp only [Act.put, List.setIfInBounds_toArray, List.set_cons_zero, List.set_cons_succ]
        refine wpAnyH_take (i := 1) (oi := { dst := some 49, op := Op.move (Operand.tmp 0), type := 22, pos := "ref.go:60", after := #[], guard := none }) (v := ?_) rfl (by kernel_rfl) (by kernel_rfl) (by kernel_rfl) (fun _ _ _ h => h) (Or.inl ⟨by rfl, ?_⟩) (by assumption) ?_
        rotate_left
        · intro w hSw
          try dsimp only at hSw
          go_simp
          try with_reducible rfl
        try simp only [Act.put, List.setIfInBounds_toArray, List.set_cons_zero, List.set_cons_succ]
        refine wpAnyH_take (i := 2) (oi := { dst := some 50, op := Op.move (Operand.tmp 4), type := 3, pos := "ref.go:60", after := #[], guard := none }) (v := ?_) rfl (by kernel_rfl) (by kernel_rfl) (by kernel_rfl) (fun _ _ _ h => h) (Or.inl ⟨by rfl, ?_⟩) (by assumption) ?_
        rotate_left
        · intro w hSw
          try dsimp only at hSw
          go_simp
          try with_reducible rfl
        try simp only [Act.put, List.setIfInBounds_toArray, List.set_cons_zero, List.set_cons_succ]
        refine wpAnyH_take (i := 3) (oi := { dst := some 51, op := Op.indexAddr 22 (Operand.tmp 49) (Operand.tmp 50), type := 0, pos := "ref.go:60", after := #[{ on := 1, ground := Ground.data }, { on := 2, ground := Ground.data }], guard := none }) (v := ?_) rfl (by kernel_rfl) (by kernel_rfl) (by kernel_rfl) (fun _ _ _ h => h) (Or.inl ⟨by rfl, ?_⟩) (by assumption) ?_
        rotate_left
        · intro w hSw
          try dsimp only at hSw
          go_simp
          try with_reducible rfl
        try simp only [Act.put, List.setIfInBounds_toArray, List.set_cons_zero, List.set_cons_succ]
        refine wpAnyH_take (i := 4) (oi := { dst := some 52, op := Op.fieldAddr 69 (Operand.tmp 51) 1, type := 0, pos := "ref.go:60", after := #[{ on := 3, ground := Ground.data }], guard := none }) (v := ?_) rfl (by kernel_rfl) (by kernel_rfl) (by kernel_rfl) (fun _ _ _ h => h) (Or.inl ⟨by rfl, ?_⟩) (by assumption) ?_
        rotate_left
        · intro w hSw
          try dsimp only at hSw
          go_simp
          try with_reducible rfl
        try simp only [Act.put, List.setIfInBounds_toArray, List.set_cons_zero, List.set_cons_succ]
        refine wpAnyH_take (i := 5) (oi := { dst := some 53, op := Op.load 9 (Operand.tmp 52), type := 9, pos := "ref.go:60", after := #[{ on := 4, ground := Ground.data }], guard := none }) (v := ?_) rfl (by kernel_rfl) (by kernel_rfl) (by kernel_rfl) (fun _ _ _ h => h) (Or.inl ⟨by rfl, ?_⟩) (by assumption) ?_
        rotate_left
        · intro w hSw
          try dsimp only at hSw
          go_simp
          try with_reducible rfl
        try simp only [Act.put, List.setIfInBounds_toArray, List.set_cons_zero, List.set_cons_succ]
        refine wpAnyH_take (i := 6) (oi := { dst := some 54, op := Op.move (Operand.tmp 0), type := 22, pos := "ref.go:60", after := #[], guard := none }) (v := ?_) rfl (by kernel_rfl) (by kernel_rfl) (by kernel_rfl) (fun _ _ _ h => h) (Or.inl ⟨by rfl, ?_⟩) (by assumption) ?_
        rotate_left
        · intro w hSw
          try dsimp only at hSw
          go_simp
          try with_reducible rfl
        try simp only [Act.put, List.setIfInBounds_toArray, List.set_cons_zero, List.set_cons_succ]
        refine wpAnyH_take (i := 7) (oi := { dst := some 55, op := Op.move (Operand.tmp 4), type := 3, pos := "ref.go:60", after := #[], guard := none }) (v := ?_) rfl (by kernel_rfl) (by kernel_rfl) (by kernel_rfl) (fun _ _ _ h => h) (Or.inl ⟨by rfl, ?_⟩) (by assumption) ?_
        rotate_left
        · intro w hSw
          try dsimp only at hSw
          go_simp
          try with_reducible rfl
        try simp only [Act.put, List.setIfInBounds_toArray, List.set_cons_zero, List.set_cons_succ]
        refine wpAnyH_take (i := 8) (oi := { dst := some 56, op := Op.indexAddr 22 (Operand.tmp 54) (Operand.tmp 55), type := 0, pos := "ref.go:60", after := #[{ on := 6, ground := Ground.data }, { on := 7, ground := Ground.data }], guard := none }) (v := ?_) rfl (by kernel_rfl) (by kernel_rfl) (by kernel_rfl) (fun _ _ _ h => h) (Or.inl ⟨by rfl, ?_⟩) (by assumption) ?_
        rotate_left
        · intro w hSw
          try dsimp only at hSw
          go_simp
          try with_reducible rfl
        try simp only [Act.put, List.setIfInBounds_toArray, List.set_cons_zero, List.set_cons_succ]
        refine wpAnyH_take (i := 9) (oi := { dst := some 57, op := Op.fieldAddr 69 (Operand.tmp 56) 2, type := 0, pos := "ref.go:60", after := #[{ on := 8, ground := Ground.data }], guard := none }) (v := ?_) rfl (by kernel_rfl) (by kernel_rfl) (by kernel_rfl) (fun _ _ _ h => h) (Or.inl ⟨by rfl, ?_⟩) (by assumption) ?_
        rotate_left
        · intro w hSw
          try dsimp only at hSw
          go_simp
          try with_reducible rfl
        try simp only [Act.put, List.setIfInBounds_toArray, List.set_cons_zero, List.set_cons_succ]
        refine wpAnyH_take (i := 10) (oi := { dst := some 58, op := Op.load 9 (Operand.tmp 57), type := 9, pos := "ref.go:60", after := #[{ on := 9, ground := Ground.data }], guard := none }) (v := ?_) rfl (by kernel_rfl) (by kernel_rfl) (by kernel_rfl) (fun _ _ _ h => h) (Or.inl ⟨by rfl, ?_⟩) (by assumption) ?_
        rotate_left
        · intro w hSw
          try dsimp only at hSw
          go_simp
          try with_reducible rfl
        try simp only [Act.put, List.setIfInBounds_toArray, List.set_cons_zero, List.set_cons_succ]
        refine wpAnyH_take (i := 11) (oi := { dst := some 59, op := Op.build 75 #[(0, Operand.tmp 53), (1, Operand.tmp 58)], type := 75, pos := "ref.go:60", after := #[{ on := 5, ground := Ground.data }, { on := 10, ground := Ground.data }], guard := none }) (v := ?_) rfl (by kernel_rfl) (by kernel_rfl) (by kernel_rfl) (fun _ _ _ h => h) (Or.inl ⟨by rfl, ?_⟩) (by assumption) ?_
        rotate_left
        · intro w hSw
          try dsimp only at hSw
          go_simp
          try with_reducible rfl
        try simp only [Act.put, List.setIfInBounds_toArray, List.set_cons_zero, List.set_cons_succ]
        refine wpAnyH_ready (rs := [12]) (by kernel_rfl) (by simp) ?_
        refine AllReadyH.cons (o := { dst := some 60, op := Op.buildSlice 40 1 #[(0, Operand.tmp 59)], type := 40, pos := "ref.go:60", after := #[{ on := 11, ground := Ground.data }], guard := none }) rfl (fun K hK => ?_) ?_
        rotate_left
        · exact AllReadyH.nil
        go_simp
        have HB8 : Hid (Below w.heap.size w (wr.drew.alloc (.cells #[.string key, .string to] 75))) := blAlloc HB.out.drew _
        have HO8 : Hid (OwnL (wr.drew.alloc (.cells #[.string key, .string to] 75)) w.heap.size (.slice av N cv) D) := HO.out.later (blAlloc (Below.refl _ _).drew _)
        refine hK.out _ _ (K3.out _ HB8.out) (fun hHeld => ?_)
        clear hK K
        try simp only [Act.put, List.setIfInBounds_toArray, List.set_cons_zero, List.set_cons_succ]
        refine wpAnyH_ready (rs := [13]) (by kernel_rfl) (by simp) ?_
        refine AllReadyH.cons (o := { dst := some 61, op := Op.call { callee := Callee.builtin Builtin.append, args := #[Operand.tmp 48, Operand.tmp 60], argTypes := #[40, 40] }, type := 40, pos := "ref.go:60", after := #[{ on := 0, ground := Ground.data }, { on := 12, ground := Ground.data }], guard := none }) rfl (fun K hK => ?_) ?_
        rotate_left
        · exact AllReadyH.nil
        refine wp_append_sp _ _ rfl w.heap.size _ D rfl HO8.out _ _ [(key, to)] rfl (row_one wr.drew (key, to) _ rfl) (by have := HLL.out; have := HN.out; simp only [List.length_cons, List.length_nil]; omega) HB8.out.size ?_
        intro v9 w9 h1 h2
        have HO9 := Lib.hid h1
        have HB9 : Hid (Below w.heap.size w w9) := grown_below HB8.out HO8.out (Nat.le_refl _) HB8.out.size h2
        clear h1 h2
        refine hK.out _ _ (K3.out _ HB9.out) (fun hHeld => ?_)
        clear hK K
        try simp only [Act.put, List.setIfInBounds_toArray, List.set_cons_zero, List.set_cons_succ]
        refine wpAnyH_take (i := 14) (oi := { dst := some 3, op := Op.assign (Operand.tmp 61), type := 40, pos := "ref.go:60", after := #[{ on := 13, ground := Ground.data }, { on := 13, ground := Ground.chain }, { on := 0, ground := Ground.phase }, { on := 1, ground := Ground.phase }, { on := 2, ground := Ground.phase }, { on := 3, ground := Ground.phase }, { on := 4, ground := Ground.phase }, { on := 5, ground := Ground.phase }, { on := 6, ground := Ground.phase }, { on := 7, ground := Ground.phase }, { on := 8, ground := Ground.phase }, { on := 9, ground := Ground.phase }, { on := 10, ground := Ground.phase }, { on := 11, ground := Ground.phase }, { on := 12, ground := Ground.phase }, { on := 13, ground := Ground.phase }], guard := none }) (v := ?_) rfl (by kernel_rfl) (by kernel_rfl) (by kernel_rfl) (fun _ _ _ h => h) (Or.inl ⟨by rfl, ?_⟩) (by assumption) ?_
        rotate_left
        · intro w hSw
          try dsimp only at hSw
          go_simp
          try with_reducible rfl
        try simp only [Act.put, List.setIfInBounds_toArray, List.set_cons_zero, List.set_cons_succ]
        refine wpAnyH_done (by kernel_rfl) ?_ _
        go_wp2
        go_roundw
        case rel => exact ⟨k + 1, hlt, by go_num, by rw [HT.out]; exact HO9.out, HB9.out⟩
        case measure => simp [intOf]; omega
      · clear HK6
        go_wp2
        go_roundw
        case rel => exact ⟨k + 1, hlt, by go_num, by rw [HT.out]; exact (by rw [show rdS (3, key, to, n) = [] from rfl, List.append_nil]; exact HO.out), HB.out⟩
        case measure => simp [intOf]; omega
      · clear HK6
        go_wp2_with (first
          | (go_at_call 64; refine (rpoint_any key _ hkl).mono ?_; rintro e w2 ⟨rfl, h5⟩; have HB2 : Hid (Below w.heap.size w w2) := blThen HB.out h5; have HO2 := Lib.hid (HO.out.later h5); clear h5)
          | (at_builtin; go_must (refine append_sp rfl _ _ rfl w.heap.size _ D rfl (HO2.out.later (blAlloc (Below.refl _ _) _)) _ [ptS key] rfl (one_sl (box2_new _ (ptS key)) _) (by have := HLL.out; have := HN.out; simp only [List.length_cons, List.length_nil]; omega) (blAlloc HB2.out _).size ?_; intro v3 w3 h1 h2; have HO3 := Lib.hid h1; have HB3 : Hid (Below w.heap.size w w3) := grown_below (blAlloc HB2.out _) (HO2.out.later (blAlloc (Below.refl _ _) _)) (Nat.le_refl _) (blAlloc HB2.out _).size h2; clear h1 h2)))
        go_roundw
        case rel => exact ⟨k + 1, hlt, by go_num, by rw [HT.out]; exact HO3.out, HB3.out⟩
        case measure => simp [intOf]; omega
      · clear HK6
        go_wp2_with (first
          | (go_at_call 64; refine (rpoint_any key _ hkl).mono ?_; rintro e w2 ⟨rfl, h5⟩; have HB2 : Hid (Below w.heap.size w w2) := blThen HB.out h5; have HO2 := Lib.hid (HO.out.later h5); clear h5)
          | (at_builtin; go_must (refine append_sp rfl _ _ rfl w.heap.size _ D rfl (HO2.out.later (blAlloc (Below.refl _ _) _)) _ [ptS key] rfl (one_sl (box2_new _ (ptS key)) _) (by have := HLL.out; have := HN.out; simp only [List.length_cons, List.length_nil]; omega) (blAlloc HB2.out _).size ?_; intro v3 w3 h1 h2; have HO3 := Lib.hid h1; have HB3 : Hid (Below w.heap.size w w3) := grown_below (blAlloc HB2.out _) (HO2.out.later (blAlloc (Below.refl _ _) _)) (Nat.le_refl _) (blAlloc HB2.out _).size h2; clear h1 h2)))
        go_roundw
        case rel => exact ⟨k + 1, hlt, by go_num, by rw [HT.out]; exact HO3.out, HB3.out⟩
        case measure => simp [intOf]; omega
      · have HT6 := Lib.hid (HK6.out rfl)
        clear HK6
        go_wp2_with fail
        refine wp_region_held_drew (S := fun Y => Y.cell? ⟨g, o + k * 4 + 1, none⟩ = some (.string key) ∧ Y.cell? ⟨g, o + k * 4 + 2, none⟩ = some (.string to)) (by kernel_rfl) (K3.out _ HB.out.drew) (fun hHeld => ?_)
        refine wpAnyH_take (i := 0) (oi := { dst := some 31, op := Op.move (Operand.tmp 3), type := 40, pos := "ref.go:58", after := #[], guard := none }) (v := ?_) rfl (by kernel_rfl) (by kernel_rfl) (by kernel_rfl) (fun _ _ _ h => h) (Or.inl ⟨by rfl, ?_⟩) (by assumption) ?_
        rotate_left
        · intro w hSw
          try dsimp only at hSw
          go_simp
          try with_reducible rfl
        try simp only [Act.put, List.setIfInBounds_toArray, List.set_cons_zero, List.set_cons_succ]
        refine wpAnyH_take (i := 1) (oi := { dst := some 32, op := Op.move (Operand.tmp 0), type := 22, pos := "ref.go:58", after := #[], guard := none }) (v := ?_) rfl (by kernel_rfl) (by kernel_rfl) (by kernel_rfl) (fun _ _ _ h => h) (Or.inl ⟨by rfl, ?_⟩) (by assumption) ?_
        rotate_left
        · intro w hSw
          try dsimp only at hSw
          go_simp
          try with_reducible rfl
        try simp only [Act.put, List.setIfInBounds_toArray, List.set_cons_zero, List.set_cons_succ]
        refine wpAnyH_take (i := 2) (oi := { dst := some 33, op := Op.move (Operand.tmp 4), type := 3, pos := "ref.go:58", after := #[], guard := none }) (v := ?_) rfl (by kernel_rfl) (by kernel_rfl) (by kernel_rfl) (fun _ _ _ h => h) (Or.inl ⟨by rfl, ?_⟩) (by assumption) ?_
        rotate_left
        · intro w hSw
          try dsimp only at hSw
          go_simp
          try with_reducible rfl
        try simp only [Act.put, List.setIfInBounds_toArray, List.set_cons_zero, List.set_cons_succ]
        refine wpAnyH_take (i := 3) (oi := { dst := some 34, op := Op.indexAddr 22 (Operand.tmp 32) (Operand.tmp 33), type := 0, pos := "ref.go:58", after := #[{ on := 1, ground := Ground.data }, { on := 2, ground := Ground.data }], guard := none }) (v := ?_) rfl (by kernel_rfl) (by kernel_rfl) (by kernel_rfl) (fun _ _ _ h => h) (Or.inl ⟨by rfl, ?_⟩) (by assumption) ?_
        rotate_left
        · intro w hSw
          try dsimp only at hSw
          go_simp
          try with_reducible rfl
        try simp only [Act.put, List.setIfInBounds_toArray, List.set_cons_zero, List.set_cons_succ]
        refine wpAnyH_take (i := 4) (oi := { dst := some 35, op := Op.fieldAddr 69 (Operand.tmp 34) 1, type := 0, pos := "ref.go:58", after := #[{ on := 3, ground := Ground.data }], guard := none }) (v := ?_) rfl (by kernel_rfl) (by kernel_rfl) (by kernel_rfl) (fun _ _ _ h => h) (Or.inl ⟨by rfl, ?_⟩) (by assumption) ?_
        rotate_left
        · intro w hSw
          try dsimp only at hSw
          go_simp
          try with_reducible rfl
        try simp only [Act.put, List.setIfInBounds_toArray, List.set_cons_zero, List.set_cons_succ]
        refine wpAnyH_take (i := 5) (oi := { dst := some 36, op := Op.load 9 (Operand.tmp 35), type := 9, pos := "ref.go:58", after := #[{ on := 4, ground := Ground.data }], guard := none }) (v := ?_) rfl (by kernel_rfl) (by kernel_rfl) (by kernel_rfl) (fun _ _ _ h => h) (Or.inl ⟨by rfl, ?_⟩) (by assumption) ?_
        rotate_left
        · intro w hSw
          try dsimp only at hSw
          go_simp
          try with_reducible rfl
        try simp only [Act.put, List.setIfInBounds_toArray, List.set_cons_zero, List.set_cons_succ]
        refine wpAnyH_take (i := 7) (oi := { dst := some 38, op := Op.move (Operand.tmp 0), type := 22, pos := "ref.go:58", after := #[], guard := none }) (v := ?_) rfl (by kernel_rfl) (by kernel_rfl) (by kernel_rfl) (fun _ _ _ h => h) (Or.inl ⟨by rfl, ?_⟩) (by assumption) ?_
        rotate_left
        · intro w hSw
          try dsimp only at hSw
          go_simp
          try with_reducible rfl
        try simp only [Act.put, List.setIfInBounds_toArray, List.set_cons_zero, List.set_cons_succ]
        refine wpAnyH_take (i := 8) (oi := { dst := some 39, op := Op.move (Operand.tmp 4), type := 3, pos := "ref.go:58", after := #[], guard := none }) (v := ?_) rfl (by kernel_rfl) (by kernel_rfl) (by kernel_rfl) (fun _ _ _ h => h) (Or.inl ⟨by rfl, ?_⟩) (by assumption) ?_
        rotate_left
        · intro w hSw
          try dsimp only at hSw
          go_simp
          try with_reducible rfl
        try simp only [Act.put, List.setIfInBounds_toArray, List.set_cons_zero, List.set_cons_succ]
        refine wpAnyH_take (i := 9) (oi := { dst := some 40, op := Op.indexAddr 22 (Operand.tmp 38) (Operand.tmp 39), type := 0, pos := "ref.go:58", after := #[{ on := 7, ground := Ground.data }, { on := 8, ground := Ground.data }], guard := none }) (v := ?_) rfl (by kernel_rfl) (by kernel_rfl) (by kernel_rfl) (fun _ _ _ h => h) (Or.inl ⟨by rfl, ?_⟩) (by assumption) ?_
        rotate_left
        · intro w hSw
          try dsimp only at hSw
          go_simp
          try with_reducible rfl
        try simp only [Act.put, List.setIfInBounds_toArray, List.set_cons_zero, List.set_cons_succ]
        refine wpAnyH_take (i := 10) (oi := { dst := some 41, op := Op.fieldAddr 69 (Operand.tmp 40) 2, type := 0, pos := "ref.go:58", after := #[{ on := 9, ground := Ground.data }], guard := none }) (v := ?_) rfl (by kernel_rfl) (by kernel_rfl) (by kernel_rfl) (fun _ _ _ h => h) (Or.inl ⟨by rfl, ?_⟩) (by assumption) ?_
        rotate_left
        · intro w hSw
          try dsimp only at hSw
          go_simp
          try with_reducible rfl
        try simp only [Act.put, List.setIfInBounds_toArray, List.set_cons_zero, List.set_cons_succ]
        refine wpAnyH_take (i := 11) (oi := { dst := some 42, op := Op.load 9 (Operand.tmp 41), type := 9, pos := "ref.go:58", after := #[{ on := 10, ground := Ground.data }], guard := none }) (v := ?_) rfl (by kernel_rfl) (by kernel_rfl) (by kernel_rfl) (fun _ _ _ h => h) (Or.inl ⟨by rfl, ?_⟩) (by assumption) ?_
        rotate_left
        · intro w hSw
          try dsimp only at hSw
          go_simp
          try with_reducible rfl
        try simp only [Act.put, List.setIfInBounds_toArray, List.set_cons_zero, List.set_cons_succ]
        refine wpAnyH_ready (rs := [6]) (by kernel_rfl) (by simp) ?_
        refine AllReadyH.cons (o := { dst := some 37, op := Op.call { callee := Callee.value (Operand.func 64), args := #[Operand.tmp 36], argTypes := #[9] }, type := 75, pos := "ref.go:58", after := #[{ on := 5, ground := Ground.data }], guard := none }) rfl (fun K hK => ?_) ?_
        rotate_left
        · exact AllReadyH.nil
        go_simp
        go_at_call 64
        refine (rpoint_any key _ hkl).mono ?_
        rintro e w6 ⟨rfl, h5⟩
        have HB6 : Hid (Below w.heap.size w w6) := blThen (by repeat (first | with_reducible exact HB.out | with_reducible exact Below.refl _ _ | with_reducible refine blAlloc ?_ _ | with_reducible refine Below.drew ?_)) h5
        have HO6 := Lib.hid (HO.out.later (blThen (by repeat (first | with_reducible exact Below.refl _ _ | with_reducible refine blAlloc ?_ _ | with_reducible refine Below.drew ?_)) h5))
        clear h5
        refine hK.out _ _ (K3.out _ HB6.out) (fun hHeld => ?_)
        clear hK K
        try simp only [Act.put, List.setIfInBounds_toArray, List.set_cons_zero, List.set_cons_succ]
        refine wpAnyH_ready (rs := [12]) (by kernel_rfl) (by simp) ?_
        refine AllReadyH.cons (o := { dst := some 43, op := Op.call { callee := Callee.value (Operand.func 64), args := #[Operand.tmp 42], argTypes := #[9] }, type := 75, pos := "ref.go:58", after := #[{ on := 11, ground := Ground.data }, { on := 6, ground := Ground.chain }], guard := none }) rfl (fun K hK => ?_) ?_
        rotate_left
        · exact AllReadyH.nil
        go_simp
        go_at_call 64
        refine (rpoint_any to _ HT6.out).mono ?_
        rintro e w7 ⟨rfl, h5⟩
        have HB7 : Hid (Below w.heap.size w w7) := blThen (by repeat (first | with_reducible exact HB6.out | with_reducible exact Below.refl _ _ | with_reducible refine blAlloc ?_ _ | with_reducible refine Below.drew ?_)) h5
        have HO7 := Lib.hid (HO6.out.later (blThen (by repeat (first | with_reducible exact Below.refl _ _ | with_reducible refine blAlloc ?_ _ | with_reducible refine Below.drew ?_)) h5))
        clear h5
        refine hK.out _ _ (K3.out _ HB7.out) (fun hHeld => ?_)
        clear hK K
        try simp only [Act.put, List.setIfInBounds_toArray, List.set_cons_zero, List.set_cons_succ]
        refine wpAnyH_ready (rs := [13]) (by kernel_rfl) (by simp) ?_
        refine AllReadyH.cons (o := { dst := some 44, op := Op.buildSlice 40 2 #[(0, Operand.tmp 37), (1, Operand.tmp 43)], type := 40, pos := "ref.go:58", after := #[{ on := 6, ground := Ground.data }, { on := 12, ground := Ground.data }], guard := none }) rfl (fun K hK => ?_) ?_
        rotate_left
        · exact AllReadyH.nil
        go_simp
        have HB8 : Hid (Below w.heap.size w (w7.alloc (.cells #[.string key, .string (key ++ ⟨#[0]⟩), .string to, .string (to ++ ⟨#[0]⟩)] 75))) := blAlloc HB7.out _
        have HO8 : Hid (OwnL (w7.alloc (.cells #[.string key, .string (key ++ ⟨#[0]⟩), .string to, .string (to ++ ⟨#[0]⟩)] 75)) w.heap.size (.slice av N cv) D) := HO7.out.later (blAlloc (Below.refl _ _) _)
        refine hK.out _ _ (K3.out _ HB8.out) (fun hHeld => ?_)
        clear hK K
        try simp only [Act.put, List.setIfInBounds_toArray, List.set_cons_zero, List.set_cons_succ]
        refine wpAnyH_ready (rs := [14]) (by kernel_rfl) (by simp) ?_
        refine AllReadyH.cons (o := { dst := some 45, op := Op.call { callee := Callee.builtin Builtin.append, args := #[Operand.tmp 31, Operand.tmp 44], argTypes := #[40, 40] }, type := 40, pos := "ref.go:58", after := #[{ on := 0, ground := Ground.data }, { on := 13, ground := Ground.data }, { on := 12, ground := Ground.chain }], guard := none }) rfl (fun K hK => ?_) ?_
        rotate_left
        · exact AllReadyH.nil
        refine wp_append_sp _ _ rfl w.heap.size _ D rfl HO8.out _ _ [ptS key, ptS to] rfl (row_two w7 (ptS key) (ptS to) _ rfl) (by have := HLL.out; have := HN.out; simp only [List.length_cons, List.length_nil]; omega) HB8.out.size ?_
        intro v9 w9 h1 h2
        have HO9 := Lib.hid h1
        have HB9 : Hid (Below w.heap.size w w9) := grown_below HB8.out HO8.out (Nat.le_refl _) HB8.out.size h2
        clear h1 h2
        refine hK.out _ _ (K3.out _ HB9.out) (fun hHeld => ?_)
        clear hK K
        try simp only [Act.put, List.setIfInBounds_toArray, List.set_cons_zero, List.set_cons_succ]
        refine wpAnyH_take (i := 15) (oi := { dst := some 3, op := Op.assign (Operand.tmp 45), type := 40, pos := "ref.go:58", after := #[{ on := 14, ground := Ground.data }, { on := 14, ground := Ground.chain }, { on := 0, ground := Ground.phase }, { on := 1, ground := Ground.phase }, { on := 2, ground := Ground.phase }, { on := 3, ground := Ground.phase }, { on := 4, ground := Ground.phase }, { on := 5, ground := Ground.phase }, { on := 6, ground := Ground.phase }, { on := 7, ground := Ground.phase }, { on := 8, ground := Ground.phase }, { on := 9, ground := Ground.phase }, { on := 10, ground := Ground.phase }, { on := 11, ground := Ground.phase }, { on := 12, ground := Ground.phase }, { on := 13, ground := Ground.phase }, { on := 14, ground := Ground.phase }], guard := none }) (v := ?_) rfl (by kernel_rfl) (by kernel_rfl) (by kernel_rfl) (fun _ _ _ h => h) (Or.inl ⟨by rfl, ?_⟩) (by assumption) ?_
        rotate_left
        · intro w hSw
          try dsimp only at hSw
          go_simp
          try with_reducible rfl
        try simp only [Act.put, List.setIfInBounds_toArray, List.set_cons_zero, List.set_cons_succ]
        refine wpAnyH_done (by kernel_rfl) ?_ _
        go_wp2
        go_roundw
        case rel => exact ⟨k + 1, hlt, by go_num, by rw [HT.out]; exact HO9.out, HB9.out⟩
        case measure => simp [intOf]; omega
    · have hge : ¬ (k : Int) < (l.length : Int) := by omega
      have hdk : decide ((k : Int) < (l.length : Int)) = false := decide_eq_false hge
      have hdn : decide (k < l.length) = false := decide_eq_false hlt
      have hE : D = l.flatMap rdS := by rw [← HD.out, List.take_of_length_le (by omega)]
      have HE := Lib.hid hE
      clear hE
      have HO := Lib.hid (show OwnL wr w.heap.size (.slice av N cv) D from HO.out)
      go_wp2_with (go_at_call 34; go_must (refine (refunion_any _ D _ (by have := HLL.out; have := HN.out; omega) HO.out.sl).mono ?_; rintro e w2 ⟨v, rfl, h1, h2⟩; rw [HE.out] at h1; have H1 := Lib.hid (h1.mono HB.out.size); have H2 : Hid (Below w.heap.size w w2) := blThen HB.out h2; clear h1 h2))
      go_ret
      exact ⟨_, rfl, H1.out, H2.out⟩

set_option maxRecDepth 100000 in
set_option maxHeartbeats 8000000 in
theorem rwrites_any (va : Value) (l : List Opr) (w : World) (hlen : l.length ≤ 1000) (hok : ∀ o ∈ l, okB o = true) (h : SlG eO w va l) : Calls Tryz.prog 28 #[va] w (RetO w (uniL (l.flatMap wrS))) := by
  obtain ⟨a, cap, rfl⟩ := h.form
  have HL := Lib.hid h
  have HOK := Lib.hid hok
  clear h hok
  go_enter Tryz.func28, Tryz.ntmps28
  go_wp2_with fail
  go_loopw [3, 4] (fun v i wr => ∃ k : Nat, k ≤ l.length ∧ i = .int .i64 k ∧ OwnL wr w.heap.size v ((l.take k).flatMap wrS) ∧ Below w.heap.size w wr) (fun _ i _ => l.length - (intOf i).toNat)
  case atStart => exact ⟨0, Nat.zero_le _, rfl, OwnL.nil _ _, Below.refl _ _⟩
  case round =>
    obtain ⟨k, hk, rfl, ho, hb⟩ := hrel
    have HB := Lib.hid hb
    have HO := Lib.hid ho
    obtain ⟨av, cv, rfl⟩ := ho.form
    have HLL : Hid (((l.take k).flatMap wrS).length ≤ 2000) := by
      have h1 := flat_len wrS wrS_len (l.take k)
      rw [List.length_take] at h1
      show _ ≤ _
      omega
    clear hb ho
    generalize hD : (l.take k).flatMap wrS = D at *
    generalize hN : D.length = N at *
    have HD := Lib.hid hD
    have HN := Lib.hid hN
    clear hD hN
    by_cases hlt : k < l.length
    · obtain ⟨⟨kd, key, to, n⟩, hx⟩ := at_lt hlt
      obtain ⟨g, o, hA, hg, d0, d1, d2, d3⟩ := ops_at HL.out hx
      simp only at d0 d1 d2 d3
      have K3 := Lib.hid (fun (Y : World) (hY : Below w.heap.size w Y) => (⟨cell_in hY hg d1, cell_in hY hg d2⟩ : Y.cell? ⟨g, o + k * 4 + 1, none⟩ = some (.string key) ∧ Y.cell? ⟨g, o + k * 4 + 2, none⟩ = some (.string to)))
      have c0 := cell_in HB.out hg d0
      have c1 := cell_in HB.out hg d1
      have c2 := cell_in HB.out hg d2
      obtain ⟨hkd, hky, _, h6, _⟩ := ok_kd (HOK.out _ (List.mem_of_getElem? hx))
      simp only at hky h6
      have hkl : key.size ≤ 1000000000 := by have := key_len hky; omega
      have HK6 : Hid (kd = 6 → to.size ≤ 1000000000) := fun e => by have := key_len (h6 e).1; omega
      have hk1 : (k : Int) < (l.length : Int) := by omega
      have hk0 : (0 : Int) ≤ (k : Int) := by omega
      have hdk : decide ((k : Int) < (l.length : Int)) = true := decide_eq_true hk1
      have hdn : decide (k < l.length) = true := decide_eq_true hlt
      have HT := Lib.hid (flat_take wrS hx)
      rw [HD.out] at HT
      have hcs : kd = 1 ∨ kd = 2 ∨ kd = 3 ∨ kd = 4 ∨ kd = 5 ∨ kd = 6 := by
        unfold Kd at hkd
        simp only at hkd
        omega
      clear hx hkd h6 hky d0 d1 d2 d3
      subst hA
      rcases hcs with rfl | rfl | rfl | rfl | rfl | rfl
      · clear HK6
        go_wp2
        go_roundw
        case rel => exact ⟨k + 1, hlt, by go_num, by rw [HT.out]; exact (by rw [show wrS (1, key, to, n) = [] from rfl, List.append_nil]; exact HO.out), HB.out⟩
        case measure => simp [intOf]; omega
      · clear HK6
        go_wp2
        go_roundw
        case rel => exact ⟨k + 1, hlt, by go_num, by rw [HT.out]; exact (by rw [show wrS (2, key, to, n) = [] from rfl, List.append_nil]; exact HO.out), HB.out⟩
        case measure => simp [intOf]; omega
      · clear HK6
        go_wp2_with (first
          | (go_at_call 64; refine (rpoint_any key _ hkl).mono ?_; rintro e w2 ⟨rfl, h5⟩; have HB2 : Hid (Below w.heap.size w w2) := blThen HB.out h5; have HO2 := Lib.hid (HO.out.later h5); clear h5)
          | (at_builtin; go_must (refine append_sp rfl _ _ rfl w.heap.size _ D rfl (HO2.out.later (blAlloc (Below.refl _ _) _)) _ [ptS key] rfl (one_sl (box2_new _ (ptS key)) _) (by have := HLL.out; have := HN.out; simp only [List.length_cons, List.length_nil]; omega) (blAlloc HB2.out _).size ?_; intro v3 w3 h1 h2; have HO3 := Lib.hid h1; have HB3 : Hid (Below w.heap.size w w3) := grown_below (blAlloc HB2.out _) (HO2.out.later (blAlloc (Below.refl _ _) _)) (Nat.le_refl _) (blAlloc HB2.out _).size h2; clear h1 h2)))
        go_roundw
        case rel => exact ⟨k + 1, hlt, by go_num, by rw [HT.out]; exact HO3.out, HB3.out⟩
        case measure => simp [intOf]; omega
      · clear HK6
        go_wp2_with (first
          | (go_at_call 64; refine (rpoint_any key _ hkl).mono ?_; rintro e w2 ⟨rfl, h5⟩; have HB2 : Hid (Below w.heap.size w w2) := blThen HB.out h5; have HO2 := Lib.hid (HO.out.later h5); clear h5)
          | (at_builtin; go_must (refine append_sp rfl _ _ rfl w.heap.size _ D rfl (HO2.out.later (blAlloc (Below.refl _ _) _)) _ [ptS key] rfl (one_sl (box2_new _ (ptS key)) _) (by have := HLL.out; have := HN.out; simp only [List.length_cons, List.length_nil]; omega) (blAlloc HB2.out _).size ?_; intro v3 w3 h1 h2; have HO3 := Lib.hid h1; have HB3 : Hid (Below w.heap.size w w3) := grown_below (blAlloc HB2.out _) (HO2.out.later (blAlloc (Below.refl _ _) _)) (Nat.le_refl _) (blAlloc HB2.out _).size h2; clear h1 h2)))
        go_roundw
        case rel => exact ⟨k + 1, hlt, by go_num, by rw [HT.out]; exact HO3.out, HB3.out⟩
        case measure => simp [intOf]; omega
      · clear HK6
        go_wp2_with (first
          | (go_at_call 64; refine (rpoint_any key _ hkl).mono ?_; rintro e w2 ⟨rfl, h5⟩; have HB2 : Hid (Below w.heap.size w w2) := blThen HB.out h5; have HO2 := Lib.hid (HO.out.later h5); clear h5)
          | (at_builtin; go_must (refine append_sp rfl _ _ rfl w.heap.size _ D rfl (HO2.out.later (blAlloc (Below.refl _ _) _)) _ [ptS key] rfl (one_sl (box2_new _ (ptS key)) _) (by have := HLL.out; have := HN.out; simp only [List.length_cons, List.length_nil]; omega) (blAlloc HB2.out _).size ?_; intro v3 w3 h1 h2; have HO3 := Lib.hid h1; have HB3 : Hid (Below w.heap.size w w3) := grown_below (blAlloc HB2.out _) (HO2.out.later (blAlloc (Below.refl _ _) _)) (Nat.le_refl _) (blAlloc HB2.out _).size h2; clear h1 h2)))
        go_roundw
        case rel => exact ⟨k + 1, hlt, by go_num, by rw [HT.out]; exact HO3.out, HB3.out⟩
        case measure => simp [intOf]; omega
      · have HT6 := Lib.hid (HK6.out rfl)
        clear HK6
        go_wp2_with fail
        refine wp_region_held_drew (S := fun Y => Y.cell? ⟨g, o + k * 4 + 1, none⟩ = some (.string key) ∧ Y.cell? ⟨g, o + k * 4 + 2, none⟩ = some (.string to)) (by kernel_rfl) (K3.out _ HB.out.drew) (fun hHeld => ?_)
        refine wpAnyH_take (i := 0) (oi := { dst := some 31, op := Op.move (Operand.tmp 3), type := 40, pos := "ref.go:74", after := #[], guard := none }) (v := ?_) rfl (by kernel_rfl) (by kernel_rfl) (by kernel_rfl) (fun _ _ _ h => h) (Or.inl ⟨by rfl, ?_⟩) (by assumption) ?_
        rotate_left
        · intro w hSw
          try dsimp only at hSw
          go_simp
          try with_reducible rfl
        try simp only [Act.put, List.setIfInBounds_toArray, List.set_cons_zero, List.set_cons_succ]
        refine wpAnyH_take (i := 1) (oi := { dst := some 32, op := Op.move (Operand.tmp 0), type := 22, pos := "ref.go:74", after := #[], guard := none }) (v := ?_) rfl (by kernel_rfl) (by kernel_rfl) (by kernel_rfl) (fun _ _ _ h => h) (Or.inl ⟨by rfl, ?_⟩) (by assumption) ?_
        rotate_left
        · intro w hSw
          try dsimp only at hSw
          go_simp
          try with_reducible rfl
        try simp only [Act.put, List.setIfInBounds_toArray, List.set_cons_zero, List.set_cons_succ]
        refine wpAnyH_take (i := 2) (oi := { dst := some 33, op := Op.move (Operand.tmp 4), type := 3, pos := "ref.go:74", after := #[], guard := none }) (v := ?_) rfl (by kernel_rfl) (by kernel_rfl) (by kernel_rfl) (fun _ _ _ h => h) (Or.inl ⟨by rfl, ?_⟩) (by assumption) ?_
        rotate_left
        · intro w hSw
          try dsimp only at hSw
          go_simp
          try with_reducible rfl
        try simp only [Act.put, List.setIfInBounds_toArray, List.set_cons_zero, List.set_cons_succ]
        refine wpAnyH_take (i := 3) (oi := { dst := some 34, op := Op.indexAddr 22 (Operand.tmp 32) (Operand.tmp 33), type := 0, pos := "ref.go:74", after := #[{ on := 1, ground := Ground.data }, { on := 2, ground := Ground.data }], guard := none }) (v := ?_) rfl (by kernel_rfl) (by kernel_rfl) (by kernel_rfl) (fun _ _ _ h => h) (Or.inl ⟨by rfl, ?_⟩) (by assumption) ?_
        rotate_left
        · intro w hSw
          try dsimp only at hSw
          go_simp
          try with_reducible rfl
        try simp only [Act.put, List.setIfInBounds_toArray, List.set_cons_zero, List.set_cons_succ]
        refine wpAnyH_take (i := 4) (oi := { dst := some 35, op := Op.fieldAddr 69 (Operand.tmp 34) 1, type := 0, pos := "ref.go:74", after := #[{ on := 3, ground := Ground.data }], guard := none }) (v := ?_) rfl (by kernel_rfl) (by kernel_rfl) (by kernel_rfl) (fun _ _ _ h => h) (Or.inl ⟨by rfl, ?_⟩) (by assumption) ?_
        rotate_left
        · intro w hSw
          try dsimp only at hSw
          go_simp
          try with_reducible rfl
        try simp only [Act.put, List.setIfInBounds_toArray, List.set_cons_zero, List.set_cons_succ]
        refine wpAnyH_take (i := 5) (oi := { dst := some 36, op := Op.load 9 (Operand.tmp 35), type := 9, pos := "ref.go:74", after := #[{ on := 4, ground := Ground.data }], guard := none }) (v := ?_) rfl (by kernel_rfl) (by kernel_rfl) (by kernel_rfl) (fun _ _ _ h => h) (Or.inl ⟨by rfl, ?_⟩) (by assumption) ?_
        rotate_left
        · intro w hSw
          try dsimp only at hSw
          go_simp
          try with_reducible rfl
        try simp only [Act.put, List.setIfInBounds_toArray, List.set_cons_zero, List.set_cons_succ]
        refine wpAnyH_take (i := 7) (oi := { dst := some 38, op := Op.move (Operand.tmp 0), type := 22, pos := "ref.go:74", after := #[], guard := none }) (v := ?_) rfl (by kernel_rfl) (by kernel_rfl) (by kernel_rfl) (fun _ _ _ h => h) (Or.inl ⟨by rfl, ?_⟩) (by assumption) ?_
        rotate_left
        · intro w hSw
          try dsimp only at hSw
          go_simp
          try with_reducible rfl
        try simp only [Act.put, List.setIfInBounds_toArray, List.set_cons_zero, List.set_cons_succ]
        refine wpAnyH_take (i := 8) (oi := { dst := some 39, op := Op.move (Operand.tmp 4), type := 3, pos := "ref.go:74", after := #[], guard := none }) (v := ?_) rfl (by kernel_rfl) (by kernel_rfl) (by kernel_rfl) (fun _ _ _ h => h) (Or.inl ⟨by rfl, ?_⟩) (by assumption) ?_
        rotate_left
        · intro w hSw
          try dsimp only at hSw
          go_simp
          try with_reducible rfl
        try simp only [Act.put, List.setIfInBounds_toArray, List.set_cons_zero, List.set_cons_succ]
        refine wpAnyH_take (i := 9) (oi := { dst := some 40, op := Op.indexAddr 22 (Operand.tmp 38) (Operand.tmp 39), type := 0, pos := "ref.go:74", after := #[{ on := 7, ground := Ground.data }, { on := 8, ground := Ground.data }], guard := none }) (v := ?_) rfl (by kernel_rfl) (by kernel_rfl) (by kernel_rfl) (fun _ _ _ h => h) (Or.inl ⟨by rfl, ?_⟩) (by assumption) ?_
        rotate_left
        · intro w hSw
          try dsimp only at hSw
          go_simp
          try with_reducible rfl
        try simp only [Act.put, List.setIfInBounds_toArray, List.set_cons_zero, List.set_cons_succ]
        refine wpAnyH_take (i := 10) (oi := { dst := some 41, op := Op.fieldAddr 69 (Operand.tmp 40) 2, type := 0, pos := "ref.go:74", after := #[{ on := 9, ground := Ground.data }], guard := none }) (v := ?_) rfl (by kernel_rfl) (by kernel_rfl) (by kernel_rfl) (fun _ _ _ h => h) (Or.inl ⟨by rfl, ?_⟩) (by assumption) ?_
        rotate_left
        · intro w hSw
          try dsimp only at hSw
          go_simp
          try with_reducible rfl
        try simp only [Act.put, List.setIfInBounds_toArray, List.set_cons_zero, List.set_cons_succ]
        refine wpAnyH_take (i := 11) (oi := { dst := some 42, op := Op.load 9 (Operand.tmp 41), type := 9, pos := "ref.go:74", after := #[{ on := 10, ground := Ground.data }], guard := none }) (v := ?_) rfl (by kernel_rfl) (by kernel_rfl) (by kernel_rfl) (fun _ _ _ h => h) (Or.inl ⟨by rfl, ?_⟩) (by assumption) ?_
        rotate_left
        · intro w hSw
          try dsimp only at hSw
          go_simp
          try with_reducible rfl
        try simp only [Act.put, List.setIfInBounds_toArray, List.set_cons_zero, List.set_cons_succ]
        refine wpAnyH_ready (rs := [6]) (by kernel_rfl) (by simp) ?_
        refine AllReadyH.cons (o := { dst := some 37, op := Op.call { callee := Callee.value (Operand.func 64), args := #[Operand.tmp 36], argTypes := #[9] }, type := 75, pos := "ref.go:74", after := #[{ on := 5, ground := Ground.data }], guard := none }) rfl (fun K hK => ?_) ?_
        rotate_left
        · exact AllReadyH.nil
        go_simp
        go_at_call 64
        refine (rpoint_any key _ hkl).mono ?_
        rintro e w6 ⟨rfl, h5⟩
        have HB6 : Hid (Below w.heap.size w w6) := blThen (by repeat (first | with_reducible exact HB.out | with_reducible exact Below.refl _ _ | with_reducible refine blAlloc ?_ _ | with_reducible refine Below.drew ?_)) h5
        have HO6 := Lib.hid (HO.out.later (blThen (by repeat (first | with_reducible exact Below.refl _ _ | with_reducible refine blAlloc ?_ _ | with_reducible refine Below.drew ?_)) h5))
        clear h5
        refine hK.out _ _ (K3.out _ HB6.out) (fun hHeld => ?_)
        clear hK K
        try simp only [Act.put, List.setIfInBounds_toArray, List.set_cons_zero, List.set_cons_succ]
        refine wpAnyH_ready (rs := [12]) (by kernel_rfl) (by simp) ?_
        refine AllReadyH.cons (o := { dst := some 43, op := Op.call { callee := Callee.value (Operand.func 64), args := #[Operand.tmp 42], argTypes := #[9] }, type := 75, pos := "ref.go:74", after := #[{ on := 11, ground := Ground.data }, { on := 6, ground := Ground.chain }], guard := none }) rfl (fun K hK => ?_) ?_
        rotate_left
        · exact AllReadyH.nil
        go_simp
        go_at_call 64
        refine (rpoint_any to _ HT6.out).mono ?_
        rintro e w7 ⟨rfl, h5⟩
        have HB7 : Hid (Below w.heap.size w w7) := blThen (by repeat (first | with_reducible exact HB6.out | with_reducible exact Below.refl _ _ | with_reducible refine blAlloc ?_ _ | with_reducible refine Below.drew ?_)) h5
        have HO7 := Lib.hid (HO6.out.later (blThen (by repeat (first | with_reducible exact Below.refl _ _ | with_reducible refine blAlloc ?_ _ | with_reducible refine Below.drew ?_)) h5))
        clear h5
        refine hK.out _ _ (K3.out _ HB7.out) (fun hHeld => ?_)
        clear hK K
        try simp only [Act.put, List.setIfInBounds_toArray, List.set_cons_zero, List.set_cons_succ]
        refine wpAnyH_ready (rs := [13]) (by kernel_rfl) (by simp) ?_
        refine AllReadyH.cons (o := { dst := some 44, op := Op.buildSlice 40 2 #[(0, Operand.tmp 37), (1, Operand.tmp 43)], type := 40, pos := "ref.go:74", after := #[{ on := 6, ground := Ground.data }, { on := 12, ground := Ground.data }], guard := none }) rfl (fun K hK => ?_) ?_
        rotate_left
        · exact AllReadyH.nil
        go_simp
        have HB8 : Hid (Below w.heap.size w (w7.alloc (.cells #[.string key, .string (key ++ ⟨#[0]⟩), .string to, .string (to ++ ⟨#[0]⟩)] 75))) := blAlloc HB7.out _
        have HO8 : Hid (OwnL (w7.alloc (.cells #[.string key, .string (key ++ ⟨#[0]⟩), .string to, .string (to ++ ⟨#[0]⟩)] 75)) w.heap.size (.slice av N cv) D) := HO7.out.later (blAlloc (Below.refl _ _) _)
        refine hK.out _ _ (K3.out _ HB8.out) (fun hHeld => ?_)
        clear hK K
        try simp only [Act.put, List.setIfInBounds_toArray, List.set_cons_zero, List.set_cons_succ]
        refine wpAnyH_ready (rs := [14]) (by kernel_rfl) (by simp) ?_
        refine AllReadyH.cons (o := { dst := some 45, op := Op.call { callee := Callee.builtin Builtin.append, args := #[Operand.tmp 31, Operand.tmp 44], argTypes := #[40, 40] }, type := 40, pos := "ref.go:74", after := #[{ on := 0, ground := Ground.data }, { on := 13, ground := Ground.data }, { on := 12, ground := Ground.chain }], guard := none }) rfl (fun K hK => ?_) ?_
        rotate_left
        · exact AllReadyH.nil
        refine wp_append_sp _ _ rfl w.heap.size _ D rfl HO8.out _ _ [ptS key, ptS to] rfl (row_two w7 (ptS key) (ptS to) _ rfl) (by have := HLL.out; have := HN.out; simp only [List.length_cons, List.length_nil]; omega) HB8.out.size ?_
        intro v9 w9 h1 h2
        have HO9 := Lib.hid h1
        have HB9 : Hid (Below w.heap.size w w9) := grown_below HB8.out HO8.out (Nat.le_refl _) HB8.out.size h2
        clear h1 h2
        refine hK.out _ _ (K3.out _ HB9.out) (fun hHeld => ?_)
        clear hK K
        try simp only [Act.put, List.setIfInBounds_toArray, List.set_cons_zero, List.set_cons_succ]
        refine wpAnyH_take (i := 15) (oi := { dst := some 3, op := Op.assign (Operand.tmp 45), type := 40, pos := "ref.go:74", after := #[{ on := 14, ground := Ground.data }, { on := 14, ground := Ground.chain }, { on := 0, ground := Ground.phase }, { on := 1, ground := Ground.phase }, { on := 2, ground := Ground.phase }, { on := 3, ground := Ground.phase }, { on := 4, ground := Ground.phase }, { on := 5, ground := Ground.phase }, { on := 6, ground := Ground.phase }, { on := 7, ground := Ground.phase }, { on := 8, ground := Ground.phase }, { on := 9, ground := Ground.phase }, { on := 10, ground := Ground.phase }, { on := 11, ground := Ground.phase }, { on := 12, ground := Ground.phase }, { on := 13, ground := Ground.phase }, { on := 14, ground := Ground.phase }], guard := none }) (v := ?_) rfl (by kernel_rfl) (by kernel_rfl) (by kernel_rfl) (fun _ _ _ h => h) (Or.inl ⟨by rfl, ?_⟩) (by assumption) ?_
        rotate_left
        · intro w hSw
          try dsimp only at hSw
          go_simp
          try with_reducible rfl
        try simp only [Act.put, List.setIfInBounds_toArray, List.set_cons_zero, List.set_cons_succ]
        refine wpAnyH_done (by kernel_rfl) ?_ _
        go_wp2
        go_roundw
        case rel => exact ⟨k + 1, hlt, by go_num, by rw [HT.out]; exact HO9.out, HB9.out⟩
        case measure => simp [intOf]; omega
    · have hge : ¬ (k : Int) < (l.length : Int) := by omega
      have hdk : decide ((k : Int) < (l.length : Int)) = false := decide_eq_false hge
      have hdn : decide (k < l.length) = false := decide_eq_false hlt
      have hE : D = l.flatMap wrS := by rw [← HD.out, List.take_of_length_le (by omega)]
      have HE := Lib.hid hE
      clear hE
      have HO := Lib.hid (show OwnL wr w.heap.size (.slice av N cv) D from HO.out)
      go_wp2_with (go_at_call 34; go_must (refine (refunion_any _ D _ (by have := HLL.out; have := HN.out; omega) HO.out.sl).mono ?_; rintro e w2 ⟨v, rfl, h1, h2⟩; rw [HE.out] at h1; have H1 := Lib.hid (h1.mono HB.out.size); have H2 : Hid (Below w.heap.size w w2) := blThen HB.out h2; clear h1 h2))
      go_ret
      exact ⟨_, rfl, H1.out, H2.out⟩

theorem rreadsP_any (va : Value) (l : List Opr) (w : World) (hlen : l.length ≤ 1000) (hok : ∀ o ∈ l, okB o = true) (h : SlG eO w va l) : Calls Tryz.prog 26 #[va] w (RetO w (readsP l)) := rreads_any va l w hlen hok h

theorem rwritesP_any (va : Value) (l : List Opr) (w : World) (hlen : l.length ≤ 1000) (hok : ∀ o ∈ l, okB o = true) (h : SlG eO w va l) : Calls Tryz.prog 28 #[va] w (RetO w (writesP l)) := rwrites_any va l w hlen hok h

end SP
end Go.Proofs.YtfdkkgjkhamoeaaGreat

/- All and Conflict of the reference; whether two lists of ops, pairs, writes are one. Conditions: at most a million elements. -/
set_option linter.unusedVariables false
set_option linter.unusedSimpArgs false
namespace Go.Proofs.YtfdkkgjkhamoeaaGreat
open S3 SN
namespace SP
open Go.ChangeShapes Go.WideShapes Go.ChangeAt Go.RowKit Go.Joins Go.Deep

set_option maxRecDepth 100000 in
set_option maxHeartbeats 4000000 in
theorem rall_any (va : Value) (l : List Opr) (w : World) (hlen : l.length ≤ 1000) (hok : ∀ o ∈ l, okB o = true) (h : SlG eO w va l) : Calls Tryz.prog 30 #[va] w (RetO w (allP l)) := by
  obtain ⟨a, cap, rfl⟩ := h.form
  have HL := Lib.hid h
  have HOK := Lib.hid hok
  have HR := Lib.hid (reads_len l)
  have HW := Lib.hid (writes_len l)
  clear h hok
  go_enter Tryz.func30, Tryz.ntmps30
  go_wp2_with fail
  refine (rreadsP_any _ l w hlen HOK.out HL.out).mono ?_
  rintro e w1 ⟨v, rfl, h1, h2⟩
  have HB1 := Lib.hid h2
  have HO1 : Hid (OwnL w1 w.heap.size v (readsP l)) := h1
  obtain ⟨g1, d1, rfl⟩ := h1.form
  clear h1 h2
  go_wp2_with fail
  refine (rwritesP_any _ l _ hlen HOK.out (HL.out.later HB1.out)).mono ?_
  rintro e w2 ⟨v, rfl, h1, h2⟩
  have HB2 : Hid (Below w.heap.size w w2) := blThen HB1.out h2
  have HO2 : Hid (OwnL w2 w1.heap.size v (writesP l)) := h1
  have HP1 := Lib.hid (HO1.out.later h2)
  obtain ⟨g2, d2, rfl⟩ := h1.form
  clear h1 h2
  generalize hNr : (readsP l).length = nr at *
  generalize hNw : (writesP l).length = nw at *
  have HNr := Lib.hid hNr
  have HNw := Lib.hid hNw
  clear hNr hNw
  go_wp2_with (at_builtin; go_must (refine append_sp rfl _ _ rfl w.heap.size _ (readsP l) rfl HP1.out _ (writesP l) rfl HO2.out.sl (by have := HR.out; have := HW.out; have := HNr.out; have := HNw.out; omega) HB2.out.size ?_; intro v3 w3 h1 h2; have HO3 := Lib.hid h1; have HB3 : Hid (Below w.heap.size w w3) := grown_below HB2.out HP1.out (Nat.le_refl _) HB2.out.size h2; obtain ⟨g3, d3, rfl⟩ := h1.form; clear h1 h2))
  have HLN : Hid ((readsP l ++ writesP l).length ≤ 100000) := by
    show _ ≤ _
    rw [List.length_append, HNr.out, HNw.out]
    have := HR.out; have := HW.out; omega
  have HU := Lib.hid (refunion_any (.slice g3 (readsP l ++ writesP l).length d3) (readsP l ++ writesP l) w3 (by have := HLN.out; omega) HO3.out.sl)
  generalize hN : (readsP l ++ writesP l).length = N at *
  have hN2 : nr + nw = N := by rw [← hN, List.length_append, HNr.out, HNw.out]
  simp only [List.length_append, HNr.out, HNw.out, hN2]
  clear hN hN2
  refine HU.out.mono ?_
  rintro e w4 ⟨v, rfl, h1, h2⟩
  have H1 := Lib.hid (h1.mono HB3.out.size)
  have H2 : Hid (Below w.heap.size w w4) := blThen HB3.out h2
  clear h1 h2
  go_wp2
  go_ret
  exact ⟨_, rfl, H1.out, H2.out⟩
theorem len_pos_b (l : List Sp) : decide ((0 : Int) < (l.length : Int)) = decide (l ≠ []) := by cases l <;> simp <;> omega

set_option maxRecDepth 100000 in
set_option maxHeartbeats 8000000 in
theorem rconflict_any (va vb : Value) (a b : List Opr) (w : World) (hla : a.length ≤ 1000) (hlb : b.length ≤ 1000) (hoa : ∀ o ∈ a, okB o = true) (hob : ∀ o ∈ b, okB o = true) (ha : SlG eO w va a) (hb : SlG eO w vb b) :
    Calls Tryz.prog 32 #[va, vb] w fun e w' => e = .returned (.bool (confP a b)) ∧ Below w.heap.size w w' := by
  obtain ⟨aa, ca, rfl⟩ := ha.form
  obtain ⟨ab, cb, rfl⟩ := hb.form
  have HLa := Lib.hid ha
  have HLb := Lib.hid hb
  have HOKa := Lib.hid hoa
  have HOKb := Lib.hid hob
  have HB0 : Hid (Below w.heap.size w w) := Below.refl _ _
  clear ha hb hoa hob
  generalize hv : confP a b = v
  unfold confP at hv
  rw [set1_comm (writesP b)] at hv
  have HV := Lib.hid hv
  clear hv
  go_enter Tryz.func32, Tryz.ntmps32
  go_wp2_with fail
  refine (rwritesP_any _ a _ hla HOKa.out (HLa.out.later HB0.out)).mono ?_
  rintro e w1 ⟨v, rfl, h1, h2⟩
  have HB1 : Hid (Below w.heap.size w w1) := blThen HB0.out h2
  have HOW1 : Hid (OwnL w1 _ v (writesP a)) := h1
  obtain ⟨g1, d1, rfl⟩ := h1.form
  clear h1 h2
  generalize hN1 : (writesP a).length = n1 at *
  have HN1 := Lib.hid hN1
  clear hN1
  go_wp2_with fail
  refine (rall_any _ b _ hlb HOKb.out (HLb.out.later HB1.out)).mono ?_
  rintro e w2 ⟨v, rfl, h1, h2⟩
  have HB2 : Hid (Below w.heap.size w w2) := blThen HB1.out h2
  have HOW2 : Hid (OwnL w2 _ v (allP b)) := h1
  have HP1 := Lib.hid (HOW1.out.later h2).sl
  obtain ⟨g2, d2, rfl⟩ := h1.form
  clear h1 h2
  generalize hN2 : (allP b).length = n2 at *
  have HN2 := Lib.hid hN2
  clear hN2
  go_wp2_with fail
  refine (refcut_any _ _ (writesP a) (allP b) _ (by have := writes_len a; omega) (by have := all_len b; omega) HP1.out HOW2.out.sl).mono ?_
  rintro e w3 ⟨v, rfl, h1, h2⟩
  have HB3 : Hid (Below w.heap.size w w3) := blThen HB2.out h2
  obtain ⟨g3, d3, rfl⟩ := h1.form
  clear h1 h2
  have HLB1 := Lib.hid (len_pos_b (setL 1 (writesP a) (allP b)))
  generalize hS1 : (setL 1 (writesP a) (allP b)).length = s1 at *
  cases hm : decide (setL 1 (writesP a) (allP b) ≠ [])
  · rw [hm, Bool.false_or] at HV
    have hz : ¬ (0 : Int) < (s1 : Int) := by
      have := HLB1.out
      rw [hm] at this
      exact of_decide_eq_false this
    have hzn : s1 = 0 := by omega
    subst hzn
    clear hm hS1 HLB1
    go_wp2_with fail
    refine (rall_any _ a _ hla HOKa.out (HLa.out.later HB3.out)).mono ?_
    rintro e w4 ⟨v, rfl, h1, h2⟩
    have HB4 : Hid (Below w.heap.size w w4) := blThen HB3.out h2
    have HOW4 : Hid (OwnL w4 _ v (allP a)) := h1
    obtain ⟨g4, d4, rfl⟩ := h1.form
    clear h1 h2
    generalize hN4 : (allP a).length = n4 at *
    have HN4 := Lib.hid hN4
    clear hN4
    go_wp2_with fail
    refine (rwritesP_any _ b _ hlb HOKb.out (HLb.out.later HB4.out)).mono ?_
    rintro e w5 ⟨v, rfl, h1, h2⟩
    have HB5 : Hid (Below w.heap.size w w5) := blThen HB4.out h2
    have HOW5 : Hid (OwnL w5 _ v (writesP b)) := h1
    have HP4 := Lib.hid (HOW4.out.later h2).sl
    obtain ⟨g5, d5, rfl⟩ := h1.form
    clear h1 h2
    generalize hN5 : (writesP b).length = n5 at *
    have HN5 := Lib.hid hN5
    clear hN5
    go_wp2_with fail
    refine (refcut_any _ _ (allP a) (writesP b) _ (by have := all_len a; omega) (by have := writes_len b; omega) HP4.out HOW5.out.sl).mono ?_
    rintro e w6 ⟨v, rfl, h1, h2⟩
    have HB6 : Hid (Below w.heap.size w w6) := blThen HB5.out h2
    obtain ⟨g6, d6, rfl⟩ := h1.form
    clear h1 h2
    have HLB4 := Lib.hid (len_pos_b (setL 1 (allP a) (writesP b)))
    obtain rfl := HV.out.symm.trans HLB4.out.symm
    clear HV HLB4
    generalize hS2 : (setL 1 (allP a) (writesP b)).length = s2 at *
    go_wp2
    go_ret
    exact ⟨by rw [hS2]; first | rfl | simp, HB6.out⟩
  · rw [hm, Bool.true_or] at HV
    have HV2 : v = true := HV.out.symm
    subst HV2
    have hz : (0 : Int) < (s1 : Int) := by
      have := HLB1.out
      rw [hm] at this
      exact of_decide_eq_true this
    have hzd : decide ((0 : Int) < (s1 : Int)) = true := decide_eq_true hz
    have hzn : 0 < s1 := by omega
    have hznd : decide (0 < s1) = true := decide_eq_true hzn
    clear hm HV HLB1 hS1
    go_wp2
    go_ret
    exact ⟨by first | rfl | simp, HB3.out⟩

theorem diff_atG {α : Type} [DecidableEq α] {l m : List α} {q : Nat} {s t : α} (hs : l[q]? = some s) (ht : m[q]? = some t) (h : s ≠ t) : decide (l = m) = false := by
  simp only [decide_eq_false_iff_not]
  rintro rfl
  rw [hs] at ht
  exact h (by simpa using ht)

set_option maxRecDepth 100000 in
set_option maxHeartbeats 4000000 in
theorem opsame_any (va vb : Value) (l m : List Opr) (w : World) (hl : l.length ≤ 1000000) (hm : m.length ≤ 1000000) (ha : SlG eO w va l) (hb : SlG eO w vb m) :
    Calls Tryz.prog 21 #[va, vb] w fun e w' => e = .returned (.bool (decide (l = m))) ∧ Below w.heap.size w w' := by
  obtain ⟨aa, ca, rfl⟩ := ha.form
  obtain ⟨ab, cb, rfl⟩ := hb.form
  have HA := Lib.hid ha
  have HB := Lib.hid hb
  clear ha hb
  generalize hv : decide (l = m) = v
  have HV := Lib.hid hv
  clear hv
  by_cases hlm : l.length = m.length
  · have hlmB : ((l.length : Int) == (m.length : Int)) = true := by simp [hlm]
    have hlmB2 : ((l.length : Int) != (m.length : Int)) = false := by simp [hlm]
    have HLM := Lib.hid hlm
    clear hlm
    go_enter Tryz.func21, Tryz.ntmps21
    go_wp2
    go_loopw [5] (fun i wr => ∃ q : Nat, q ≤ l.length ∧ i = .int .i64 q ∧ l.take q = m.take q ∧ Below w.heap.size w wr) (fun i _ => l.length - (intOf i).toNat)
    case atStart => exact ⟨0, Nat.zero_le _, rfl, rfl, Below.refl _ _⟩
    case round =>
      obtain ⟨q, hq, rfl, hno, hb⟩ := hrel
      have HNO := Lib.hid hno
      have HBW := Lib.hid hb
      by_cases hlt : q < l.length
      · obtain ⟨s, hs⟩ := at_lt hlt
        obtain ⟨t, ht⟩ := at_lt (l := m) (k := q) (by have := HLM.out; omega)
        obtain ⟨g, o, rfl, hg, c0, c1, c2, c3⟩ := ops_at HA.out hs
        obtain ⟨g', o', rfl, hg', d0, d1, d2, d3⟩ := ops_at HB.out ht
        replace c0 := cell_in hb hg c0
        replace d0 := cell_in hb hg' d0
        replace c1 := cell_in hb hg c1
        replace d1 := cell_in hb hg' d1
        replace c2 := cell_in hb hg c2
        replace d2 := cell_in hb hg' d2
        replace c3 := cell_in hb hg c3
        replace d3 := cell_in hb hg' d3
        have hgw := Nat.lt_of_lt_of_le hg hb.size
        have hgw' := Nat.lt_of_lt_of_le hg' hb.size
        have hqm : (q : Int) < (m.length : Int) := by have := HLM.out; omega
        have hq0 : (0 : Int) ≤ (q : Int) := by omega
        have hql : (q : Int) < (l.length : Int) := by omega
        have HS := Lib.hid hs
        have HT := Lib.hid ht
        clear hs ht hno hb
        cases e0 : (s.1 == t.1)
        · skip
          have HF : Hid (decide (l = m) = false) := diff_atG HS.out HT.out (by rintro rfl; simp at e0)
          go_wp2
          go_quiet (fail)
          go_wp2
          go_ret
          exact ⟨ret_bool (HF.out.symm.trans HV.out), HBW.out.trans ⟨rfl, rfl, rfl, Nat.le_refl _, fun _ _ => rfl⟩⟩
        · skip
          cases e1 : (s.2.1.toList == t.2.1.toList)
          · skip
            have HF : Hid (decide (l = m) = false) := diff_atG HS.out HT.out (by rintro rfl; simp at e1)
            go_wp2
            go_quiet (fail)
            go_wp2
            go_ret
            exact ⟨ret_bool (HF.out.symm.trans HV.out), HBW.out.trans ⟨rfl, rfl, rfl, Nat.le_refl _, fun _ _ => rfl⟩⟩
          · skip
            cases e2 : (s.2.2.1.toList == t.2.2.1.toList)
            · skip
              have HF : Hid (decide (l = m) = false) := diff_atG HS.out HT.out (by rintro rfl; simp at e2)
              go_wp2
              go_quiet (fail)
              go_wp2
              go_ret
              exact ⟨ret_bool (HF.out.symm.trans HV.out), HBW.out.trans ⟨rfl, rfl, rfl, Nat.le_refl _, fun _ _ => rfl⟩⟩
            · skip
              cases e3 : (((s.2.2.2 : Nat) : Int) == ((t.2.2.2 : Nat) : Int))
              · skip
                have n3 : (s.2.2.2 == t.2.2.2) = false := by
                  rw [beq_eq_false_iff_ne]; intro h; rw [h] at e3; simp at e3
                have HF : Hid (decide (l = m) = false) := diff_atG HS.out HT.out (by rintro rfl; simp at e3)
                go_wp2
                go_quiet (fail)
                go_wp2
                go_ret
                exact ⟨ret_bool (HF.out.symm.trans HV.out), HBW.out.trans ⟨rfl, rfl, rfl, Nat.le_refl _, fun _ _ => rfl⟩⟩
              · skip
                have n3 : (s.2.2.2 == t.2.2.2) = true := by
                  have := e3; simp at this; rw [beq_iff_eq]; omega
                have HE : Hid (s = t) := Prod.ext ((by simpa using e0)) (Prod.ext (text_ext (by simpa using e1)) (Prod.ext (text_ext (by simpa using e2)) ((by have := e3; simp at this; omega))))
                go_wp2
                go_quiet (fail)
                go_wp2
                go_roundw
                case rel => exact ⟨q + 1, hlt, by go_num, by rw [List.take_add_one, List.take_add_one, HS.out, HT.out, HNO.out, HE.out], HBW.out.trans ⟨rfl, rfl, rfl, Nat.le_refl _, fun _ _ => rfl⟩⟩
                case measure => simp [intOf]; omega
      · obtain rfl : q = l.length := by omega
        have HF : Hid (decide (l = m) = true) := by
          have h := HNO.out
          rw [List.take_length, HLM.out, List.take_length] at h
          show decide (l = m) = true
          simp [h]
        clear hno hb
        go_wp2
        go_ret
        exact ⟨ret_bool (HF.out.symm.trans HV.out), HBW.out⟩
  · have HF : Hid (decide (l = m) = false) := by
      show decide (l = m) = false
      simp only [decide_eq_false_iff_not]
      rintro rfl
      exact hlm rfl
    have hlmB : ((l.length : Int) == (m.length : Int)) = false := by simp; omega
    have hlmB2 : ((l.length : Int) != (m.length : Int)) = true := by simp; omega
    go_enter Tryz.func21, Tryz.ntmps21
    go_wp2
    go_ret
    exact ⟨ret_bool (HF.out.symm.trans HV.out), Below.refl _ _⟩

set_option maxRecDepth 100000 in
set_option maxHeartbeats 4000000 in
theorem prsame_any (va vb : Value) (l m : List (ByteArray × Nat)) (w : World) (hl : l.length ≤ 1000000) (hm : m.length ≤ 1000000) (ha : SlG eP w va l) (hb : SlG eP w vb m) :
    Calls Tryz.prog 40 #[va, vb] w fun e w' => e = .returned (.bool (decide (l = m))) ∧ Below w.heap.size w w' := by
  obtain ⟨aa, ca, rfl⟩ := ha.form
  obtain ⟨ab, cb, rfl⟩ := hb.form
  have HA := Lib.hid ha
  have HB := Lib.hid hb
  clear ha hb
  generalize hv : decide (l = m) = v
  have HV := Lib.hid hv
  clear hv
  by_cases hlm : l.length = m.length
  · have hlmB : ((l.length : Int) == (m.length : Int)) = true := by simp [hlm]
    have hlmB2 : ((l.length : Int) != (m.length : Int)) = false := by simp [hlm]
    have HLM := Lib.hid hlm
    clear hlm
    go_enter Tryz.func40, Tryz.ntmps40
    go_wp2
    go_loopw [5] (fun i wr => ∃ q : Nat, q ≤ l.length ∧ i = .int .i64 q ∧ l.take q = m.take q ∧ Below w.heap.size w wr) (fun i _ => l.length - (intOf i).toNat)
    case atStart => exact ⟨0, Nat.zero_le _, rfl, rfl, Below.refl _ _⟩
    case round =>
      obtain ⟨q, hq, rfl, hno, hb⟩ := hrel
      have HNO := Lib.hid hno
      have HBW := Lib.hid hb
      by_cases hlt : q < l.length
      · obtain ⟨s, hs⟩ := at_lt hlt
        obtain ⟨t, ht⟩ := at_lt (l := m) (k := q) (by have := HLM.out; omega)
        obtain ⟨g, o, rfl, hg, c0, c1⟩ := prs_at HA.out hs
        obtain ⟨g', o', rfl, hg', d0, d1⟩ := prs_at HB.out ht
        replace c0 := cell_in hb hg c0
        replace d0 := cell_in hb hg' d0
        replace c1 := cell_in hb hg c1
        replace d1 := cell_in hb hg' d1
        have hgw := Nat.lt_of_lt_of_le hg hb.size
        have hgw' := Nat.lt_of_lt_of_le hg' hb.size
        have hqm : (q : Int) < (m.length : Int) := by have := HLM.out; omega
        have hq0 : (0 : Int) ≤ (q : Int) := by omega
        have hql : (q : Int) < (l.length : Int) := by omega
        have HS := Lib.hid hs
        have HT := Lib.hid ht
        clear hs ht hno hb
        cases e0 : (s.1.toList == t.1.toList)
        · skip
          have HF : Hid (decide (l = m) = false) := diff_atG HS.out HT.out (by rintro rfl; simp at e0)
          go_wp2
          go_quiet (fail)
          go_wp2
          go_ret
          exact ⟨ret_bool (HF.out.symm.trans HV.out), HBW.out.trans ⟨rfl, rfl, rfl, Nat.le_refl _, fun _ _ => rfl⟩⟩
        · skip
          cases e1 : (((s.2 : Nat) : Int) == ((t.2 : Nat) : Int))
          · skip
            have n1 : (s.2 == t.2) = false := by
              rw [beq_eq_false_iff_ne]; intro h; rw [h] at e1; simp at e1
            have HF : Hid (decide (l = m) = false) := diff_atG HS.out HT.out (by rintro rfl; simp at e1)
            go_wp2
            go_quiet (fail)
            go_wp2
            go_ret
            exact ⟨ret_bool (HF.out.symm.trans HV.out), HBW.out.trans ⟨rfl, rfl, rfl, Nat.le_refl _, fun _ _ => rfl⟩⟩
          · skip
            have n1 : (s.2 == t.2) = true := by
              have := e1; simp at this; rw [beq_iff_eq]; omega
            have HE : Hid (s = t) := Prod.ext (text_ext (by simpa using e0)) ((by have := e1; simp at this; omega))
            go_wp2
            go_quiet (fail)
            go_wp2
            go_roundw
            case rel => exact ⟨q + 1, hlt, by go_num, by rw [List.take_add_one, List.take_add_one, HS.out, HT.out, HNO.out, HE.out], HBW.out.trans ⟨rfl, rfl, rfl, Nat.le_refl _, fun _ _ => rfl⟩⟩
            case measure => simp [intOf]; omega
      · obtain rfl : q = l.length := by omega
        have HF : Hid (decide (l = m) = true) := by
          have h := HNO.out
          rw [List.take_length, HLM.out, List.take_length] at h
          show decide (l = m) = true
          simp [h]
        clear hno hb
        go_wp2
        go_ret
        exact ⟨ret_bool (HF.out.symm.trans HV.out), HBW.out⟩
  · have HF : Hid (decide (l = m) = false) := by
      show decide (l = m) = false
      simp only [decide_eq_false_iff_not]
      rintro rfl
      exact hlm rfl
    have hlmB : ((l.length : Int) == (m.length : Int)) = false := by simp; omega
    have hlmB2 : ((l.length : Int) != (m.length : Int)) = true := by simp; omega
    go_enter Tryz.func40, Tryz.ntmps40
    go_wp2
    go_ret
    exact ⟨ret_bool (HF.out.symm.trans HV.out), Below.refl _ _⟩

set_option maxRecDepth 100000 in
set_option maxHeartbeats 4000000 in
theorem wrsame_any (va vb : Value) (l m : List Wrt) (w : World) (hl : l.length ≤ 1000000) (hm : m.length ≤ 1000000) (ha : SlG eW w va l) (hb : SlG eW w vb m) :
    Calls Tryz.prog 38 #[va, vb] w fun e w' => e = .returned (.bool (decide (l = m))) ∧ Below w.heap.size w w' := by
  obtain ⟨aa, ca, rfl⟩ := ha.form
  obtain ⟨ab, cb, rfl⟩ := hb.form
  have HA := Lib.hid ha
  have HB := Lib.hid hb
  clear ha hb
  generalize hv : decide (l = m) = v
  have HV := Lib.hid hv
  clear hv
  by_cases hlm : l.length = m.length
  · have hlmB : ((l.length : Int) == (m.length : Int)) = true := by simp [hlm]
    have hlmB2 : ((l.length : Int) != (m.length : Int)) = false := by simp [hlm]
    have HLM := Lib.hid hlm
    clear hlm
    go_enter Tryz.func38, Tryz.ntmps38
    go_wp2
    go_loopw [5] (fun i wr => ∃ q : Nat, q ≤ l.length ∧ i = .int .i64 q ∧ l.take q = m.take q ∧ Below w.heap.size w wr) (fun i _ => l.length - (intOf i).toNat)
    case atStart => exact ⟨0, Nat.zero_le _, rfl, rfl, Below.refl _ _⟩
    case round =>
      obtain ⟨q, hq, rfl, hno, hb⟩ := hrel
      have HNO := Lib.hid hno
      have HBW := Lib.hid hb
      by_cases hlt : q < l.length
      · obtain ⟨s, hs⟩ := at_lt hlt
        obtain ⟨t, ht⟩ := at_lt (l := m) (k := q) (by have := HLM.out; omega)
        obtain ⟨g, o, rfl, hg, c0, c1, c2⟩ := wrs_at HA.out hs
        obtain ⟨g', o', rfl, hg', d0, d1, d2⟩ := wrs_at HB.out ht
        replace c0 := cell_in hb hg c0
        replace d0 := cell_in hb hg' d0
        replace c1 := cell_in hb hg c1
        replace d1 := cell_in hb hg' d1
        replace c2 := cell_in hb hg c2
        replace d2 := cell_in hb hg' d2
        have hgw := Nat.lt_of_lt_of_le hg hb.size
        have hgw' := Nat.lt_of_lt_of_le hg' hb.size
        have hqm : (q : Int) < (m.length : Int) := by have := HLM.out; omega
        have hq0 : (0 : Int) ≤ (q : Int) := by omega
        have hql : (q : Int) < (l.length : Int) := by omega
        have HS := Lib.hid hs
        have HT := Lib.hid ht
        clear hs ht hno hb
        cases e0 : (s.1.toList == t.1.toList)
        · skip
          have HF : Hid (decide (l = m) = false) := diff_atG HS.out HT.out (by rintro rfl; simp at e0)
          go_wp2
          go_quiet (fail)
          go_wp2
          go_ret
          exact ⟨ret_bool (HF.out.symm.trans HV.out), HBW.out.trans ⟨rfl, rfl, rfl, Nat.le_refl _, fun _ _ => rfl⟩⟩
        · skip
          cases e1 : (((s.2.1 : Nat) : Int) == ((t.2.1 : Nat) : Int))
          · skip
            have n1 : (s.2.1 == t.2.1) = false := by
              rw [beq_eq_false_iff_ne]; intro h; rw [h] at e1; simp at e1
            have HF : Hid (decide (l = m) = false) := diff_atG HS.out HT.out (by rintro rfl; simp at e1)
            go_wp2
            go_quiet (fail)
            go_wp2
            go_ret
            exact ⟨ret_bool (HF.out.symm.trans HV.out), HBW.out.trans ⟨rfl, rfl, rfl, Nat.le_refl _, fun _ _ => rfl⟩⟩
          · skip
            have n1 : (s.2.1 == t.2.1) = true := by
              have := e1; simp at this; rw [beq_iff_eq]; omega
            cases e2 : (s.2.2 == t.2.2)
            · skip
              have HF : Hid (decide (l = m) = false) := diff_atG HS.out HT.out (by rintro rfl; simp at e2)
              go_wp2
              go_quiet (fail)
              go_wp2
              go_ret
              exact ⟨ret_bool (HF.out.symm.trans HV.out), HBW.out.trans ⟨rfl, rfl, rfl, Nat.le_refl _, fun _ _ => rfl⟩⟩
            · skip
              have HE : Hid (s = t) := Prod.ext (text_ext (by simpa using e0)) (Prod.ext ((by have := e1; simp at this; omega)) ((by simpa using e2)))
              go_wp2
              go_quiet (fail)
              go_wp2
              go_roundw
              case rel => exact ⟨q + 1, hlt, by go_num, by rw [List.take_add_one, List.take_add_one, HS.out, HT.out, HNO.out, HE.out], HBW.out.trans ⟨rfl, rfl, rfl, Nat.le_refl _, fun _ _ => rfl⟩⟩
              case measure => simp [intOf]; omega
      · obtain rfl : q = l.length := by omega
        have HF : Hid (decide (l = m) = true) := by
          have h := HNO.out
          rw [List.take_length, HLM.out, List.take_length] at h
          show decide (l = m) = true
          simp [h]
        clear hno hb
        go_wp2
        go_ret
        exact ⟨ret_bool (HF.out.symm.trans HV.out), HBW.out⟩
  · have HF : Hid (decide (l = m) = false) := by
      show decide (l = m) = false
      simp only [decide_eq_false_iff_not]
      rintro rfl
      exact hlm rfl
    have hlmB : ((l.length : Int) == (m.length : Int)) = false := by simp; omega
    have hlmB2 : ((l.length : Int) != (m.length : Int)) = true := by simp; omega
    go_enter Tryz.func38, Tryz.ntmps38
    go_wp2
    go_ret
    exact ⟨ret_bool (HF.out.symm.trans HV.out), Below.refl _ _⟩

end SP
end Go.Proofs.YtfdkkgjkhamoeaaGreat

/- Answers and Data of the reference. Conditions: at most a million elements. -/
set_option linter.unusedVariables false
set_option linter.unusedSimpArgs false
namespace Go.Proofs.YtfdkkgjkhamoeaaGreat
open S3 SN
namespace SP
open Go.ChangeShapes Go.WideShapes Go.ChangeAt Go.RowKit Go.Joins Go.Deep

/-- The answers, and that their pairs lie in memory. -/
def AnsL (w : World) (v : Value) (l : List AnR) : Prop := SlG eA w v l ∧ ∀ r ∈ l, SlG eP w (.slice r.at_ r.prs.length r.cap) r.prs
theorem AnsL.later {W wr : World} {v : Value} {l : List AnR} (h : AnsL W v l) (hw : Below W.heap.size W wr) : AnsL wr v l := ⟨h.1.later hw, fun r hr => (h.2 r hr).later hw⟩
def FewA (l : List AnR) : Prop := l.length ≤ 1000 ∧ ∀ r ∈ l, r.prs.length ≤ 1000000
theorem ite_no {b : Bool} [Decidable (b = true)] {p q : Prop} (h : b = false) (hq : q) : if b = true then p else q := by rw [if_neg (by rw [h]; decide)]; exact hq
theorem map_take {α β : Type} (f : α → β) {l : List α} {m : List α} {q : Nat} {s t : α} (h : (l.take q).map f = (m.take q).map f) (hs : l[q]? = some s) (ht : m[q]? = some t) (e : f s = f t) : (l.take (q + 1)).map f = (m.take (q + 1)).map f := by
  rw [List.take_add_one, List.take_add_one, hs, ht, List.map_append, List.map_append, h]
  simp [e]
theorem map_diff {α β : Type} [DecidableEq β] (f : α → β) {l m : List α} {q : Nat} {s t : α} (hs : l[q]? = some s) (ht : m[q]? = some t) (h : f s ≠ f t) : decide (l.map f = m.map f) = false := by
  simp only [decide_eq_false_iff_not]
  intro e
  have h1 := congrArg (fun x => x[q]?) e
  simp only [List.getElem?_map, hs, ht, Option.map_some, Option.some.injEq] at h1
  exact h h1

set_option maxRecDepth 100000 in
set_option maxHeartbeats 8000000 in
theorem ansame_any (va vb : Value) (l m : List AnR) (w : World) (hfl : FewA l) (hfm : FewA m) (ha : AnsL w va l) (hb : AnsL w vb m) :
    Calls Tryz.prog 39 #[va, vb] w fun e w' => e = .returned (.bool (decide (l.map AnR.ans = m.map AnR.ans))) ∧ Below w.heap.size w w' := by
  obtain ⟨aa, ca, rfl⟩ := ha.1.form
  obtain ⟨ab, cb, rfl⟩ := hb.1.form
  have HA := Lib.hid ha
  have HB := Lib.hid hb
  have HFL := Lib.hid hfl.2
  have HFM := Lib.hid hfm.2
  have hl := hfl.1
  have hm := hfm.1
  clear ha hb hfl hfm
  generalize hv : decide (l.map AnR.ans = m.map AnR.ans) = v
  have HV := Lib.hid hv
  clear hv
  by_cases hlm : l.length = m.length
  · have hlmB : ((l.length : Int) == (m.length : Int)) = true := by simp [hlm]
    have hlmB2 : ((l.length : Int) != (m.length : Int)) = false := by simp [hlm]
    have HLM := Lib.hid hlm
    clear hlm
    go_enter Tryz.func39, Tryz.ntmps39
    go_wp2
    go_loopw [5] (fun i wr => ∃ q : Nat, q ≤ l.length ∧ i = .int .i64 q ∧ (l.take q).map AnR.ans = (m.take q).map AnR.ans ∧ Below w.heap.size w wr) (fun i _ => l.length - (intOf i).toNat)
    case atStart => exact ⟨0, Nat.zero_le _, rfl, rfl, Below.refl _ _⟩
    case round =>
      obtain ⟨q, hq, rfl, hno, hb⟩ := hrel
      have HNO := Lib.hid hno
      have HBW := Lib.hid hb
      by_cases hlt : q < l.length
      · obtain ⟨s, hs⟩ := at_lt hlt
        obtain ⟨t, ht⟩ := at_lt (l := m) (k := q) (by have := HLM.out; omega)
        have HAr := Lib.hid (HA.out.later hb)
        have HBr := Lib.hid (HB.out.later hb)
        obtain ⟨g, o, rfl, hg, c0, c1, c2⟩ := ans_at HAr.out.1 hs
        obtain ⟨g', o', rfl, hg', d0, d1, d2⟩ := ans_at HBr.out.1 ht
        have HPS := Lib.hid (HAr.out.2 s (List.mem_of_getElem? hs))
        have HPT := Lib.hid (HBr.out.2 t (List.mem_of_getElem? ht))
        have HFS := Lib.hid (HFL.out s (List.mem_of_getElem? hs))
        have HFT := Lib.hid (HFM.out t (List.mem_of_getElem? ht))
        have K3 := Lib.hid (fun (Y : World) (hY : Below wr.heap.size wr Y) => (⟨cell_in hY hg c0, cell_in hY hg c1, cell_in hY hg c2, cell_in hY hg' d0, cell_in hY hg' d1, cell_in hY hg' d2⟩ : Y.cell? ⟨g, o + q * 3, none⟩ = some (.bool s.yes) ∧ Y.cell? ⟨g, o + q * 3 + 1, none⟩ = some (.int .u64 (s.num : Int)) ∧ Y.cell? ⟨g, o + q * 3 + 2, none⟩ = some (.slice s.at_ s.prs.length s.cap) ∧ Y.cell? ⟨g', o' + q * 3, none⟩ = some (.bool t.yes) ∧ Y.cell? ⟨g', o' + q * 3 + 1, none⟩ = some (.int .u64 (t.num : Int)) ∧ Y.cell? ⟨g', o' + q * 3 + 2, none⟩ = some (.slice t.at_ t.prs.length t.cap)))
        have hqm : (q : Int) < (m.length : Int) := by have := HLM.out; omega
        have hq0 : (0 : Int) ≤ (q : Int) := by omega
        have hql : (q : Int) < (l.length : Int) := by omega
        have HS := Lib.hid hs
        have HT := Lib.hid ht
        clear hs ht hno hb HAr HBr hg hg' d0 d1 d2 c0 c1 c2
        cases e0 : (s.yes == t.yes)
        · have HF : Hid (decide (l.map AnR.ans = m.map AnR.ans) = false) := map_diff AnR.ans HS.out HT.out (by
            intro h
            have h1 : s.yes = t.yes := congrArg Prod.fst h
            rw [h1] at e0
            simp at e0)
          go_wp2_with fail
          refine wp_region_held_drew (S := fun Y => Y.cell? ⟨g, o + q * 3, none⟩ = some (.bool s.yes) ∧ Y.cell? ⟨g, o + q * 3 + 1, none⟩ = some (.int .u64 (s.num : Int)) ∧ Y.cell? ⟨g, o + q * 3 + 2, none⟩ = some (.slice s.at_ s.prs.length s.cap) ∧ Y.cell? ⟨g', o' + q * 3, none⟩ = some (.bool t.yes) ∧ Y.cell? ⟨g', o' + q * 3 + 1, none⟩ = some (.int .u64 (t.num : Int)) ∧ Y.cell? ⟨g', o' + q * 3 + 2, none⟩ = some (.slice t.at_ t.prs.length t.cap)) (by kernel_rfl) (K3.out _ (Below.refl wr.heap.size wr).drew) (fun hHeld => ?_)
          refine wpAnyH_take (i := 0) (oi := { dst := some 17, op := Op.move (Operand.tmp 0), type := 46, pos := "ref.go:278", after := #[], guard := none }) (v := ?_) rfl (by kernel_rfl) (by kernel_rfl) (by kernel_rfl) (fun _ _ _ h => h) (Or.inl ⟨by rfl, ?_⟩) (by assumption) ?_
          rotate_left
          · intro w hSw
            try dsimp only at hSw
            go_simp
            try with_reducible rfl
          try simp only [Act.put, List.setIfInBounds_toArray, List.set_cons_zero, List.set_cons_succ]
          refine wpAnyH_take (i := 1) (oi := { dst := some 18, op := Op.move (Operand.tmp 5), type := 3, pos := "ref.go:278", after := #[], guard := none }) (v := ?_) rfl (by kernel_rfl) (by kernel_rfl) (by kernel_rfl) (fun _ _ _ h => h) (Or.inl ⟨by rfl, ?_⟩) (by assumption) ?_
          rotate_left
          · intro w hSw
            try dsimp only at hSw
            go_simp
            try with_reducible rfl
          try simp only [Act.put, List.setIfInBounds_toArray, List.set_cons_zero, List.set_cons_succ]
          refine wpAnyH_take (i := 2) (oi := { dst := some 19, op := Op.indexAddr 46 (Operand.tmp 17) (Operand.tmp 18), type := 0, pos := "ref.go:278", after := #[{ on := 0, ground := Ground.data }, { on := 1, ground := Ground.data }], guard := none }) (v := ?_) rfl (by kernel_rfl) (by kernel_rfl) (by kernel_rfl) (fun _ _ _ h => h) (Or.inl ⟨by rfl, ?_⟩) (by assumption) ?_
          rotate_left
          · intro w hSw
            try dsimp only at hSw
            go_simp
            try with_reducible rfl
          try simp only [Act.put, List.setIfInBounds_toArray, List.set_cons_zero, List.set_cons_succ]
          refine wpAnyH_take (i := 3) (oi := { dst := some 20, op := Op.fieldAddr 71 (Operand.tmp 19) 0, type := 0, pos := "ref.go:278", after := #[{ on := 2, ground := Ground.data }], guard := none }) (v := ?_) rfl (by kernel_rfl) (by kernel_rfl) (by kernel_rfl) (fun _ _ _ h => h) (Or.inl ⟨by rfl, ?_⟩) (by assumption) ?_
          rotate_left
          · intro w hSw
            try dsimp only at hSw
            go_simp
            try with_reducible rfl
          try simp only [Act.put, List.setIfInBounds_toArray, List.set_cons_zero, List.set_cons_succ]
          refine wpAnyH_take (i := 4) (oi := { dst := some 21, op := Op.load 4 (Operand.tmp 20), type := 4, pos := "ref.go:278", after := #[{ on := 3, ground := Ground.data }], guard := none }) (v := ?_) rfl (by kernel_rfl) (by kernel_rfl) (by kernel_rfl) (fun _ _ _ h => h) (Or.inl ⟨by rfl, ?_⟩) (by assumption) ?_
          rotate_left
          · intro w hSw
            try dsimp only at hSw
            go_simp
            try with_reducible rfl
          try simp only [Act.put, List.setIfInBounds_toArray, List.set_cons_zero, List.set_cons_succ]
          refine wpAnyH_take (i := 5) (oi := { dst := some 22, op := Op.move (Operand.tmp 1), type := 46, pos := "ref.go:278", after := #[], guard := none }) (v := ?_) rfl (by kernel_rfl) (by kernel_rfl) (by kernel_rfl) (fun _ _ _ h => h) (Or.inl ⟨by rfl, ?_⟩) (by assumption) ?_
          rotate_left
          · intro w hSw
            try dsimp only at hSw
            go_simp
            try with_reducible rfl
          try simp only [Act.put, List.setIfInBounds_toArray, List.set_cons_zero, List.set_cons_succ]
          refine wpAnyH_take (i := 6) (oi := { dst := some 23, op := Op.move (Operand.tmp 5), type := 3, pos := "ref.go:278", after := #[], guard := none }) (v := ?_) rfl (by kernel_rfl) (by kernel_rfl) (by kernel_rfl) (fun _ _ _ h => h) (Or.inl ⟨by rfl, ?_⟩) (by assumption) ?_
          rotate_left
          · intro w hSw
            try dsimp only at hSw
            go_simp
            try with_reducible rfl
          try simp only [Act.put, List.setIfInBounds_toArray, List.set_cons_zero, List.set_cons_succ]
          refine wpAnyH_take (i := 7) (oi := { dst := some 24, op := Op.indexAddr 46 (Operand.tmp 22) (Operand.tmp 23), type := 0, pos := "ref.go:278", after := #[{ on := 5, ground := Ground.data }, { on := 6, ground := Ground.data }], guard := none }) (v := ?_) rfl (by kernel_rfl) (by kernel_rfl) (by kernel_rfl) (fun _ _ _ h => h) (Or.inl ⟨by rfl, ?_⟩) (by assumption) ?_
          rotate_left
          · intro w hSw
            try dsimp only at hSw
            go_simp
            try with_reducible rfl
          try simp only [Act.put, List.setIfInBounds_toArray, List.set_cons_zero, List.set_cons_succ]
          refine wpAnyH_take (i := 8) (oi := { dst := some 25, op := Op.fieldAddr 71 (Operand.tmp 24) 0, type := 0, pos := "ref.go:278", after := #[{ on := 7, ground := Ground.data }], guard := none }) (v := ?_) rfl (by kernel_rfl) (by kernel_rfl) (by kernel_rfl) (fun _ _ _ h => h) (Or.inl ⟨by rfl, ?_⟩) (by assumption) ?_
          rotate_left
          · intro w hSw
            try dsimp only at hSw
            go_simp
            try with_reducible rfl
          try simp only [Act.put, List.setIfInBounds_toArray, List.set_cons_zero, List.set_cons_succ]
          refine wpAnyH_take (i := 9) (oi := { dst := some 26, op := Op.load 4 (Operand.tmp 25), type := 4, pos := "ref.go:278", after := #[{ on := 8, ground := Ground.data }], guard := none }) (v := ?_) rfl (by kernel_rfl) (by kernel_rfl) (by kernel_rfl) (fun _ _ _ h => h) (Or.inl ⟨by rfl, ?_⟩) (by assumption) ?_
          rotate_left
          · intro w hSw
            try dsimp only at hSw
            go_simp
            try with_reducible rfl
          try simp only [Act.put, List.setIfInBounds_toArray, List.set_cons_zero, List.set_cons_succ]
          refine wpAnyH_take (i := 10) (oi := { dst := some 27, op := Op.binOp BinOp.neq 4 (Operand.tmp 21) (Operand.tmp 26) 4, type := 4, pos := "ref.go:278", after := #[{ on := 4, ground := Ground.data }, { on := 9, ground := Ground.data }], guard := none }) (v := ?_) rfl (by kernel_rfl) (by kernel_rfl) (by kernel_rfl) (fun _ _ _ h => h) (Or.inl ⟨by rfl, ?_⟩) (by assumption) ?_
          rotate_left
          · intro w hSw
            try dsimp only at hSw
            go_simp
            try with_reducible rfl
          try simp only [Act.put, List.setIfInBounds_toArray, List.set_cons_zero, List.set_cons_succ]
          refine wpAnyH_take (i := 11) (oi := { dst := some 28, op := Op.move (Operand.tmp 27), type := 4, pos := "ref.go:278", after := #[{ on := 10, ground := Ground.data }], guard := none }) (v := ?_) rfl (by kernel_rfl) (by kernel_rfl) (by kernel_rfl) (fun _ _ _ h => h) (Or.inl ⟨by rfl, ?_⟩) (by assumption) ?_
          rotate_left
          · intro w hSw
            try dsimp only at hSw
            go_simp
            try with_reducible rfl
          try simp only [Act.put, List.setIfInBounds_toArray, List.set_cons_zero, List.set_cons_succ]
          refine wpAnyH_take (i := 12) (oi := { dst := some 29, op := Op.move (Operand.tmp 0), type := 46, pos := "ref.go:278", after := #[{ on := 11, ground := Ground.guard }], guard := some (11, false) }) (v := undef) rfl (by kernel_rfl) (by kernel_rfl) (by kernel_rfl) (fun _ _ _ h => h) (Or.inr ⟨by rfl, rfl⟩) (by assumption) ?_
          try simp only [Act.put, List.setIfInBounds_toArray, List.set_cons_zero, List.set_cons_succ]
          refine wpAnyH_take (i := 13) (oi := { dst := some 30, op := Op.move (Operand.tmp 5), type := 3, pos := "ref.go:278", after := #[{ on := 11, ground := Ground.guard }], guard := some (11, false) }) (v := undef) rfl (by kernel_rfl) (by kernel_rfl) (by kernel_rfl) (fun _ _ _ h => h) (Or.inr ⟨by rfl, rfl⟩) (by assumption) ?_
          try simp only [Act.put, List.setIfInBounds_toArray, List.set_cons_zero, List.set_cons_succ]
          refine wpAnyH_take (i := 14) (oi := { dst := some 31, op := Op.indexAddr 46 (Operand.tmp 29) (Operand.tmp 30), type := 0, pos := "ref.go:278", after := #[{ on := 12, ground := Ground.data }, { on := 13, ground := Ground.data }, { on := 11, ground := Ground.guard }], guard := some (11, false) }) (v := undef) rfl (by kernel_rfl) (by kernel_rfl) (by kernel_rfl) (fun _ _ _ h => h) (Or.inr ⟨by rfl, rfl⟩) (by assumption) ?_
          try simp only [Act.put, List.setIfInBounds_toArray, List.set_cons_zero, List.set_cons_succ]
          refine wpAnyH_take (i := 15) (oi := { dst := some 32, op := Op.fieldAddr 71 (Operand.tmp 31) 1, type := 0, pos := "ref.go:278", after := #[{ on := 14, ground := Ground.data }, { on := 11, ground := Ground.guard }], guard := some (11, false) }) (v := undef) rfl (by kernel_rfl) (by kernel_rfl) (by kernel_rfl) (fun _ _ _ h => h) (Or.inr ⟨by rfl, rfl⟩) (by assumption) ?_
          try simp only [Act.put, List.setIfInBounds_toArray, List.set_cons_zero, List.set_cons_succ]
          refine wpAnyH_take (i := 16) (oi := { dst := some 33, op := Op.load 59 (Operand.tmp 32), type := 59, pos := "ref.go:278", after := #[{ on := 15, ground := Ground.data }, { on := 11, ground := Ground.guard }], guard := some (11, false) }) (v := undef) rfl (by kernel_rfl) (by kernel_rfl) (by kernel_rfl) (fun _ _ _ h => h) (Or.inr ⟨by rfl, rfl⟩) (by assumption) ?_
          try simp only [Act.put, List.setIfInBounds_toArray, List.set_cons_zero, List.set_cons_succ]
          refine wpAnyH_take (i := 17) (oi := { dst := some 34, op := Op.move (Operand.tmp 1), type := 46, pos := "ref.go:278", after := #[{ on := 11, ground := Ground.guard }], guard := some (11, false) }) (v := undef) rfl (by kernel_rfl) (by kernel_rfl) (by kernel_rfl) (fun _ _ _ h => h) (Or.inr ⟨by rfl, rfl⟩) (by assumption) ?_
          try simp only [Act.put, List.setIfInBounds_toArray, List.set_cons_zero, List.set_cons_succ]
          refine wpAnyH_take (i := 18) (oi := { dst := some 35, op := Op.move (Operand.tmp 5), type := 3, pos := "ref.go:278", after := #[{ on := 11, ground := Ground.guard }], guard := some (11, false) }) (v := undef) rfl (by kernel_rfl) (by kernel_rfl) (by kernel_rfl) (fun _ _ _ h => h) (Or.inr ⟨by rfl, rfl⟩) (by assumption) ?_
          try simp only [Act.put, List.setIfInBounds_toArray, List.set_cons_zero, List.set_cons_succ]
          refine wpAnyH_take (i := 19) (oi := { dst := some 36, op := Op.indexAddr 46 (Operand.tmp 34) (Operand.tmp 35), type := 0, pos := "ref.go:278", after := #[{ on := 17, ground := Ground.data }, { on := 18, ground := Ground.data }, { on := 11, ground := Ground.guard }], guard := some (11, false) }) (v := undef) rfl (by kernel_rfl) (by kernel_rfl) (by kernel_rfl) (fun _ _ _ h => h) (Or.inr ⟨by rfl, rfl⟩) (by assumption) ?_
          try simp only [Act.put, List.setIfInBounds_toArray, List.set_cons_zero, List.set_cons_succ]
          refine wpAnyH_take (i := 20) (oi := { dst := some 37, op := Op.fieldAddr 71 (Operand.tmp 36) 1, type := 0, pos := "ref.go:278", after := #[{ on := 19, ground := Ground.data }, { on := 11, ground := Ground.guard }], guard := some (11, false) }) (v := undef) rfl (by kernel_rfl) (by kernel_rfl) (by kernel_rfl) (fun _ _ _ h => h) (Or.inr ⟨by rfl, rfl⟩) (by assumption) ?_
          try simp only [Act.put, List.setIfInBounds_toArray, List.set_cons_zero, List.set_cons_succ]
          refine wpAnyH_take (i := 21) (oi := { dst := some 38, op := Op.load 59 (Operand.tmp 37), type := 59, pos := "ref.go:278", after := #[{ on := 20, ground := Ground.data }, { on := 11, ground := Ground.guard }], guard := some (11, false) }) (v := undef) rfl (by kernel_rfl) (by kernel_rfl) (by kernel_rfl) (fun _ _ _ h => h) (Or.inr ⟨by rfl, rfl⟩) (by assumption) ?_
          try simp only [Act.put, List.setIfInBounds_toArray, List.set_cons_zero, List.set_cons_succ]
          refine wpAnyH_take (i := 22) (oi := { dst := some 39, op := Op.binOp BinOp.neq 59 (Operand.tmp 33) (Operand.tmp 38) 59, type := 4, pos := "ref.go:278", after := #[{ on := 16, ground := Ground.data }, { on := 21, ground := Ground.data }, { on := 11, ground := Ground.guard }], guard := some (11, false) }) (v := undef) rfl (by kernel_rfl) (by kernel_rfl) (by kernel_rfl) (fun _ _ _ h => h) (Or.inr ⟨by rfl, rfl⟩) (by assumption) ?_
          try simp only [Act.put, List.setIfInBounds_toArray, List.set_cons_zero, List.set_cons_succ]
          refine wpAnyH_take (i := 23) (oi := { dst := some 40, op := Op.pick (Operand.tmp 28) (Operand.const (Value.bool true)) (Operand.tmp 39), type := 4, pos := "ref.go:278", after := #[{ on := 11, ground := Ground.data }, { on := 22, ground := Ground.data }], guard := none }) (v := ?_) rfl (by kernel_rfl) (by kernel_rfl) (by kernel_rfl) (fun _ _ _ h => h) (Or.inl ⟨by rfl, ?_⟩) (by assumption) ?_
          rotate_left
          · intro w hSw
            try dsimp only at hSw
            go_simp
            try with_reducible rfl
          try simp only [Act.put, List.setIfInBounds_toArray, List.set_cons_zero, List.set_cons_succ]
          refine wpAnyH_take (i := 24) (oi := { dst := some 41, op := Op.move (Operand.tmp 40), type := 4, pos := "ref.go:278", after := #[{ on := 23, ground := Ground.data }, { on := 11, ground := Ground.chain }], guard := none }) (v := ?_) rfl (by kernel_rfl) (by kernel_rfl) (by kernel_rfl) (fun _ _ _ h => h) (Or.inl ⟨by rfl, ?_⟩) (by assumption) ?_
          rotate_left
          · intro w hSw
            try dsimp only at hSw
            go_simp
            try with_reducible rfl
          try simp only [Act.put, List.setIfInBounds_toArray, List.set_cons_zero, List.set_cons_succ]
          refine wpAnyH_take (i := 25) (oi := { dst := some 42, op := Op.move (Operand.tmp 0), type := 46, pos := "ref.go:278", after := #[{ on := 24, ground := Ground.guard }], guard := some (24, false) }) (v := undef) rfl (by kernel_rfl) (by kernel_rfl) (by kernel_rfl) (fun _ _ _ h => h) (Or.inr ⟨by rfl, rfl⟩) (by assumption) ?_
          try simp only [Act.put, List.setIfInBounds_toArray, List.set_cons_zero, List.set_cons_succ]
          refine wpAnyH_take (i := 26) (oi := { dst := some 43, op := Op.move (Operand.tmp 5), type := 3, pos := "ref.go:278", after := #[{ on := 24, ground := Ground.guard }], guard := some (24, false) }) (v := undef) rfl (by kernel_rfl) (by kernel_rfl) (by kernel_rfl) (fun _ _ _ h => h) (Or.inr ⟨by rfl, rfl⟩) (by assumption) ?_
          try simp only [Act.put, List.setIfInBounds_toArray, List.set_cons_zero, List.set_cons_succ]
          refine wpAnyH_take (i := 27) (oi := { dst := some 44, op := Op.indexAddr 46 (Operand.tmp 42) (Operand.tmp 43), type := 0, pos := "ref.go:278", after := #[{ on := 25, ground := Ground.data }, { on := 26, ground := Ground.data }, { on := 24, ground := Ground.guard }], guard := some (24, false) }) (v := undef) rfl (by kernel_rfl) (by kernel_rfl) (by kernel_rfl) (fun _ _ _ h => h) (Or.inr ⟨by rfl, rfl⟩) (by assumption) ?_
          try simp only [Act.put, List.setIfInBounds_toArray, List.set_cons_zero, List.set_cons_succ]
          refine wpAnyH_take (i := 28) (oi := { dst := some 45, op := Op.fieldAddr 71 (Operand.tmp 44) 2, type := 0, pos := "ref.go:278", after := #[{ on := 27, ground := Ground.data }, { on := 24, ground := Ground.guard }], guard := some (24, false) }) (v := undef) rfl (by kernel_rfl) (by kernel_rfl) (by kernel_rfl) (fun _ _ _ h => h) (Or.inr ⟨by rfl, rfl⟩) (by assumption) ?_
          try simp only [Act.put, List.setIfInBounds_toArray, List.set_cons_zero, List.set_cons_succ]
          refine wpAnyH_take (i := 29) (oi := { dst := some 46, op := Op.load 42 (Operand.tmp 45), type := 42, pos := "ref.go:278", after := #[{ on := 28, ground := Ground.data }, { on := 24, ground := Ground.guard }], guard := some (24, false) }) (v := undef) rfl (by kernel_rfl) (by kernel_rfl) (by kernel_rfl) (fun _ _ _ h => h) (Or.inr ⟨by rfl, rfl⟩) (by assumption) ?_
          try simp only [Act.put, List.setIfInBounds_toArray, List.set_cons_zero, List.set_cons_succ]
          refine wpAnyH_take (i := 30) (oi := { dst := some 47, op := Op.move (Operand.tmp 1), type := 46, pos := "ref.go:278", after := #[{ on := 24, ground := Ground.guard }], guard := some (24, false) }) (v := undef) rfl (by kernel_rfl) (by kernel_rfl) (by kernel_rfl) (fun _ _ _ h => h) (Or.inr ⟨by rfl, rfl⟩) (by assumption) ?_
          try simp only [Act.put, List.setIfInBounds_toArray, List.set_cons_zero, List.set_cons_succ]
          refine wpAnyH_take (i := 31) (oi := { dst := some 48, op := Op.move (Operand.tmp 5), type := 3, pos := "ref.go:278", after := #[{ on := 24, ground := Ground.guard }], guard := some (24, false) }) (v := undef) rfl (by kernel_rfl) (by kernel_rfl) (by kernel_rfl) (fun _ _ _ h => h) (Or.inr ⟨by rfl, rfl⟩) (by assumption) ?_
          try simp only [Act.put, List.setIfInBounds_toArray, List.set_cons_zero, List.set_cons_succ]
          refine wpAnyH_take (i := 32) (oi := { dst := some 49, op := Op.indexAddr 46 (Operand.tmp 47) (Operand.tmp 48), type := 0, pos := "ref.go:278", after := #[{ on := 30, ground := Ground.data }, { on := 31, ground := Ground.data }, { on := 24, ground := Ground.guard }], guard := some (24, false) }) (v := undef) rfl (by kernel_rfl) (by kernel_rfl) (by kernel_rfl) (fun _ _ _ h => h) (Or.inr ⟨by rfl, rfl⟩) (by assumption) ?_
          try simp only [Act.put, List.setIfInBounds_toArray, List.set_cons_zero, List.set_cons_succ]
          refine wpAnyH_take (i := 33) (oi := { dst := some 50, op := Op.fieldAddr 71 (Operand.tmp 49) 2, type := 0, pos := "ref.go:278", after := #[{ on := 32, ground := Ground.data }, { on := 24, ground := Ground.guard }], guard := some (24, false) }) (v := undef) rfl (by kernel_rfl) (by kernel_rfl) (by kernel_rfl) (fun _ _ _ h => h) (Or.inr ⟨by rfl, rfl⟩) (by assumption) ?_
          try simp only [Act.put, List.setIfInBounds_toArray, List.set_cons_zero, List.set_cons_succ]
          refine wpAnyH_take (i := 34) (oi := { dst := some 51, op := Op.load 42 (Operand.tmp 50), type := 42, pos := "ref.go:278", after := #[{ on := 33, ground := Ground.data }, { on := 24, ground := Ground.guard }], guard := some (24, false) }) (v := undef) rfl (by kernel_rfl) (by kernel_rfl) (by kernel_rfl) (fun _ _ _ h => h) (Or.inr ⟨by rfl, rfl⟩) (by assumption) ?_
          try simp only [Act.put, List.setIfInBounds_toArray, List.set_cons_zero, List.set_cons_succ]
          refine wpAnyH_ready (rs := [35]) (by kernel_rfl) (by simp) ?_
          refine AllReadyH.cons (o := { dst := some 52, op := Op.call { callee := Callee.value (Operand.func 40), args := #[Operand.tmp 46, Operand.tmp 51], argTypes := #[42, 42] }, type := 4, pos := "ref.go:278", after := #[{ on := 29, ground := Ground.data }, { on := 34, ground := Ground.data }, { on := 24, ground := Ground.chain }, { on := 24, ground := Ground.guard }], guard := some (24, false) }) rfl (fun K hK => ?_) ?_
          rotate_left
          · exact AllReadyH.nil
          refine ite_no (by rfl) ?_
          refine hK.out _ _ hHeld (fun hHeld => ?_)
          clear hK K
          try simp only [Act.put, List.setIfInBounds_toArray, List.set_cons_zero, List.set_cons_succ]
          refine wpAnyH_take (i := 36) (oi := { dst := some 53, op := Op.unOp UnOp.not 4 (Operand.tmp 52), type := 4, pos := "ref.go:278", after := #[{ on := 35, ground := Ground.data }, { on := 24, ground := Ground.guard }], guard := some (24, false) }) (v := undef) rfl (by kernel_rfl) (by kernel_rfl) (by kernel_rfl) (fun _ _ _ h => h) (Or.inr ⟨by rfl, rfl⟩) (by assumption) ?_
          try simp only [Act.put, List.setIfInBounds_toArray, List.set_cons_zero, List.set_cons_succ]
          refine wpAnyH_take (i := 37) (oi := { dst := some 54, op := Op.pick (Operand.tmp 41) (Operand.const (Value.bool true)) (Operand.tmp 53), type := 4, pos := "ref.go:278", after := #[{ on := 24, ground := Ground.data }, { on := 36, ground := Ground.data }], guard := none }) (v := ?_) rfl (by kernel_rfl) (by kernel_rfl) (by kernel_rfl) (fun _ _ _ h => h) (Or.inl ⟨by rfl, ?_⟩) (by assumption) ?_
          rotate_left
          · intro w hSw
            try dsimp only at hSw
            go_simp
            try with_reducible rfl
          try simp only [Act.put, List.setIfInBounds_toArray, List.set_cons_zero, List.set_cons_succ]
          refine wpAnyH_done (by kernel_rfl) ?_ _
          go_wp2
          go_ret
          exact ⟨ret_bool (HF.out.symm.trans HV.out), HBW.out.drew⟩
        · cases e1 : (((s.num : Nat) : Int) == ((t.num : Nat) : Int))
          · have n1 : (s.num == t.num) = false := by rw [beq_eq_false_iff_ne]; intro h; rw [h] at e1; simp at e1
            have m1 : (((s.num : Nat) : Int) != ((t.num : Nat) : Int)) = true := by unfold bne; rw [e1]; rfl
            have HF : Hid (decide (l.map AnR.ans = m.map AnR.ans) = false) := map_diff AnR.ans HS.out HT.out (by
              intro h
              have h1 : s.num = t.num := congrArg (fun x => x.2.1) h
              rw [h1] at e1
              simp at e1)
            go_wp2_with fail
            refine wp_region_held_drew (S := fun Y => Y.cell? ⟨g, o + q * 3, none⟩ = some (.bool s.yes) ∧ Y.cell? ⟨g, o + q * 3 + 1, none⟩ = some (.int .u64 (s.num : Int)) ∧ Y.cell? ⟨g, o + q * 3 + 2, none⟩ = some (.slice s.at_ s.prs.length s.cap) ∧ Y.cell? ⟨g', o' + q * 3, none⟩ = some (.bool t.yes) ∧ Y.cell? ⟨g', o' + q * 3 + 1, none⟩ = some (.int .u64 (t.num : Int)) ∧ Y.cell? ⟨g', o' + q * 3 + 2, none⟩ = some (.slice t.at_ t.prs.length t.cap)) (by kernel_rfl) (K3.out _ (Below.refl wr.heap.size wr).drew) (fun hHeld => ?_)
            refine wpAnyH_take (i := 0) (oi := { dst := some 17, op := Op.move (Operand.tmp 0), type := 46, pos := "ref.go:278", after := #[], guard := none }) (v := ?_) rfl (by kernel_rfl) (by kernel_rfl) (by kernel_rfl) (fun _ _ _ h => h) (Or.inl ⟨by rfl, ?_⟩) (by assumption) ?_
            rotate_left
            · intro w hSw
              try dsimp only at hSw
              go_simp
              try with_reducible rfl
            try simp only [Act.put, List.setIfInBounds_toArray, List.set_cons_zero, List.set_cons_succ]
            refine wpAnyH_take (i := 1) (oi := { dst := some 18, op := Op.move (Operand.tmp 5), type := 3, pos := "ref.go:278", after := #[], guard := none }) (v := ?_) rfl (by kernel_rfl) (by kernel_rfl) (by kernel_rfl) (fun _ _ _ h => h) (Or.inl ⟨by rfl, ?_⟩) (by assumption) ?_
            rotate_left
            · intro w hSw
              try dsimp only at hSw
              go_simp
              try with_reducible rfl
            try simp only [Act.put, List.setIfInBounds_toArray, List.set_cons_zero, List.set_cons_succ]
            refine wpAnyH_take (i := 2) (oi := { dst := some 19, op := Op.indexAddr 46 (Operand.tmp 17) (Operand.tmp 18), type := 0, pos := "ref.go:278", after := #[{ on := 0, ground := Ground.data }, { on := 1, ground := Ground.data }], guard := none }) (v := ?_) rfl (by kernel_rfl) (by kernel_rfl) (by kernel_rfl) (fun _ _ _ h => h) (Or.inl ⟨by rfl, ?_⟩) (by assumption) ?_
            rotate_left
            · intro w hSw
              try dsimp only at hSw
              go_simp
              try with_reducible rfl
            try simp only [Act.put, List.setIfInBounds_toArray, List.set_cons_zero, List.set_cons_succ]
            refine wpAnyH_take (i := 3) (oi := { dst := some 20, op := Op.fieldAddr 71 (Operand.tmp 19) 0, type := 0, pos := "ref.go:278", after := #[{ on := 2, ground := Ground.data }], guard := none }) (v := ?_) rfl (by kernel_rfl) (by kernel_rfl) (by kernel_rfl) (fun _ _ _ h => h) (Or.inl ⟨by rfl, ?_⟩) (by assumption) ?_
            rotate_left
            · intro w hSw
              try dsimp only at hSw
              go_simp
              try with_reducible rfl
            try simp only [Act.put, List.setIfInBounds_toArray, List.set_cons_zero, List.set_cons_succ]
            refine wpAnyH_take (i := 4) (oi := { dst := some 21, op := Op.load 4 (Operand.tmp 20), type := 4, pos := "ref.go:278", after := #[{ on := 3, ground := Ground.data }], guard := none }) (v := ?_) rfl (by kernel_rfl) (by kernel_rfl) (by kernel_rfl) (fun _ _ _ h => h) (Or.inl ⟨by rfl, ?_⟩) (by assumption) ?_
            rotate_left
            · intro w hSw
              try dsimp only at hSw
              go_simp
              try with_reducible rfl
            try simp only [Act.put, List.setIfInBounds_toArray, List.set_cons_zero, List.set_cons_succ]
            refine wpAnyH_take (i := 5) (oi := { dst := some 22, op := Op.move (Operand.tmp 1), type := 46, pos := "ref.go:278", after := #[], guard := none }) (v := ?_) rfl (by kernel_rfl) (by kernel_rfl) (by kernel_rfl) (fun _ _ _ h => h) (Or.inl ⟨by rfl, ?_⟩) (by assumption) ?_
            rotate_left
            · intro w hSw
              try dsimp only at hSw
              go_simp
              try with_reducible rfl
            try simp only [Act.put, List.setIfInBounds_toArray, List.set_cons_zero, List.set_cons_succ]
            refine wpAnyH_take (i := 6) (oi := { dst := some 23, op := Op.move (Operand.tmp 5), type := 3, pos := "ref.go:278", after := #[], guard := none }) (v := ?_) rfl (by kernel_rfl) (by kernel_rfl) (by kernel_rfl) (fun _ _ _ h => h) (Or.inl ⟨by rfl, ?_⟩) (by assumption) ?_
            rotate_left
            · intro w hSw
              try dsimp only at hSw
              go_simp
              try with_reducible rfl
            try simp only [Act.put, List.setIfInBounds_toArray, List.set_cons_zero, List.set_cons_succ]
            refine wpAnyH_take (i := 7) (oi := { dst := some 24, op := Op.indexAddr 46 (Operand.tmp 22) (Operand.tmp 23), type := 0, pos := "ref.go:278", after := #[{ on := 5, ground := Ground.data }, { on := 6, ground := Ground.data }], guard := none }) (v := ?_) rfl (by kernel_rfl) (by kernel_rfl) (by kernel_rfl) (fun _ _ _ h => h) (Or.inl ⟨by rfl, ?_⟩) (by assumption) ?_
            rotate_left
            · intro w hSw
              try dsimp only at hSw
              go_simp
              try with_reducible rfl
            try simp only [Act.put, List.setIfInBounds_toArray, List.set_cons_zero, List.set_cons_succ]
            refine wpAnyH_take (i := 8) (oi := { dst := some 25, op := Op.fieldAddr 71 (Operand.tmp 24) 0, type := 0, pos := "ref.go:278", after := #[{ on := 7, ground := Ground.data }], guard := none }) (v := ?_) rfl (by kernel_rfl) (by kernel_rfl) (by kernel_rfl) (fun _ _ _ h => h) (Or.inl ⟨by rfl, ?_⟩) (by assumption) ?_
            rotate_left
            · intro w hSw
              try dsimp only at hSw
              go_simp
              try with_reducible rfl
            try simp only [Act.put, List.setIfInBounds_toArray, List.set_cons_zero, List.set_cons_succ]
            refine wpAnyH_take (i := 9) (oi := { dst := some 26, op := Op.load 4 (Operand.tmp 25), type := 4, pos := "ref.go:278", after := #[{ on := 8, ground := Ground.data }], guard := none }) (v := ?_) rfl (by kernel_rfl) (by kernel_rfl) (by kernel_rfl) (fun _ _ _ h => h) (Or.inl ⟨by rfl, ?_⟩) (by assumption) ?_
            rotate_left
            · intro w hSw
              try dsimp only at hSw
              go_simp
              try with_reducible rfl
            try simp only [Act.put, List.setIfInBounds_toArray, List.set_cons_zero, List.set_cons_succ]
            refine wpAnyH_take (i := 10) (oi := { dst := some 27, op := Op.binOp BinOp.neq 4 (Operand.tmp 21) (Operand.tmp 26) 4, type := 4, pos := "ref.go:278", after := #[{ on := 4, ground := Ground.data }, { on := 9, ground := Ground.data }], guard := none }) (v := ?_) rfl (by kernel_rfl) (by kernel_rfl) (by kernel_rfl) (fun _ _ _ h => h) (Or.inl ⟨by rfl, ?_⟩) (by assumption) ?_
            rotate_left
            · intro w hSw
              try dsimp only at hSw
              go_simp
              try with_reducible rfl
            try simp only [Act.put, List.setIfInBounds_toArray, List.set_cons_zero, List.set_cons_succ]
            refine wpAnyH_take (i := 11) (oi := { dst := some 28, op := Op.move (Operand.tmp 27), type := 4, pos := "ref.go:278", after := #[{ on := 10, ground := Ground.data }], guard := none }) (v := ?_) rfl (by kernel_rfl) (by kernel_rfl) (by kernel_rfl) (fun _ _ _ h => h) (Or.inl ⟨by rfl, ?_⟩) (by assumption) ?_
            rotate_left
            · intro w hSw
              try dsimp only at hSw
              go_simp
              try with_reducible rfl
            try simp only [Act.put, List.setIfInBounds_toArray, List.set_cons_zero, List.set_cons_succ]
            refine wpAnyH_take (i := 12) (oi := { dst := some 29, op := Op.move (Operand.tmp 0), type := 46, pos := "ref.go:278", after := #[{ on := 11, ground := Ground.guard }], guard := some (11, false) }) (v := ?_) rfl (by kernel_rfl) (by kernel_rfl) (by kernel_rfl) (fun _ _ _ h => h) (Or.inl ⟨by rfl, ?_⟩) (by assumption) ?_
            rotate_left
            · intro w hSw
              try dsimp only at hSw
              go_simp
              try with_reducible rfl
            try simp only [Act.put, List.setIfInBounds_toArray, List.set_cons_zero, List.set_cons_succ]
            refine wpAnyH_take (i := 13) (oi := { dst := some 30, op := Op.move (Operand.tmp 5), type := 3, pos := "ref.go:278", after := #[{ on := 11, ground := Ground.guard }], guard := some (11, false) }) (v := ?_) rfl (by kernel_rfl) (by kernel_rfl) (by kernel_rfl) (fun _ _ _ h => h) (Or.inl ⟨by rfl, ?_⟩) (by assumption) ?_
            rotate_left
            · intro w hSw
              try dsimp only at hSw
              go_simp
              try with_reducible rfl
            try simp only [Act.put, List.setIfInBounds_toArray, List.set_cons_zero, List.set_cons_succ]
            refine wpAnyH_take (i := 14) (oi := { dst := some 31, op := Op.indexAddr 46 (Operand.tmp 29) (Operand.tmp 30), type := 0, pos := "ref.go:278", after := #[{ on := 12, ground := Ground.data }, { on := 13, ground := Ground.data }, { on := 11, ground := Ground.guard }], guard := some (11, false) }) (v := ?_) rfl (by kernel_rfl) (by kernel_rfl) (by kernel_rfl) (fun _ _ _ h => h) (Or.inl ⟨by rfl, ?_⟩) (by assumption) ?_
            rotate_left
            · intro w hSw
              try dsimp only at hSw
              go_simp
              try with_reducible rfl
            try simp only [Act.put, List.setIfInBounds_toArray, List.set_cons_zero, List.set_cons_succ]
            refine wpAnyH_take (i := 15) (oi := { dst := some 32, op := Op.fieldAddr 71 (Operand.tmp 31) 1, type := 0, pos := "ref.go:278", after := #[{ on := 14, ground := Ground.data }, { on := 11, ground := Ground.guard }], guard := some (11, false) }) (v := ?_) rfl (by kernel_rfl) (by kernel_rfl) (by kernel_rfl) (fun _ _ _ h => h) (Or.inl ⟨by rfl, ?_⟩) (by assumption) ?_
            rotate_left
            · intro w hSw
              try dsimp only at hSw
              go_simp
              try with_reducible rfl
            try simp only [Act.put, List.setIfInBounds_toArray, List.set_cons_zero, List.set_cons_succ]
            refine wpAnyH_take (i := 16) (oi := { dst := some 33, op := Op.load 59 (Operand.tmp 32), type := 59, pos := "ref.go:278", after := #[{ on := 15, ground := Ground.data }, { on := 11, ground := Ground.guard }], guard := some (11, false) }) (v := ?_) rfl (by kernel_rfl) (by kernel_rfl) (by kernel_rfl) (fun _ _ _ h => h) (Or.inl ⟨by rfl, ?_⟩) (by assumption) ?_
            rotate_left
            · intro w hSw
              try dsimp only at hSw
              go_simp
              try with_reducible rfl
            try simp only [Act.put, List.setIfInBounds_toArray, List.set_cons_zero, List.set_cons_succ]
            refine wpAnyH_take (i := 17) (oi := { dst := some 34, op := Op.move (Operand.tmp 1), type := 46, pos := "ref.go:278", after := #[{ on := 11, ground := Ground.guard }], guard := some (11, false) }) (v := ?_) rfl (by kernel_rfl) (by kernel_rfl) (by kernel_rfl) (fun _ _ _ h => h) (Or.inl ⟨by rfl, ?_⟩) (by assumption) ?_
            rotate_left
            · intro w hSw
              try dsimp only at hSw
              go_simp
              try with_reducible rfl
            try simp only [Act.put, List.setIfInBounds_toArray, List.set_cons_zero, List.set_cons_succ]
            refine wpAnyH_take (i := 18) (oi := { dst := some 35, op := Op.move (Operand.tmp 5), type := 3, pos := "ref.go:278", after := #[{ on := 11, ground := Ground.guard }], guard := some (11, false) }) (v := ?_) rfl (by kernel_rfl) (by kernel_rfl) (by kernel_rfl) (fun _ _ _ h => h) (Or.inl ⟨by rfl, ?_⟩) (by assumption) ?_
            rotate_left
            · intro w hSw
              try dsimp only at hSw
              go_simp
              try with_reducible rfl
            try simp only [Act.put, List.setIfInBounds_toArray, List.set_cons_zero, List.set_cons_succ]
            refine wpAnyH_take (i := 19) (oi := { dst := some 36, op := Op.indexAddr 46 (Operand.tmp 34) (Operand.tmp 35), type := 0, pos := "ref.go:278", after := #[{ on := 17, ground := Ground.data }, { on := 18, ground := Ground.data }, { on := 11, ground := Ground.guard }], guard := some (11, false) }) (v := ?_) rfl (by kernel_rfl) (by kernel_rfl) (by kernel_rfl) (fun _ _ _ h => h) (Or.inl ⟨by rfl, ?_⟩) (by assumption) ?_
            rotate_left
            · intro w hSw
              try dsimp only at hSw
              go_simp
              try with_reducible rfl
            try simp only [Act.put, List.setIfInBounds_toArray, List.set_cons_zero, List.set_cons_succ]
            refine wpAnyH_take (i := 20) (oi := { dst := some 37, op := Op.fieldAddr 71 (Operand.tmp 36) 1, type := 0, pos := "ref.go:278", after := #[{ on := 19, ground := Ground.data }, { on := 11, ground := Ground.guard }], guard := some (11, false) }) (v := ?_) rfl (by kernel_rfl) (by kernel_rfl) (by kernel_rfl) (fun _ _ _ h => h) (Or.inl ⟨by rfl, ?_⟩) (by assumption) ?_
            rotate_left
            · intro w hSw
              try dsimp only at hSw
              go_simp
              try with_reducible rfl
            try simp only [Act.put, List.setIfInBounds_toArray, List.set_cons_zero, List.set_cons_succ]
            refine wpAnyH_take (i := 21) (oi := { dst := some 38, op := Op.load 59 (Operand.tmp 37), type := 59, pos := "ref.go:278", after := #[{ on := 20, ground := Ground.data }, { on := 11, ground := Ground.guard }], guard := some (11, false) }) (v := ?_) rfl (by kernel_rfl) (by kernel_rfl) (by kernel_rfl) (fun _ _ _ h => h) (Or.inl ⟨by rfl, ?_⟩) (by assumption) ?_
            rotate_left
            · intro w hSw
              try dsimp only at hSw
              go_simp
              try with_reducible rfl
            try simp only [Act.put, List.setIfInBounds_toArray, List.set_cons_zero, List.set_cons_succ]
            refine wpAnyH_take (i := 22) (oi := { dst := some 39, op := Op.binOp BinOp.neq 59 (Operand.tmp 33) (Operand.tmp 38) 59, type := 4, pos := "ref.go:278", after := #[{ on := 16, ground := Ground.data }, { on := 21, ground := Ground.data }, { on := 11, ground := Ground.guard }], guard := some (11, false) }) (v := ?_) rfl (by kernel_rfl) (by kernel_rfl) (by kernel_rfl) (fun _ _ _ h => h) (Or.inl ⟨by rfl, ?_⟩) (by assumption) ?_
            rotate_left
            · intro w hSw
              try dsimp only at hSw
              go_simp
              try with_reducible rfl
            try simp only [Act.put, List.setIfInBounds_toArray, List.set_cons_zero, List.set_cons_succ]
            refine wpAnyH_take (i := 23) (oi := { dst := some 40, op := Op.pick (Operand.tmp 28) (Operand.const (Value.bool true)) (Operand.tmp 39), type := 4, pos := "ref.go:278", after := #[{ on := 11, ground := Ground.data }, { on := 22, ground := Ground.data }], guard := none }) (v := ?_) rfl (by kernel_rfl) (by kernel_rfl) (by kernel_rfl) (fun _ _ _ h => h) (Or.inl ⟨by rfl, ?_⟩) (by assumption) ?_
            rotate_left
            · intro w hSw
              try dsimp only at hSw
              go_simp
              try with_reducible rfl
            try simp only [Act.put, List.setIfInBounds_toArray, List.set_cons_zero, List.set_cons_succ]
            refine wpAnyH_take (i := 24) (oi := { dst := some 41, op := Op.move (Operand.tmp 40), type := 4, pos := "ref.go:278", after := #[{ on := 23, ground := Ground.data }, { on := 11, ground := Ground.chain }], guard := none }) (v := ?_) rfl (by kernel_rfl) (by kernel_rfl) (by kernel_rfl) (fun _ _ _ h => h) (Or.inl ⟨by rfl, ?_⟩) (by assumption) ?_
            rotate_left
            · intro w hSw
              try dsimp only at hSw
              go_simp
              try with_reducible rfl
            try simp only [Act.put, List.setIfInBounds_toArray, List.set_cons_zero, List.set_cons_succ]
            refine wpAnyH_take (i := 25) (oi := { dst := some 42, op := Op.move (Operand.tmp 0), type := 46, pos := "ref.go:278", after := #[{ on := 24, ground := Ground.guard }], guard := some (24, false) }) (v := undef) rfl (by kernel_rfl) (by kernel_rfl) (by kernel_rfl) (fun _ _ _ h => h) (Or.inr ⟨by rfl, rfl⟩) (by assumption) ?_
            try simp only [Act.put, List.setIfInBounds_toArray, List.set_cons_zero, List.set_cons_succ]
            refine wpAnyH_take (i := 26) (oi := { dst := some 43, op := Op.move (Operand.tmp 5), type := 3, pos := "ref.go:278", after := #[{ on := 24, ground := Ground.guard }], guard := some (24, false) }) (v := undef) rfl (by kernel_rfl) (by kernel_rfl) (by kernel_rfl) (fun _ _ _ h => h) (Or.inr ⟨by rfl, rfl⟩) (by assumption) ?_
            try simp only [Act.put, List.setIfInBounds_toArray, List.set_cons_zero, List.set_cons_succ]
            refine wpAnyH_take (i := 27) (oi := { dst := some 44, op := Op.indexAddr 46 (Operand.tmp 42) (Operand.tmp 43), type := 0, pos := "ref.go:278", after := #[{ on := 25, ground := Ground.data }, { on := 26, ground := Ground.data }, { on := 24, ground := Ground.guard }], guard := some (24, false) }) (v := undef) rfl (by kernel_rfl) (by kernel_rfl) (by kernel_rfl) (fun _ _ _ h => h) (Or.inr ⟨by rfl, rfl⟩) (by assumption) ?_
            try simp only [Act.put, List.setIfInBounds_toArray, List.set_cons_zero, List.set_cons_succ]
            refine wpAnyH_take (i := 28) (oi := { dst := some 45, op := Op.fieldAddr 71 (Operand.tmp 44) 2, type := 0, pos := "ref.go:278", after := #[{ on := 27, ground := Ground.data }, { on := 24, ground := Ground.guard }], guard := some (24, false) }) (v := undef) rfl (by kernel_rfl) (by kernel_rfl) (by kernel_rfl) (fun _ _ _ h => h) (Or.inr ⟨by rfl, rfl⟩) (by assumption) ?_
            try simp only [Act.put, List.setIfInBounds_toArray, List.set_cons_zero, List.set_cons_succ]
            refine wpAnyH_take (i := 29) (oi := { dst := some 46, op := Op.load 42 (Operand.tmp 45), type := 42, pos := "ref.go:278", after := #[{ on := 28, ground := Ground.data }, { on := 24, ground := Ground.guard }], guard := some (24, false) }) (v := undef) rfl (by kernel_rfl) (by kernel_rfl) (by kernel_rfl) (fun _ _ _ h => h) (Or.inr ⟨by rfl, rfl⟩) (by assumption) ?_
            try simp only [Act.put, List.setIfInBounds_toArray, List.set_cons_zero, List.set_cons_succ]
            refine wpAnyH_take (i := 30) (oi := { dst := some 47, op := Op.move (Operand.tmp 1), type := 46, pos := "ref.go:278", after := #[{ on := 24, ground := Ground.guard }], guard := some (24, false) }) (v := undef) rfl (by kernel_rfl) (by kernel_rfl) (by kernel_rfl) (fun _ _ _ h => h) (Or.inr ⟨by rfl, rfl⟩) (by assumption) ?_
            try simp only [Act.put, List.setIfInBounds_toArray, List.set_cons_zero, List.set_cons_succ]
            refine wpAnyH_take (i := 31) (oi := { dst := some 48, op := Op.move (Operand.tmp 5), type := 3, pos := "ref.go:278", after := #[{ on := 24, ground := Ground.guard }], guard := some (24, false) }) (v := undef) rfl (by kernel_rfl) (by kernel_rfl) (by kernel_rfl) (fun _ _ _ h => h) (Or.inr ⟨by rfl, rfl⟩) (by assumption) ?_
            try simp only [Act.put, List.setIfInBounds_toArray, List.set_cons_zero, List.set_cons_succ]
            refine wpAnyH_take (i := 32) (oi := { dst := some 49, op := Op.indexAddr 46 (Operand.tmp 47) (Operand.tmp 48), type := 0, pos := "ref.go:278", after := #[{ on := 30, ground := Ground.data }, { on := 31, ground := Ground.data }, { on := 24, ground := Ground.guard }], guard := some (24, false) }) (v := undef) rfl (by kernel_rfl) (by kernel_rfl) (by kernel_rfl) (fun _ _ _ h => h) (Or.inr ⟨by rfl, rfl⟩) (by assumption) ?_
            try simp only [Act.put, List.setIfInBounds_toArray, List.set_cons_zero, List.set_cons_succ]
            refine wpAnyH_take (i := 33) (oi := { dst := some 50, op := Op.fieldAddr 71 (Operand.tmp 49) 2, type := 0, pos := "ref.go:278", after := #[{ on := 32, ground := Ground.data }, { on := 24, ground := Ground.guard }], guard := some (24, false) }) (v := undef) rfl (by kernel_rfl) (by kernel_rfl) (by kernel_rfl) (fun _ _ _ h => h) (Or.inr ⟨by rfl, rfl⟩) (by assumption) ?_
            try simp only [Act.put, List.setIfInBounds_toArray, List.set_cons_zero, List.set_cons_succ]
            refine wpAnyH_take (i := 34) (oi := { dst := some 51, op := Op.load 42 (Operand.tmp 50), type := 42, pos := "ref.go:278", after := #[{ on := 33, ground := Ground.data }, { on := 24, ground := Ground.guard }], guard := some (24, false) }) (v := undef) rfl (by kernel_rfl) (by kernel_rfl) (by kernel_rfl) (fun _ _ _ h => h) (Or.inr ⟨by rfl, rfl⟩) (by assumption) ?_
            try simp only [Act.put, List.setIfInBounds_toArray, List.set_cons_zero, List.set_cons_succ]
            refine wpAnyH_ready (rs := [35]) (by kernel_rfl) (by simp) ?_
            refine AllReadyH.cons (o := { dst := some 52, op := Op.call { callee := Callee.value (Operand.func 40), args := #[Operand.tmp 46, Operand.tmp 51], argTypes := #[42, 42] }, type := 4, pos := "ref.go:278", after := #[{ on := 29, ground := Ground.data }, { on := 34, ground := Ground.data }, { on := 24, ground := Ground.chain }, { on := 24, ground := Ground.guard }], guard := some (24, false) }) rfl (fun K hK => ?_) ?_
            rotate_left
            · exact AllReadyH.nil
            refine ite_no (by rfl) ?_
            refine hK.out _ _ hHeld (fun hHeld => ?_)
            clear hK K
            try simp only [Act.put, List.setIfInBounds_toArray, List.set_cons_zero, List.set_cons_succ]
            refine wpAnyH_take (i := 36) (oi := { dst := some 53, op := Op.unOp UnOp.not 4 (Operand.tmp 52), type := 4, pos := "ref.go:278", after := #[{ on := 35, ground := Ground.data }, { on := 24, ground := Ground.guard }], guard := some (24, false) }) (v := undef) rfl (by kernel_rfl) (by kernel_rfl) (by kernel_rfl) (fun _ _ _ h => h) (Or.inr ⟨by rfl, rfl⟩) (by assumption) ?_
            try simp only [Act.put, List.setIfInBounds_toArray, List.set_cons_zero, List.set_cons_succ]
            refine wpAnyH_take (i := 37) (oi := { dst := some 54, op := Op.pick (Operand.tmp 41) (Operand.const (Value.bool true)) (Operand.tmp 53), type := 4, pos := "ref.go:278", after := #[{ on := 24, ground := Ground.data }, { on := 36, ground := Ground.data }], guard := none }) (v := ?_) rfl (by kernel_rfl) (by kernel_rfl) (by kernel_rfl) (fun _ _ _ h => h) (Or.inl ⟨by rfl, ?_⟩) (by assumption) ?_
            rotate_left
            · intro w hSw
              try dsimp only at hSw
              go_simp
              try with_reducible rfl
            try simp only [Act.put, List.setIfInBounds_toArray, List.set_cons_zero, List.set_cons_succ]
            refine wpAnyH_done (by kernel_rfl) ?_ _
            go_wp2
            go_ret
            exact ⟨ret_bool (HF.out.symm.trans HV.out), HBW.out.drew⟩
          · have n1 : (s.num == t.num) = true := by have := e1; simp at this; rw [beq_iff_eq]; omega
            have m1 : (((s.num : Nat) : Int) != ((t.num : Nat) : Int)) = false := by unfold bne; rw [e1]; rfl
            cases e2 : decide (s.prs = t.prs)
            · have HE := Lib.hid e2
              have HF : Hid (decide (l.map AnR.ans = m.map AnR.ans) = false) := map_diff AnR.ans HS.out HT.out (by
                intro h
                have h1 : s.prs = t.prs := congrArg (fun x => x.2.2) h
                exact (of_decide_eq_false e2) h1)
              go_wp2_with fail
              refine wp_region_held_drew (S := fun Y => Y.cell? ⟨g, o + q * 3, none⟩ = some (.bool s.yes) ∧ Y.cell? ⟨g, o + q * 3 + 1, none⟩ = some (.int .u64 (s.num : Int)) ∧ Y.cell? ⟨g, o + q * 3 + 2, none⟩ = some (.slice s.at_ s.prs.length s.cap) ∧ Y.cell? ⟨g', o' + q * 3, none⟩ = some (.bool t.yes) ∧ Y.cell? ⟨g', o' + q * 3 + 1, none⟩ = some (.int .u64 (t.num : Int)) ∧ Y.cell? ⟨g', o' + q * 3 + 2, none⟩ = some (.slice t.at_ t.prs.length t.cap)) (by kernel_rfl) (K3.out _ (Below.refl wr.heap.size wr).drew) (fun hHeld => ?_)
              refine wpAnyH_take (i := 0) (oi := { dst := some 17, op := Op.move (Operand.tmp 0), type := 46, pos := "ref.go:278", after := #[], guard := none }) (v := ?_) rfl (by kernel_rfl) (by kernel_rfl) (by kernel_rfl) (fun _ _ _ h => h) (Or.inl ⟨by rfl, ?_⟩) (by assumption) ?_
              rotate_left
              · intro w hSw
                try dsimp only at hSw
                go_simp
                try with_reducible rfl
              try simp only [Act.put, List.setIfInBounds_toArray, List.set_cons_zero, List.set_cons_succ]
              refine wpAnyH_take (i := 1) (oi := { dst := some 18, op := Op.move (Operand.tmp 5), type := 3, pos := "ref.go:278", after := #[], guard := none }) (v := ?_) rfl (by kernel_rfl) (by kernel_rfl) (by kernel_rfl) (fun _ _ _ h => h) (Or.inl ⟨by rfl, ?_⟩) (by assumption) ?_
              rotate_left
              · intro w hSw
                try dsimp only at hSw
                go_simp
                try with_reducible rfl
              try simp only [Act.put, List.setIfInBounds_toArray, List.set_cons_zero, List.set_cons_succ]
              refine wpAnyH_take (i := 2) (oi := { dst := some 19, op := Op.indexAddr 46 (Operand.tmp 17) (Operand.tmp 18), type := 0, pos := "ref.go:278", after := #[{ on := 0, ground := Ground.data }, { on := 1, ground := Ground.data }], guard := none }) (v := ?_) rfl (by kernel_rfl) (by kernel_rfl) (by kernel_rfl) (fun _ _ _ h => h) (Or.inl ⟨by rfl, ?_⟩) (by assumption) ?_
              rotate_left
              · intro w hSw
                try dsimp only at hSw
                go_simp
                try with_reducible rfl
              try simp only [Act.put, List.setIfInBounds_toArray, List.set_cons_zero, List.set_cons_succ]
              refine wpAnyH_take (i := 3) (oi := { dst := some 20, op := Op.fieldAddr 71 (Operand.tmp 19) 0, type := 0, pos := "ref.go:278", after := #[{ on := 2, ground := Ground.data }], guard := none }) (v := ?_) rfl (by kernel_rfl) (by kernel_rfl) (by kernel_rfl) (fun _ _ _ h => h) (Or.inl ⟨by rfl, ?_⟩) (by assumption) ?_
              rotate_left
              · intro w hSw
                try dsimp only at hSw
                go_simp
                try with_reducible rfl
              try simp only [Act.put, List.setIfInBounds_toArray, List.set_cons_zero, List.set_cons_succ]
              refine wpAnyH_take (i := 4) (oi := { dst := some 21, op := Op.load 4 (Operand.tmp 20), type := 4, pos := "ref.go:278", after := #[{ on := 3, ground := Ground.data }], guard := none }) (v := ?_) rfl (by kernel_rfl) (by kernel_rfl) (by kernel_rfl) (fun _ _ _ h => h) (Or.inl ⟨by rfl, ?_⟩) (by assumption) ?_
              rotate_left
              · intro w hSw
                try dsimp only at hSw
                go_simp
                try with_reducible rfl
              try simp only [Act.put, List.setIfInBounds_toArray, List.set_cons_zero, List.set_cons_succ]
              refine wpAnyH_take (i := 5) (oi := { dst := some 22, op := Op.move (Operand.tmp 1), type := 46, pos := "ref.go:278", after := #[], guard := none }) (v := ?_) rfl (by kernel_rfl) (by kernel_rfl) (by kernel_rfl) (fun _ _ _ h => h) (Or.inl ⟨by rfl, ?_⟩) (by assumption) ?_
              rotate_left
              · intro w hSw
                try dsimp only at hSw
                go_simp
                try with_reducible rfl
              try simp only [Act.put, List.setIfInBounds_toArray, List.set_cons_zero, List.set_cons_succ]
              refine wpAnyH_take (i := 6) (oi := { dst := some 23, op := Op.move (Operand.tmp 5), type := 3, pos := "ref.go:278", after := #[], guard := none }) (v := ?_) rfl (by kernel_rfl) (by kernel_rfl) (by kernel_rfl) (fun _ _ _ h => h) (Or.inl ⟨by rfl, ?_⟩) (by assumption) ?_
              rotate_left
              · intro w hSw
                try dsimp only at hSw
                go_simp
                try with_reducible rfl
              try simp only [Act.put, List.setIfInBounds_toArray, List.set_cons_zero, List.set_cons_succ]
              refine wpAnyH_take (i := 7) (oi := { dst := some 24, op := Op.indexAddr 46 (Operand.tmp 22) (Operand.tmp 23), type := 0, pos := "ref.go:278", after := #[{ on := 5, ground := Ground.data }, { on := 6, ground := Ground.data }], guard := none }) (v := ?_) rfl (by kernel_rfl) (by kernel_rfl) (by kernel_rfl) (fun _ _ _ h => h) (Or.inl ⟨by rfl, ?_⟩) (by assumption) ?_
              rotate_left
              · intro w hSw
                try dsimp only at hSw
                go_simp
                try with_reducible rfl
              try simp only [Act.put, List.setIfInBounds_toArray, List.set_cons_zero, List.set_cons_succ]
              refine wpAnyH_take (i := 8) (oi := { dst := some 25, op := Op.fieldAddr 71 (Operand.tmp 24) 0, type := 0, pos := "ref.go:278", after := #[{ on := 7, ground := Ground.data }], guard := none }) (v := ?_) rfl (by kernel_rfl) (by kernel_rfl) (by kernel_rfl) (fun _ _ _ h => h) (Or.inl ⟨by rfl, ?_⟩) (by assumption) ?_
              rotate_left
              · intro w hSw
                try dsimp only at hSw
                go_simp
                try with_reducible rfl
              try simp only [Act.put, List.setIfInBounds_toArray, List.set_cons_zero, List.set_cons_succ]
              refine wpAnyH_take (i := 9) (oi := { dst := some 26, op := Op.load 4 (Operand.tmp 25), type := 4, pos := "ref.go:278", after := #[{ on := 8, ground := Ground.data }], guard := none }) (v := ?_) rfl (by kernel_rfl) (by kernel_rfl) (by kernel_rfl) (fun _ _ _ h => h) (Or.inl ⟨by rfl, ?_⟩) (by assumption) ?_
              rotate_left
              · intro w hSw
                try dsimp only at hSw
                go_simp
                try with_reducible rfl
              try simp only [Act.put, List.setIfInBounds_toArray, List.set_cons_zero, List.set_cons_succ]
              refine wpAnyH_take (i := 10) (oi := { dst := some 27, op := Op.binOp BinOp.neq 4 (Operand.tmp 21) (Operand.tmp 26) 4, type := 4, pos := "ref.go:278", after := #[{ on := 4, ground := Ground.data }, { on := 9, ground := Ground.data }], guard := none }) (v := ?_) rfl (by kernel_rfl) (by kernel_rfl) (by kernel_rfl) (fun _ _ _ h => h) (Or.inl ⟨by rfl, ?_⟩) (by assumption) ?_
              rotate_left
              · intro w hSw
                try dsimp only at hSw
                go_simp
                try with_reducible rfl
              try simp only [Act.put, List.setIfInBounds_toArray, List.set_cons_zero, List.set_cons_succ]
              refine wpAnyH_take (i := 11) (oi := { dst := some 28, op := Op.move (Operand.tmp 27), type := 4, pos := "ref.go:278", after := #[{ on := 10, ground := Ground.data }], guard := none }) (v := ?_) rfl (by kernel_rfl) (by kernel_rfl) (by kernel_rfl) (fun _ _ _ h => h) (Or.inl ⟨by rfl, ?_⟩) (by assumption) ?_
              rotate_left
              · intro w hSw
                try dsimp only at hSw
                go_simp
                try with_reducible rfl
              try simp only [Act.put, List.setIfInBounds_toArray, List.set_cons_zero, List.set_cons_succ]
              refine wpAnyH_take (i := 12) (oi := { dst := some 29, op := Op.move (Operand.tmp 0), type := 46, pos := "ref.go:278", after := #[{ on := 11, ground := Ground.guard }], guard := some (11, false) }) (v := ?_) rfl (by kernel_rfl) (by kernel_rfl) (by kernel_rfl) (fun _ _ _ h => h) (Or.inl ⟨by rfl, ?_⟩) (by assumption) ?_
              rotate_left
              · intro w hSw
                try dsimp only at hSw
                go_simp
                try with_reducible rfl
              try simp only [Act.put, List.setIfInBounds_toArray, List.set_cons_zero, List.set_cons_succ]
              refine wpAnyH_take (i := 13) (oi := { dst := some 30, op := Op.move (Operand.tmp 5), type := 3, pos := "ref.go:278", after := #[{ on := 11, ground := Ground.guard }], guard := some (11, false) }) (v := ?_) rfl (by kernel_rfl) (by kernel_rfl) (by kernel_rfl) (fun _ _ _ h => h) (Or.inl ⟨by rfl, ?_⟩) (by assumption) ?_
              rotate_left
              · intro w hSw
                try dsimp only at hSw
                go_simp
                try with_reducible rfl
              try simp only [Act.put, List.setIfInBounds_toArray, List.set_cons_zero, List.set_cons_succ]
              refine wpAnyH_take (i := 14) (oi := { dst := some 31, op := Op.indexAddr 46 (Operand.tmp 29) (Operand.tmp 30), type := 0, pos := "ref.go:278", after := #[{ on := 12, ground := Ground.data }, { on := 13, ground := Ground.data }, { on := 11, ground := Ground.guard }], guard := some (11, false) }) (v := ?_) rfl (by kernel_rfl) (by kernel_rfl) (by kernel_rfl) (fun _ _ _ h => h) (Or.inl ⟨by rfl, ?_⟩) (by assumption) ?_
              rotate_left
              · intro w hSw
                try dsimp only at hSw
                go_simp
                try with_reducible rfl
              try simp only [Act.put, List.setIfInBounds_toArray, List.set_cons_zero, List.set_cons_succ]
              refine wpAnyH_take (i := 15) (oi := { dst := some 32, op := Op.fieldAddr 71 (Operand.tmp 31) 1, type := 0, pos := "ref.go:278", after := #[{ on := 14, ground := Ground.data }, { on := 11, ground := Ground.guard }], guard := some (11, false) }) (v := ?_) rfl (by kernel_rfl) (by kernel_rfl) (by kernel_rfl) (fun _ _ _ h => h) (Or.inl ⟨by rfl, ?_⟩) (by assumption) ?_
              rotate_left
              · intro w hSw
                try dsimp only at hSw
                go_simp
                try with_reducible rfl
              try simp only [Act.put, List.setIfInBounds_toArray, List.set_cons_zero, List.set_cons_succ]
              refine wpAnyH_take (i := 16) (oi := { dst := some 33, op := Op.load 59 (Operand.tmp 32), type := 59, pos := "ref.go:278", after := #[{ on := 15, ground := Ground.data }, { on := 11, ground := Ground.guard }], guard := some (11, false) }) (v := ?_) rfl (by kernel_rfl) (by kernel_rfl) (by kernel_rfl) (fun _ _ _ h => h) (Or.inl ⟨by rfl, ?_⟩) (by assumption) ?_
              rotate_left
              · intro w hSw
                try dsimp only at hSw
                go_simp
                try with_reducible rfl
              try simp only [Act.put, List.setIfInBounds_toArray, List.set_cons_zero, List.set_cons_succ]
              refine wpAnyH_take (i := 17) (oi := { dst := some 34, op := Op.move (Operand.tmp 1), type := 46, pos := "ref.go:278", after := #[{ on := 11, ground := Ground.guard }], guard := some (11, false) }) (v := ?_) rfl (by kernel_rfl) (by kernel_rfl) (by kernel_rfl) (fun _ _ _ h => h) (Or.inl ⟨by rfl, ?_⟩) (by assumption) ?_
              rotate_left
              · intro w hSw
                try dsimp only at hSw
                go_simp
                try with_reducible rfl
              try simp only [Act.put, List.setIfInBounds_toArray, List.set_cons_zero, List.set_cons_succ]
              refine wpAnyH_take (i := 18) (oi := { dst := some 35, op := Op.move (Operand.tmp 5), type := 3, pos := "ref.go:278", after := #[{ on := 11, ground := Ground.guard }], guard := some (11, false) }) (v := ?_) rfl (by kernel_rfl) (by kernel_rfl) (by kernel_rfl) (fun _ _ _ h => h) (Or.inl ⟨by rfl, ?_⟩) (by assumption) ?_
              rotate_left
              · intro w hSw
                try dsimp only at hSw
                go_simp
                try with_reducible rfl
              try simp only [Act.put, List.setIfInBounds_toArray, List.set_cons_zero, List.set_cons_succ]
              refine wpAnyH_take (i := 19) (oi := { dst := some 36, op := Op.indexAddr 46 (Operand.tmp 34) (Operand.tmp 35), type := 0, pos := "ref.go:278", after := #[{ on := 17, ground := Ground.data }, { on := 18, ground := Ground.data }, { on := 11, ground := Ground.guard }], guard := some (11, false) }) (v := ?_) rfl (by kernel_rfl) (by kernel_rfl) (by kernel_rfl) (fun _ _ _ h => h) (Or.inl ⟨by rfl, ?_⟩) (by assumption) ?_
              rotate_left
              · intro w hSw
                try dsimp only at hSw
                go_simp
                try with_reducible rfl
              try simp only [Act.put, List.setIfInBounds_toArray, List.set_cons_zero, List.set_cons_succ]
              refine wpAnyH_take (i := 20) (oi := { dst := some 37, op := Op.fieldAddr 71 (Operand.tmp 36) 1, type := 0, pos := "ref.go:278", after := #[{ on := 19, ground := Ground.data }, { on := 11, ground := Ground.guard }], guard := some (11, false) }) (v := ?_) rfl (by kernel_rfl) (by kernel_rfl) (by kernel_rfl) (fun _ _ _ h => h) (Or.inl ⟨by rfl, ?_⟩) (by assumption) ?_
              rotate_left
              · intro w hSw
                try dsimp only at hSw
                go_simp
                try with_reducible rfl
              try simp only [Act.put, List.setIfInBounds_toArray, List.set_cons_zero, List.set_cons_succ]
              refine wpAnyH_take (i := 21) (oi := { dst := some 38, op := Op.load 59 (Operand.tmp 37), type := 59, pos := "ref.go:278", after := #[{ on := 20, ground := Ground.data }, { on := 11, ground := Ground.guard }], guard := some (11, false) }) (v := ?_) rfl (by kernel_rfl) (by kernel_rfl) (by kernel_rfl) (fun _ _ _ h => h) (Or.inl ⟨by rfl, ?_⟩) (by assumption) ?_
              rotate_left
              · intro w hSw
                try dsimp only at hSw
                go_simp
                try with_reducible rfl
              try simp only [Act.put, List.setIfInBounds_toArray, List.set_cons_zero, List.set_cons_succ]
              refine wpAnyH_take (i := 22) (oi := { dst := some 39, op := Op.binOp BinOp.neq 59 (Operand.tmp 33) (Operand.tmp 38) 59, type := 4, pos := "ref.go:278", after := #[{ on := 16, ground := Ground.data }, { on := 21, ground := Ground.data }, { on := 11, ground := Ground.guard }], guard := some (11, false) }) (v := ?_) rfl (by kernel_rfl) (by kernel_rfl) (by kernel_rfl) (fun _ _ _ h => h) (Or.inl ⟨by rfl, ?_⟩) (by assumption) ?_
              rotate_left
              · intro w hSw
                try dsimp only at hSw
                go_simp
                try with_reducible rfl
              try simp only [Act.put, List.setIfInBounds_toArray, List.set_cons_zero, List.set_cons_succ]
              refine wpAnyH_take (i := 23) (oi := { dst := some 40, op := Op.pick (Operand.tmp 28) (Operand.const (Value.bool true)) (Operand.tmp 39), type := 4, pos := "ref.go:278", after := #[{ on := 11, ground := Ground.data }, { on := 22, ground := Ground.data }], guard := none }) (v := ?_) rfl (by kernel_rfl) (by kernel_rfl) (by kernel_rfl) (fun _ _ _ h => h) (Or.inl ⟨by rfl, ?_⟩) (by assumption) ?_
              rotate_left
              · intro w hSw
                try dsimp only at hSw
                go_simp
                try with_reducible rfl
              try simp only [Act.put, List.setIfInBounds_toArray, List.set_cons_zero, List.set_cons_succ]
              refine wpAnyH_take (i := 24) (oi := { dst := some 41, op := Op.move (Operand.tmp 40), type := 4, pos := "ref.go:278", after := #[{ on := 23, ground := Ground.data }, { on := 11, ground := Ground.chain }], guard := none }) (v := ?_) rfl (by kernel_rfl) (by kernel_rfl) (by kernel_rfl) (fun _ _ _ h => h) (Or.inl ⟨by rfl, ?_⟩) (by assumption) ?_
              rotate_left
              · intro w hSw
                try dsimp only at hSw
                go_simp
                try with_reducible rfl
              try simp only [Act.put, List.setIfInBounds_toArray, List.set_cons_zero, List.set_cons_succ]
              refine wpAnyH_take (i := 25) (oi := { dst := some 42, op := Op.move (Operand.tmp 0), type := 46, pos := "ref.go:278", after := #[{ on := 24, ground := Ground.guard }], guard := some (24, false) }) (v := ?_) rfl (by kernel_rfl) (by kernel_rfl) (by kernel_rfl) (fun _ _ _ h => h) (Or.inl ⟨by rfl, ?_⟩) (by assumption) ?_
              rotate_left
              · intro w hSw
                try dsimp only at hSw
                go_simp
                try with_reducible rfl
              try simp only [Act.put, List.setIfInBounds_toArray, List.set_cons_zero, List.set_cons_succ]
              refine wpAnyH_take (i := 26) (oi := { dst := some 43, op := Op.move (Operand.tmp 5), type := 3, pos := "ref.go:278", after := #[{ on := 24, ground := Ground.guard }], guard := some (24, false) }) (v := ?_) rfl (by kernel_rfl) (by kernel_rfl) (by kernel_rfl) (fun _ _ _ h => h) (Or.inl ⟨by rfl, ?_⟩) (by assumption) ?_
              rotate_left
              · intro w hSw
                try dsimp only at hSw
                go_simp
                try with_reducible rfl
              try simp only [Act.put, List.setIfInBounds_toArray, List.set_cons_zero, List.set_cons_succ]
              refine wpAnyH_take (i := 27) (oi := { dst := some 44, op := Op.indexAddr 46 (Operand.tmp 42) (Operand.tmp 43), type := 0, pos := "ref.go:278", after := #[{ on := 25, ground := Ground.data }, { on := 26, ground := Ground.data }, { on := 24, ground := Ground.guard }], guard := some (24, false) }) (v := ?_) rfl (by kernel_rfl) (by kernel_rfl) (by kernel_rfl) (fun _ _ _ h => h) (Or.inl ⟨by rfl, ?_⟩) (by assumption) ?_
              rotate_left
              · intro w hSw
                try dsimp only at hSw
                go_simp
                try with_reducible rfl
              try simp only [Act.put, List.setIfInBounds_toArray, List.set_cons_zero, List.set_cons_succ]
              refine wpAnyH_take (i := 28) (oi := { dst := some 45, op := Op.fieldAddr 71 (Operand.tmp 44) 2, type := 0, pos := "ref.go:278", after := #[{ on := 27, ground := Ground.data }, { on := 24, ground := Ground.guard }], guard := some (24, false) }) (v := ?_) rfl (by kernel_rfl) (by kernel_rfl) (by kernel_rfl) (fun _ _ _ h => h) (Or.inl ⟨by rfl, ?_⟩) (by assumption) ?_
              rotate_left
              · intro w hSw
                try dsimp only at hSw
                go_simp
                try with_reducible rfl
              try simp only [Act.put, List.setIfInBounds_toArray, List.set_cons_zero, List.set_cons_succ]
              refine wpAnyH_take (i := 29) (oi := { dst := some 46, op := Op.load 42 (Operand.tmp 45), type := 42, pos := "ref.go:278", after := #[{ on := 28, ground := Ground.data }, { on := 24, ground := Ground.guard }], guard := some (24, false) }) (v := ?_) rfl (by kernel_rfl) (by kernel_rfl) (by kernel_rfl) (fun _ _ _ h => h) (Or.inl ⟨by rfl, ?_⟩) (by assumption) ?_
              rotate_left
              · intro w hSw
                try dsimp only at hSw
                go_simp
                try with_reducible rfl
              try simp only [Act.put, List.setIfInBounds_toArray, List.set_cons_zero, List.set_cons_succ]
              refine wpAnyH_take (i := 30) (oi := { dst := some 47, op := Op.move (Operand.tmp 1), type := 46, pos := "ref.go:278", after := #[{ on := 24, ground := Ground.guard }], guard := some (24, false) }) (v := ?_) rfl (by kernel_rfl) (by kernel_rfl) (by kernel_rfl) (fun _ _ _ h => h) (Or.inl ⟨by rfl, ?_⟩) (by assumption) ?_
              rotate_left
              · intro w hSw
                try dsimp only at hSw
                go_simp
                try with_reducible rfl
              try simp only [Act.put, List.setIfInBounds_toArray, List.set_cons_zero, List.set_cons_succ]
              refine wpAnyH_take (i := 31) (oi := { dst := some 48, op := Op.move (Operand.tmp 5), type := 3, pos := "ref.go:278", after := #[{ on := 24, ground := Ground.guard }], guard := some (24, false) }) (v := ?_) rfl (by kernel_rfl) (by kernel_rfl) (by kernel_rfl) (fun _ _ _ h => h) (Or.inl ⟨by rfl, ?_⟩) (by assumption) ?_
              rotate_left
              · intro w hSw
                try dsimp only at hSw
                go_simp
                try with_reducible rfl
              try simp only [Act.put, List.setIfInBounds_toArray, List.set_cons_zero, List.set_cons_succ]
              refine wpAnyH_take (i := 32) (oi := { dst := some 49, op := Op.indexAddr 46 (Operand.tmp 47) (Operand.tmp 48), type := 0, pos := "ref.go:278", after := #[{ on := 30, ground := Ground.data }, { on := 31, ground := Ground.data }, { on := 24, ground := Ground.guard }], guard := some (24, false) }) (v := ?_) rfl (by kernel_rfl) (by kernel_rfl) (by kernel_rfl) (fun _ _ _ h => h) (Or.inl ⟨by rfl, ?_⟩) (by assumption) ?_
              rotate_left
              · intro w hSw
                try dsimp only at hSw
                go_simp
                try with_reducible rfl
              try simp only [Act.put, List.setIfInBounds_toArray, List.set_cons_zero, List.set_cons_succ]
              refine wpAnyH_take (i := 33) (oi := { dst := some 50, op := Op.fieldAddr 71 (Operand.tmp 49) 2, type := 0, pos := "ref.go:278", after := #[{ on := 32, ground := Ground.data }, { on := 24, ground := Ground.guard }], guard := some (24, false) }) (v := ?_) rfl (by kernel_rfl) (by kernel_rfl) (by kernel_rfl) (fun _ _ _ h => h) (Or.inl ⟨by rfl, ?_⟩) (by assumption) ?_
              rotate_left
              · intro w hSw
                try dsimp only at hSw
                go_simp
                try with_reducible rfl
              try simp only [Act.put, List.setIfInBounds_toArray, List.set_cons_zero, List.set_cons_succ]
              refine wpAnyH_take (i := 34) (oi := { dst := some 51, op := Op.load 42 (Operand.tmp 50), type := 42, pos := "ref.go:278", after := #[{ on := 33, ground := Ground.data }, { on := 24, ground := Ground.guard }], guard := some (24, false) }) (v := ?_) rfl (by kernel_rfl) (by kernel_rfl) (by kernel_rfl) (fun _ _ _ h => h) (Or.inl ⟨by rfl, ?_⟩) (by assumption) ?_
              rotate_left
              · intro w hSw
                try dsimp only at hSw
                go_simp
                try with_reducible rfl
              try simp only [Act.put, List.setIfInBounds_toArray, List.set_cons_zero, List.set_cons_succ]
              refine wpAnyH_ready (rs := [35]) (by kernel_rfl) (by simp) ?_
              refine AllReadyH.cons (o := { dst := some 52, op := Op.call { callee := Callee.value (Operand.func 40), args := #[Operand.tmp 46, Operand.tmp 51], argTypes := #[42, 42] }, type := 4, pos := "ref.go:278", after := #[{ on := 29, ground := Ground.data }, { on := 34, ground := Ground.data }, { on := 24, ground := Ground.chain }, { on := 24, ground := Ground.guard }], guard := some (24, false) }) rfl (fun K hK => ?_) ?_
              rotate_left
              · exact AllReadyH.nil
              go_simp
              go_at_call 40
              refine (prsame_any _ _ s.prs t.prs _ HFS.out HFT.out (HPS.out.later (by repeat (first | with_reducible exact Below.refl _ _ | with_reducible refine Below.drew ?_))) (HPT.out.later (by repeat (first | with_reducible exact Below.refl _ _ | with_reducible refine Below.drew ?_)))).mono ?_
              rintro e w2 ⟨rfl, h5⟩
              rw [HE.out]
              have HX : Hid (Below wr.heap.size wr w2) := blThen (by repeat (first | with_reducible exact Below.refl _ _ | with_reducible refine Below.drew ?_)) h5
              have HB2 : Hid (Below w.heap.size w w2) := blThen HBW.out HX.out
              clear h5
              refine hK.out _ _ (K3.out _ HX.out) (fun hHeld => ?_)
              clear hK K
              try simp only [Act.put, List.setIfInBounds_toArray, List.set_cons_zero, List.set_cons_succ]
              refine wpAnyH_take (i := 36) (oi := { dst := some 53, op := Op.unOp UnOp.not 4 (Operand.tmp 52), type := 4, pos := "ref.go:278", after := #[{ on := 35, ground := Ground.data }, { on := 24, ground := Ground.guard }], guard := some (24, false) }) (v := ?_) rfl (by kernel_rfl) (by kernel_rfl) (by kernel_rfl) (fun _ _ _ h => h) (Or.inl ⟨by rfl, ?_⟩) (by assumption) ?_
              rotate_left
              · intro w hSw
                try dsimp only at hSw
                go_simp
                try with_reducible rfl
              try simp only [Act.put, List.setIfInBounds_toArray, List.set_cons_zero, List.set_cons_succ]
              refine wpAnyH_take (i := 37) (oi := { dst := some 54, op := Op.pick (Operand.tmp 41) (Operand.const (Value.bool true)) (Operand.tmp 53), type := 4, pos := "ref.go:278", after := #[{ on := 24, ground := Ground.data }, { on := 36, ground := Ground.data }], guard := none }) (v := ?_) rfl (by kernel_rfl) (by kernel_rfl) (by kernel_rfl) (fun _ _ _ h => h) (Or.inl ⟨by rfl, ?_⟩) (by assumption) ?_
              rotate_left
              · intro w hSw
                try dsimp only at hSw
                go_simp
                try with_reducible rfl
              try simp only [Act.put, List.setIfInBounds_toArray, List.set_cons_zero, List.set_cons_succ]
              refine wpAnyH_done (by kernel_rfl) ?_ _
              go_wp2
              go_ret
              exact ⟨ret_bool (HF.out.symm.trans HV.out), HB2.out⟩
            · have HE := Lib.hid e2
              have HEQ : Hid (s.ans = t.ans) := by
                have h0 : s.yes = t.yes := by simpa using e0
                have h1 : s.num = t.num := by simpa using n1
                have h2 : s.prs = t.prs := of_decide_eq_true e2
                show (s.yes, s.num, s.prs) = (t.yes, t.num, t.prs)
                rw [h0, h1, h2]
              go_wp2_with fail
              refine wp_region_held_drew (S := fun Y => Y.cell? ⟨g, o + q * 3, none⟩ = some (.bool s.yes) ∧ Y.cell? ⟨g, o + q * 3 + 1, none⟩ = some (.int .u64 (s.num : Int)) ∧ Y.cell? ⟨g, o + q * 3 + 2, none⟩ = some (.slice s.at_ s.prs.length s.cap) ∧ Y.cell? ⟨g', o' + q * 3, none⟩ = some (.bool t.yes) ∧ Y.cell? ⟨g', o' + q * 3 + 1, none⟩ = some (.int .u64 (t.num : Int)) ∧ Y.cell? ⟨g', o' + q * 3 + 2, none⟩ = some (.slice t.at_ t.prs.length t.cap)) (by kernel_rfl) (K3.out _ (Below.refl wr.heap.size wr).drew) (fun hHeld => ?_)
              refine wpAnyH_take (i := 0) (oi := { dst := some 17, op := Op.move (Operand.tmp 0), type := 46, pos := "ref.go:278", after := #[], guard := none }) (v := ?_) rfl (by kernel_rfl) (by kernel_rfl) (by kernel_rfl) (fun _ _ _ h => h) (Or.inl ⟨by rfl, ?_⟩) (by assumption) ?_
              rotate_left
              · intro w hSw
                try dsimp only at hSw
                go_simp
                try with_reducible rfl
              try simp only [Act.put, List.setIfInBounds_toArray, List.set_cons_zero, List.set_cons_succ]
              refine wpAnyH_take (i := 1) (oi := { dst := some 18, op := Op.move (Operand.tmp 5), type := 3, pos := "ref.go:278", after := #[], guard := none }) (v := ?_) rfl (by kernel_rfl) (by kernel_rfl) (by kernel_rfl) (fun _ _ _ h => h) (Or.inl ⟨by rfl, ?_⟩) (by assumption) ?_
              rotate_left
              · intro w hSw
                try dsimp only at hSw
                go_simp
                try with_reducible rfl
              try simp only [Act.put, List.setIfInBounds_toArray, List.set_cons_zero, List.set_cons_succ]
              refine wpAnyH_take (i := 2) (oi := { dst := some 19, op := Op.indexAddr 46 (Operand.tmp 17) (Operand.tmp 18), type := 0, pos := "ref.go:278", after := #[{ on := 0, ground := Ground.data }, { on := 1, ground := Ground.data }], guard := none }) (v := ?_) rfl (by kernel_rfl) (by kernel_rfl) (by kernel_rfl) (fun _ _ _ h => h) (Or.inl ⟨by rfl, ?_⟩) (by assumption) ?_
              rotate_left
              · intro w hSw
                try dsimp only at hSw
                go_simp
                try with_reducible rfl
              try simp only [Act.put, List.setIfInBounds_toArray, List.set_cons_zero, List.set_cons_succ]
              refine wpAnyH_take (i := 3) (oi := { dst := some 20, op := Op.fieldAddr 71 (Operand.tmp 19) 0, type := 0, pos := "ref.go:278", after := #[{ on := 2, ground := Ground.data }], guard := none }) (v := ?_) rfl (by kernel_rfl) (by kernel_rfl) (by kernel_rfl) (fun _ _ _ h => h) (Or.inl ⟨by rfl, ?_⟩) (by assumption) ?_
              rotate_left
              · intro w hSw
                try dsimp only at hSw
                go_simp
                try with_reducible rfl
              try simp only [Act.put, List.setIfInBounds_toArray, List.set_cons_zero, List.set_cons_succ]
              refine wpAnyH_take (i := 4) (oi := { dst := some 21, op := Op.load 4 (Operand.tmp 20), type := 4, pos := "ref.go:278", after := #[{ on := 3, ground := Ground.data }], guard := none }) (v := ?_) rfl (by kernel_rfl) (by kernel_rfl) (by kernel_rfl) (fun _ _ _ h => h) (Or.inl ⟨by rfl, ?_⟩) (by assumption) ?_
              rotate_left
              · intro w hSw
                try dsimp only at hSw
                go_simp
                try with_reducible rfl
              try simp only [Act.put, List.setIfInBounds_toArray, List.set_cons_zero, List.set_cons_succ]
              refine wpAnyH_take (i := 5) (oi := { dst := some 22, op := Op.move (Operand.tmp 1), type := 46, pos := "ref.go:278", after := #[], guard := none }) (v := ?_) rfl (by kernel_rfl) (by kernel_rfl) (by kernel_rfl) (fun _ _ _ h => h) (Or.inl ⟨by rfl, ?_⟩) (by assumption) ?_
              rotate_left
              · intro w hSw
                try dsimp only at hSw
                go_simp
                try with_reducible rfl
              try simp only [Act.put, List.setIfInBounds_toArray, List.set_cons_zero, List.set_cons_succ]
              refine wpAnyH_take (i := 6) (oi := { dst := some 23, op := Op.move (Operand.tmp 5), type := 3, pos := "ref.go:278", after := #[], guard := none }) (v := ?_) rfl (by kernel_rfl) (by kernel_rfl) (by kernel_rfl) (fun _ _ _ h => h) (Or.inl ⟨by rfl, ?_⟩) (by assumption) ?_
              rotate_left
              · intro w hSw
                try dsimp only at hSw
                go_simp
                try with_reducible rfl
              try simp only [Act.put, List.setIfInBounds_toArray, List.set_cons_zero, List.set_cons_succ]
              refine wpAnyH_take (i := 7) (oi := { dst := some 24, op := Op.indexAddr 46 (Operand.tmp 22) (Operand.tmp 23), type := 0, pos := "ref.go:278", after := #[{ on := 5, ground := Ground.data }, { on := 6, ground := Ground.data }], guard := none }) (v := ?_) rfl (by kernel_rfl) (by kernel_rfl) (by kernel_rfl) (fun _ _ _ h => h) (Or.inl ⟨by rfl, ?_⟩) (by assumption) ?_
              rotate_left
              · intro w hSw
                try dsimp only at hSw
                go_simp
                try with_reducible rfl
              try simp only [Act.put, List.setIfInBounds_toArray, List.set_cons_zero, List.set_cons_succ]
              refine wpAnyH_take (i := 8) (oi := { dst := some 25, op := Op.fieldAddr 71 (Operand.tmp 24) 0, type := 0, pos := "ref.go:278", after := #[{ on := 7, ground := Ground.data }], guard := none }) (v := ?_) rfl (by kernel_rfl) (by kernel_rfl) (by kernel_rfl) (fun _ _ _ h => h) (Or.inl ⟨by rfl, ?_⟩) (by assumption) ?_
              rotate_left
              · intro w hSw
                try dsimp only at hSw
                go_simp
                try with_reducible rfl
              try simp only [Act.put, List.setIfInBounds_toArray, List.set_cons_zero, List.set_cons_succ]
              refine wpAnyH_take (i := 9) (oi := { dst := some 26, op := Op.load 4 (Operand.tmp 25), type := 4, pos := "ref.go:278", after := #[{ on := 8, ground := Ground.data }], guard := none }) (v := ?_) rfl (by kernel_rfl) (by kernel_rfl) (by kernel_rfl) (fun _ _ _ h => h) (Or.inl ⟨by rfl, ?_⟩) (by assumption) ?_
              rotate_left
              · intro w hSw
                try dsimp only at hSw
                go_simp
                try with_reducible rfl
              try simp only [Act.put, List.setIfInBounds_toArray, List.set_cons_zero, List.set_cons_succ]
              refine wpAnyH_take (i := 10) (oi := { dst := some 27, op := Op.binOp BinOp.neq 4 (Operand.tmp 21) (Operand.tmp 26) 4, type := 4, pos := "ref.go:278", after := #[{ on := 4, ground := Ground.data }, { on := 9, ground := Ground.data }], guard := none }) (v := ?_) rfl (by kernel_rfl) (by kernel_rfl) (by kernel_rfl) (fun _ _ _ h => h) (Or.inl ⟨by rfl, ?_⟩) (by assumption) ?_
              rotate_left
              · intro w hSw
                try dsimp only at hSw
                go_simp
                try with_reducible rfl
              try simp only [Act.put, List.setIfInBounds_toArray, List.set_cons_zero, List.set_cons_succ]
              refine wpAnyH_take (i := 11) (oi := { dst := some 28, op := Op.move (Operand.tmp 27), type := 4, pos := "ref.go:278", after := #[{ on := 10, ground := Ground.data }], guard := none }) (v := ?_) rfl (by kernel_rfl) (by kernel_rfl) (by kernel_rfl) (fun _ _ _ h => h) (Or.inl ⟨by rfl, ?_⟩) (by assumption) ?_
              rotate_left
              · intro w hSw
                try dsimp only at hSw
                go_simp
                try with_reducible rfl
              try simp only [Act.put, List.setIfInBounds_toArray, List.set_cons_zero, List.set_cons_succ]
              refine wpAnyH_take (i := 12) (oi := { dst := some 29, op := Op.move (Operand.tmp 0), type := 46, pos := "ref.go:278", after := #[{ on := 11, ground := Ground.guard }], guard := some (11, false) }) (v := ?_) rfl (by kernel_rfl) (by kernel_rfl) (by kernel_rfl) (fun _ _ _ h => h) (Or.inl ⟨by rfl, ?_⟩) (by assumption) ?_
              rotate_left
              · intro w hSw
                try dsimp only at hSw
                go_simp
                try with_reducible rfl
              try simp only [Act.put, List.setIfInBounds_toArray, List.set_cons_zero, List.set_cons_succ]
              refine wpAnyH_take (i := 13) (oi := { dst := some 30, op := Op.move (Operand.tmp 5), type := 3, pos := "ref.go:278", after := #[{ on := 11, ground := Ground.guard }], guard := some (11, false) }) (v := ?_) rfl (by kernel_rfl) (by kernel_rfl) (by kernel_rfl) (fun _ _ _ h => h) (Or.inl ⟨by rfl, ?_⟩) (by assumption) ?_
              rotate_left
              · intro w hSw
                try dsimp only at hSw
                go_simp
                try with_reducible rfl
              try simp only [Act.put, List.setIfInBounds_toArray, List.set_cons_zero, List.set_cons_succ]
              refine wpAnyH_take (i := 14) (oi := { dst := some 31, op := Op.indexAddr 46 (Operand.tmp 29) (Operand.tmp 30), type := 0, pos := "ref.go:278", after := #[{ on := 12, ground := Ground.data }, { on := 13, ground := Ground.data }, { on := 11, ground := Ground.guard }], guard := some (11, false) }) (v := ?_) rfl (by kernel_rfl) (by kernel_rfl) (by kernel_rfl) (fun _ _ _ h => h) (Or.inl ⟨by rfl, ?_⟩) (by assumption) ?_
              rotate_left
              · intro w hSw
                try dsimp only at hSw
                go_simp
                try with_reducible rfl
              try simp only [Act.put, List.setIfInBounds_toArray, List.set_cons_zero, List.set_cons_succ]
              refine wpAnyH_take (i := 15) (oi := { dst := some 32, op := Op.fieldAddr 71 (Operand.tmp 31) 1, type := 0, pos := "ref.go:278", after := #[{ on := 14, ground := Ground.data }, { on := 11, ground := Ground.guard }], guard := some (11, false) }) (v := ?_) rfl (by kernel_rfl) (by kernel_rfl) (by kernel_rfl) (fun _ _ _ h => h) (Or.inl ⟨by rfl, ?_⟩) (by assumption) ?_
              rotate_left
              · intro w hSw
                try dsimp only at hSw
                go_simp
                try with_reducible rfl
              try simp only [Act.put, List.setIfInBounds_toArray, List.set_cons_zero, List.set_cons_succ]
              refine wpAnyH_take (i := 16) (oi := { dst := some 33, op := Op.load 59 (Operand.tmp 32), type := 59, pos := "ref.go:278", after := #[{ on := 15, ground := Ground.data }, { on := 11, ground := Ground.guard }], guard := some (11, false) }) (v := ?_) rfl (by kernel_rfl) (by kernel_rfl) (by kernel_rfl) (fun _ _ _ h => h) (Or.inl ⟨by rfl, ?_⟩) (by assumption) ?_
              rotate_left
              · intro w hSw
                try dsimp only at hSw
                go_simp
                try with_reducible rfl
              try simp only [Act.put, List.setIfInBounds_toArray, List.set_cons_zero, List.set_cons_succ]
              refine wpAnyH_take (i := 17) (oi := { dst := some 34, op := Op.move (Operand.tmp 1), type := 46, pos := "ref.go:278", after := #[{ on := 11, ground := Ground.guard }], guard := some (11, false) }) (v := ?_) rfl (by kernel_rfl) (by kernel_rfl) (by kernel_rfl) (fun _ _ _ h => h) (Or.inl ⟨by rfl, ?_⟩) (by assumption) ?_
              rotate_left
              · intro w hSw
                try dsimp only at hSw
                go_simp
                try with_reducible rfl
              try simp only [Act.put, List.setIfInBounds_toArray, List.set_cons_zero, List.set_cons_succ]
              refine wpAnyH_take (i := 18) (oi := { dst := some 35, op := Op.move (Operand.tmp 5), type := 3, pos := "ref.go:278", after := #[{ on := 11, ground := Ground.guard }], guard := some (11, false) }) (v := ?_) rfl (by kernel_rfl) (by kernel_rfl) (by kernel_rfl) (fun _ _ _ h => h) (Or.inl ⟨by rfl, ?_⟩) (by assumption) ?_
              rotate_left
              · intro w hSw
                try dsimp only at hSw
                go_simp
                try with_reducible rfl
              try simp only [Act.put, List.setIfInBounds_toArray, List.set_cons_zero, List.set_cons_succ]
              refine wpAnyH_take (i := 19) (oi := { dst := some 36, op := Op.indexAddr 46 (Operand.tmp 34) (Operand.tmp 35), type := 0, pos := "ref.go:278", after := #[{ on := 17, ground := Ground.data }, { on := 18, ground := Ground.data }, { on := 11, ground := Ground.guard }], guard := some (11, false) }) (v := ?_) rfl (by kernel_rfl) (by kernel_rfl) (by kernel_rfl) (fun _ _ _ h => h) (Or.inl ⟨by rfl, ?_⟩) (by assumption) ?_
              rotate_left
              · intro w hSw
                try dsimp only at hSw
                go_simp
                try with_reducible rfl
              try simp only [Act.put, List.setIfInBounds_toArray, List.set_cons_zero, List.set_cons_succ]
              refine wpAnyH_take (i := 20) (oi := { dst := some 37, op := Op.fieldAddr 71 (Operand.tmp 36) 1, type := 0, pos := "ref.go:278", after := #[{ on := 19, ground := Ground.data }, { on := 11, ground := Ground.guard }], guard := some (11, false) }) (v := ?_) rfl (by kernel_rfl) (by kernel_rfl) (by kernel_rfl) (fun _ _ _ h => h) (Or.inl ⟨by rfl, ?_⟩) (by assumption) ?_
              rotate_left
              · intro w hSw
                try dsimp only at hSw
                go_simp
                try with_reducible rfl
              try simp only [Act.put, List.setIfInBounds_toArray, List.set_cons_zero, List.set_cons_succ]
              refine wpAnyH_take (i := 21) (oi := { dst := some 38, op := Op.load 59 (Operand.tmp 37), type := 59, pos := "ref.go:278", after := #[{ on := 20, ground := Ground.data }, { on := 11, ground := Ground.guard }], guard := some (11, false) }) (v := ?_) rfl (by kernel_rfl) (by kernel_rfl) (by kernel_rfl) (fun _ _ _ h => h) (Or.inl ⟨by rfl, ?_⟩) (by assumption) ?_
              rotate_left
              · intro w hSw
                try dsimp only at hSw
                go_simp
                try with_reducible rfl
              try simp only [Act.put, List.setIfInBounds_toArray, List.set_cons_zero, List.set_cons_succ]
              refine wpAnyH_take (i := 22) (oi := { dst := some 39, op := Op.binOp BinOp.neq 59 (Operand.tmp 33) (Operand.tmp 38) 59, type := 4, pos := "ref.go:278", after := #[{ on := 16, ground := Ground.data }, { on := 21, ground := Ground.data }, { on := 11, ground := Ground.guard }], guard := some (11, false) }) (v := ?_) rfl (by kernel_rfl) (by kernel_rfl) (by kernel_rfl) (fun _ _ _ h => h) (Or.inl ⟨by rfl, ?_⟩) (by assumption) ?_
              rotate_left
              · intro w hSw
                try dsimp only at hSw
                go_simp
                try with_reducible rfl
              try simp only [Act.put, List.setIfInBounds_toArray, List.set_cons_zero, List.set_cons_succ]
              refine wpAnyH_take (i := 23) (oi := { dst := some 40, op := Op.pick (Operand.tmp 28) (Operand.const (Value.bool true)) (Operand.tmp 39), type := 4, pos := "ref.go:278", after := #[{ on := 11, ground := Ground.data }, { on := 22, ground := Ground.data }], guard := none }) (v := ?_) rfl (by kernel_rfl) (by kernel_rfl) (by kernel_rfl) (fun _ _ _ h => h) (Or.inl ⟨by rfl, ?_⟩) (by assumption) ?_
              rotate_left
              · intro w hSw
                try dsimp only at hSw
                go_simp
                try with_reducible rfl
              try simp only [Act.put, List.setIfInBounds_toArray, List.set_cons_zero, List.set_cons_succ]
              refine wpAnyH_take (i := 24) (oi := { dst := some 41, op := Op.move (Operand.tmp 40), type := 4, pos := "ref.go:278", after := #[{ on := 23, ground := Ground.data }, { on := 11, ground := Ground.chain }], guard := none }) (v := ?_) rfl (by kernel_rfl) (by kernel_rfl) (by kernel_rfl) (fun _ _ _ h => h) (Or.inl ⟨by rfl, ?_⟩) (by assumption) ?_
              rotate_left
              · intro w hSw
                try dsimp only at hSw
                go_simp
                try with_reducible rfl
              try simp only [Act.put, List.setIfInBounds_toArray, List.set_cons_zero, List.set_cons_succ]
              refine wpAnyH_take (i := 25) (oi := { dst := some 42, op := Op.move (Operand.tmp 0), type := 46, pos := "ref.go:278", after := #[{ on := 24, ground := Ground.guard }], guard := some (24, false) }) (v := ?_) rfl (by kernel_rfl) (by kernel_rfl) (by kernel_rfl) (fun _ _ _ h => h) (Or.inl ⟨by rfl, ?_⟩) (by assumption) ?_
              rotate_left
              · intro w hSw
                try dsimp only at hSw
                go_simp
                try with_reducible rfl
              try simp only [Act.put, List.setIfInBounds_toArray, List.set_cons_zero, List.set_cons_succ]
              refine wpAnyH_take (i := 26) (oi := { dst := some 43, op := Op.move (Operand.tmp 5), type := 3, pos := "ref.go:278", after := #[{ on := 24, ground := Ground.guard }], guard := some (24, false) }) (v := ?_) rfl (by kernel_rfl) (by kernel_rfl) (by kernel_rfl) (fun _ _ _ h => h) (Or.inl ⟨by rfl, ?_⟩) (by assumption) ?_
              rotate_left
              · intro w hSw
                try dsimp only at hSw
                go_simp
                try with_reducible rfl
              try simp only [Act.put, List.setIfInBounds_toArray, List.set_cons_zero, List.set_cons_succ]
              refine wpAnyH_take (i := 27) (oi := { dst := some 44, op := Op.indexAddr 46 (Operand.tmp 42) (Operand.tmp 43), type := 0, pos := "ref.go:278", after := #[{ on := 25, ground := Ground.data }, { on := 26, ground := Ground.data }, { on := 24, ground := Ground.guard }], guard := some (24, false) }) (v := ?_) rfl (by kernel_rfl) (by kernel_rfl) (by kernel_rfl) (fun _ _ _ h => h) (Or.inl ⟨by rfl, ?_⟩) (by assumption) ?_
              rotate_left
              · intro w hSw
                try dsimp only at hSw
                go_simp
                try with_reducible rfl
              try simp only [Act.put, List.setIfInBounds_toArray, List.set_cons_zero, List.set_cons_succ]
              refine wpAnyH_take (i := 28) (oi := { dst := some 45, op := Op.fieldAddr 71 (Operand.tmp 44) 2, type := 0, pos := "ref.go:278", after := #[{ on := 27, ground := Ground.data }, { on := 24, ground := Ground.guard }], guard := some (24, false) }) (v := ?_) rfl (by kernel_rfl) (by kernel_rfl) (by kernel_rfl) (fun _ _ _ h => h) (Or.inl ⟨by rfl, ?_⟩) (by assumption) ?_
              rotate_left
              · intro w hSw
                try dsimp only at hSw
                go_simp
                try with_reducible rfl
              try simp only [Act.put, List.setIfInBounds_toArray, List.set_cons_zero, List.set_cons_succ]
              refine wpAnyH_take (i := 29) (oi := { dst := some 46, op := Op.load 42 (Operand.tmp 45), type := 42, pos := "ref.go:278", after := #[{ on := 28, ground := Ground.data }, { on := 24, ground := Ground.guard }], guard := some (24, false) }) (v := ?_) rfl (by kernel_rfl) (by kernel_rfl) (by kernel_rfl) (fun _ _ _ h => h) (Or.inl ⟨by rfl, ?_⟩) (by assumption) ?_
              rotate_left
              · intro w hSw
                try dsimp only at hSw
                go_simp
                try with_reducible rfl
              try simp only [Act.put, List.setIfInBounds_toArray, List.set_cons_zero, List.set_cons_succ]
              refine wpAnyH_take (i := 30) (oi := { dst := some 47, op := Op.move (Operand.tmp 1), type := 46, pos := "ref.go:278", after := #[{ on := 24, ground := Ground.guard }], guard := some (24, false) }) (v := ?_) rfl (by kernel_rfl) (by kernel_rfl) (by kernel_rfl) (fun _ _ _ h => h) (Or.inl ⟨by rfl, ?_⟩) (by assumption) ?_
              rotate_left
              · intro w hSw
                try dsimp only at hSw
                go_simp
                try with_reducible rfl
              try simp only [Act.put, List.setIfInBounds_toArray, List.set_cons_zero, List.set_cons_succ]
              refine wpAnyH_take (i := 31) (oi := { dst := some 48, op := Op.move (Operand.tmp 5), type := 3, pos := "ref.go:278", after := #[{ on := 24, ground := Ground.guard }], guard := some (24, false) }) (v := ?_) rfl (by kernel_rfl) (by kernel_rfl) (by kernel_rfl) (fun _ _ _ h => h) (Or.inl ⟨by rfl, ?_⟩) (by assumption) ?_
              rotate_left
              · intro w hSw
                try dsimp only at hSw
                go_simp
                try with_reducible rfl
              try simp only [Act.put, List.setIfInBounds_toArray, List.set_cons_zero, List.set_cons_succ]
              refine wpAnyH_take (i := 32) (oi := { dst := some 49, op := Op.indexAddr 46 (Operand.tmp 47) (Operand.tmp 48), type := 0, pos := "ref.go:278", after := #[{ on := 30, ground := Ground.data }, { on := 31, ground := Ground.data }, { on := 24, ground := Ground.guard }], guard := some (24, false) }) (v := ?_) rfl (by kernel_rfl) (by kernel_rfl) (by kernel_rfl) (fun _ _ _ h => h) (Or.inl ⟨by rfl, ?_⟩) (by assumption) ?_
              rotate_left
              · intro w hSw
                try dsimp only at hSw
                go_simp
                try with_reducible rfl
              try simp only [Act.put, List.setIfInBounds_toArray, List.set_cons_zero, List.set_cons_succ]
              refine wpAnyH_take (i := 33) (oi := { dst := some 50, op := Op.fieldAddr 71 (Operand.tmp 49) 2, type := 0, pos := "ref.go:278", after := #[{ on := 32, ground := Ground.data }, { on := 24, ground := Ground.guard }], guard := some (24, false) }) (v := ?_) rfl (by kernel_rfl) (by kernel_rfl) (by kernel_rfl) (fun _ _ _ h => h) (Or.inl ⟨by rfl, ?_⟩) (by assumption) ?_
              rotate_left
              · intro w hSw
                try dsimp only at hSw
                go_simp
                try with_reducible rfl
              try simp only [Act.put, List.setIfInBounds_toArray, List.set_cons_zero, List.set_cons_succ]
              refine wpAnyH_take (i := 34) (oi := { dst := some 51, op := Op.load 42 (Operand.tmp 50), type := 42, pos := "ref.go:278", after := #[{ on := 33, ground := Ground.data }, { on := 24, ground := Ground.guard }], guard := some (24, false) }) (v := ?_) rfl (by kernel_rfl) (by kernel_rfl) (by kernel_rfl) (fun _ _ _ h => h) (Or.inl ⟨by rfl, ?_⟩) (by assumption) ?_
              rotate_left
              · intro w hSw
                try dsimp only at hSw
                go_simp
                try with_reducible rfl
              try simp only [Act.put, List.setIfInBounds_toArray, List.set_cons_zero, List.set_cons_succ]
              refine wpAnyH_ready (rs := [35]) (by kernel_rfl) (by simp) ?_
              refine AllReadyH.cons (o := { dst := some 52, op := Op.call { callee := Callee.value (Operand.func 40), args := #[Operand.tmp 46, Operand.tmp 51], argTypes := #[42, 42] }, type := 4, pos := "ref.go:278", after := #[{ on := 29, ground := Ground.data }, { on := 34, ground := Ground.data }, { on := 24, ground := Ground.chain }, { on := 24, ground := Ground.guard }], guard := some (24, false) }) rfl (fun K hK => ?_) ?_
              rotate_left
              · exact AllReadyH.nil
              go_simp
              go_at_call 40
              refine (prsame_any _ _ s.prs t.prs _ HFS.out HFT.out (HPS.out.later (by repeat (first | with_reducible exact Below.refl _ _ | with_reducible refine Below.drew ?_))) (HPT.out.later (by repeat (first | with_reducible exact Below.refl _ _ | with_reducible refine Below.drew ?_)))).mono ?_
              rintro e w2 ⟨rfl, h5⟩
              rw [HE.out]
              have HX : Hid (Below wr.heap.size wr w2) := blThen (by repeat (first | with_reducible exact Below.refl _ _ | with_reducible refine Below.drew ?_)) h5
              have HB2 : Hid (Below w.heap.size w w2) := blThen HBW.out HX.out
              clear h5
              refine hK.out _ _ (K3.out _ HX.out) (fun hHeld => ?_)
              clear hK K
              try simp only [Act.put, List.setIfInBounds_toArray, List.set_cons_zero, List.set_cons_succ]
              refine wpAnyH_take (i := 36) (oi := { dst := some 53, op := Op.unOp UnOp.not 4 (Operand.tmp 52), type := 4, pos := "ref.go:278", after := #[{ on := 35, ground := Ground.data }, { on := 24, ground := Ground.guard }], guard := some (24, false) }) (v := ?_) rfl (by kernel_rfl) (by kernel_rfl) (by kernel_rfl) (fun _ _ _ h => h) (Or.inl ⟨by rfl, ?_⟩) (by assumption) ?_
              rotate_left
              · intro w hSw
                try dsimp only at hSw
                go_simp
                try with_reducible rfl
              try simp only [Act.put, List.setIfInBounds_toArray, List.set_cons_zero, List.set_cons_succ]
              refine wpAnyH_take (i := 37) (oi := { dst := some 54, op := Op.pick (Operand.tmp 41) (Operand.const (Value.bool true)) (Operand.tmp 53), type := 4, pos := "ref.go:278", after := #[{ on := 24, ground := Ground.data }, { on := 36, ground := Ground.data }], guard := none }) (v := ?_) rfl (by kernel_rfl) (by kernel_rfl) (by kernel_rfl) (fun _ _ _ h => h) (Or.inl ⟨by rfl, ?_⟩) (by assumption) ?_
              rotate_left
              · intro w hSw
                try dsimp only at hSw
                go_simp
                try with_reducible rfl
              try simp only [Act.put, List.setIfInBounds_toArray, List.set_cons_zero, List.set_cons_succ]
              refine wpAnyH_done (by kernel_rfl) ?_ _
              go_wp2
              go_roundw
              case rel => exact ⟨q + 1, hlt, by go_num, map_take AnR.ans HNO.out HS.out HT.out HEQ.out, HB2.out⟩
              case measure => simp [intOf]; omega
      · obtain rfl : q = l.length := by omega
        have HF : Hid (decide (l.map AnR.ans = m.map AnR.ans) = true) := by
          have h := HNO.out
          rw [List.take_length, HLM.out, List.take_length] at h
          exact decide_eq_true h
        clear hno hb
        go_wp2
        go_ret
        exact ⟨ret_bool (HF.out.symm.trans HV.out), HBW.out⟩
  · have HF : Hid (decide (l.map AnR.ans = m.map AnR.ans) = false) := by
      show _ = false
      simp only [decide_eq_false_iff_not]
      intro e
      have := congrArg List.length e
      simp only [List.length_map] at this
      exact hlm this
    have hlmB : ((l.length : Int) == (m.length : Int)) = false := by simp; omega
    have hlmB2 : ((l.length : Int) != (m.length : Int)) = true := by simp; omega
    go_enter Tryz.func39, Tryz.ntmps39
    go_wp2
    go_ret
    exact ⟨ret_bool (HF.out.symm.trans HV.out), Below.refl _ _⟩

/-- Pairs that may be data: keys, nums, by rising key. -/
def aheadB (o : Option ByteArray) (k : ByteArray) : Bool := match o with | none => true | some j => ltT j k
def dataB : Option ByteArray → Al Nat → Bool
  | _, [] => true
  | o, p :: l => keyB p.1 && decide (rtN p.2 = p.2) && aheadB o p.1 && dataB (some p.1) l
theorem dataB_cons (o : Option ByteArray) (p : ByteArray × Nat) (l : Al Nat) : dataB o (p :: l) = (keyB p.1 && decide (rtN p.2 = p.2) && aheadB o p.1 && dataB (some p.1) l) := rfl
theorem dataB_nil (o : Option ByteArray) : dataB o [] = true := rfl
def lastK (l : Al Nat) : Option ByteArray := l.getLast?.map Prod.fst
theorem dataB_snoc : ∀ (l : Al Nat) (o : Option ByteArray) (p : ByteArray × Nat), dataB o (l ++ [p]) = (dataB o l && (keyB p.1 && decide (rtN p.2 = p.2) && aheadB (if l = [] then o else lastK l) p.1))
  | [], o, p => by rw [List.nil_append, dataB_cons, dataB_nil, dataB_nil, if_pos rfl, Bool.and_true, Bool.true_and]
  | q :: l, o, p => by
    rw [List.cons_append, dataB_cons, dataB_snoc l, dataB_cons]
    have e : (if l = [] then some q.1 else lastK l) = (if q :: l = [] then o else lastK (q :: l)) := by
      rw [if_neg (by simp : ¬ q :: l = [])]
      cases l with
      | nil => simp [lastK]
      | cons r l => rw [if_neg (by simp : ¬ r :: l = [])]; simp [lastK]
    rw [e]
    simp only [Bool.and_assoc]
theorem dataB_take {l : Al Nat} {k : Nat} {p : ByteArray × Nat} (hp : l[k]? = some p) (o : Option ByteArray) (h : dataB o l = true) : dataB o (l.take k) = true := by
  induction l generalizing k o with
  | nil => simp at hp
  | cons q l ih =>
    cases k with
    | zero => exact dataB_nil _
    | succ k =>
      rw [List.take_succ_cons, dataB_cons, Bool.and_eq_true]
      rw [dataB_cons, Bool.and_eq_true] at h
      exact ⟨h.1, ih (by simpa using hp) _ h.2⟩
theorem dataB_front {l : Al Nat} (k : Nat) (o : Option ByteArray) (h : dataB o l = true) : dataB o (l.take k) = true := by
  induction l generalizing k o with
  | nil => simpa using h
  | cons q l ih =>
    cases k with
    | zero => exact dataB_nil _
    | succ k =>
      rw [List.take_succ_cons, dataB_cons, Bool.and_eq_true]
      rw [dataB_cons, Bool.and_eq_true] at h
      exact ⟨h.1, ih k _ h.2⟩
theorem dataB_ris : ∀ (l : Al Nat) (o : Option ByteArray), dataB o l = true → RisA l ∧ (∀ k, o = some k → ∀ p ∈ l, ltT k p.1 = true) ∧ (∀ p ∈ l, keyB p.1 = true ∧ rtN p.2 = p.2)
  | [], o, _ => ⟨risA_nil, fun _ _ p h => (by cases h), fun p h => (by cases h)⟩
  | q :: l, o, h => by
    rw [dataB_cons, Bool.and_eq_true, Bool.and_eq_true, Bool.and_eq_true] at h
    obtain ⟨⟨⟨h1, h2⟩, h3⟩, h4⟩ := h
    obtain ⟨i1, i2, i3⟩ := dataB_ris l _ h4
    refine ⟨risA_cons.2 ⟨fun p hp => i2 q.1 rfl p hp, i1⟩, fun k hk p hp => ?_, fun p hp => ?_⟩
    · subst hk
      rcases List.mem_cons.1 hp with rfl | hp
      · exact h3
      · exact lt_trans h3 (i2 q.1 rfl p hp)
    · rcases List.mem_cons.1 hp with rfl | hp
      · exact ⟨h1, of_decide_eq_true h2⟩
      · exact i3 p hp

end SP
end Go.Proofs.YtfdkkgjkhamoeaaGreat
