/- Answers and Data of the reference. Conditions: at most a million elements. -/
import Derived.Lib.AppendZerosOnto
import Derived.WalkSpells
import Derived.Deep.RegionHeld3
import Derived.Deep.QuietTactic
import Derived.Test.YtpdfcojcmhadnaaGreatMg20
import Derived.Test.YtpdfcojcmhadnaaGreatMg10
set_option maxRecDepth 100000
set_option maxHeartbeats 16000000
set_option linter.unusedVariables false
set_option linter.unusedSimpArgs false
namespace Go.Proofs.YtpdfcojcmhadnaaGreat
open S3 SN
namespace SP
open Go.ChangeShapes Go.WideShapes Go.ChangeAt Go.RowKit Go.Joins Go.Deep
theorem rdS_len (o : Opr) : (rdS o).length ≤ 2 := by unfold rdS; split <;> (try split) <;> (try split) <;> simp
theorem wrS_len (o : Opr) : (wrS o).length ≤ 2 := by unfold wrS; split <;> (try split) <;> simp
theorem flat_take (f : Opr → List Sp) {l : List Opr} {k : Nat} {x : Opr} (hx : l[k]? = some x) : (l.take (k + 1)).flatMap f = (l.take k).flatMap f ++ f x := by
 rw [List.take_add_one, hx, List.flatMap_append]
 simp
theorem flat_len (f : Opr → List Sp) (hf : ∀ o, (f o).length ≤ 2) : ∀ l : List Opr, (l.flatMap f).length ≤ 2 * l.length
 | [] => by simp
 | o :: l => by
  rw [List.flatMap_cons, List.length_append, List.length_cons]
  have := hf o
  have := flat_len f hf l
  omega
theorem each_reads (va : Value) (l : List Opr) (w : World) (hlen : l.length ≤ 1000) (hok : ∀ o ∈ l, okB o = true) (h : SlG eO w va l) : Calls Tryz.prog 88 #[va, .func (.func 89) #[] #[]] w (RetO w (uniL (l.flatMap rdS))) := by
 obtain ⟨a, cap, rfl⟩ := h.form
 have HL := Lib.hid h
 have HOK := Lib.hid hok
 clear h hok
 go_enter Tryz.func88, Tryz.ntmps88
 go_wp2_with fail
 go_loopw [5, 10] (fun v i wr => ∃ k : Nat, k ≤ l.length ∧ i = .int .i64 k ∧ OwnL wr w.heap.size v ((l.take k).flatMap rdS) ∧ Below w.heap.size w wr) (fun _ i _ => l.length - (RowKit.intOf i).toNat)
 case atStart => exact ⟨0, Nat.zero_le _, rfl, OwnL.nil _ _, Below.refl _ _⟩
 case round =>
  obtain ⟨k, hk, rfl, ho, hb⟩ := hrel
  have HB := Lib.hid hb
  have HO := Lib.hid ho
  obtain ⟨av, cv, rfl⟩ := ho.form
  have HLL : Hid (((l.take k).flatMap rdS).length ≤ 2000) := by
   have h1 := flat_len rdS rdS_len (l.take k)
   rw [List.length_take] at h1
   show _ ≤ _
   omega
  clear hb ho
  generalize hD : (l.take k).flatMap rdS = D at *
  generalize hN : D.length = N at *
  have HD := Lib.hid hD
  have HN := Lib.hid hN
  clear hD hN
  by_cases hlt : k < l.length
  ·obtain ⟨⟨kd, key, to, n⟩, hx⟩ := at_lt hlt
   have HLr := HL.out.later HB.out
   obtain ⟨g, o, hA, hg, c0, c1, c2, c3⟩ := ops_at HLr hx
   simp only at c0 c1 c2 c3
   have HOX := Lib.hid (HOK.out _ (List.mem_of_getElem? hx))
   have hk1 : (k : Int) < (l.length : Int) := by omega
   have hdk : decide ((k : Int) < (l.length : Int)) = true := decide_eq_true hk1
   have hdn : decide (k < l.length) = true := decide_eq_true hlt
   have HT := Lib.hid (flat_take rdS hx)
   rw [HD.out] at HT
   have HF := Lib.hid (rdS_len (kd, key, to, n))
   clear hx HLr
   subst hA
   generalize hR : rdS (kd, key, to, n) = R at *
   have HB0 : Hid (Below w.heap.size w (wr.alloc (.cells #[.int .i64 kd, .string key, .string to, .int .u64 (n : Int)] 72))) := blAlloc HB.out _
   have HO0 := Lib.hid (HO.out.later (blAlloc (Below.refl wr.heap.size wr) (.cells #[.int .i64 kd, .string key, .string to, .int .u64 (n : Int)] 72)))
   go_wp2_with (first
    | (go_at_call 89; go_must (refine (reads_any (kd, key, to, n) HOX.out _).mono ?_; rintro e w2 ⟨v, rfl, h1, h2⟩; rw [hR] at h1; obtain ⟨a2, n2, rfl⟩ := h1.form; have HB2 : Hid (Below w.heap.size w w2) := blThen HB0.out h2; have HO2 := Lib.hid (HO0.out.later h2); have HS2 := Lib.hid h1.sl; clear h1 h2))
    | (at_builtin; go_must (refine append_sp rfl _ _ rfl w.heap.size _ D rfl HO2.out _ R rfl HS2.out (by have := HLL.out; have := HN.out; have := HF.out; omega) HB2.out.size ?_; intro v3 w3 h1 h2; have HO3 := Lib.hid h1; have HB3 : Hid (Below w.heap.size w w3) := grown_below HB2.out HO2.out (Nat.le_refl _) HB2.out.size h2; clear h1 h2)))
   go_roundw
   case rel => exact ⟨k + 1, hlt, by go_num, by rw [HT.out]; exact HO3.out, HB3.out⟩
   case measure => simp [RowKit.intOf]; omega
  ·have hge : ¬ (k : Int) < (l.length : Int) := by omega
   have hdk : decide ((k : Int) < (l.length : Int)) = false := decide_eq_false hge
   have hdn : decide (k < l.length) = false := decide_eq_false hlt
   have hE : D = l.flatMap rdS := by rw [← HD.out, List.take_of_length_le (by omega)]
   have HE := Lib.hid hE
   clear hE
   have HO := Lib.hid (show OwnL wr w.heap.size (.slice av N cv) D from HO.out)
   go_wp2_with (go_at_call 63; go_must (refine (union_any _ D _ (by have := HLL.out; have := HN.out; omega) HO.out.sl).mono ?_; rintro e w2 ⟨v, rfl, h1, h2⟩; rw [HE.out] at h1; have H1 := Lib.hid (h1.mono HB.out.size); have H2 : Hid (Below w.heap.size w w2) := blThen HB.out h2; clear h1 h2))
   go_ret
   exact ⟨_, rfl, H1.out, H2.out⟩
theorem each_writes (va : Value) (l : List Opr) (w : World) (hlen : l.length ≤ 1000) (hok : ∀ o ∈ l, okB o = true) (h : SlG eO w va l) : Calls Tryz.prog 88 #[va, .func (.func 90) #[] #[]] w (RetO w (uniL (l.flatMap wrS))) := by
 obtain ⟨a, cap, rfl⟩ := h.form
 have HL := Lib.hid h
 have HOK := Lib.hid hok
 clear h hok
 go_enter Tryz.func88, Tryz.ntmps88
 go_wp2_with fail
 go_loopw [5, 10] (fun v i wr => ∃ k : Nat, k ≤ l.length ∧ i = .int .i64 k ∧ OwnL wr w.heap.size v ((l.take k).flatMap wrS) ∧ Below w.heap.size w wr) (fun _ i _ => l.length - (RowKit.intOf i).toNat)
 case atStart => exact ⟨0, Nat.zero_le _, rfl, OwnL.nil _ _, Below.refl _ _⟩
 case round =>
  obtain ⟨k, hk, rfl, ho, hb⟩ := hrel
  have HB := Lib.hid hb
  have HO := Lib.hid ho
  obtain ⟨av, cv, rfl⟩ := ho.form
  have HLL : Hid (((l.take k).flatMap wrS).length ≤ 2000) := by
   have h1 := flat_len wrS wrS_len (l.take k)
   rw [List.length_take] at h1
   show _ ≤ _
   omega
  clear hb ho
  generalize hD : (l.take k).flatMap wrS = D at *
  generalize hN : D.length = N at *
  have HD := Lib.hid hD
  have HN := Lib.hid hN
  clear hD hN
  by_cases hlt : k < l.length
  ·obtain ⟨⟨kd, key, to, n⟩, hx⟩ := at_lt hlt
   have HLr := HL.out.later HB.out
   obtain ⟨g, o, hA, hg, c0, c1, c2, c3⟩ := ops_at HLr hx
   simp only at c0 c1 c2 c3
   have HOX := Lib.hid (HOK.out _ (List.mem_of_getElem? hx))
   have hk1 : (k : Int) < (l.length : Int) := by omega
   have hdk : decide ((k : Int) < (l.length : Int)) = true := decide_eq_true hk1
   have hdn : decide (k < l.length) = true := decide_eq_true hlt
   have HT := Lib.hid (flat_take wrS hx)
   rw [HD.out] at HT
   have HF := Lib.hid (wrS_len (kd, key, to, n))
   clear hx HLr
   subst hA
   generalize hR : wrS (kd, key, to, n) = R at *
   have HB0 : Hid (Below w.heap.size w (wr.alloc (.cells #[.int .i64 kd, .string key, .string to, .int .u64 (n : Int)] 72))) := blAlloc HB.out _
   have HO0 := Lib.hid (HO.out.later (blAlloc (Below.refl wr.heap.size wr) (.cells #[.int .i64 kd, .string key, .string to, .int .u64 (n : Int)] 72)))
   go_wp2_with (first
    | (go_at_call 90; go_must (refine (writes_any (kd, key, to, n) HOX.out _).mono ?_; rintro e w2 ⟨v, rfl, h1, h2⟩; rw [hR] at h1; obtain ⟨a2, n2, rfl⟩ := h1.form; have HB2 : Hid (Below w.heap.size w w2) := blThen HB0.out h2; have HO2 := Lib.hid (HO0.out.later h2); have HS2 := Lib.hid h1.sl; clear h1 h2))
    | (at_builtin; go_must (refine append_sp rfl _ _ rfl w.heap.size _ D rfl HO2.out _ R rfl HS2.out (by have := HLL.out; have := HN.out; have := HF.out; omega) HB2.out.size ?_; intro v3 w3 h1 h2; have HO3 := Lib.hid h1; have HB3 : Hid (Below w.heap.size w w3) := grown_below HB2.out HO2.out (Nat.le_refl _) HB2.out.size h2; clear h1 h2)))
   go_roundw
   case rel => exact ⟨k + 1, hlt, by go_num, by rw [HT.out]; exact HO3.out, HB3.out⟩
   case measure => simp [RowKit.intOf]; omega
  ·have hge : ¬ (k : Int) < (l.length : Int) := by omega
   have hdk : decide ((k : Int) < (l.length : Int)) = false := decide_eq_false hge
   have hdn : decide (k < l.length) = false := decide_eq_false hlt
   have hE : D = l.flatMap wrS := by rw [← HD.out, List.take_of_length_le (by omega)]
   have HE := Lib.hid hE
   clear hE
   have HO := Lib.hid (show OwnL wr w.heap.size (.slice av N cv) D from HO.out)
   go_wp2_with (go_at_call 63; go_must (refine (union_any _ D _ (by have := HLL.out; have := HN.out; omega) HO.out.sl).mono ?_; rintro e w2 ⟨v, rfl, h1, h2⟩; rw [HE.out] at h1; have H1 := Lib.hid (h1.mono HB.out.size); have H2 : Hid (Below w.heap.size w w2) := blThen HB.out h2; clear h1 h2))
   go_ret
   exact ⟨_, rfl, H1.out, H2.out⟩
theorem treads_any (va : Value) (l : List Opr) (w : World) (hlen : l.length ≤ 1000) (hok : ∀ o ∈ l, okB o = true) (h : SlG eO w va l) : Calls Tryz.prog 65 #[va] w (RetO w (readsP l)) := by
 obtain ⟨a, cap, rfl⟩ := h.form
 go_enter Tryz.func65, Tryz.ntmps65
 go_wp2_with (go_at_call 88; refine (each_reads _ l _ hlen hok h).mono ?_; rintro e w2 ⟨v, rfl, h1, h2⟩; have H1 := Lib.hid h1; have H2 := Lib.hid h2; clear h1 h2)
 go_ret
 exact ⟨_, rfl, H1.out, H2.out⟩
theorem twrites_any (va : Value) (l : List Opr) (w : World) (hlen : l.length ≤ 1000) (hok : ∀ o ∈ l, okB o = true) (h : SlG eO w va l) : Calls Tryz.prog 66 #[va] w (RetO w (writesP l)) := by
 obtain ⟨a, cap, rfl⟩ := h.form
 go_enter Tryz.func66, Tryz.ntmps66
 go_wp2_with (go_at_call 88; refine (each_writes _ l _ hlen hok h).mono ?_; rintro e w2 ⟨v, rfl, h1, h2⟩; have H1 := Lib.hid h1; have H2 := Lib.hid h2; clear h1 h2)
 go_ret
 exact ⟨_, rfl, H1.out, H2.out⟩

theorem grow0_any (n : Nat) (w : World) (hn : n ≤ 100000) : Calls Tryz.prog 87 #[.slice none 0 0, .int .i64 (n : Int)] w (RetO w []) := by
 obtain ⟨i0, hi, hz0, hz1, hz2⟩ := info_parts info_sp
 have h1 : ¬ ((n : Int) < 0) := by omega
 by_cases h0 : n = 0
 ·subst h0
  go_enter Tryz.func87, Tryz.ntmps87
  go_wp2
  go_ret
  exact ⟨_, rfl, OwnL.nil _ _, Below.refl _ _⟩
 ·have h2 : wrap64 ((n : Int) - 0) = (n : Int) := by unfold wrap64; omega
  have h3 : (0 : Int) < (n : Int) := by omega
  have hrz : ∀ ty, (Builtin.append_ #[32, 3] ty #[.slice none 0 0, .int .i64 (n : Int)]).run Tryz.prog w =
    .ok (.slice (some ⟨w.heap.size, 0, none⟩) n (grownCap w n 0 57)) (w.drew.alloc (.cells (([] : List Value).toArray ++ Builtin.zeroCells (Value.agg #[.string ⟨#[]⟩, .string ⟨#[]⟩]).cells n ++ Builtin.zeroCells (Value.agg #[.string ⟨#[]⟩, .string ⟨#[]⟩]).cells (grownCap w n 0 57 - n)) 57)) := by
   intro ty
   have h := Lib.run_append_grow_zeros (P := Tryz.prog) w 32 3 ty 57 i0 (.agg #[.string ⟨#[]⟩, .string ⟨#[]⟩]) .i64 .i64 Tryz.underlying32 Tryz.underlying3 hi hz0 none 0 0 [] (run_firstCells_none _ _ _ _ _) n (by omega) (by rw [hz1]; decide) (by omega) (by omega) (by rw [hz2]; omega) (growslice_fits (by omega) (by rw [hz2]; omega))
   rw [Nat.zero_add] at h
   exact h
  have hge := grownCap_ge w n 0 57
  have hle := grownCap_le_maxLen w n 0 57 (by unfold maxLen; omega)
  generalize grownCap w n 0 57 = G at *
  have hG : (G : Int) ≤ 9223372036854775807 := by unfold maxLen at hle; omega
  have hcs : (([] : List Value).toArray ++ Builtin.zeroCells (Value.agg #[.string ⟨#[]⟩, .string ⟨#[]⟩]).cells n ++ Builtin.zeroCells (Value.agg #[.string ⟨#[]⟩, .string ⟨#[]⟩]).cells (G - n)).size = G * 2 := by
   rw [Array.size_append, Array.size_append, size_zeroCells, size_zeroCells]
   show 0 + n * 2 + (G - n) * 2 = G * 2
   omega
  generalize ([] : List Value).toArray ++ Builtin.zeroCells (Value.agg #[.string ⟨#[]⟩, .string ⟨#[]⟩]).cells n ++ Builtin.zeroCells (Value.agg #[.string ⟨#[]⟩, .string ⟨#[]⟩]).cells (G - n) = C at *
  have hb : Below w.heap.size w (w.drew.alloc (.cells C 57)) := blAlloc ((Below.refl _ _).drew) _
  have HOW : Hid (OwnL (w.drew.alloc (.cells C 57)) w.heap.size (.slice (some ⟨w.heap.size, 0, none⟩) 0 G) []) := by
   refine ⟨rfl, .inr ⟨w.heap.size, G, C, rfl, Nat.le_refl _, ?_, Nat.zero_le _, hle, hcs, by simp [cellsL]⟩⟩
   show (w.heap.push _)[w.heap.size]? = _
   simp
  go_enter Tryz.func87, Tryz.ntmps87
  go_wp2_with (at_builtin; refine Lib.wpList_append_run _ rfl _ _ _ _ rfl _ _ rfl rfl _ _ (hrz _) ?_)
  all_goals
   go_ret
   exact ⟨_, rfl, HOW.out, hb⟩
theorem concat2_any (b c : Nat) (a1 a2 : Option Addr) (c1 c2 : Nat) (l1 l2 : List Sp) (w : World) (h1 : l1.length ≤ 10000) (h2 : l2.length ≤ 10000) (hb : b < w.heap.size) (k0 : w.cell? ⟨b, 0, none⟩ = some (.slice a1 l1.length c1)) (k1 : w.cell? ⟨b, 1, none⟩ = some (.slice a2 l2.length c2))
  (hs1 : Sl w (.slice a1 l1.length c1) l1) (hs2 : Sl w (.slice a2 l2.length c2) l2) : Calls Tryz.prog 64 #[.slice (some ⟨b, 0, none⟩) 2 c] w (RetO w (l1 ++ l2)) := by
 have HS1 := Lib.hid hs1
 have HS2 := Lib.hid hs2
 have HK := Lib.hid (fun (Y : World) (h : Below w.heap.size w Y) => (⟨cell_in h hb k0, cell_in h hb k1⟩ : Y.cell? ⟨b, 0, none⟩ = some (.slice a1 l1.length c1) ∧ Y.cell? ⟨b, 1, none⟩ = some (.slice a2 l2.length c2)))
 clear hs1 hs2
 generalize hN1 : l1.length = n1 at *
 generalize hN2 : l2.length = n2 at *
 have HN1 := Lib.hid hN1
 have HN2 := Lib.hid hN2
 clear hN1 hN2
 have w1 : wrap64 (0 + (n1 : Int)) = (n1 : Int) := by unfold wrap64; omega
 have w2 : wrap64 ((n1 : Int) + (n2 : Int)) = ((n1 + n2 : Nat) : Int) := by unfold wrap64; omega
 have p1 : ¬ ((n1 : Int) < 0) := by omega
 have p2 : ¬ (((n1 + n2 : Nat) : Int) < 0) := by omega
 go_enter Tryz.func64, Tryz.ntmps64
 go_wp2_with fail
 go_loopw [3, 11] (fun v i wr => w = wr ∧ ((i = .int .i64 0 ∧ v = .int .i64 0) ∨ (i = .int .i64 1 ∧ v = .int .i64 (n1 : Int)) ∨ (i = .int .i64 2 ∧ v = .int .i64 ((n1 + n2 : Nat) : Int)))) (fun _ i _ => 2 - (RowKit.intOf i).toNat)
 case atStart => exact ⟨rfl, .inl ⟨rfl, rfl⟩⟩
 case round =>
  obtain ⟨rfl, ⟨rfl, rfl⟩ | ⟨rfl, rfl⟩ | ⟨rfl, rfl⟩⟩ := hrel
  ·go_wp2
   go_roundw
   case rel => exact ⟨by first | trivial | rfl, .inr (.inl ⟨rfl, by first | rfl | go_num⟩)⟩
   case measure => decide
  ·go_wp2
   go_roundw
   case rel => exact ⟨by first | trivial | rfl, .inr (.inr ⟨rfl, by first | rfl | go_num⟩)⟩
   case measure => decide
  ·go_wp2_with (go_at_call 87; go_must (refine (grow0_any (n1 + n2) _ (by omega)).mono ?_; rintro e w3 ⟨v, rfl, h1, h2⟩; have H3 := Lib.hid h1; have HB3 := Lib.hid h2; obtain ⟨g3, d3, rfl⟩ := h1.form; clear h1 h2))
   go_loopw [6, 27] (fun v i wx => Below w.heap.size w wx ∧ ((i = .int .i64 0 ∧ OwnL wx w.heap.size v []) ∨ (i = .int .i64 1 ∧ OwnL wx w.heap.size v l1) ∨ (i = .int .i64 2 ∧ OwnL wx w.heap.size v (l1 ++ l2)))) (fun _ i _ => 2 - (RowKit.intOf i).toNat)
   case atStart => exact ⟨HB3.out, .inl ⟨rfl, H3.out⟩⟩
   case round =>
    clear H3 HB3
    obtain ⟨hb, ⟨rfl, ho⟩ | ⟨rfl, ho⟩ | ⟨rfl, ho⟩⟩ := hrel
    ·have HB := Lib.hid hb
     have HO := Lib.hid ho
     obtain ⟨q0, q1⟩ := HK.out _ hb
     have HT1 := Lib.hid (HS1.out.later hb)
     obtain ⟨av, cv, rfl⟩ := ho.form
     clear hb ho
     go_wp2_with (at_builtin; go_must (refine append_sp rfl _ _ rfl w.heap.size _ [] rfl HO.out _ l1 rfl HT1.out (by have := HN1.out; simp only [List.length_nil]; omega) HB.out.size ?_; intro v4 w4 h1 h2; have HO4 := Lib.hid h1; have HB4 : Hid (Below w.heap.size w w4) := grown_below HB.out HO.out (Nat.le_refl _) HB.out.size h2; clear h1 h2))
     go_roundw
     case rel => exact ⟨HB4.out, .inr (.inl ⟨rfl, by have := HO4.out; rwa [List.nil_append] at this⟩)⟩
     case measure => decide
    ·have HB := Lib.hid hb
     have HO := Lib.hid ho
     obtain ⟨q0, q1⟩ := HK.out _ hb
     have HT2 := Lib.hid (HS2.out.later hb)
     obtain ⟨av, cv, rfl⟩ := ho.form
     rw [HN1.out] at HO ⊢
     clear hb ho
     go_wp2_with (at_builtin; go_must (refine append_sp rfl _ _ rfl w.heap.size _ l1 rfl HO.out _ l2 rfl HT2.out (by have := HN1.out; have := HN2.out; omega) HB.out.size ?_; intro v4 w4 h1 h2; have HO4 := Lib.hid h1; have HB4 : Hid (Below w.heap.size w w4) := grown_below HB.out HO.out (Nat.le_refl _) HB.out.size h2; clear h1 h2))
     go_roundw
     case rel => exact ⟨HB4.out, .inr (.inr ⟨rfl, HO4.out⟩)⟩
     case measure => decide
    ·have HB := Lib.hid hb
     have HO := Lib.hid ho
     obtain ⟨av, cv, rfl⟩ := ho.form
     generalize (l1 ++ l2).length = N at *
     clear hb ho
     go_wp2
     go_ret
     exact ⟨_, rfl, HO.out, HB.out⟩
theorem cells_two (X : World) (u v : Value) (t : TypeId) (n : Nat) (h : X.heap.size = n) : (X.alloc (.cells #[u, v] t)).cell? ⟨n, 0, none⟩ = some u ∧ (X.alloc (.cells #[u, v] t)).cell? ⟨n, 1, none⟩ = some v ∧ n < (X.alloc (.cells #[u, v] t)).heap.size := by
 subst h
 have hb : (X.alloc (.cells #[u, v] t)).heap[X.heap.size]? = some (.cells #[u, v] t (0, 0)) := by
  show (X.heap.push _)[X.heap.size]? = _
  simp
 refine ⟨?_, ?_, by simp⟩
 ·simp only [World.cell?, hb]; rfl
 ·simp only [World.cell?, hb]; rfl
theorem uni_len (l : List Sp) : (uniL l).length ≤ 2 * l.length := by
 unfold uniL
 have := setL_len 0 l []
 simpa using this
theorem reads_len (l : List Opr) : (readsP l).length ≤ 4 * l.length := by
 unfold readsP
 have h1 := uni_len (l.flatMap rdS)
 have h2 := flat_len rdS rdS_len l
 omega
theorem writes_len (l : List Opr) : (writesP l).length ≤ 4 * l.length := by
 unfold writesP
 have h1 := uni_len (l.flatMap wrS)
 have h2 := flat_len wrS wrS_len l
 omega
theorem all_len (l : List Opr) : (allP l).length ≤ 16 * l.length := by
 unfold allP
 have h1 := uni_len (readsP l ++ writesP l)
 have h2 := reads_len l
 have h3 := writes_len l
 rw [List.length_append] at h1
 omega
theorem tall_any (va : Value) (l : List Opr) (w : World) (hlen : l.length ≤ 1000) (hok : ∀ o ∈ l, okB o = true) (h : SlG eO w va l) : Calls Tryz.prog 38 #[va] w (RetO w (allP l)) := by
 obtain ⟨a, cap, rfl⟩ := h.form
 have HL := Lib.hid h
 have HOK := Lib.hid hok
 have HR := Lib.hid (reads_len l)
 have HW := Lib.hid (writes_len l)
 clear h hok
 go_enter Tryz.func38, Tryz.ntmps38
 go_wp2_with fail
 refine (treads_any _ l w hlen HOK.out HL.out).mono ?_
 rintro e w1 ⟨v, rfl, h1, h2⟩
 have HB1 := Lib.hid h2
 have HO1 := Lib.hid h1
 obtain ⟨g1, d1, rfl⟩ := h1.form
 clear h1 h2
 go_wp2_with fail
 refine (twrites_any _ l _ hlen HOK.out (HL.out.later HB1.out)).mono ?_
 rintro e w2 ⟨v, rfl, h1, h2⟩
 have HB2 : Hid (Below w.heap.size w w2) := blThen HB1.out h2
 have HO2 := Lib.hid h1
 have HP1 := Lib.hid (HO1.out.later h2)
 obtain ⟨g2, d2, rfl⟩ := h1.form
 clear h1 h2
 obtain ⟨q0, q1, q2⟩ := cells_two w2 (.slice g1 (readsP l).length d1) (.slice g2 (writesP l).length d2) 32 _ rfl
 have HBa := Lib.hid (blAlloc (Below.refl w2.heap.size w2) (.cells #[.slice g1 (readsP l).length d1, .slice g2 (writesP l).length d2] 32))
 have HB3 := Lib.hid (blAlloc HB2.out (.cells #[.slice g1 (readsP l).length d1, .slice g2 (writesP l).length d2] 32))
 have HC := Lib.hid (concat2_any w2.heap.size 2 g1 g2 d1 d2 (readsP l) (writesP l) _ (by have := HR.out; omega) (by have := HW.out; omega) q2 q0 q1 (HP1.out.sl.later HBa.out) (HO2.out.sl.later HBa.out))
 clear q0 q1 q2
 generalize hNr : (readsP l).length = nr at *
 generalize hNw : (writesP l).length = nw at *
 go_wp2_with fail
 refine HC.out.mono ?_
 rintro e w3 ⟨v, rfl, h1, h2⟩
 have HB4 : Hid (Below w.heap.size w w3) := blThen HB3.out h2
 have HO3 := Lib.hid h1
 obtain ⟨g3, d3, rfl⟩ := h1.form
 have HLN : Hid ((readsP l ++ writesP l).length ≤ 100000) := by
  show _ ≤ _
  rw [List.length_append, hNr, hNw]
  have := HR.out; have := HW.out; omega
 clear h1 h2 hNr hNw
 have HU := Lib.hid (union_any (.slice g3 (readsP l ++ writesP l).length d3) (readsP l ++ writesP l) w3 (by have := HLN.out; omega) HO3.out.sl)
 generalize (readsP l ++ writesP l).length = N at *
 go_wp2_with fail
 refine HU.out.mono ?_
 rintro e w4 ⟨v, rfl, h1, h2⟩
 have H1 := Lib.hid (h1.mono HB4.out.size)
 have H2 : Hid (Below w.heap.size w w4) := blThen HB4.out h2
 clear h1 h2
 go_wp2
 go_ret
 exact ⟨_, rfl, H1.out, H2.out⟩
theorem all_set (l : List Opr) : IsSet (allP l) := uniL_set _

theorem rpoint_any (k : ByteArray) (w : World) (hk : k.size ≤ 1000000000) : Calls Tryz.prog 48 #[.string k] w fun e w' => e = .returned (.agg #[.string k, .string (k ++ ⟨#[0]⟩)]) ∧ Below w.heap.size w w' := by
 have hs : ((k.size + (⟨#[0]⟩ : ByteArray).size : Nat) : Int) ≤ IntKind.i64.max := by
  show ((k.size + 1 : Nat) : Int) ≤ 9223372036854775807
  omega
 go_enter Tryz.func48, Tryz.ntmps48
 go_wp2
 exact bodyPost_ret (v := .agg #[.string k, .string (k ++ ⟨#[0]⟩)]) (by simp [results, Tryz.results48, go_sem]) rfl ⟨rfl, blAlloc (Below.refl _ _) _⟩
theorem wp_append_sp {w : World} {o : Oper} {a : Act} {K : Act → World → Prop} {Q : Exit → Act → World → Prop} (s x : Operand)
  (ho : o.op = .call { callee := .builtin .append, args := #[s, x], argTypes := #[32, 32] })
  (base : Nat) (v : Value) (d : List Sp) (hs : a.eval s = v) (hown : OwnL w base v d) (g c : Nat) (l : List Sp) (hx : a.eval x = .slice (some ⟨g, 0, none⟩) l.length c) (hsl : Row2 w g 0 l)
  (hlen : d.length + l.length ≤ 4000000) (hbase : base ≤ w.heap.size)
  (h : ∀ v' w', OwnL w' base v' (d ++ l) → w.grownBy w' v.ownBlock → K (a.put o.dst v') w') : o.wp Tryz.prog a w K Q := by
 obtain ⟨i0, hi, hz0, hz1, hz2⟩ := info_parts info_sp
 refine wp_append_own w s x 32 ho base 57 i0 (.agg #[.string ⟨#[]⟩, .string ⟨#[]⟩]) 2 32 Tryz.underlying32 hi hz0 hz1 hz2 rfl (by decide) v d.length (cellsL d) hs hown ⟨g, 0, none⟩ l.length c (cellsL l) hx (cellsL_length l) hsl.cells (cellsL_one l) (by unfold maxLen; omega) (by omega) hbase fun v' w' h2 h3 _ => ?_
 refine h v' w' ?_ h3
 show w'.ownsRow base _ 2 v' _ _
 rw [List.length_append, cellsL_append]
 exact h2
theorem row_one (X : World) (a : Sp) (n : Nat) (h : X.heap.size = n) : Row2 (X.alloc (.cells #[.string a.1, .string a.2] 57)) n 0 [a] := by
 subst h
 obtain ⟨a', c', e, _, hr⟩ := one_sl (box2_new X a) 1
 obtain ⟨g, o, e2, _, h2⟩ := hr (by simp)
 cases e
 cases e2
 exact h2
theorem row_two (X : World) (a b : Sp) (n : Nat) (h : X.heap.size = n) : Row2 (X.alloc (.cells #[.string a.1, .string a.2, .string b.1, .string b.2] 57)) n 0 [a, b] := by
 obtain ⟨a', c', e, _, hr⟩ := two_newS X a b n h
 obtain ⟨g, o, e2, _, h2⟩ := hr (by simp)
 cases e
 cases e2
 exact h2
theorem rreads_any (va : Value) (l : List Opr) (w : World) (hlen : l.length ≤ 1000) (hok : ∀ o ∈ l, okB o = true) (h : SlG eO w va l) : Calls Tryz.prog 23 #[va] w (RetO w (uniL (l.flatMap rdS))) := by
 obtain ⟨a, cap, rfl⟩ := h.form
 have HL := Lib.hid h
 have HOK := Lib.hid hok
 clear h hok
 go_enter Tryz.func23, Tryz.ntmps23
 go_wp2_with fail
 go_loopw [3, 4] (fun v i wr => ∃ k : Nat, k ≤ l.length ∧ i = .int .i64 k ∧ OwnL wr w.heap.size v ((l.take k).flatMap rdS) ∧ Below w.heap.size w wr) (fun _ i _ => l.length - (RowKit.intOf i).toNat)
 case atStart => exact ⟨0, Nat.zero_le _, rfl, OwnL.nil _ _, Below.refl _ _⟩
 case round =>
  obtain ⟨k, hk, rfl, ho, hb⟩ := hrel
  have HB := Lib.hid hb
  have HO := Lib.hid ho
  obtain ⟨av, cv, rfl⟩ := ho.form
  have HLL : Hid (((l.take k).flatMap rdS).length ≤ 2000) := by
   have h1 := flat_len rdS rdS_len (l.take k)
   rw [List.length_take] at h1
   show _ ≤ _
   omega
  clear hb ho
  generalize hD : (l.take k).flatMap rdS = D at *
  generalize hN : D.length = N at *
  have HD := Lib.hid hD
  have HN := Lib.hid hN
  clear hD hN
  by_cases hlt : k < l.length
  ·obtain ⟨⟨kd, key, to, n⟩, hx⟩ := at_lt hlt
   obtain ⟨g, o, hA, hg, d0, d1, d2, d3⟩ := ops_at HL.out hx
   simp only at d0 d1 d2 d3
   have K3 := Lib.hid (fun (Y : World) (hY : Below w.heap.size w Y) => (⟨cell_in hY hg d1, cell_in hY hg d2⟩ : Y.cell? ⟨g, o + k * 4 + 1, none⟩ = some (.string key) ∧ Y.cell? ⟨g, o + k * 4 + 2, none⟩ = some (.string to)))
   have c0 := cell_in HB.out hg d0
   have c1 := cell_in HB.out hg d1
   have c2 := cell_in HB.out hg d2
   obtain ⟨hkd, hky, _, h6, _⟩ := ok_kd (HOK.out _ (List.mem_of_getElem? hx))
   simp only at hky h6
   have hkl : key.size ≤ 1000000000 := by have := key_len hky; omega
   have HK6 : Hid (kd = 6 → to.size ≤ 1000000000) := fun e => by have := key_len (h6 e).1; omega
   have hk1 : (k : Int) < (l.length : Int) := by omega
   have hk0 : (0 : Int) ≤ (k : Int) := by omega
   have hdk : decide ((k : Int) < (l.length : Int)) = true := decide_eq_true hk1
   have hdn : decide (k < l.length) = true := decide_eq_true hlt
   have HT := Lib.hid (flat_take rdS hx)
   rw [HD.out] at HT
   have hcs : kd = 1 ∨ kd = 2 ∨ kd = 3 ∨ kd = 4 ∨ kd = 5 ∨ kd = 6 := by
    unfold Kd at hkd
    simp only at hkd
    omega
   clear hx hkd h6 hky d0 d1 d2 d3
   subst hA
   rcases hcs with rfl | rfl | rfl | rfl | rfl | rfl
   ·clear HK6
    go_wp2_with (first
     | (go_at_call 48; refine (rpoint_any key _ hkl).mono ?_; rintro e w2 ⟨rfl, h5⟩; have HB2 : Hid (Below w.heap.size w w2) := blThen HB.out h5; have HO2 := Lib.hid (HO.out.later h5); clear h5)
     | (at_builtin; go_must (refine append_sp rfl _ _ rfl w.heap.size _ D rfl (HO2.out.later (blAlloc (Below.refl _ _) _)) _ [ptS key] rfl (one_sl (box2_new _ (ptS key)) _) (by have := HLL.out; have := HN.out; simp only [List.length_cons, List.length_nil]; omega) (blAlloc HB2.out _).size ?_; intro v3 w3 h1 h2; have HO3 := Lib.hid h1; have HB3 : Hid (Below w.heap.size w w3) := grown_below (blAlloc HB2.out _) (HO2.out.later (blAlloc (Below.refl _ _) _)) (Nat.le_refl _) (blAlloc HB2.out _).size h2; clear h1 h2)))
    go_roundw
    case rel => exact ⟨k + 1, hlt, by go_num, by rw [HT.out]; exact HO3.out, HB3.out⟩
    case measure => simp [RowKit.intOf]; omega
   ·clear HK6
    go_wp2_with fail
    refine wp_region_held_drew (S := fun Y => Y.cell? ⟨g, o + k * 4 + 1, none⟩ = some (.string key) ∧ Y.cell? ⟨g, o + k * 4 + 2, none⟩ = some (.string to)) (by kernel_rfl) (K3.out _ HB.out.drew) (fun hHeld => ?_)
    refine wpAnyH_take (i := 0) (oi := ⟨_, _, _, _, _, _⟩) (v := ?_) rfl (by kernel_rfl) (by kernel_rfl) (by kernel_rfl) (fun _ _ _ h => h) (Or.inl ⟨by rfl, ?_⟩) (by assumption) ?_
    rotate_left
    ·intro w hSw
     try dsimp only at hSw
     go_simp
     try with_reducible rfl
    try simp only [Act.put, List.setIfInBounds_toArray, List.set_cons_zero, List.set_cons_succ]
    refine wpAnyH_take (i := 1) (oi := ⟨_, _, _, _, _, _⟩) (v := ?_) rfl (by kernel_rfl) (by kernel_rfl) (by kernel_rfl) (fun _ _ _ h => h) (Or.inl ⟨by rfl, ?_⟩) (by assumption) ?_
    rotate_left
    ·intro w hSw
     try dsimp only at hSw
     go_simp
     try with_reducible rfl
    try simp only [Act.put, List.setIfInBounds_toArray, List.set_cons_zero, List.set_cons_succ]
    refine wpAnyH_take (i := 2) (oi := ⟨_, _, _, _, _, _⟩) (v := ?_) rfl (by kernel_rfl) (by kernel_rfl) (by kernel_rfl) (fun _ _ _ h => h) (Or.inl ⟨by rfl, ?_⟩) (by assumption) ?_
    rotate_left
    ·intro w hSw
     try dsimp only at hSw
     go_simp
     try with_reducible rfl
    try simp only [Act.put, List.setIfInBounds_toArray, List.set_cons_zero, List.set_cons_succ]
    refine wpAnyH_take (i := 3) (oi := ⟨_, _, _, _, _, _⟩) (v := ?_) rfl (by kernel_rfl) (by kernel_rfl) (by kernel_rfl) (fun _ _ _ h => h) (Or.inl ⟨by rfl, ?_⟩) (by assumption) ?_
    rotate_left
    ·intro w hSw
     try dsimp only at hSw
     go_simp
     try with_reducible rfl
    try simp only [Act.put, List.setIfInBounds_toArray, List.set_cons_zero, List.set_cons_succ]
    refine wpAnyH_take (i := 4) (oi := ⟨_, _, _, _, _, _⟩) (v := ?_) rfl (by kernel_rfl) (by kernel_rfl) (by kernel_rfl) (fun _ _ _ h => h) (Or.inl ⟨by rfl, ?_⟩) (by assumption) ?_
    rotate_left
    ·intro w hSw
     try dsimp only at hSw
     go_simp
     try with_reducible rfl
    try simp only [Act.put, List.setIfInBounds_toArray, List.set_cons_zero, List.set_cons_succ]
    refine wpAnyH_take (i := 5) (oi := ⟨_, _, _, _, _, _⟩) (v := ?_) rfl (by kernel_rfl) (by kernel_rfl) (by kernel_rfl) (fun _ _ _ h => h) (Or.inl ⟨by rfl, ?_⟩) (by assumption) ?_
    rotate_left
    ·intro w hSw
     try dsimp only at hSw
     go_simp
     try with_reducible rfl
    try simp only [Act.put, List.setIfInBounds_toArray, List.set_cons_zero, List.set_cons_succ]
    refine wpAnyH_take (i := 6) (oi := ⟨_, _, _, _, _, _⟩) (v := ?_) rfl (by kernel_rfl) (by kernel_rfl) (by kernel_rfl) (fun _ _ _ h => h) (Or.inl ⟨by rfl, ?_⟩) (by assumption) ?_
    rotate_left
    ·intro w hSw
     try dsimp only at hSw
     go_simp
     try with_reducible rfl
    try simp only [Act.put, List.setIfInBounds_toArray, List.set_cons_zero, List.set_cons_succ]
    refine wpAnyH_take (i := 7) (oi := ⟨_, _, _, _, _, _⟩) (v := ?_) rfl (by kernel_rfl) (by kernel_rfl) (by kernel_rfl) (fun _ _ _ h => h) (Or.inl ⟨by rfl, ?_⟩) (by assumption) ?_
    rotate_left
    ·intro w hSw
     try dsimp only at hSw
     go_simp
     try with_reducible rfl
    try simp only [Act.put, List.setIfInBounds_toArray, List.set_cons_zero, List.set_cons_succ]
    refine wpAnyH_take (i := 8) (oi := ⟨_, _, _, _, _, _⟩) (v := ?_) rfl (by kernel_rfl) (by kernel_rfl) (by kernel_rfl) (fun _ _ _ h => h) (Or.inl ⟨by rfl, ?_⟩) (by assumption) ?_
    rotate_left
    ·intro w hSw
     try dsimp only at hSw
     go_simp
     try with_reducible rfl
    try simp only [Act.put, List.setIfInBounds_toArray, List.set_cons_zero, List.set_cons_succ]
    refine wpAnyH_take (i := 9) (oi := ⟨_, _, _, _, _, _⟩) (v := ?_) rfl (by kernel_rfl) (by kernel_rfl) (by kernel_rfl) (fun _ _ _ h => h) (Or.inl ⟨by rfl, ?_⟩) (by assumption) ?_
    rotate_left
    ·intro w hSw
     try dsimp only at hSw
     go_simp
     try with_reducible rfl
    try simp only [Act.put, List.setIfInBounds_toArray, List.set_cons_zero, List.set_cons_succ]
    refine wpAnyH_take (i := 10) (oi := ⟨_, _, _, _, _, _⟩) (v := ?_) rfl (by kernel_rfl) (by kernel_rfl) (by kernel_rfl) (fun _ _ _ h => h) (Or.inl ⟨by rfl, ?_⟩) (by assumption) ?_
    rotate_left
    ·intro w hSw
     try dsimp only at hSw
     go_simp
     try with_reducible rfl
    try simp only [Act.put, List.setIfInBounds_toArray, List.set_cons_zero, List.set_cons_succ]
    refine wpAnyH_take (i := 11) (oi := ⟨_, _, _, _, _, _⟩) (v := ?_) rfl (by kernel_rfl) (by kernel_rfl) (by kernel_rfl) (fun _ _ _ h => h) (Or.inl ⟨by rfl, ?_⟩) (by assumption) ?_
    rotate_left
    ·intro w hSw
     try dsimp only at hSw
     go_simp
     try with_reducible rfl
    try simp only [Act.put, List.setIfInBounds_toArray, List.set_cons_zero, List.set_cons_succ]
    refine wpAnyH_ready (rs := [12]) (by kernel_rfl) (by simp) ?_
    refine AllReadyH.cons (o := ⟨_, _, _, _, _, _⟩) rfl (fun K hK => ?_) ?_
    rotate_left
    ·exact AllReadyH.nil
    go_simp
    have HB8 : Hid (Below w.heap.size w (wr.drew.alloc (.cells #[.string key, .string to] 57))) := blAlloc HB.out.drew _
    have HO8 : Hid (OwnL (wr.drew.alloc (.cells #[.string key, .string to] 57)) w.heap.size (.slice av N cv) D) := HO.out.later (blAlloc (Below.refl _ _).drew _)
    refine hK.out _ _ (K3.out _ HB8.out) (fun hHeld => ?_)
    clear hK K
    try simp only [Act.put, List.setIfInBounds_toArray, List.set_cons_zero, List.set_cons_succ]
    refine wpAnyH_ready (rs := [13]) (by kernel_rfl) (by simp) ?_
    refine AllReadyH.cons (o := ⟨_, _, _, _, _, _⟩) rfl (fun K hK => ?_) ?_
    rotate_left
    ·exact AllReadyH.nil
    refine wp_append_sp _ _ rfl w.heap.size _ D rfl HO8.out _ _ [(key, to)] rfl (row_one wr.drew (key, to) _ rfl) (by have := HLL.out; have := HN.out; simp only [List.length_cons, List.length_nil]; omega) HB8.out.size ?_
    intro v9 w9 h1 h2
    have HO9 := Lib.hid h1
    have HB9 : Hid (Below w.heap.size w w9) := grown_below HB8.out HO8.out (Nat.le_refl _) HB8.out.size h2
    clear h1 h2
    refine hK.out _ _ (K3.out _ HB9.out) (fun hHeld => ?_)
    clear hK K
    try simp only [Act.put, List.setIfInBounds_toArray, List.set_cons_zero, List.set_cons_succ]
    refine wpAnyH_take (i := 14) (oi := ⟨_, _, _, _, _, _⟩) (v := ?_) rfl (by kernel_rfl) (by kernel_rfl) (by kernel_rfl) (fun _ _ _ h => h) (Or.inl ⟨by rfl, ?_⟩) (by assumption) ?_
    rotate_left
    ·intro w hSw
     try dsimp only at hSw
     go_simp
     try with_reducible rfl
    try simp only [Act.put, List.setIfInBounds_toArray, List.set_cons_zero, List.set_cons_succ]
    refine wpAnyH_done (by kernel_rfl) ?_ _
    go_wp2
    go_roundw
    case rel => exact ⟨k + 1, hlt, by go_num, by rw [HT.out]; exact HO9.out, HB9.out⟩
    case measure => simp [RowKit.intOf]; omega
   ·clear HK6
    go_wp2
    go_roundw
    case rel => exact ⟨k + 1, hlt, by go_num, by rw [HT.out]; exact (by rw [show rdS (3, key, to, n) = [] from rfl, List.append_nil]; exact HO.out), HB.out⟩
    case measure => simp [RowKit.intOf]; omega
   ·clear HK6
    go_wp2_with (first
     | (go_at_call 48; refine (rpoint_any key _ hkl).mono ?_; rintro e w2 ⟨rfl, h5⟩; have HB2 : Hid (Below w.heap.size w w2) := blThen HB.out h5; have HO2 := Lib.hid (HO.out.later h5); clear h5)
     | (at_builtin; go_must (refine append_sp rfl _ _ rfl w.heap.size _ D rfl (HO2.out.later (blAlloc (Below.refl _ _) _)) _ [ptS key] rfl (one_sl (box2_new _ (ptS key)) _) (by have := HLL.out; have := HN.out; simp only [List.length_cons, List.length_nil]; omega) (blAlloc HB2.out _).size ?_; intro v3 w3 h1 h2; have HO3 := Lib.hid h1; have HB3 : Hid (Below w.heap.size w w3) := grown_below (blAlloc HB2.out _) (HO2.out.later (blAlloc (Below.refl _ _) _)) (Nat.le_refl _) (blAlloc HB2.out _).size h2; clear h1 h2)))
    go_roundw
    case rel => exact ⟨k + 1, hlt, by go_num, by rw [HT.out]; exact HO3.out, HB3.out⟩
    case measure => simp [RowKit.intOf]; omega
   ·clear HK6
    go_wp2_with (first
     | (go_at_call 48; refine (rpoint_any key _ hkl).mono ?_; rintro e w2 ⟨rfl, h5⟩; have HB2 : Hid (Below w.heap.size w w2) := blThen HB.out h5; have HO2 := Lib.hid (HO.out.later h5); clear h5)
     | (at_builtin; go_must (refine append_sp rfl _ _ rfl w.heap.size _ D rfl (HO2.out.later (blAlloc (Below.refl _ _) _)) _ [ptS key] rfl (one_sl (box2_new _ (ptS key)) _) (by have := HLL.out; have := HN.out; simp only [List.length_cons, List.length_nil]; omega) (blAlloc HB2.out _).size ?_; intro v3 w3 h1 h2; have HO3 := Lib.hid h1; have HB3 : Hid (Below w.heap.size w w3) := grown_below (blAlloc HB2.out _) (HO2.out.later (blAlloc (Below.refl _ _) _)) (Nat.le_refl _) (blAlloc HB2.out _).size h2; clear h1 h2)))
    go_roundw
    case rel => exact ⟨k + 1, hlt, by go_num, by rw [HT.out]; exact HO3.out, HB3.out⟩
    case measure => simp [RowKit.intOf]; omega
   ·have HT6 := Lib.hid (HK6.out rfl)
    clear HK6
    go_wp2_with fail
    refine wp_region_held_drew (S := fun Y => Y.cell? ⟨g, o + k * 4 + 1, none⟩ = some (.string key) ∧ Y.cell? ⟨g, o + k * 4 + 2, none⟩ = some (.string to)) (by kernel_rfl) (K3.out _ HB.out.drew) (fun hHeld => ?_)
    refine wpAnyH_take (i := 0) (oi := ⟨_, _, _, _, _, _⟩) (v := ?_) rfl (by kernel_rfl) (by kernel_rfl) (by kernel_rfl) (fun _ _ _ h => h) (Or.inl ⟨by rfl, ?_⟩) (by assumption) ?_
    rotate_left
    ·intro w hSw
     try dsimp only at hSw
     go_simp
     try with_reducible rfl
    try simp only [Act.put, List.setIfInBounds_toArray, List.set_cons_zero, List.set_cons_succ]
    refine wpAnyH_take (i := 1) (oi := ⟨_, _, _, _, _, _⟩) (v := ?_) rfl (by kernel_rfl) (by kernel_rfl) (by kernel_rfl) (fun _ _ _ h => h) (Or.inl ⟨by rfl, ?_⟩) (by assumption) ?_
    rotate_left
    ·intro w hSw
     try dsimp only at hSw
     go_simp
     try with_reducible rfl
    try simp only [Act.put, List.setIfInBounds_toArray, List.set_cons_zero, List.set_cons_succ]
    refine wpAnyH_take (i := 2) (oi := ⟨_, _, _, _, _, _⟩) (v := ?_) rfl (by kernel_rfl) (by kernel_rfl) (by kernel_rfl) (fun _ _ _ h => h) (Or.inl ⟨by rfl, ?_⟩) (by assumption) ?_
    rotate_left
    ·intro w hSw
     try dsimp only at hSw
     go_simp
     try with_reducible rfl
    try simp only [Act.put, List.setIfInBounds_toArray, List.set_cons_zero, List.set_cons_succ]
    refine wpAnyH_take (i := 3) (oi := ⟨_, _, _, _, _, _⟩) (v := ?_) rfl (by kernel_rfl) (by kernel_rfl) (by kernel_rfl) (fun _ _ _ h => h) (Or.inl ⟨by rfl, ?_⟩) (by assumption) ?_
    rotate_left
    ·intro w hSw
     try dsimp only at hSw
     go_simp
     try with_reducible rfl
    try simp only [Act.put, List.setIfInBounds_toArray, List.set_cons_zero, List.set_cons_succ]
    refine wpAnyH_take (i := 4) (oi := ⟨_, _, _, _, _, _⟩) (v := ?_) rfl (by kernel_rfl) (by kernel_rfl) (by kernel_rfl) (fun _ _ _ h => h) (Or.inl ⟨by rfl, ?_⟩) (by assumption) ?_
    rotate_left
    ·intro w hSw
     try dsimp only at hSw
     go_simp
     try with_reducible rfl
    try simp only [Act.put, List.setIfInBounds_toArray, List.set_cons_zero, List.set_cons_succ]
    refine wpAnyH_take (i := 5) (oi := ⟨_, _, _, _, _, _⟩) (v := ?_) rfl (by kernel_rfl) (by kernel_rfl) (by kernel_rfl) (fun _ _ _ h => h) (Or.inl ⟨by rfl, ?_⟩) (by assumption) ?_
    rotate_left
    ·intro w hSw
     try dsimp only at hSw
     go_simp
     try with_reducible rfl
    try simp only [Act.put, List.setIfInBounds_toArray, List.set_cons_zero, List.set_cons_succ]
    refine wpAnyH_take (i := 7) (oi := ⟨_, _, _, _, _, _⟩) (v := ?_) rfl (by kernel_rfl) (by kernel_rfl) (by kernel_rfl) (fun _ _ _ h => h) (Or.inl ⟨by rfl, ?_⟩) (by assumption) ?_
    rotate_left
    ·intro w hSw
     try dsimp only at hSw
     go_simp
     try with_reducible rfl
    try simp only [Act.put, List.setIfInBounds_toArray, List.set_cons_zero, List.set_cons_succ]
    refine wpAnyH_take (i := 8) (oi := ⟨_, _, _, _, _, _⟩) (v := ?_) rfl (by kernel_rfl) (by kernel_rfl) (by kernel_rfl) (fun _ _ _ h => h) (Or.inl ⟨by rfl, ?_⟩) (by assumption) ?_
    rotate_left
    ·intro w hSw
     try dsimp only at hSw
     go_simp
     try with_reducible rfl
    try simp only [Act.put, List.setIfInBounds_toArray, List.set_cons_zero, List.set_cons_succ]
    refine wpAnyH_take (i := 9) (oi := ⟨_, _, _, _, _, _⟩) (v := ?_) rfl (by kernel_rfl) (by kernel_rfl) (by kernel_rfl) (fun _ _ _ h => h) (Or.inl ⟨by rfl, ?_⟩) (by assumption) ?_
    rotate_left
    ·intro w hSw
     try dsimp only at hSw
     go_simp
     try with_reducible rfl
    try simp only [Act.put, List.setIfInBounds_toArray, List.set_cons_zero, List.set_cons_succ]
    refine wpAnyH_take (i := 10) (oi := ⟨_, _, _, _, _, _⟩) (v := ?_) rfl (by kernel_rfl) (by kernel_rfl) (by kernel_rfl) (fun _ _ _ h => h) (Or.inl ⟨by rfl, ?_⟩) (by assumption) ?_
    rotate_left
    ·intro w hSw
     try dsimp only at hSw
     go_simp
     try with_reducible rfl
    try simp only [Act.put, List.setIfInBounds_toArray, List.set_cons_zero, List.set_cons_succ]
    refine wpAnyH_take (i := 11) (oi := ⟨_, _, _, _, _, _⟩) (v := ?_) rfl (by kernel_rfl) (by kernel_rfl) (by kernel_rfl) (fun _ _ _ h => h) (Or.inl ⟨by rfl, ?_⟩) (by assumption) ?_
    rotate_left
    ·intro w hSw
     try dsimp only at hSw
     go_simp
     try with_reducible rfl
    try simp only [Act.put, List.setIfInBounds_toArray, List.set_cons_zero, List.set_cons_succ]
    refine wpAnyH_ready (rs := [6]) (by kernel_rfl) (by simp) ?_
    refine AllReadyH.cons (o := ⟨_, _, _, _, _, _⟩) rfl (fun K hK => ?_) ?_
    rotate_left
    ·exact AllReadyH.nil
    go_simp
    go_at_call 48
    refine (rpoint_any key _ hkl).mono ?_
    rintro e w6 ⟨rfl, h5⟩
    have HB6 : Hid (Below w.heap.size w w6) := blThen (by repeat (first | with_reducible exact HB.out | with_reducible exact Below.refl _ _ | with_reducible refine blAlloc ?_ _ | with_reducible refine Below.drew ?_)) h5
    have HO6 := Lib.hid (HO.out.later (blThen (by repeat (first | with_reducible exact Below.refl _ _ | with_reducible refine blAlloc ?_ _ | with_reducible refine Below.drew ?_)) h5))
    clear h5
    refine hK.out _ _ (K3.out _ HB6.out) (fun hHeld => ?_)
    clear hK K
    try simp only [Act.put, List.setIfInBounds_toArray, List.set_cons_zero, List.set_cons_succ]
    refine wpAnyH_ready (rs := [12]) (by kernel_rfl) (by simp) ?_
    refine AllReadyH.cons (o := ⟨_, _, _, _, _, _⟩) rfl (fun K hK => ?_) ?_
    rotate_left
    ·exact AllReadyH.nil
    go_simp
    go_at_call 48
    refine (rpoint_any to _ HT6.out).mono ?_
    rintro e w7 ⟨rfl, h5⟩
    have HB7 : Hid (Below w.heap.size w w7) := blThen (by repeat (first | with_reducible exact HB6.out | with_reducible exact Below.refl _ _ | with_reducible refine blAlloc ?_ _ | with_reducible refine Below.drew ?_)) h5
    have HO7 := Lib.hid (HO6.out.later (blThen (by repeat (first | with_reducible exact Below.refl _ _ | with_reducible refine blAlloc ?_ _ | with_reducible refine Below.drew ?_)) h5))
    clear h5
    refine hK.out _ _ (K3.out _ HB7.out) (fun hHeld => ?_)
    clear hK K
    try simp only [Act.put, List.setIfInBounds_toArray, List.set_cons_zero, List.set_cons_succ]
    refine wpAnyH_ready (rs := [13]) (by kernel_rfl) (by simp) ?_
    refine AllReadyH.cons (o := ⟨_, _, _, _, _, _⟩) rfl (fun K hK => ?_) ?_
    rotate_left
    ·exact AllReadyH.nil
    go_simp
    have HB8 : Hid (Below w.heap.size w (w7.alloc (.cells #[.string key, .string (key ++ ⟨#[0]⟩), .string to, .string (to ++ ⟨#[0]⟩)] 57))) := blAlloc HB7.out _
    have HO8 : Hid (OwnL (w7.alloc (.cells #[.string key, .string (key ++ ⟨#[0]⟩), .string to, .string (to ++ ⟨#[0]⟩)] 57)) w.heap.size (.slice av N cv) D) := HO7.out.later (blAlloc (Below.refl _ _) _)
    refine hK.out _ _ (K3.out _ HB8.out) (fun hHeld => ?_)
    clear hK K
    try simp only [Act.put, List.setIfInBounds_toArray, List.set_cons_zero, List.set_cons_succ]
    refine wpAnyH_ready (rs := [14]) (by kernel_rfl) (by simp) ?_
    refine AllReadyH.cons (o := ⟨_, _, _, _, _, _⟩) rfl (fun K hK => ?_) ?_
    rotate_left
    ·exact AllReadyH.nil
    refine wp_append_sp _ _ rfl w.heap.size _ D rfl HO8.out _ _ [ptS key, ptS to] rfl (row_two w7 (ptS key) (ptS to) _ rfl) (by have := HLL.out; have := HN.out; simp only [List.length_cons, List.length_nil]; omega) HB8.out.size ?_
    intro v9 w9 h1 h2
    have HO9 := Lib.hid h1
    have HB9 : Hid (Below w.heap.size w w9) := grown_below HB8.out HO8.out (Nat.le_refl _) HB8.out.size h2
    clear h1 h2
    refine hK.out _ _ (K3.out _ HB9.out) (fun hHeld => ?_)
    clear hK K
    try simp only [Act.put, List.setIfInBounds_toArray, List.set_cons_zero, List.set_cons_succ]
    refine wpAnyH_take (i := 15) (oi := ⟨_, _, _, _, _, _⟩) (v := ?_) rfl (by kernel_rfl) (by kernel_rfl) (by kernel_rfl) (fun _ _ _ h => h) (Or.inl ⟨by rfl, ?_⟩) (by assumption) ?_
    rotate_left
    ·intro w hSw
     try dsimp only at hSw
     go_simp
     try with_reducible rfl
    try simp only [Act.put, List.setIfInBounds_toArray, List.set_cons_zero, List.set_cons_succ]
    refine wpAnyH_done (by kernel_rfl) ?_ _
    go_wp2
    go_roundw
    case rel => exact ⟨k + 1, hlt, by go_num, by rw [HT.out]; exact HO9.out, HB9.out⟩
    case measure => simp [RowKit.intOf]; omega
  ·have hge : ¬ (k : Int) < (l.length : Int) := by omega
   have hdk : decide ((k : Int) < (l.length : Int)) = false := decide_eq_false hge
   have hdn : decide (k < l.length) = false := decide_eq_false hlt
   have hE : D = l.flatMap rdS := by rw [← HD.out, List.take_of_length_le (by omega)]
   have HE := Lib.hid hE
   clear hE
   have HO := Lib.hid (show OwnL wr w.heap.size (.slice av N cv) D from HO.out)
   go_wp2_with (go_at_call 22; go_must (refine (refunion_any _ D _ (by have := HLL.out; have := HN.out; omega) HO.out.sl).mono ?_; rintro e w2 ⟨v, rfl, h1, h2⟩; rw [HE.out] at h1; have H1 := Lib.hid (h1.mono HB.out.size); have H2 : Hid (Below w.heap.size w w2) := blThen HB.out h2; clear h1 h2))
   go_ret
   exact ⟨_, rfl, H1.out, H2.out⟩
theorem rwrites_any (va : Value) (l : List Opr) (w : World) (hlen : l.length ≤ 1000) (hok : ∀ o ∈ l, okB o = true) (h : SlG eO w va l) : Calls Tryz.prog 24 #[va] w (RetO w (uniL (l.flatMap wrS))) := by
 obtain ⟨a, cap, rfl⟩ := h.form
 have HL := Lib.hid h
 have HOK := Lib.hid hok
 clear h hok
 go_enter Tryz.func24, Tryz.ntmps24
 go_wp2_with fail
 go_loopw [3, 4] (fun v i wr => ∃ k : Nat, k ≤ l.length ∧ i = .int .i64 k ∧ OwnL wr w.heap.size v ((l.take k).flatMap wrS) ∧ Below w.heap.size w wr) (fun _ i _ => l.length - (RowKit.intOf i).toNat)
 case atStart => exact ⟨0, Nat.zero_le _, rfl, OwnL.nil _ _, Below.refl _ _⟩
 case round =>
  obtain ⟨k, hk, rfl, ho, hb⟩ := hrel
  have HB := Lib.hid hb
  have HO := Lib.hid ho
  obtain ⟨av, cv, rfl⟩ := ho.form
  have HLL : Hid (((l.take k).flatMap wrS).length ≤ 2000) := by
   have h1 := flat_len wrS wrS_len (l.take k)
   rw [List.length_take] at h1
   show _ ≤ _
   omega
  clear hb ho
  generalize hD : (l.take k).flatMap wrS = D at *
  generalize hN : D.length = N at *
  have HD := Lib.hid hD
  have HN := Lib.hid hN
  clear hD hN
  by_cases hlt : k < l.length
  ·obtain ⟨⟨kd, key, to, n⟩, hx⟩ := at_lt hlt
   obtain ⟨g, o, hA, hg, d0, d1, d2, d3⟩ := ops_at HL.out hx
   simp only at d0 d1 d2 d3
   have K3 := Lib.hid (fun (Y : World) (hY : Below w.heap.size w Y) => (⟨cell_in hY hg d1, cell_in hY hg d2⟩ : Y.cell? ⟨g, o + k * 4 + 1, none⟩ = some (.string key) ∧ Y.cell? ⟨g, o + k * 4 + 2, none⟩ = some (.string to)))
   have c0 := cell_in HB.out hg d0
   have c1 := cell_in HB.out hg d1
   have c2 := cell_in HB.out hg d2
   obtain ⟨hkd, hky, _, h6, _⟩ := ok_kd (HOK.out _ (List.mem_of_getElem? hx))
   simp only at hky h6
   have hkl : key.size ≤ 1000000000 := by have := key_len hky; omega
   have HK6 : Hid (kd = 6 → to.size ≤ 1000000000) := fun e => by have := key_len (h6 e).1; omega
   have hk1 : (k : Int) < (l.length : Int) := by omega
   have hk0 : (0 : Int) ≤ (k : Int) := by omega
   have hdk : decide ((k : Int) < (l.length : Int)) = true := decide_eq_true hk1
   have hdn : decide (k < l.length) = true := decide_eq_true hlt
   have HT := Lib.hid (flat_take wrS hx)
   rw [HD.out] at HT
   have hcs : kd = 1 ∨ kd = 2 ∨ kd = 3 ∨ kd = 4 ∨ kd = 5 ∨ kd = 6 := by
    unfold Kd at hkd
    simp only at hkd
    omega
   clear hx hkd h6 hky d0 d1 d2 d3
   subst hA
   rcases hcs with rfl | rfl | rfl | rfl | rfl | rfl
   ·clear HK6
    go_wp2
    go_roundw
    case rel => exact ⟨k + 1, hlt, by go_num, by rw [HT.out]; exact (by rw [show wrS (1, key, to, n) = [] from rfl, List.append_nil]; exact HO.out), HB.out⟩
    case measure => simp [RowKit.intOf]; omega
   ·clear HK6
    go_wp2
    go_roundw
    case rel => exact ⟨k + 1, hlt, by go_num, by rw [HT.out]; exact (by rw [show wrS (2, key, to, n) = [] from rfl, List.append_nil]; exact HO.out), HB.out⟩
    case measure => simp [RowKit.intOf]; omega
   ·clear HK6
    go_wp2_with (first
     | (go_at_call 48; refine (rpoint_any key _ hkl).mono ?_; rintro e w2 ⟨rfl, h5⟩; have HB2 : Hid (Below w.heap.size w w2) := blThen HB.out h5; have HO2 := Lib.hid (HO.out.later h5); clear h5)
     | (at_builtin; go_must (refine append_sp rfl _ _ rfl w.heap.size _ D rfl (HO2.out.later (blAlloc (Below.refl _ _) _)) _ [ptS key] rfl (one_sl (box2_new _ (ptS key)) _) (by have := HLL.out; have := HN.out; simp only [List.length_cons, List.length_nil]; omega) (blAlloc HB2.out _).size ?_; intro v3 w3 h1 h2; have HO3 := Lib.hid h1; have HB3 : Hid (Below w.heap.size w w3) := grown_below (blAlloc HB2.out _) (HO2.out.later (blAlloc (Below.refl _ _) _)) (Nat.le_refl _) (blAlloc HB2.out _).size h2; clear h1 h2)))
    go_roundw
    case rel => exact ⟨k + 1, hlt, by go_num, by rw [HT.out]; exact HO3.out, HB3.out⟩
    case measure => simp [RowKit.intOf]; omega
   ·clear HK6
    go_wp2_with (first
     | (go_at_call 48; refine (rpoint_any key _ hkl).mono ?_; rintro e w2 ⟨rfl, h5⟩; have HB2 : Hid (Below w.heap.size w w2) := blThen HB.out h5; have HO2 := Lib.hid (HO.out.later h5); clear h5)
     | (at_builtin; go_must (refine append_sp rfl _ _ rfl w.heap.size _ D rfl (HO2.out.later (blAlloc (Below.refl _ _) _)) _ [ptS key] rfl (one_sl (box2_new _ (ptS key)) _) (by have := HLL.out; have := HN.out; simp only [List.length_cons, List.length_nil]; omega) (blAlloc HB2.out _).size ?_; intro v3 w3 h1 h2; have HO3 := Lib.hid h1; have HB3 : Hid (Below w.heap.size w w3) := grown_below (blAlloc HB2.out _) (HO2.out.later (blAlloc (Below.refl _ _) _)) (Nat.le_refl _) (blAlloc HB2.out _).size h2; clear h1 h2)))
    go_roundw
    case rel => exact ⟨k + 1, hlt, by go_num, by rw [HT.out]; exact HO3.out, HB3.out⟩
    case measure => simp [RowKit.intOf]; omega
   ·clear HK6
    go_wp2_with (first
     | (go_at_call 48; refine (rpoint_any key _ hkl).mono ?_; rintro e w2 ⟨rfl, h5⟩; have HB2 : Hid (Below w.heap.size w w2) := blThen HB.out h5; have HO2 := Lib.hid (HO.out.later h5); clear h5)
     | (at_builtin; go_must (refine append_sp rfl _ _ rfl w.heap.size _ D rfl (HO2.out.later (blAlloc (Below.refl _ _) _)) _ [ptS key] rfl (one_sl (box2_new _ (ptS key)) _) (by have := HLL.out; have := HN.out; simp only [List.length_cons, List.length_nil]; omega) (blAlloc HB2.out _).size ?_; intro v3 w3 h1 h2; have HO3 := Lib.hid h1; have HB3 : Hid (Below w.heap.size w w3) := grown_below (blAlloc HB2.out _) (HO2.out.later (blAlloc (Below.refl _ _) _)) (Nat.le_refl _) (blAlloc HB2.out _).size h2; clear h1 h2)))
    go_roundw
    case rel => exact ⟨k + 1, hlt, by go_num, by rw [HT.out]; exact HO3.out, HB3.out⟩
    case measure => simp [RowKit.intOf]; omega
   ·have HT6 := Lib.hid (HK6.out rfl)
    clear HK6
    go_wp2_with fail
    refine wp_region_held_drew (S := fun Y => Y.cell? ⟨g, o + k * 4 + 1, none⟩ = some (.string key) ∧ Y.cell? ⟨g, o + k * 4 + 2, none⟩ = some (.string to)) (by kernel_rfl) (K3.out _ HB.out.drew) (fun hHeld => ?_)
    refine wpAnyH_take (i := 0) (oi := ⟨_, _, _, _, _, _⟩) (v := ?_) rfl (by kernel_rfl) (by kernel_rfl) (by kernel_rfl) (fun _ _ _ h => h) (Or.inl ⟨by rfl, ?_⟩) (by assumption) ?_
    rotate_left
    ·intro w hSw
     try dsimp only at hSw
     go_simp
     try with_reducible rfl
    try simp only [Act.put, List.setIfInBounds_toArray, List.set_cons_zero, List.set_cons_succ]
    refine wpAnyH_take (i := 1) (oi := ⟨_, _, _, _, _, _⟩) (v := ?_) rfl (by kernel_rfl) (by kernel_rfl) (by kernel_rfl) (fun _ _ _ h => h) (Or.inl ⟨by rfl, ?_⟩) (by assumption) ?_
    rotate_left
    ·intro w hSw
     try dsimp only at hSw
     go_simp
     try with_reducible rfl
    try simp only [Act.put, List.setIfInBounds_toArray, List.set_cons_zero, List.set_cons_succ]
    refine wpAnyH_take (i := 2) (oi := ⟨_, _, _, _, _, _⟩) (v := ?_) rfl (by kernel_rfl) (by kernel_rfl) (by kernel_rfl) (fun _ _ _ h => h) (Or.inl ⟨by rfl, ?_⟩) (by assumption) ?_
    rotate_left
    ·intro w hSw
     try dsimp only at hSw
     go_simp
     try with_reducible rfl
    try simp only [Act.put, List.setIfInBounds_toArray, List.set_cons_zero, List.set_cons_succ]
    refine wpAnyH_take (i := 3) (oi := ⟨_, _, _, _, _, _⟩) (v := ?_) rfl (by kernel_rfl) (by kernel_rfl) (by kernel_rfl) (fun _ _ _ h => h) (Or.inl ⟨by rfl, ?_⟩) (by assumption) ?_
    rotate_left
    ·intro w hSw
     try dsimp only at hSw
     go_simp
     try with_reducible rfl
    try simp only [Act.put, List.setIfInBounds_toArray, List.set_cons_zero, List.set_cons_succ]
    refine wpAnyH_take (i := 4) (oi := ⟨_, _, _, _, _, _⟩) (v := ?_) rfl (by kernel_rfl) (by kernel_rfl) (by kernel_rfl) (fun _ _ _ h => h) (Or.inl ⟨by rfl, ?_⟩) (by assumption) ?_
    rotate_left
    ·intro w hSw
     try dsimp only at hSw
     go_simp
     try with_reducible rfl
    try simp only [Act.put, List.setIfInBounds_toArray, List.set_cons_zero, List.set_cons_succ]
    refine wpAnyH_take (i := 5) (oi := ⟨_, _, _, _, _, _⟩) (v := ?_) rfl (by kernel_rfl) (by kernel_rfl) (by kernel_rfl) (fun _ _ _ h => h) (Or.inl ⟨by rfl, ?_⟩) (by assumption) ?_
    rotate_left
    ·intro w hSw
     try dsimp only at hSw
     go_simp
     try with_reducible rfl
    try simp only [Act.put, List.setIfInBounds_toArray, List.set_cons_zero, List.set_cons_succ]
    refine wpAnyH_take (i := 7) (oi := ⟨_, _, _, _, _, _⟩) (v := ?_) rfl (by kernel_rfl) (by kernel_rfl) (by kernel_rfl) (fun _ _ _ h => h) (Or.inl ⟨by rfl, ?_⟩) (by assumption) ?_
    rotate_left
    ·intro w hSw
     try dsimp only at hSw
     go_simp
     try with_reducible rfl
    try simp only [Act.put, List.setIfInBounds_toArray, List.set_cons_zero, List.set_cons_succ]
    refine wpAnyH_take (i := 8) (oi := ⟨_, _, _, _, _, _⟩) (v := ?_) rfl (by kernel_rfl) (by kernel_rfl) (by kernel_rfl) (fun _ _ _ h => h) (Or.inl ⟨by rfl, ?_⟩) (by assumption) ?_
    rotate_left
    ·intro w hSw
     try dsimp only at hSw
     go_simp
     try with_reducible rfl
    try simp only [Act.put, List.setIfInBounds_toArray, List.set_cons_zero, List.set_cons_succ]
    refine wpAnyH_take (i := 9) (oi := ⟨_, _, _, _, _, _⟩) (v := ?_) rfl (by kernel_rfl) (by kernel_rfl) (by kernel_rfl) (fun _ _ _ h => h) (Or.inl ⟨by rfl, ?_⟩) (by assumption) ?_
    rotate_left
    ·intro w hSw
     try dsimp only at hSw
     go_simp
     try with_reducible rfl
    try simp only [Act.put, List.setIfInBounds_toArray, List.set_cons_zero, List.set_cons_succ]
    refine wpAnyH_take (i := 10) (oi := ⟨_, _, _, _, _, _⟩) (v := ?_) rfl (by kernel_rfl) (by kernel_rfl) (by kernel_rfl) (fun _ _ _ h => h) (Or.inl ⟨by rfl, ?_⟩) (by assumption) ?_
    rotate_left
    ·intro w hSw
     try dsimp only at hSw
     go_simp
     try with_reducible rfl
    try simp only [Act.put, List.setIfInBounds_toArray, List.set_cons_zero, List.set_cons_succ]
    refine wpAnyH_take (i := 11) (oi := ⟨_, _, _, _, _, _⟩) (v := ?_) rfl (by kernel_rfl) (by kernel_rfl) (by kernel_rfl) (fun _ _ _ h => h) (Or.inl ⟨by rfl, ?_⟩) (by assumption) ?_
    rotate_left
    ·intro w hSw
     try dsimp only at hSw
     go_simp
     try with_reducible rfl
    try simp only [Act.put, List.setIfInBounds_toArray, List.set_cons_zero, List.set_cons_succ]
    refine wpAnyH_ready (rs := [6]) (by kernel_rfl) (by simp) ?_
    refine AllReadyH.cons (o := ⟨_, _, _, _, _, _⟩) rfl (fun K hK => ?_) ?_
    rotate_left
    ·exact AllReadyH.nil
    go_simp
    go_at_call 48
    refine (rpoint_any key _ hkl).mono ?_
    rintro e w6 ⟨rfl, h5⟩
    have HB6 : Hid (Below w.heap.size w w6) := blThen (by repeat (first | with_reducible exact HB.out | with_reducible exact Below.refl _ _ | with_reducible refine blAlloc ?_ _ | with_reducible refine Below.drew ?_)) h5
    have HO6 := Lib.hid (HO.out.later (blThen (by repeat (first | with_reducible exact Below.refl _ _ | with_reducible refine blAlloc ?_ _ | with_reducible refine Below.drew ?_)) h5))
    clear h5
    refine hK.out _ _ (K3.out _ HB6.out) (fun hHeld => ?_)
    clear hK K
    try simp only [Act.put, List.setIfInBounds_toArray, List.set_cons_zero, List.set_cons_succ]
    refine wpAnyH_ready (rs := [12]) (by kernel_rfl) (by simp) ?_
    refine AllReadyH.cons (o := ⟨_, _, _, _, _, _⟩) rfl (fun K hK => ?_) ?_
    rotate_left
    ·exact AllReadyH.nil
    go_simp
    go_at_call 48
    refine (rpoint_any to _ HT6.out).mono ?_
    rintro e w7 ⟨rfl, h5⟩
    have HB7 : Hid (Below w.heap.size w w7) := blThen (by repeat (first | with_reducible exact HB6.out | with_reducible exact Below.refl _ _ | with_reducible refine blAlloc ?_ _ | with_reducible refine Below.drew ?_)) h5
    have HO7 := Lib.hid (HO6.out.later (blThen (by repeat (first | with_reducible exact Below.refl _ _ | with_reducible refine blAlloc ?_ _ | with_reducible refine Below.drew ?_)) h5))
    clear h5
    refine hK.out _ _ (K3.out _ HB7.out) (fun hHeld => ?_)
    clear hK K
    try simp only [Act.put, List.setIfInBounds_toArray, List.set_cons_zero, List.set_cons_succ]
    refine wpAnyH_ready (rs := [13]) (by kernel_rfl) (by simp) ?_
    refine AllReadyH.cons (o := ⟨_, _, _, _, _, _⟩) rfl (fun K hK => ?_) ?_
    rotate_left
    ·exact AllReadyH.nil
    go_simp
    have HB8 : Hid (Below w.heap.size w (w7.alloc (.cells #[.string key, .string (key ++ ⟨#[0]⟩), .string to, .string (to ++ ⟨#[0]⟩)] 57))) := blAlloc HB7.out _
    have HO8 : Hid (OwnL (w7.alloc (.cells #[.string key, .string (key ++ ⟨#[0]⟩), .string to, .string (to ++ ⟨#[0]⟩)] 57)) w.heap.size (.slice av N cv) D) := HO7.out.later (blAlloc (Below.refl _ _) _)
    refine hK.out _ _ (K3.out _ HB8.out) (fun hHeld => ?_)
    clear hK K
    try simp only [Act.put, List.setIfInBounds_toArray, List.set_cons_zero, List.set_cons_succ]
    refine wpAnyH_ready (rs := [14]) (by kernel_rfl) (by simp) ?_
    refine AllReadyH.cons (o := ⟨_, _, _, _, _, _⟩) rfl (fun K hK => ?_) ?_
    rotate_left
    ·exact AllReadyH.nil
    refine wp_append_sp _ _ rfl w.heap.size _ D rfl HO8.out _ _ [ptS key, ptS to] rfl (row_two w7 (ptS key) (ptS to) _ rfl) (by have := HLL.out; have := HN.out; simp only [List.length_cons, List.length_nil]; omega) HB8.out.size ?_
    intro v9 w9 h1 h2
    have HO9 := Lib.hid h1
    have HB9 : Hid (Below w.heap.size w w9) := grown_below HB8.out HO8.out (Nat.le_refl _) HB8.out.size h2
    clear h1 h2
    refine hK.out _ _ (K3.out _ HB9.out) (fun hHeld => ?_)
    clear hK K
    try simp only [Act.put, List.setIfInBounds_toArray, List.set_cons_zero, List.set_cons_succ]
    refine wpAnyH_take (i := 15) (oi := ⟨_, _, _, _, _, _⟩) (v := ?_) rfl (by kernel_rfl) (by kernel_rfl) (by kernel_rfl) (fun _ _ _ h => h) (Or.inl ⟨by rfl, ?_⟩) (by assumption) ?_
    rotate_left
    ·intro w hSw
     try dsimp only at hSw
     go_simp
     try with_reducible rfl
    try simp only [Act.put, List.setIfInBounds_toArray, List.set_cons_zero, List.set_cons_succ]
    refine wpAnyH_done (by kernel_rfl) ?_ _
    go_wp2
    go_roundw
    case rel => exact ⟨k + 1, hlt, by go_num, by rw [HT.out]; exact HO9.out, HB9.out⟩
    case measure => simp [RowKit.intOf]; omega
  ·have hge : ¬ (k : Int) < (l.length : Int) := by omega
   have hdk : decide ((k : Int) < (l.length : Int)) = false := decide_eq_false hge
   have hdn : decide (k < l.length) = false := decide_eq_false hlt
   have hE : D = l.flatMap wrS := by rw [← HD.out, List.take_of_length_le (by omega)]
   have HE := Lib.hid hE
   clear hE
   have HO := Lib.hid (show OwnL wr w.heap.size (.slice av N cv) D from HO.out)
   go_wp2_with (go_at_call 22; go_must (refine (refunion_any _ D _ (by have := HLL.out; have := HN.out; omega) HO.out.sl).mono ?_; rintro e w2 ⟨v, rfl, h1, h2⟩; rw [HE.out] at h1; have H1 := Lib.hid (h1.mono HB.out.size); have H2 : Hid (Below w.heap.size w w2) := blThen HB.out h2; clear h1 h2))
   go_ret
   exact ⟨_, rfl, H1.out, H2.out⟩
theorem rreadsP_any (va : Value) (l : List Opr) (w : World) (hlen : l.length ≤ 1000) (hok : ∀ o ∈ l, okB o = true) (h : SlG eO w va l) : Calls Tryz.prog 23 #[va] w (RetO w (readsP l)) := rreads_any va l w hlen hok h
theorem rwritesP_any (va : Value) (l : List Opr) (w : World) (hlen : l.length ≤ 1000) (hok : ∀ o ∈ l, okB o = true) (h : SlG eO w va l) : Calls Tryz.prog 24 #[va] w (RetO w (writesP l)) := rwrites_any va l w hlen hok h

theorem rall_any (va : Value) (l : List Opr) (w : World) (hlen : l.length ≤ 1000) (hok : ∀ o ∈ l, okB o = true) (h : SlG eO w va l) : Calls Tryz.prog 9 #[va] w (RetO w (allP l)) := by
 obtain ⟨a, cap, rfl⟩ := h.form
 have HL := Lib.hid h
 have HOK := Lib.hid hok
 have HR := Lib.hid (reads_len l)
 have HW := Lib.hid (writes_len l)
 clear h hok
 go_enter Tryz.func9, Tryz.ntmps9
 go_wp2_with fail
 refine (rreadsP_any _ l w hlen HOK.out HL.out).mono ?_
 rintro e w1 ⟨v, rfl, h1, h2⟩
 have HB1 := Lib.hid h2
 have HO1 : Hid (OwnL w1 w.heap.size v (readsP l)) := h1
 obtain ⟨g1, d1, rfl⟩ := h1.form
 clear h1 h2
 go_wp2_with fail
 refine (rwritesP_any _ l _ hlen HOK.out (HL.out.later HB1.out)).mono ?_
 rintro e w2 ⟨v, rfl, h1, h2⟩
 have HB2 : Hid (Below w.heap.size w w2) := blThen HB1.out h2
 have HO2 : Hid (OwnL w2 w1.heap.size v (writesP l)) := h1
 have HP1 := Lib.hid (HO1.out.later h2)
 obtain ⟨g2, d2, rfl⟩ := h1.form
 clear h1 h2
 generalize hNr : (readsP l).length = nr at *
 generalize hNw : (writesP l).length = nw at *
 have HNr := Lib.hid hNr
 have HNw := Lib.hid hNw
 clear hNr hNw
 go_wp2_with (at_builtin; go_must (refine append_sp rfl _ _ rfl w.heap.size _ (readsP l) rfl HP1.out _ (writesP l) rfl HO2.out.sl (by have := HR.out; have := HW.out; have := HNr.out; have := HNw.out; omega) HB2.out.size ?_; intro v3 w3 h1 h2; have HO3 := Lib.hid h1; have HB3 : Hid (Below w.heap.size w w3) := grown_below HB2.out HP1.out (Nat.le_refl _) HB2.out.size h2; obtain ⟨g3, d3, rfl⟩ := h1.form; clear h1 h2))
 have HLN : Hid ((readsP l ++ writesP l).length ≤ 100000) := by
  show _ ≤ _
  rw [List.length_append, HNr.out, HNw.out]
  have := HR.out; have := HW.out; omega
 have HU := Lib.hid (refunion_any (.slice g3 (readsP l ++ writesP l).length d3) (readsP l ++ writesP l) w3 (by have := HLN.out; omega) HO3.out.sl)
 generalize hN : (readsP l ++ writesP l).length = N at *
 have hN2 : nr + nw = N := by rw [← hN, List.length_append, HNr.out, HNw.out]
 simp only [List.length_append, HNr.out, HNw.out, hN2]
 clear hN hN2
 refine HU.out.mono ?_
 rintro e w4 ⟨v, rfl, h1, h2⟩
 have H1 := Lib.hid (h1.mono HB3.out.size)
 have H2 : Hid (Below w.heap.size w w4) := blThen HB3.out h2
 clear h1 h2
 go_wp2
 go_ret
 exact ⟨_, rfl, H1.out, H2.out⟩

def AnsL (w : World) (v : Value) (l : List AnR) : Prop := SlG eA w v l ∧ ∀ r ∈ l, SlG eP w (.slice r.at_ r.prs.length r.cap) r.prs
theorem AnsL.later {W wr : World} {v : Value} {l : List AnR} (h : AnsL W v l) (hw : Below W.heap.size W wr) : AnsL wr v l := ⟨h.1.later hw, fun r hr => (h.2 r hr).later hw⟩
theorem map_take {α β : Type} (f : α → β) {l : List α} {m : List α} {q : Nat} {s t : α} (h : (l.take q).map f = (m.take q).map f) (hs : l[q]? = some s) (ht : m[q]? = some t) (e : f s = f t) : (l.take (q + 1)).map f = (m.take (q + 1)).map f := by
 rw [List.take_add_one, List.take_add_one, hs, ht, List.map_append, List.map_append, h]
 simp [e]
end SP
end Go.Proofs.YtpdfcojcmhadnaaGreat
