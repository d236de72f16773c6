/- accept, At of package choose. Conditions: at most a thousand that tell. -/
import Derived.Deep.RegionLaw
import Derived.WalkSpells
import Derived.Test.YtpdfcojcmhadnaaGreatMg49
import Derived.Test.YtpdfcojcmhadnaaGreatMg38
set_option maxRecDepth 100000
set_option maxHeartbeats 16000000
set_option linter.unusedVariables false
set_option linter.unusedSimpArgs false
namespace Go.Proofs.YtpdfcojcmhadnaaGreat
open S3 SC SN SP
namespace SB
open Go.ChangeShapes Go.WideShapes Go.ChangeAt Go.RowKit Go.Joins Go.Deep
def agreedB (S : List S4.Sh) (i1 i2 : Int) (l : List Td) (p : Int) : Bool := !(l.filter (keepB S p)).isEmpty && !(l.filter (keepB S p)).any (differsB i1 i2)
theorem cell_rowB {Y : World} {k : Nat} {c : Array Value} {T : TypeId} (h : Y.heap[k]? = some (.cells c T (0, 0))) (i : Nat) (v : Value) (hi : c[i]? = some v) : Y.cell? ⟨k, i, none⟩ = some v := (cell_of_row Y k i c T (0, 0) h).trans hi
theorem results_twoB {P : Program} {fn : Func} {p q : Tmp} (h : fn.results = #[.tmp p, .tmp q]) (tmps : Array Value) (w : World) : (results fn tmps).run P w = .ok (.tuple #[tmps.getD p undef, tmps.getD q undef]) w := by simp [results, h]
theorem agreed_any (i1 i2 p : Int) (sa : Option Addr) (sc : Nat) (S : List S4.Sh) (va : Value) (l : List Td) (W : World) (hlen : l.length ≤ 1000) (hl : SlG eT W va l) (hS : S.length ≤ 1000000) (hn5 : ∀ s ∈ S, s.nodes.length ≤ 1000000) (ha : S4.Hl W sa S) :
  Calls Tryz.prog 27 #[.slice sa S.length sc, .agg #[.int .i64 i1, .int .i64 i2], .int .i64 p, va] W fun e w' => e = .returned (.tuple #[.slice none 0 0, .bool (agreedB S i1 i2 l p)]) ∧ Below W.heap.size W w' := by
 obtain ⟨w0, he0, HS0, K0, K1, K2, HB0⟩ := box3B W (.cells #[.slice sa S.length sc] 22) (.cells #[.int .i64 i1, .int .i64 i2] 24) (.cells #[.int .i64 p] 3)
 have h0 : W.heap.size < w0.heap.size := by have := HS0.out; omega
 have h1 : W.heap.size + 1 < w0.heap.size := by have := HS0.out; omega
 have h2 : W.heap.size + 1 + 1 < w0.heap.size := by have := HS0.out; omega
 have HPK : Hid (Calls Tryz.prog 28 #[va, .func (.func 50) #[] #[.pointer (some ⟨W.heap.size, 0, none⟩), .pointer (some ⟨W.heap.size + 1 + 1, 0, none⟩)]] w0 (RetP w0 (l.filter (keepB S p)))) := Lib.hid (pickKeeps_any sa sc S p _ _ va l w0 hlen (hl.later HB0.out) hS hn5 (ha.later HB0.out) h0 h2 (cell_rowB K0.out 0 _ rfl) (cell_rowB K2.out 0 _ rfl))
 have HE : Hid (agreedB S i1 i2 l p = (!(l.filter (keepB S p)).isEmpty && !(l.filter (keepB S p)).any (differsB i1 i2))) := rfl
 have HLN : Hid ((l.filter (keepB S p)).length ≤ 1000) := Lib.hid (Nat.le_trans (List.length_filter_le _ _) hlen)
 rw [HE.out]
 clear hl ha HE
 generalize l.filter (keepB S p) = H at *
 have L0 := Lib.hid h0
 have L1 := Lib.hid h1
 have L2 := Lib.hid h2
 cases H with
 | nil =>
  have HD : Hid ((!([] : List Td).isEmpty && !([] : List Td).any (differsB i1 i2)) = false) := rfl
  rw [HD.out]
  go_enter Tryz.func27, Tryz.ntmps27
  go_upto_region 1 with fail
  rw [← he0]
  clear he0
  go_upto_region 2 with (go_at_call 28; go_must (refine HPK.out.mono ?_; rintro e w1 ⟨hv, rfl, ho, hb⟩; have HO := Lib.hid ho; have HB1 := Lib.hid (blThen HB0.out hb); have K0_1 := row_upB K0 L0 hb; have K1_1 := row_upB K1 L1 hb; have K2_1 := row_upB K2 L2 hb; have L0_1 := lt_upB L0 hb; have L1_1 := lt_upB L1 hb; have L2_1 := lt_upB L2 hb; obtain ⟨hva2, hca2, rfl⟩ := ho.form; clear ho hb))
  go_wp2
  refine bodyPost_ret (results_twoB Tryz.results27 _ _) rfl ?_
  exact ⟨rfl, HB1.out⟩
 | cons x0 r =>
  have HD : Hid ((!(x0 :: r).isEmpty && !(x0 :: r).any (differsB i1 i2)) = !(x0 :: r).any (differsB i1 i2)) := Lib.hid (by simp)
  rw [HD.out]
  clear HD
  have hn1 : ((((x0 :: r).length : Nat) : Int) == 0) = false := by
   simp only [List.length_cons, beq_eq_false_iff_ne, ne_eq]
   omega
  have hn0 : ((0 : Int) < (((x0 :: r).length : Nat) : Int)) := by
   simp only [List.length_cons]
   omega
  have hn2 : 0 < (x0 :: r).length := by simp only [List.length_cons]; omega
  have HX0 : Hid ((x0 :: r)[0]? = some x0) := rfl
  generalize (x0 :: r) = H at *
  go_enter Tryz.func27, Tryz.ntmps27
  go_upto_region 1 with fail
  rw [← he0]
  clear he0
  go_upto_region 2 with (go_at_call 28; go_must (refine HPK.out.mono ?_; rintro e w1 ⟨hv, rfl, ho, hb⟩; have HO := Lib.hid ho; have HB1 := Lib.hid (blThen HB0.out hb); have K0_1 := row_upB K0 L0 hb; have K1_1 := row_upB K1 L1 hb; have K2_1 := row_upB K2 L2 hb; have L0_1 := lt_upB L0 hb; have L1_1 := lt_upB L1 hb; have L2_1 := lt_upB L2 hb; obtain ⟨hva2, hca2, rfl⟩ := ho.form; clear ho hb))
  obtain ⟨g, o, hgo, hg, hr⟩ := told_at HO.out.sl HX0.out
  obtain rfl := hgo
  have c5 : w1.cell? ⟨g, o + 5, none⟩ = some (.slice none 0 0) := by simpa using hr 5 _ rfl
  have HSL := Lib.hid HO.out.sl
  clear hr HPK HO
  generalize H.length = hn at hn0 hn1 hn2 HSL ⊢
  have p0 := cell_rowB K2_1.out 0 _ rfl
  go_upto_region 4 with fail
  have l2 := L2_1.out
  go_cut [11] from 19 to 24 (fun s11 wx => ∃ b, s11 = .pointer (some ⟨b, 0, none⟩) ∧ b < wx.heap.size ∧ wx.cell? ⟨b, 0, none⟩ = some (.slice none 0 0) ∧ Below w1.heap.size w1 wx)
  case first =>
   go_region_law ((try go_simp); go_at_call 52; refine (get0_any p _).mono ?_; rintro e w2 ⟨rfl, hb⟩; try (have qb : w2.heap[w1.heap.size]? = some (.cells #[.slice none 0 0] 49 (0, 0)) := (hb.block w1.heap.size (by simp)).trans (new_blockB w1.drew _ _); have q0 := cell_rowB qb 0 _ rfl; have q1 := frozen_of_row w2 w1.heap.size 0 _ _ qb))
   all_goals
    go_wp2_with fail
    go_meet
    first
     | exact ⟨w2.heap.size, rfl, by simp, cell_rowB (new_blockB w2 _ _) 0 _ rfl, blAlloc (blThen ((Below.refl w1.heap.size w1).drew) hb) _⟩
     | exact ⟨w1.heap.size, rfl, by simpa using lt_of_block qb, World.cell?_setCell_same _ _ _ q0, blSet (blThen (blAlloc ((Below.refl w1.heap.size w1).drew) _) hb) (p := ⟨w1.heap.size, 0, none⟩) (Nat.le_refl _) _⟩
  case rest =>
   obtain ⟨b, e11, hbl, hbc, hbb⟩ := hcut
   rename World => wc
   rw [e11]
   clear e11
   have HB2 := Lib.hid (blThen HB1.out hbb)
   have K1_2 := row_upB K1_1 L1_1 hbb
   have K2_2 := row_upB K2_1 L2_1 hbb
   have L1_2 := lt_upB L1_1 hbb
   have L2_2 := lt_upB L2_1 hbb
   have HSL2 := Lib.hid (HSL.out.later hbb)
   have HC := Lib.hid (containsD_any i1 i2 p none 0 _ _ b _ H wc HLN.out HSL2.out L1_2.out L2_2.out hbl (cell_rowB K1_2.out 0 _ rfl) (cell_rowB K1_2.out 1 _ rfl) (cell_rowB K2_2.out 0 _ rfl) hbc)
   cases hq : H.any (differsB i1 i2)
   all_goals
    have HQ := Lib.hid hq
    rw [hq] at HC
    clear hq hn0 hn1 hn2 c5 p0
    go_wp2_with (go_at_call 56; go_must (refine HC.out.mono ?_; rintro e w3 ⟨rfl, h5⟩; have k11 := cell_in h5 hbl hbc; have HB3 := Lib.hid (blThen HB2.out h5); clear h5))
    refine bodyPost_ret (results_twoB Tryz.results27 _ _) rfl ?_
    exact ⟨by rw [HQ.out]; rfl, HB3.out⟩

theorem own_neB {α : Type} {E : Enc α} {T U : TypeId} {w : World} {base : Nat} {v : Value} {l : List α} {j : Nat} {c : Array Value} (h : OwnG E T w base v l) (hj : w.heap[j]? = some (.cells c U (0, 0))) (ht : T ≠ U) : v.ownBlock ≠ some j := by
 obtain ⟨h1, ⟨rfl, _⟩ | ⟨g, cap, cur, rfl, hg, hh, _⟩⟩ := h
 ·simp [Value.ownBlock]
 ·simp only [Value.ownBlock, ne_eq, Option.some.injEq]
  rintro rfl
  rw [hj] at hh
  simp only [Option.some.injEq, Obj.cells.injEq] at hh
  exact ht hh.2.1.symm
theorem results_cell_tmpB {P : Program} {fn : Func} {p q : Tmp} {ty : TypeId} (h : fn.results = #[.cell p ty, .tmp q]) (tmps : Array Value) (w : World) (g : Nat) (t : TypeId) (cs : Array Value) (fr : Nat × Nat) (d : TypeDesc)
  (hp : tmps.getD p undef = .pointer (some ⟨g, 0, none⟩)) (hg : w.heap[g]? = some (.cells cs t fr))
  (hu : P.underlying ty = some d) (hd : (match d with | .struct _ | .array _ _ => true | _ => false) = true) (hi : (P.info? ty).map (·.size) = some cs.size) :
  (results fn tmps).run P w = .ok (.tuple #[.agg cs, tmps.getD q undef]) w := by
 have hp' : tmps[p]?.getD undef = .pointer (some ⟨g, 0, none⟩) := by simpa using hp
 simp [results, h, hp', asAddr, run_loadVar_row w g t ty cs fr d hg hu hd hi]
def eK : Enc Int := ⟨fun s => [.int .i64 s, .slice none 0 0], 2, fun _ => rfl, fun x => by simp [Value.oneCell'], by decide⟩
theorem info_K : (Tryz.prog.info? 51).map (fun i => (i.zero, i.size, i.bytes)) = some (some (.agg #[.int .i64 0, .slice none 0 0]), eK.K, 32) := by kernel_rfl
theorem one_KB (X : World) (t : TypeId) (x : Int) (n : Nat) (cs : Array Value) (hcs : cs = #[.int .i64 x, .slice none 0 0]) (h : X.heap.size = n) : SlG eK (X.alloc (.cells cs t)) (.slice (some ⟨n, 0, none⟩) 1 1) [x] := by
 subst h
 subst hcs
 refine ⟨_, 1, rfl, fun h => (by cases h), fun _ => ⟨X.heap.size, 0, rfl, by simp, fun i y hi j u hu => ?_⟩⟩
 have hb := new_blockB X #[.int .i64 x, .slice none 0 0] t
 cases i with
 | zero =>
  simp only [List.getElem?_cons_zero, Option.some.injEq] at hi
  subst hi
  simp only [World.cell?, hb]
  rw [Nat.zero_mul, Nat.add_zero, Nat.zero_add, ← Array.getElem?_toList]
  exact hu
 | succ i => simp at hi
def okP (S : List S4.Sh) (i1 i2 : Int) (P : List Int) (l : List Td) (k : Nat) : Bool := !(S4.hasN P (k : Int)) || agreedB S i1 i2 l (k : Int)
def fastB (S : List S4.Sh) (i1 i2 : Int) (P : List Int) (l : List Td) : Bool := (List.range S.length).all (okP S i1 i2 P l)
theorem fast_no {S : List S4.Sh} {i1 i2 : Int} {P : List Int} {l : List Td} {k : Nat} (hk : k < S.length) (h : okP S i1 i2 P l k = false) : fastB S i1 i2 P l = false := by
 unfold fastB
 rw [List.all_eq_false]
 exact ⟨k, List.mem_range.2 hk, by rw [h]; simp⟩
theorem all_up {p : Nat → Bool} {k : Nat} (h : (List.range k).all p = true) (hk : p k = true) : (List.range (k + 1)).all p = true := by
 rw [List.range_succ, List.all_append, h]
 simp [hk]
theorem szVlB : (Tryz.prog.info? 38).map (·.size) = some 4 := by kernel_rfl
def RetF (W : World) (i1 i2 : Int) (b : Bool) (e : Ending) (w' : World) : Prop := ∃ (a : Option Addr) (n c : Nat), e = .returned (.tuple #[.agg (if b then #[.bool false, .int .i64 i1, .int .i64 i2, .slice a n c] else #[.bool false, .int .i64 0, .int .i64 0, .slice none 0 0]), .bool b]) ∧ Below W.heap.size W w'
theorem fast_any (i1 i2 : Int) (sa : Option Addr) (sc : Nat) (S : List S4.Sh) (ap : Option Addr) (cp : Nat) (P : List Int) (va : Value) (l : List Td) (W : World) (hlen : l.length ≤ 1000) (hl : SlG eT W va l) (hS : S.length ≤ 1000) (hn5 : ∀ s ∈ S, s.nodes.length ≤ 1000000) (ha : S4.Hl W sa S) (hP : P.length ≤ 1000000) (hp : S4.Il W ap cp P) :
  Calls Tryz.prog 11 #[.slice sa S.length sc, .agg #[.int .i64 i1, .int .i64 i2], .slice ap P.length cp, va] W (RetF W i1 i2 (fastB S i1 i2 P l)) := by
 obtain ⟨w0, he0, HS0, K5, K8, HB0⟩ := box2B W (.cells #[.int .i64 i1, .int .i64 i2] 24) (.cells #[.bool false, .int .i64 0, .int .i64 0, .slice none 0 0] 38)
 have h5 : W.heap.size < w0.heap.size := by have := HS0.out; omega
 have h8 : W.heap.size + 1 < w0.heap.size := by have := HS0.out; omega
 have L5 := Lib.hid h5
 have L8 := Lib.hid h8
 have HSL := Lib.hid hl
 have HSA := Lib.hid ha
 have HSP := Lib.hid hp
 have HAG : Hid (∀ (k : Nat) (Y : World), Below W.heap.size W Y → Calls Tryz.prog 27 #[.slice sa S.length sc, .agg #[.int .i64 i1, .int .i64 i2], .int .i64 (k : Int), va] Y fun e w' => e = .returned (.tuple #[.slice none 0 0, .bool (agreedB S i1 i2 l (k : Int))]) ∧ Below Y.heap.size Y w') := Lib.hid (fun k Y hY => agreed_any i1 i2 k sa sc S va l Y hlen (hl.later hY) (by omega) hn5 (ha.later hY))
 have HCO : Hid (∀ (k : Nat) (Y : World), Below W.heap.size W Y → Calls Tryz.prog 26 #[.slice ap P.length cp, .int .i64 (k : Int)] Y fun e w' => e = .returned (.bool (S4.hasN P (k : Int))) ∧ Below Y.heap.size Y w') := Lib.hid (fun k Y hY => S5.contains_any ap cp P k Y hP (hp.later hY))
 clear hl ha hp
 go_enter Tryz.func11, Tryz.ntmps11
 go_upto_region 1 with fail
 rw [← he0]
 clear he0
 go_upto_region 2 with (first | go_skip | ((with_reducible refine atW w0 ?_); refine wpList_load_part _ _ rfl (by rfl) _ 0 rfl K5.out Tryz.underlying24 rfl #[.int .i64 i1, .int .i64 i2] (by kernel_rfl) (two_at rfl rfl) ?_))
 have K10 : Hid ((w0.alloc (.cells #[.bool false, .int .i64 i1, .int .i64 i2, .slice none 0 0] 38)).heap[w0.heap.size]? = some (.cells #[.bool false, .int .i64 i1, .int .i64 i2, .slice none 0 0] 38 (0, 0))) := new_blockB w0 _ _
 have hb1 : Below w0.heap.size w0 (w0.alloc (.cells #[.bool false, .int .i64 i1, .int .i64 i2, .slice none 0 0] 38)) := blAlloc (Below.refl _ _) _
 have hs1 : w0.heap.size < (w0.alloc (.cells #[.bool false, .int .i64 i1, .int .i64 i2, .slice none 0 0] 38)).heap.size := by simp
 generalize (w0.alloc (.cells #[.bool false, .int .i64 i1, .int .i64 i2, .slice none 0 0] 38)) = w1 at *
 have K5_1 := row_upB K5 L5 hb1
 have K8_1 := row_upB K8 L8 hb1
 have HB1 := Lib.hid (blThen HB0.out hb1)
 have HWB : Hid (W.heap.size + 1 < w0.heap.size) := Lib.hid h8
 generalize w0.heap.size = b10 at *
 go_wp2
 go_loopw [18] (fun i wr => ∃ (k : Nat) (D : List Int) (dv : Value), k ≤ S.length ∧ i = .int .i64 k ∧ (List.range k).all (okP S i1 i2 P l) = true ∧ D.length ≤ k ∧ OwnG eK 51 wr W.heap.size dv D ∧ wr.heap[W.heap.size]? = some (.cells #[.int .i64 i1, .int .i64 i2] 24 (0, 0)) ∧ wr.heap[W.heap.size + 1]? = some (.cells #[.bool false, .int .i64 0, .int .i64 0, .slice none 0 0] 38 (0, 0)) ∧ wr.heap[b10]? = some (.cells #[.bool false, .int .i64 i1, .int .i64 i2, dv] 38 (0, 0)) ∧ Below W.heap.size W wr) (fun i _ => S.length - (RowKit.intOf i).toNat)
 case atStart => exact ⟨0, [], _, Nat.zero_le _, rfl, rfl, Nat.le_refl _, OwnG.nil _ _, K5_1.out, K8_1.out, K10.out, HB1.out⟩
 case round =>
  clear K5 K8 K5_1 K8_1 K10 HB1 HB0 L5 L8
  obtain ⟨k, D, dv, hk, rfl, hal, hdl, ho, k5, k8, k10, hb⟩ := hrel
  have HAL := Lib.hid hal
  have HDL := Lib.hid hdl
  have HO := Lib.hid ho
  have K5 := Lib.hid k5
  have K8 := Lib.hid k8
  have K10 := Lib.hid k10
  have L5 := Lib.hid (lt_of_block k5)
  have L8 := Lib.hid (lt_of_block k8)
  have L10 := Lib.hid (lt_of_block k10)
  have HB := Lib.hid hb
  obtain ⟨av, cv, rfl⟩ := ho.form
  clear hal hdl ho k5 k8 k10 hb
  generalize hdn : D.length = dn at HO K10 ⊢
  have HDN := Lib.hid hdn
  clear hdn
  by_cases hlt : k < S.length
  ·have hk0 : (0 : Int) ≤ (k : Int) := by omega
   have hk1 : (k : Int) < (S.length : Int) := by omega
   have hdk : decide ((k : Int) < (S.length : Int)) = true := decide_eq_true hk1
   have HA := Lib.hid (HAG.out k)
   have HC := Lib.hid (HCO.out k)
   have HNO := Lib.hid (fun h => fast_no (i1 := i1) (i2 := i2) (P := P) (l := l) hlt h)
   have HUP := Lib.hid (fun h => all_up HAL.out h)
   have HOK : Hid (okP S i1 i2 P l k = (!(S4.hasN P (k : Int)) || agreedB S i1 i2 l (k : Int))) := rfl
   clear HAG HCO
   cases hq : S4.hasN P (k : Int)
   ·rw [hq] at HC HOK
    have HY : Hid (okP S i1 i2 P l k = true) := HOK.out.trans (by simp)
    clear hq
    go_wp2_with (first | go_skip | (go_at_call 26; go_must (refine (HC.out wr HB.out).mono ?_; rintro e w2 ⟨rfl, h⟩; have HB2 := Lib.hid (blThen HB.out h); have K5_2 := row_upB K5 L5 h; have K8_2 := row_upB K8 L8 h; have K10_2 := row_upB K10 L10 h; have HO2 := Lib.hid (HO.out.later h); clear h)))
    go_roundw
    case rel => exact ⟨k + 1, D, _, hlt, by go_num, HUP.out HY.out, by have := HDL.out; omega, HO2.out, K5_2.out, K8_2.out, K10_2.out, HB2.out⟩
    case measure => simp [RowKit.intOf]; omega
   ·rw [hq] at HC HOK
    clear hq
    cases hg : agreedB S i1 i2 l (k : Int)
    ·rw [hg] at HA HOK
     have HY : Hid (fastB S i1 i2 P l = false) := HNO.out (HOK.out.trans (by simp))
     clear hg
     go_wp2_with (first
      | go_skip
      | ((with_reducible refine atW w2 ?_); refine wpList_load_part _ _ rfl (by rfl) _ 0 rfl K5_2.out Tryz.underlying24 rfl #[.int .i64 i1, .int .i64 i2] (by kernel_rfl) (two_at rfl rfl) ?_)
      | ((with_reducible refine atW w3 ?_); refine wpList_store_part _ _ _ rfl (by rfl) _ 0 rfl rfl (cs := #[.bool false, .int .i64 0, .int .i64 0, .slice none 0 0]) rfl K8_3.out szVlB (by decide) (by simp [Value.oneCell']) (D := #[.bool false, .int .i64 0, .int .i64 0, .slice none 0 0]) rfl ?_; intro w4 h1 h2; have K8_4 := Lib.hid h1; have HB4 : Hid (Below W.heap.size W w4) := Lib.hid (below_grownB HB3.out h2 (by omega)); clear h1 h2)
      | (go_at_call 26; go_must (refine (HC.out wr HB.out).mono ?_; rintro e w2 ⟨rfl, h⟩; have HB2 := Lib.hid (blThen HB.out h); have K5_2 := row_upB K5 L5 h; have K8_2 := row_upB K8 L8 h; have L8_2 := lt_upB L8 h; clear h))
      | (go_at_call 27; go_must (refine (HA.out w2 HB2.out).mono ?_; rintro e w3 ⟨rfl, h⟩; have HB3 := Lib.hid (blThen HB2.out h); have K8_3 := row_upB K8_2 L8_2 h; clear h)))
     refine bodyPost_ret (results_cell_tmpB Tryz.results11 _ _ _ 38 _ (0, 0) _ rfl K8_4.out Tryz.underlying38 rfl szVlB) rfl ?_
     exact ⟨none, 0, 0, by rw [HY.out]; rfl, HB4.out⟩
    ·rw [hg] at HA HOK
     have HY : Hid (okP S i1 i2 P l k = true) := HOK.out.trans (by simp)
     clear hg
     go_wp2_with (first
      | go_skip
      | ((with_reducible refine atW w2 ?_); refine wpList_load_part _ _ rfl (by rfl) _ 0 rfl K5_2.out Tryz.underlying24 rfl #[.int .i64 i1, .int .i64 i2] (by kernel_rfl) (two_at rfl rfl) ?_)
      | ((with_reducible refine atW w3 ?_); refine wpList_load_one _ _ rfl (by rfl) _ 3 rfl K10_3.out Tryz.underlying36 rfl rfl ?_)
      | (go_at_call 26; go_must (refine (HC.out wr HB.out).mono ?_; rintro e w2 ⟨rfl, h⟩; have HB2 := Lib.hid (blThen HB.out h); have K5_2 := row_upB K5 L5 h; have K8_2 := row_upB K8 L8 h; have K10_2 := row_upB K10 L10 h; have L5_2 := lt_upB L5 h; have L8_2 := lt_upB L8 h; have L10_2 := lt_upB L10 h; have HO2 := Lib.hid (HO.out.later h); clear h))
      | (go_at_call 27; go_must (refine (HA.out w2 HB2.out).mono ?_; rintro e w3 ⟨rfl, h⟩; have HB3 := Lib.hid (blThen HB2.out h); have K5_3 := row_upB K5_2 L5_2 h; have K8_3 := row_upB K8_2 L8_2 h; have K10_3 := row_upB K10_2 L10_2 h; have L5_3 := lt_upB L5_2 h; have L8_3 := lt_upB L8_2 h; have L10_3 := lt_upB L10_2 h; have HO3 := Lib.hid (HO2.out.later h); clear h))
      | (at_builtin; go_must (refine append_G 36 _ 32 info_K Tryz.underlying36 rfl (by decide) rfl _ _ rfl W.heap.size _ D rfl (HO3.out.later (blAlloc (Below.refl _ _) _)) _ [(k : Int)] rfl (one_KB _ _ _ _ _ rfl rfl) (by have := HDL.out; simp only [List.length_cons, List.length_nil]; omega) (blAlloc HB3.out _).size ?_; intro v4 w4 h1 h2; have hq := blAlloc (Below.refl w3.heap.size w3) (.cells #[.int .i64 (k : Int), .slice none 0 0] 51); obtain ⟨av4, cv4, rfl⟩ := h1.form; generalize hn4 : (D ++ [(k : Int)]).length = dn4 at h1 ⊢; have HN4 := Lib.hid hn4; clear hn4; have HO4 := Lib.hid h1; have k5 := row_upB K5_3 L5_3 hq; have k8 := row_upB K8_3 L8_3 hq; have k10 := row_upB K10_3 L10_3 hq; have o4 := HO3.out.later hq; have K5_4 : Hid (w4.heap[W.heap.size]? = some (.cells #[.int .i64 i1, .int .i64 i2] 24 (0, 0))) := (h2.block _ (lt_of_block k5.out) (fun e => own_neB o4 k5.out (by decide) e.symm)).trans k5.out; have K8_4 : Hid (w4.heap[W.heap.size + 1]? = some (.cells #[.bool false, .int .i64 0, .int .i64 0, .slice none 0 0] 38 (0, 0))) := (h2.block _ (lt_of_block k8.out) (fun e => own_neB o4 k8.out (by decide) e.symm)).trans k8.out; have K10_4 : Hid (w4.heap[b10]? = some (.cells #[.bool false, .int .i64 i1, .int .i64 i2, .slice av dn cv] 38 (0, 0))) := (h2.block _ (lt_of_block k10.out) (fun e => own_neB o4 k10.out (by decide) e.symm)).trans k10.out; have HB4 : Hid (Below W.heap.size W w4) := grown_belowG (blAlloc HB3.out _) o4 (Nat.le_refl _) (blAlloc HB3.out _).size h2; clear h1 h2 k5 k8 k10 o4 hq))
      | ((with_reducible refine atW w4 ?_); refine wpList_store_part _ _ _ rfl (by rfl) _ 3 rfl rfl (cs := #[.slice av4 dn4 cv4]) rfl K10_4.out (by kernel_rfl) (by simp) (by simp [Value.oneCell']) (D := #[.bool false, .int .i64 i1, .int .i64 i2, .slice av4 dn4 cv4]) rfl ?_; intro w5 h1 h2; have K10_5 := Lib.hid h1; have K5_5 := grown_otherB K5_4 h2 (lt_of_block K5_4.out) (by omega); have K8_5 := grown_otherB K8_4 h2 (lt_of_block K8_4.out) (by omega); have HO5 := Lib.hid (HO4.out.kept h2 (.inl (own_neB HO4.out K10_4.out (by decide)))); have HB5 : Hid (Below W.heap.size W w5) := Lib.hid (below_grownB HB4.out h2 (by omega)); clear h1 h2))
     go_roundw
     case rel => exact ⟨k + 1, D ++ [(k : Int)], _, hlt, by go_num, HUP.out HY.out, by have := HDL.out; simp only [List.length_append, List.length_cons, List.length_nil]; omega, HO5.out, K5_5.out, K8_5.out, K10_5.out, HB5.out⟩
     case measure => simp [RowKit.intOf]; omega
  ·obtain rfl : k = S.length := by omega
   have hdk : decide ((S.length : Int) < (S.length : Int)) = false := by simp
   have HY : Hid (fastB S i1 i2 P l = true) := HAL.out
   go_wp2_with (first
    | go_skip
    | ((with_reducible refine atW wr ?_); refine wpList_load_part _ _ rfl (by rfl) _ 0 rfl K10.out Tryz.underlying38 rfl #[.bool false, .int .i64 i1, .int .i64 i2, .slice av dn cv] (by kernel_rfl) all_atB ?_)
    | ((with_reducible refine atW wr ?_); refine wpList_store_part _ _ _ rfl (by rfl) _ 0 rfl rfl (cs := #[.bool false, .int .i64 i1, .int .i64 i2, .slice av dn cv]) rfl K8.out szVlB (by simp) (by simp [Value.oneCell']) (D := #[.bool false, .int .i64 i1, .int .i64 i2, .slice av dn cv]) rfl ?_; intro w4 h1 h2; have K8_4 := Lib.hid h1; have HB4 : Hid (Below W.heap.size W w4) := Lib.hid (below_grownB HB.out h2 (by omega)); clear h1 h2))
   refine bodyPost_ret (results_cell_tmpB Tryz.results11 _ _ _ 38 _ (0, 0) _ rfl K8_4.out Tryz.underlying38 rfl szVlB) rfl ?_
   exact ⟨av, dn, cv, by rw [HY.out]; rfl, HB4.out⟩

theorem store_rowB {w : World} {ops : Array Oper} {rest : List Oper} {o : Oper} {a : Act} {Q : Exit → Act → World → Prop} (ty : TypeId) (x y : Operand) (ho : o.op = .store ty x y) (hgd : o.guard = none) (g : Nat) (hx : a.eval x = .pointer (some ⟨g, 0, none⟩)) {cells : Array Value} (hy : a.eval y = .agg cells) {old : Array Value} {T : TypeId}
  (hg : w.heap[g]? = some (.cells old T (0, 0))) (hi : (Tryz.prog.info? ty).map (·.size) = some cells.size) (hold : old.size = cells.size) (h1 : cells.all (·.oneCell') = true)
  (h : ∀ w', w'.heap[g]? = some (.cells cells T (0, 0)) → w.grownBy w' (some g) → wpList Tryz.prog ops Q rest (a.put o.dst undef) w') : wpList Tryz.prog ops Q (o :: rest) a w := by
 refine wpList_store_row hgd ty x y ho g cells hx hy T old hg hi hold h1 (h _ (setRow_heap w g old cells _ _ hg) ?_)
 exact ⟨rfl, rfl, rfl, by simp, fun j hj hne => setRow_other w g j cells (fun e => hne (by rw [e]))⟩
theorem szPlB : (Tryz.prog.info? 44).map (·.size) = some 8 := by kernel_rfl
theorem accept_any (g : Bool) (i1 i2 : Int) (a : Option Addr) (n c : Nat) (W : World) : Calls Tryz.prog 34 #[.agg #[.bool g, .int .i64 i1, .int .i64 i2, .slice a n c]] W fun e w' => e = .returned (.agg #[.int .i64 1, .bool g, .int .i64 i1, .int .i64 i2, .slice a n c, .int .i64 0, .int .i64 0, .slice none 0 0]) ∧ Below W.heap.size W w' := by
 obtain ⟨w0, he0, HS0, K1, K2, HB0⟩ := box2B W (.cells #[.bool g, .int .i64 i1, .int .i64 i2, .slice a n c] 38) (.cells #[.int .i64 0, .bool false, .int .i64 0, .int .i64 0, .slice none 0 0, .int .i64 0, .int .i64 0, .slice none 0 0] 44)
 go_enter Tryz.func34, Tryz.ntmps34
 go_upto_region 1 with fail
 rw [← he0]
 clear he0
 go_wp2_with (first
  | go_skip
  | ((with_reducible refine atW w0 ?_); refine wpList_load_part _ _ rfl (by rfl) _ 0 rfl K1.out Tryz.underlying38 rfl #[.bool g, .int .i64 i1, .int .i64 i2, .slice a n c] (by kernel_rfl) all_atB ?_)
  | ((with_reducible refine atW w0 ?_); refine store_rowB _ _ _ rfl rfl _ rfl rfl K2.out szPlB rfl (by simp [Value.oneCell']) ?_; intro w2 h1 h2; have K3 := Lib.hid h1; have HB2 : Hid (Below W.heap.size W w2) := Lib.hid (below_grownB HB0.out h2 (by omega)); clear h1 h2))
 refine bodyPost_ret (results_cell_row Tryz.results34 _ _ _ 44 _ (0, 0) _ rfl K3.out Tryz.underlying44 rfl szPlB) rfl ?_
 exact ⟨rfl, HB2.out⟩
def topB (l : List Td) : Int × Int := S1.maxL (l.map Td.v)
theorem at_any (va : Value) (l : List Td) (W : World) (hlen : l.length ≤ 1000) (hl : SlG eT W va l) : Calls Tryz.prog 14 #[va] W fun e w' => e = .returned (.agg #[.int .i64 (topB l).1, .int .i64 (topB l).2]) ∧ Below W.heap.size W w' := by
 obtain ⟨w0, he0, HS0, K2, HB0⟩ := box1B W (.cells #[.int .i64 0, .int .i64 0] 24)
 have L2 : Hid (W.heap.size < w0.heap.size) := Lib.hid (by have := HS0.out; omega)
 have HE := Lib.hid (each_any va l w0 hlen (hl.later HB0.out))
 have HLN : Hid ((l.map Td.v).length ≤ 1000) := Lib.hid (by rw [List.length_map]; exact hlen)
 unfold topB
 clear hl
 generalize l.map Td.v = V at *
 generalize hM : S1.maxL V = M at *
 have HM := Lib.hid hM
 clear hM
 go_enter Tryz.func14, Tryz.ntmps14
 go_upto_region 1 with fail
 rw [← he0]
 clear he0
 go_wp2_with (first
  | go_skip
  | (go_at_call 41; go_must (refine HE.out.mono ?_; rintro e w1 ⟨v, rfl, ho, h⟩; have HO := Lib.hid ho; obtain ⟨av, cv, rfl⟩ := ho.form; have K2_1 := row_upB K2 L2 h; have L2_1 := lt_upB L2 h; have HB1 := Lib.hid (blThen HB0.out h); clear ho h))
  | (go_at_call 40; go_must (refine (S1.max_any av cv V w1 (Nat.le_trans HLN.out (by decide)) (slV HO.out.sl)).mono ?_; rw [HM.out]; rintro e w2 ⟨rfl, h⟩; have K2_2 := row_upB K2_1 L2_1 h; have HB2 := Lib.hid (blThen HB1.out h); clear h))
  | ((with_reducible refine atW w2 ?_); refine store_rowB _ _ _ rfl rfl _ rfl rfl K2_2.out szStpB rfl (by simp [Value.oneCell']) ?_; intro w3 h1 h2; have K3 := Lib.hid h1; have HB3 : Hid (Below W.heap.size W w3) := Lib.hid (below_grownB HB2.out h2 (by omega)); clear h1 h2))
 refine bodyPost_ret (results_cell_row Tryz.results14 _ _ _ 24 _ (0, 0) _ rfl K3.out Tryz.underlying24 rfl szStpB) rfl ?_
 exact ⟨rfl, HB3.out⟩
end SB
end Go.Proofs.YtpdfcojcmhadnaaGreat
