/- ChooseOdd: with one that differs nobody finds the fast value. Conditions: none. -/
import Derived.Deep.DeepCutAuto
import Derived.Test.YtpdfcojcmhadnaaGreatMg52
import Derived.Test.YtpdfcojcmhadnaaGreatMg36
import Derived.Test.YtpdfcojcmhadnaaGreatMg03
import Derived.Test.YtpdfcojcmhadnaaGreatMg17
import Derived.Test.YtpdfcojcmhadnaaGreatMg21
import Derived.Test.YtpdfcojcmhadnaaGreatMg04
set_option maxRecDepth 100000
set_option maxHeartbeats 16000000
set_option linter.unusedVariables false
set_option linter.unusedSimpArgs false
namespace Go.Proofs.YtpdfcojcmhadnaaGreat
open S3 SC SN SP
namespace SB
open Go.ChangeShapes Go.WideShapes Go.ChangeAt Go.RowKit Go.Joins Go.Deep
def rightB (S : List S4.Sh) (O : List Opr) : Bool := decide (O.length ≤ 20) && (decide (S.length ≤ 20) && (S4.topoB S && (O.isEmpty || decide (checkP O = 0))))
theorem right_any (sa : Option Addr) (sc : Nat) (S : List S4.Sh) (vo : Value) (O : List Opr) (W : World) (ha : S4.Hl W sa S) (ho : SlG eO W vo O) (hn64 : ∀ o ∈ O, o.2.2.2 < 18446744073709551616) :
  Calls Tryz.prog 4 #[.slice sa S.length sc, vo, .slice none 0 0] W fun e w' => e = .returned (.bool (rightB S O)) ∧ Below W.heap.size W w' := by
 obtain ⟨oa, oc, rfl⟩ := ho.form
 have HA := Lib.hid ha
 have HO := Lib.hid ho
 have HT : Hid (∀ Y : World, Below W.heap.size W Y → Calls Tryz.prog 15 #[.slice sa S.length sc] Y fun e w' => e = .returned (.int .i64 (S4.errT (S4.topoB S))) ∧ Below Y.heap.size Y w') := Lib.hid (fun Y hY => S4.rtcheck_any sa sc S Y (HA.out.later hY))
 have HB0 := Lib.hid (Below.refl W.heap.size W)
 clear ha ho
 go_enter Tryz.func4, Tryz.ntmps4
 go_wp2
 go_loopw [7, 8] (fun a b wr => a = .int .i64 0 ∧ b = .int .i64 0 ∧ W = wr) (fun _ _ _ => 0)
 case atStart => exact ⟨rfl, rfl, rfl⟩
 case round =>
  obtain ⟨rfl, rfl, rfl⟩ := hrel
  by_cases h1 : 20 < O.length
  ·have hb : decide ((20 : Int) < (O.length : Int)) = true := decide_eq_true (by omega)
   have hb2 : (20 : Int) < (O.length : Int) := by omega
   have HR : Hid (rightB S O = false) := Lib.hid (by simp [rightB]; intro h; omega)
   go_wp2
   go_ret
   exact ⟨by rw [HR.out]; rfl, HB0.out⟩
  have hb1 : decide ((20 : Int) < (O.length : Int)) = false := decide_eq_false (by omega)
  have hb2 : ¬ (20 : Int) < (O.length : Int) := by omega
  by_cases h2 : 20 < S.length
  ·have hb3 : decide ((20 : Int) < (S.length : Int)) = true := decide_eq_true (by omega)
   have hb4 : (20 : Int) < (S.length : Int) := by omega
   have HR : Hid (rightB S O = false) := Lib.hid (by simp [rightB]; intro _ h; omega)
   go_wp2
   go_ret
   exact ⟨by rw [HR.out]; rfl, HB0.out⟩
  have hb3 : decide ((20 : Int) < (S.length : Int)) = false := decide_eq_false (by omega)
  have hb4 : ¬ (20 : Int) < (S.length : Int) := by omega
  cases ht : S4.topoB S
  ·have HR : Hid (rightB S O = false) := Lib.hid (by simp [rightB, ht])
   rw [ht] at HT
   have HE : Hid (S4.errT false = 40) := rfl
   rw [HE.out] at HT
   clear ht
   go_wp2_with (first | go_skip | (go_at_call 15; go_must (refine (HT.out _ HB0.out).mono ?_; rintro e w1 ⟨rfl, h⟩; have HB1 := Lib.hid h; clear h)))
   go_ret
   exact ⟨by rw [HR.out]; rfl, HB1.out⟩
  rw [ht] at HT
  have HE : Hid (S4.errT true = 0) := rfl
  rw [HE.out] at HT
  have HTB := Lib.hid ht
  clear ht
  by_cases h3 : O = []
  ·have HR : Hid (rightB S O = true) := Lib.hid (by simp [rightB, HTB.out, h3]; omega)
   subst h3
   simp only [List.length_nil] at *
   go_wp2_with (first | go_skip | (go_at_call 15; go_must (refine (HT.out _ HB0.out).mono ?_; rintro e w1 ⟨rfl, h⟩; have HB1 := Lib.hid h; clear h)))
   go_loopw [12] (fun i wr => i = .int .i64 0 ∧ w1 = wr) (fun _ _ => 0)
   case atStart => exact ⟨rfl, rfl⟩
   case round =>
    obtain ⟨rfl, rfl⟩ := hrel
    go_wp2
    go_ret
    exact ⟨by rw [HR.out]; rfl, HB1.out⟩
  have hp : 0 < O.length := List.length_pos_iff.2 h3
  have hb5 : decide ((0 : Int) < (O.length : Int)) = true := decide_eq_true (by omega)
  have hb6 : (0 : Int) < (O.length : Int) := by omega
  have HC : Hid (∀ Y : World, Below W.heap.size W Y → Calls Tryz.prog 16 #[.slice oa O.length oc] Y fun e w' => e = .returned (.int .i64 (checkP O)) ∧ Below Y.heap.size Y w') := Lib.hid (fun Y hY => refcheck8_any _ O Y (by omega) (HO.out.later hY) hn64)
  by_cases h4 : checkP O = 0
  ·have HR : Hid (rightB S O = true) := Lib.hid (by simp [rightB, HTB.out, h4]; omega)
   rw [h4] at HC
   clear h4
   go_wp2_with (first | go_skip | (go_at_call 15; go_must (refine (HT.out _ HB0.out).mono ?_; rintro e w1 ⟨rfl, h⟩; have HB1 := Lib.hid h; clear h)) | (go_at_call 16; go_must (refine (HC.out _ HB1.out).mono ?_; rintro e w2 ⟨rfl, h⟩; have HB2 := Lib.hid (blThen HB1.out h); clear h)))
   go_loopw [12] (fun i wr => i = .int .i64 0 ∧ w2 = wr) (fun _ _ => 0)
   case atStart => exact ⟨rfl, rfl⟩
   case round =>
    obtain ⟨rfl, rfl⟩ := hrel
    go_wp2
    go_ret
    exact ⟨by rw [HR.out]; rfl, HB2.out⟩
  ·have HR : Hid (rightB S O = false) := Lib.hid (by simp [rightB, HTB.out, h4, h3])
   generalize checkP O = q at *
   have hb7 : ((q == 0) = false) := by simpa using h4
   have hb8 : ((q != 0) = true) := by simpa using h4
   go_wp2_with (first | go_skip | (go_at_call 15; go_must (refine (HT.out _ HB0.out).mono ?_; rintro e w1 ⟨rfl, h⟩; have HB1 := Lib.hid h; clear h)) | (go_at_call 16; go_must (refine (HC.out _ HB1.out).mono ?_; rintro e w2 ⟨rfl, h⟩; have HB2 := Lib.hid (blThen HB1.out h); clear h)))
   go_ret
   exact ⟨by rw [HR.out]; rfl, HB2.out⟩
theorem same0_any (W : World) : Calls Tryz.prog 39 #[.slice none 0 0, .slice none 0 0] W fun e w' => e = .returned (.bool true) ∧ Below W.heap.size W w' := by
 go_enter Tryz.func39, Tryz.ntmps39
 go_wp2
 go_loopw [5] (fun i wr => i = .int .i64 0 ∧ W = wr) (fun _ _ => 0)
 case atStart => exact ⟨rfl, rfl⟩
 case round =>
  obtain ⟨rfl, rfl⟩ := hrel
  go_wp2
  go_ret
  exact ⟨rfl, Below.refl _ _⟩
theorem samev0_any (W : World) : Calls Tryz.prog 13 #[.agg #[.bool false, .int .i64 0, .int .i64 0, .slice none 0 0], .agg #[.bool false, .int .i64 0, .int .i64 0, .slice none 0 0]] W fun e w' => e = .returned (.bool true) ∧ Below W.heap.size W w' := by
 obtain ⟨w0, he0, HS0, K2, K3, HB0⟩ := box2B W (.cells #[.bool false, .int .i64 0, .int .i64 0, .slice none 0 0] 38) (.cells #[.bool false, .int .i64 0, .int .i64 0, .slice none 0 0] 38)
 go_enter Tryz.func13, Tryz.ntmps13
 go_wp2_with (go_at_call 39; go_must (refine (same0_any _).mono ?_; rintro e w1 ⟨rfl, h⟩; have HB1 : Hid (Below W.heap.size W w1) := Lib.hid (blThen (blAlloc (blAlloc (Below.refl _ _) _) _) h); clear h))
 go_ret
 exact ⟨rfl, HB1.out⟩
def tellB (oa : Option Addr) (on oc : Nat) (i1 i2 : Int) (n : Int) : Td := ⟨n, oa, on, oc, (i1, i2), true⟩
theorem nodes_mem {S : List S4.Sh} {P : List Int} {n : Int} (h : n ∈ S4.nodesL S P) : S4.nodeB n = true ∧ S4.anyHas S P n = true := by
 obtain ⟨i, hi, hp, rfl⟩ := (S4.ofTo_mem _ _ _).1 h
 simpa using hp
theorem nodes_len (S : List S4.Sh) (P : List Int) : (S4.nodesL S P).length ≤ 8 := S4.ofTo_len _ _
theorem odd_fast {S : List S4.Sh} {X : List Sp} {i1 i2 : Int} {L : List Td} {x : Td} (hm : x ∈ L) (hn : x.n ∈ S4.nodesL S (S4.touchL S X)) (hd : differsB i1 i2 x = true) : fastB S i1 i2 (S4.touchL S X) L = false := by
 obtain ⟨h1, h2⟩ := nodes_mem hn
 unfold S4.anyHas at h2
 obtain ⟨p, hp, hat⟩ := List.any_eq_true.1 h2
 obtain ⟨k, hk, hmt, rfl⟩ := (S4.ofTo_mem _ _ _).1 hp
 refine fast_no hk ?_
 have hP : S4.hasN (S4.touchL S X) (k : Int) = true := S4.hasN_mem.2 hp
 have hkp : keepB S (k : Int) x = true := by
  unfold keepB S4.anyHas
  simp [h1, hat]
 have hf : x ∈ L.filter (keepB S (k : Int)) := List.mem_filter.2 ⟨hm, hkp⟩
 have ha : (L.filter (keepB S (k : Int))).any (differsB i1 i2) = true := List.any_eq_true.2 ⟨x, hf, hd⟩
 unfold okP agreedB
 rw [hP, ha]
 simp
theorem differs_late {x : Td} {i1 i2 : Int} (h : x.v ≠ (i1, i2)) : differsB i1 i2 x = true := by simp [differsB, firstB, h]
theorem differs_not {x : Td} {i1 i2 : Int} (h : x.f = false) : differsB i1 i2 x = true := by simp [differsB, firstB, h]
theorem mem_setB {α : Type} {l : List α} {q : Nat} {x : α} (h : q < l.length) : x ∈ l.set q x := List.mem_iff_getElem?.2 ⟨q, by simp [h]⟩
theorem odd_late {L : List Td} {i l : Int × Int} {x : Td} (hm : x ∈ L) (hx : x.v = l) (ha : ∀ y ∈ L, y.v = i ∨ y.v = l) (hl : S1.ltS i l = true) : topB L = l := by
 have hmm := S1.maxL_mem (L.map Td.v) (fun e => by have := List.mem_map_of_mem (f := Td.v) hm; rw [e] at this; cases this)
 have hge := S1.maxL_ge (L.map Td.v) l (by rw [← hx]; exact List.mem_map_of_mem hm)
 obtain ⟨y, hy, he⟩ := List.mem_map.1 hmm
 unfold topB
 rcases ha y hy with h | h
 ·rw [← he, h] at hge
  rw [hl] at hge
  cases hge
 ·rw [← he, h]
theorem odd_same {L : List Td} {i : Int × Int} {x : Td} (hm : x ∈ L) (ha : ∀ y ∈ L, y.v = i) : topB L = i := by
 have hmm := S1.maxL_mem (L.map Td.v) (fun e => by have := List.mem_map_of_mem (f := Td.v) hm; rw [e] at this; cases this)
 obtain ⟨y, hy, he⟩ := List.mem_map.1 hmm
 unfold topB
 rw [← he, ha y hy]
theorem lt_ne {i l : Int × Int} (h : S1.ltS i l = true) : l ≠ i := by
 rintro rfl
 simp [S1.ltS] at h
theorem own_put {T : TypeId} {w : World} {base : Nat} {g n cap q p : Nat} {L : List Td} {x x' : Td} {vs : List Value} (h : OwnG eT T w base (.slice (some ⟨g, 0, none⟩) n cap) L) (hx : L[q]? = some x) (hfit : p + vs.length ≤ 13)
  (hin : ∀ j, j < vs.length → (eT.enc x')[p + j]? = vs[j]?) (hout : ∀ j, j < p ∨ p + vs.length ≤ j → (eT.enc x')[j]? = (eT.enc x)[j]?) :
  w.there g (q * 13 + p) vs.length ∧ SlG eT (w.setCells g (q * 13 + p) vs) (.slice (some ⟨g, 0, none⟩) n cap) (L.set q x') ∧ w.grownBy (w.setCells g (q * 13 + p) vs) (some g) := by
 have hql : q < L.length := (List.getElem?_eq_some_iff.1 hx).1
 have hne : L ≠ [] := by intro e; subst e; simp at hql
 have hblk : ∃ cur, w.heap[g]? = some (.cells cur T (0, 0)) := by
  obtain ⟨h1, ⟨hv, _⟩ | ⟨g', cap', cur, hv, hg, hh, _⟩⟩ := id h
  ·cases hv
  ·simp only [Value.slice.injEq, Option.some.injEq, Addr.mk.injEq, and_true] at hv
   exact ⟨cur, by rw [hv.1]; exact hh⟩
 obtain ⟨cur, hh⟩ := hblk
 obtain ⟨g', cap', hv, hbg, hgs, hlc, hcm, hrow, hfr⟩ := h.row hne
 simp only [Value.slice.injEq, Option.some.injEq, Addr.mk.injEq, and_true] at hv
 obtain ⟨rfl, hn, rfl⟩ := hv
 have hgr := (setCells_row vs w g (q * 13 + p) cur T hh).2
 have hth : w.there g (q * 13 + p) vs.length := by
  intro j hj
  have hj13 : p + j < (eT.enc x).length := by rw [eT.len]; show _ < 13; omega
  refine ⟨?_, frozen_of_row w g _ cur T hh⟩
  have := hrow q x hx (p + j) _ (List.getElem?_eq_getElem hj13)
  rw [show (0 + q * eT.K + (p + j)) = q * 13 + p + j by show 0 + q * 13 + (p + j) = _; omega] at this
  rw [this]
  rfl
 refine ⟨hth, ⟨some ⟨g, 0, none⟩, cap, by rw [List.length_set, hn], fun e => (by cases e), fun _ => ⟨g, 0, rfl, Nat.lt_of_lt_of_le hgs hgr.size, fun i y hi j u hu => ?_⟩⟩, hgr⟩
 have hj13 : j < 13 := enc_lt hu
 have hK : (0 + i * eT.K + j) = i * 13 + j := by show 0 + i * 13 + j = _; omega
 rw [hK]
 by_cases hiq : i = q
 ·subst hiq
  rw [List.getElem?_set_self hql] at hi
  simp only [Option.some.injEq] at hi
  subst hi
  by_cases hjp : p ≤ j ∧ j < p + vs.length
  ·have h1 := World.cell?_setCells_in g vs (i * 13 + p) w (fun j hj => (hth j hj).1) (j - p) (by omega)
   rw [show i * 13 + p + (j - p) = i * 13 + j by omega] at h1
   rw [h1]
   have h2 := hin (j - p) (by omega)
   rw [show p + (j - p) = j by omega, hu] at h2
   rw [h2, List.getElem?_eq_getElem]
  ·rw [World.cell?_setCells_out g vs _ w _ (fun _ _ => by show i * 13 + j < _ ∨ _ ≤ i * 13 + j; omega)]
   have h1 := hrow i x hx j u (by rw [← hout j (by omega)]; exact hu)
   rwa [hK] at h1
 ·rw [List.getElem?_set_ne (by omega)] at hi
  have h0 : i * 13 + j < q * 13 + p ∨ q * 13 + p + vs.length ≤ i * 13 + j := by
   rcases Nat.lt_or_gt_of_ne hiq with h | h
   ·left; have : (i + 1) * 13 ≤ q * 13 := Nat.mul_le_mul_right 13 h; omega
   ·right; have : (q + 1) * 13 ≤ i * 13 := Nat.mul_le_mul_right 13 h; omega
  rw [World.cell?_setCells_out g vs _ w _ (fun _ _ => h0)]
  have h1 := hrow i y hi j u hu
  rwa [hK] at h1

theorem slG_other {α : Type} {E : Enc α} {w w' : World} {g f n c b : Nat} {l : List α} (h : SlG E w (.slice (some ⟨g, f, none⟩) n c) l) (hg : w.grownBy w' (some b)) (hgl : g < w.heap.size) (hne : g ≠ b) : SlG E w' (.slice (some ⟨g, f, none⟩) n c) l := by
 obtain ⟨a, cap, hv, hn, hr⟩ := h
 refine ⟨a, cap, hv, hn, fun hl => ?_⟩
 obtain ⟨g', o, ha, hgs, hrow⟩ := hr hl
 simp only [Value.slice.injEq] at hv
 obtain ⟨e1, _, _⟩ := hv
 rw [ha] at e1
 simp only [Option.some.injEq, Addr.mk.injEq, and_true] at e1
 obtain ⟨rfl, rfl⟩ := e1
 have e : w'.heap[g]? = w.heap[g]? := hg.block g hgl (fun e => hne (Option.some.inj e))
 refine ⟨g, f, ha, Nat.lt_of_lt_of_le hgl hg.size, fun i x hi j u hu => ?_⟩
 have := hrow i x hi j u hu
 unfold World.cell? at this ⊢
 simpa only [e] using this
theorem isB_any (t n : Int) (w : World) : Calls Tryz.prog 5 #[.agg #[.int .i64 t, .int .i64 n]] w fun e w' => e = .returned (.bool (S1.isS (t, n))) ∧ Below w.heap.size w w' :=
 (S1.is_any t n w).mono fun _ _ ⟨he, q, os, hw⟩ => ⟨he, by rw [hw]; exact S1.blGrown (Below.refl _ _) q os⟩
theorem lessB_any (t n t' n' : Int) (w : World) : Calls Tryz.prog 6 #[.agg #[.int .i64 t, .int .i64 n], .agg #[.int .i64 t', .int .i64 n']] w fun e w' => e = .returned (.bool (S1.ltS (t, n) (t', n'))) ∧ Below w.heap.size w w' :=
 (S1.less_any t n t' n' w).mono fun _ _ ⟨he, q, os, hw⟩ => ⟨he, by rw [hw]; exact S1.blGrown (Below.refl _ _) q os⟩
theorem odd_walk (sa : Option Addr) (sc : Nat) (S : List S4.Sh) (i1 i2 : Int) (vo : Value) (O : List Opr) (l1 l2 who how : Int) (W : World) (ha : S4.Hl W sa S) (ho : SlG eO W vo O) (hn64 : ∀ o ∈ O, o.2.2.2 < 18446744073709551616) :
  Calls Tryz.prog 3 #[.slice sa S.length sc, .agg #[.int .i64 i1, .int .i64 i2], vo, .agg #[.int .i64 l1, .int .i64 l2], .int .i64 who, .int .i64 how] W fun e w' => e = .returned (.bool true) ∧ Below W.heap.size W w' := by
 obtain ⟨oa, oc, rfl⟩ := ho.form
 obtain ⟨w0, he0, HS0, K7_0, K9_0, HB_0⟩ := box2B W (.cells #[.int .i64 i1, .int .i64 i2] 24) (.cells #[.int .i64 l1, .int .i64 l2] 24)
 have L7_0 := Lib.hid (lt_of_block K7_0.out)
 have L9_0 := Lib.hid (lt_of_block K9_0.out)
 have HA_0 := Lib.hid (ha.later HB_0.out)
 have HO_0 := Lib.hid (ho.later HB_0.out)
 clear ha ho
 go_enter Tryz.func3, Tryz.ntmps3
 go_upto_region 1 with fail
 rw [← he0]
 clear he0
 cases hr : rightB S O
 ·go_wp2_with (first
   | go_skip
   | ((with_reducible refine atC w0 ?_); go_at_call 4; go_must (refine (right_any sa sc S _ O w0 HA_0.out HO_0.out hn64).mono ?_; rw [hr]; rintro e w1 ⟨rfl, h⟩; have K7_1 := row_upB K7_0 L7_0 h; have K9_1 := row_upB K9_0 L9_0 h; have L7_1 := lt_upB L7_0 h; have L9_1 := lt_upB L9_0 h; have HB_1 := Lib.hid (blThen HB_0.out h); have HA_1 := Lib.hid (HA_0.out.later h); have HO_1 := Lib.hid (HO_0.out.later h); clear h))
   | ((with_reducible refine atC w1 ?_); go_at_call 7; go_must (refine (live12_any w1).mono ?_; rintro e wl ⟨rfl, h⟩; have HBL := Lib.hid (blThen HB_1.out h); clear h)))
  go_ret
  exact ⟨rfl, HBL.out⟩
 have HR := Lib.hid hr
 clear hr
 by_cases hO : O = []
 ·have hz : ((((O.length : Nat) : Int) == 0) = true) := by rw [hO]; rfl
  clear hO
  go_wp2_with (first
   | go_skip
   | ((with_reducible refine atC w0 ?_); go_at_call 4; go_must (refine (right_any sa sc S _ O w0 HA_0.out HO_0.out hn64).mono ?_; rw [HR.out]; rintro e w1 ⟨rfl, h⟩; have K7_1 := row_upB K7_0 L7_0 h; have K9_1 := row_upB K9_0 L9_0 h; have L7_1 := lt_upB L7_0 h; have L9_1 := lt_upB L9_0 h; have HB_1 := Lib.hid (blThen HB_0.out h); have HA_1 := Lib.hid (HA_0.out.later h); have HO_1 := Lib.hid (HO_0.out.later h); clear h))
   | ((with_reducible refine atC w1 ?_); go_at_call 7; go_must (refine (live12_any w1).mono ?_; rintro e wl ⟨rfl, h⟩; have HBL := Lib.hid (blThen HB_1.out h); clear h)))
  go_ret
  exact ⟨rfl, HBL.out⟩
 have hz : ((((O.length : Nat) : Int) == 0) = false) := by
  have := List.length_pos_iff.2 hO
  simp only [beq_eq_false_iff_ne, ne_eq]
  omega
 have HOk : Hid (O.length ≤ 8 ∧ ∀ o ∈ O, okB o = true) := Lib.hid (by
  have h := HR.out
  simp only [rightB, Bool.and_eq_true, Bool.or_eq_true, decide_eq_true_eq, List.isEmpty_iff] at h
  obtain ⟨_, _, _, h⟩ := h
  rcases h with h | h
  ·exact absurd h hO
  ·have h2 := check_kd h
   exact ⟨h2.1, h2.2.2⟩)
 have HTP : Hid (S4.Topo S) := Lib.hid (by
  have h := HR.out
  simp only [rightB, Bool.and_eq_true] at h
  exact S4.topo_of h.2.2.1)
 have HNE0 := Lib.hid hO
 clear hO
 cases h1 : S1.isS (i1, i2)
 ·go_wp2_with (first
   | go_skip
   | ((with_reducible refine atW w1 ?_); refine wpList_load_part _ _ rfl (by rfl) _ 0 rfl K7_1.out Tryz.underlying24 rfl #[.int .i64 i1, .int .i64 i2] (by kernel_rfl) (two_at rfl rfl) ?_)
   | ((with_reducible refine atC w0 ?_); go_at_call 4; go_must (refine (right_any sa sc S _ O w0 HA_0.out HO_0.out hn64).mono ?_; rw [HR.out]; rintro e w1 ⟨rfl, h⟩; have K7_1 := row_upB K7_0 L7_0 h; have K9_1 := row_upB K9_0 L9_0 h; have L7_1 := lt_upB L7_0 h; have L9_1 := lt_upB L9_0 h; have HB_1 := Lib.hid (blThen HB_0.out h); have HA_1 := Lib.hid (HA_0.out.later h); have HO_1 := Lib.hid (HO_0.out.later h); clear h))
   | ((with_reducible refine atC w1 ?_); go_at_call 5; go_must (refine (isB_any i1 i2 w1).mono ?_; rw [h1]; rintro e w2 ⟨rfl, h⟩; have K7_2 := row_upB K7_1 L7_1 h; have K9_2 := row_upB K9_1 L9_1 h; have L7_2 := lt_upB L7_1 h; have L9_2 := lt_upB L9_1 h; have HB_2 := Lib.hid (blThen HB_1.out h); have HA_2 := Lib.hid (HA_1.out.later h); have HO_2 := Lib.hid (HO_1.out.later h); clear h))
   | ((with_reducible refine atC w2 ?_); go_at_call 7; go_must (refine (live12_any w2).mono ?_; rintro e wl ⟨rfl, h⟩; have HBL := Lib.hid (blThen HB_2.out h); clear h)))
  go_ret
  exact ⟨rfl, HBL.out⟩
 have H1 := Lib.hid h1
 clear h1
 cases h2 : S1.isS (l1, l2)
 ·go_wp2_with (first
   | go_skip
   | ((with_reducible refine atW w1 ?_); refine wpList_load_part _ _ rfl (by rfl) _ 0 rfl K7_1.out Tryz.underlying24 rfl #[.int .i64 i1, .int .i64 i2] (by kernel_rfl) (two_at rfl rfl) ?_)
   | ((with_reducible refine atW w2 ?_); refine wpList_load_part _ _ rfl (by rfl) _ 0 rfl K9_2.out Tryz.underlying24 rfl #[.int .i64 l1, .int .i64 l2] (by kernel_rfl) (two_at rfl rfl) ?_)
   | ((with_reducible refine atC w0 ?_); go_at_call 4; go_must (refine (right_any sa sc S _ O w0 HA_0.out HO_0.out hn64).mono ?_; rw [HR.out]; rintro e w1 ⟨rfl, h⟩; have K7_1 := row_upB K7_0 L7_0 h; have K9_1 := row_upB K9_0 L9_0 h; have L7_1 := lt_upB L7_0 h; have L9_1 := lt_upB L9_0 h; have HB_1 := Lib.hid (blThen HB_0.out h); have HA_1 := Lib.hid (HA_0.out.later h); have HO_1 := Lib.hid (HO_0.out.later h); clear h))
   | ((with_reducible refine atC w1 ?_); go_at_call 5; go_must (refine (isB_any i1 i2 w1).mono ?_; rw [H1.out]; rintro e w2 ⟨rfl, h⟩; have K7_2 := row_upB K7_1 L7_1 h; have K9_2 := row_upB K9_1 L9_1 h; have L7_2 := lt_upB L7_1 h; have L9_2 := lt_upB L9_1 h; have HB_2 := Lib.hid (blThen HB_1.out h); have HA_2 := Lib.hid (HA_1.out.later h); have HO_2 := Lib.hid (HO_1.out.later h); clear h))
   | ((with_reducible refine atC w2 ?_); go_at_call 5; go_must (refine (isB_any l1 l2 w2).mono ?_; rw [h2]; rintro e w3 ⟨rfl, h⟩; have K7_3 := row_upB K7_2 L7_2 h; have K9_3 := row_upB K9_2 L9_2 h; have L7_3 := lt_upB L7_2 h; have L9_3 := lt_upB L9_2 h; have HB_3 := Lib.hid (blThen HB_2.out h); have HA_3 := Lib.hid (HA_2.out.later h); have HO_3 := Lib.hid (HO_2.out.later h); clear h))
   | ((with_reducible refine atC w3 ?_); go_at_call 7; go_must (refine (live12_any w3).mono ?_; rintro e wl ⟨rfl, h⟩; have HBL := Lib.hid (blThen HB_3.out h); clear h)))
  go_ret
  exact ⟨rfl, HBL.out⟩
 have H2 := Lib.hid h2
 clear h2
 cases h3 : S1.ltS (i1, i2) (l1, l2)
 ·go_wp2_with (first
   | go_skip
   | ((with_reducible refine atW w1 ?_); refine wpList_load_part _ _ rfl (by rfl) _ 0 rfl K7_1.out Tryz.underlying24 rfl #[.int .i64 i1, .int .i64 i2] (by kernel_rfl) (two_at rfl rfl) ?_)
   | ((with_reducible refine atW w2 ?_); refine wpList_load_part _ _ rfl (by rfl) _ 0 rfl K9_2.out Tryz.underlying24 rfl #[.int .i64 l1, .int .i64 l2] (by kernel_rfl) (two_at rfl rfl) ?_)
   | ((with_reducible refine atW w3 ?_); refine wpList_load_part _ _ rfl (by rfl) _ 0 rfl K7_3.out Tryz.underlying24 rfl #[.int .i64 i1, .int .i64 i2] (by kernel_rfl) (two_at rfl rfl) ?_)
   | ((with_reducible refine atW w3 ?_); refine wpList_load_part _ _ rfl (by rfl) _ 0 rfl K9_3.out Tryz.underlying24 rfl #[.int .i64 l1, .int .i64 l2] (by kernel_rfl) (two_at rfl rfl) ?_)
   | ((with_reducible refine atC w0 ?_); go_at_call 4; go_must (refine (right_any sa sc S _ O w0 HA_0.out HO_0.out hn64).mono ?_; rw [HR.out]; rintro e w1 ⟨rfl, h⟩; have K7_1 := row_upB K7_0 L7_0 h; have K9_1 := row_upB K9_0 L9_0 h; have L7_1 := lt_upB L7_0 h; have L9_1 := lt_upB L9_0 h; have HB_1 := Lib.hid (blThen HB_0.out h); have HA_1 := Lib.hid (HA_0.out.later h); have HO_1 := Lib.hid (HO_0.out.later h); clear h))
   | ((with_reducible refine atC w1 ?_); go_at_call 5; go_must (refine (isB_any i1 i2 w1).mono ?_; rw [H1.out]; rintro e w2 ⟨rfl, h⟩; have K7_2 := row_upB K7_1 L7_1 h; have K9_2 := row_upB K9_1 L9_1 h; have L7_2 := lt_upB L7_1 h; have L9_2 := lt_upB L9_1 h; have HB_2 := Lib.hid (blThen HB_1.out h); have HA_2 := Lib.hid (HA_1.out.later h); have HO_2 := Lib.hid (HO_1.out.later h); clear h))
   | ((with_reducible refine atC w2 ?_); go_at_call 5; go_must (refine (isB_any l1 l2 w2).mono ?_; rw [H2.out]; rintro e w3 ⟨rfl, h⟩; have K7_3 := row_upB K7_2 L7_2 h; have K9_3 := row_upB K9_2 L9_2 h; have L7_3 := lt_upB L7_2 h; have L9_3 := lt_upB L9_2 h; have HB_3 := Lib.hid (blThen HB_2.out h); have HA_3 := Lib.hid (HA_2.out.later h); have HO_3 := Lib.hid (HO_2.out.later h); clear h))
   | ((with_reducible refine atC w3 ?_); go_at_call 6; go_must (refine (lessB_any i1 i2 l1 l2 w3).mono ?_; rw [h3]; rintro e w4 ⟨rfl, h⟩; have K7_4 := row_upB K7_3 L7_3 h; have K9_4 := row_upB K9_3 L9_3 h; have L7_4 := lt_upB L7_3 h; have L9_4 := lt_upB L9_3 h; have HB_4 := Lib.hid (blThen HB_3.out h); have HA_4 := Lib.hid (HA_3.out.later h); have HO_4 := Lib.hid (HO_3.out.later h); clear h))
   | ((with_reducible refine atC w4 ?_); go_at_call 7; go_must (refine (live12_any w4).mono ?_; rintro e wl ⟨rfl, h⟩; have HBL := Lib.hid (blThen HB_4.out h); clear h)))
  go_ret
  exact ⟨rfl, HBL.out⟩
 have H3 := Lib.hid h3
 clear h3
 go_upto_region 5 with (first
  | go_skip
  | ((with_reducible refine atW w1 ?_); refine wpList_load_part _ _ rfl (by rfl) _ 0 rfl K7_1.out Tryz.underlying24 rfl #[.int .i64 i1, .int .i64 i2] (by kernel_rfl) (two_at rfl rfl) ?_)
  | ((with_reducible refine atW w2 ?_); refine wpList_load_part _ _ rfl (by rfl) _ 0 rfl K9_2.out Tryz.underlying24 rfl #[.int .i64 l1, .int .i64 l2] (by kernel_rfl) (two_at rfl rfl) ?_)
  | ((with_reducible refine atW w3 ?_); refine wpList_load_part _ _ rfl (by rfl) _ 0 rfl K7_3.out Tryz.underlying24 rfl #[.int .i64 i1, .int .i64 i2] (by kernel_rfl) (two_at rfl rfl) ?_)
  | ((with_reducible refine atW w3 ?_); refine wpList_load_part _ _ rfl (by rfl) _ 0 rfl K9_3.out Tryz.underlying24 rfl #[.int .i64 l1, .int .i64 l2] (by kernel_rfl) (two_at rfl rfl) ?_)
  | ((with_reducible refine atC w0 ?_); go_at_call 4; go_must (refine (right_any sa sc S _ O w0 HA_0.out HO_0.out hn64).mono ?_; rw [HR.out]; rintro e w1 ⟨rfl, h⟩; have K7_1 := row_upB K7_0 L7_0 h; have K9_1 := row_upB K9_0 L9_0 h; have L7_1 := lt_upB L7_0 h; have L9_1 := lt_upB L9_0 h; have HB_1 := Lib.hid (blThen HB_0.out h); have HA_1 := Lib.hid (HA_0.out.later h); have HO_1 := Lib.hid (HO_0.out.later h); clear h))
  | ((with_reducible refine atC w1 ?_); go_at_call 5; go_must (refine (isB_any i1 i2 w1).mono ?_; rw [H1.out]; rintro e w2 ⟨rfl, h⟩; have K7_2 := row_upB K7_1 L7_1 h; have K9_2 := row_upB K9_1 L9_1 h; have L7_2 := lt_upB L7_1 h; have L9_2 := lt_upB L9_1 h; have HB_2 := Lib.hid (blThen HB_1.out h); have HA_2 := Lib.hid (HA_1.out.later h); have HO_2 := Lib.hid (HO_1.out.later h); clear h))
  | ((with_reducible refine atC w2 ?_); go_at_call 5; go_must (refine (isB_any l1 l2 w2).mono ?_; rw [H2.out]; rintro e w3 ⟨rfl, h⟩; have K7_3 := row_upB K7_2 L7_2 h; have K9_3 := row_upB K9_2 L9_2 h; have L7_3 := lt_upB L7_2 h; have L9_3 := lt_upB L9_2 h; have HB_3 := Lib.hid (blThen HB_2.out h); have HA_3 := Lib.hid (HA_2.out.later h); have HO_3 := Lib.hid (HO_2.out.later h); clear h))
  | ((with_reducible refine atC w3 ?_); go_at_call 6; go_must (refine (lessB_any i1 i2 l1 l2 w3).mono ?_; rw [H3.out]; rintro e w4 ⟨rfl, h⟩; have K7_4 := row_upB K7_3 L7_3 h; have K9_4 := row_upB K9_3 L9_3 h; have L7_4 := lt_upB L7_3 h; have L9_4 := lt_upB L9_3 h; have HB_4 := Lib.hid (blThen HB_3.out h); have HA_4 := Lib.hid (HA_3.out.later h); have HO_4 := Lib.hid (HO_3.out.later h); clear h))
  | ((with_reducible refine atC w4 ?_); go_at_call 9; go_must (refine (rall_any _ O w4 (Nat.le_trans HOk.out.1 (by decide)) HOk.out.2 HO_4.out).mono ?_; rintro e w5 ⟨xv, rfl, hx, h⟩; have HX_5 := Lib.hid hx.sl; clear hx; have K7_5 := row_upB K7_4 L7_4 h; have K9_5 := row_upB K9_4 L9_4 h; have L7_5 := lt_upB L7_4 h; have L9_5 := lt_upB L9_4 h; have HB_5 := Lib.hid (blThen HB_4.out h); have HA_5 := Lib.hid (HA_4.out.later h); have HO_5 := Lib.hid (HO_4.out.later h); clear h))
  | ((with_reducible refine atC w5 ?_); go_at_call 8; go_must (refine (S4.reftouch_any sa sc S xv (allP O) w5 (Nat.le_trans HTP.out.len (by decide)) (by have := all_len O; have := HOk.out.1; omega) HA_5.out HX_5.out).mono ?_; rintro e w6 ⟨tv, rfl, hx, h⟩; obtain ⟨ta, tc, rfl⟩ := hx.form; have HT_6 := Lib.hid hx.at; clear hx; have K7_6 := row_upB K7_5 L7_5 h; have K9_6 := row_upB K9_5 L9_5 h; have L7_6 := lt_upB L7_5 h; have L9_6 := lt_upB L9_5 h; have HB_6 := Lib.hid (blThen HB_5.out h); have HA_6 := Lib.hid (HA_5.out.later h); have HO_6 := Lib.hid (HO_5.out.later h); clear h))
  | ((with_reducible refine atC w6 ?_); go_at_call 10; go_must (refine (S4.refnodes_any sa sc S ta tc (S4.touchL S (allP O)) w6 (Nat.le_trans HTP.out.len (by decide)) (Nat.le_trans (S4.ofTo_len _ _) (Nat.le_trans HTP.out.len (by decide))) (S4.topo_n5 HTP.out) HA_6.out HT_6.out).mono ?_; rintro e w7 ⟨nv, rfl, hx, h⟩; obtain ⟨na, nc, rfl⟩ := hx.form; have HN_7 := Lib.hid hx.at; clear hx; have K7_7 := row_upB K7_6 L7_6 h; have K9_7 := row_upB K9_6 L9_6 h; have L7_7 := lt_upB L7_6 h; have L9_7 := lt_upB L9_6 h; have HB_7 := Lib.hid (blThen HB_6.out h); have HA_7 := Lib.hid (HA_6.out.later h); have HO_7 := Lib.hid (HO_6.out.later h); have HT_7 := Lib.hid (HT_6.out.later h); clear h)))
 generalize hN : S4.nodesL S (S4.touchL S (allP O)) = N at *
 have HN := Lib.hid hN
 have HNL : Hid (N.length ≤ 8) := Lib.hid (by rw [← hN]; exact nodes_len _ _)
 clear hN
 generalize htn : (S4.touchL S (allP O)).length = tn at *
 clear HO_0 HA_0 HB_0 L9_0 L7_0 K9_0 K7_0 HO_1 HA_1 HB_1 L9_1 L7_1 K9_1 K7_1 HO_2 HA_2 HB_2 L9_2 L7_2 K9_2 K7_2 HO_3 HA_3 HB_3 L9_3 L7_3 K9_3 K7_3 HO_4 HA_4 HB_4 L9_4 L7_4 K9_4 K7_4 HO_5 HA_5 HB_5 L9_5 L7_5 K9_5 K7_5 HO_6 HA_6 HB_6 L9_6 L7_6 K9_6 K7_6 HX_5 HT_6
 go_wp2
 go_loopw [15, 16] (fun v i wr => ∃ k : Nat, k ≤ N.length ∧ i = .int .i64 k ∧ OwnG eT 40 wr w7.heap.size v ((N.take k).map (tellB oa O.length oc i1 i2)) ∧ Below w7.heap.size w7 wr) (fun _ i _ => N.length - (RowKit.intOf i).toNat)
 case atStart => exact ⟨0, Nat.zero_le _, rfl, OwnG.nil _ _, Below.refl _ _⟩
 case round =>
  obtain ⟨k, hk, rfl, ho, hb⟩ := hrel
  have HB := Lib.hid hb
  have HOW := Lib.hid ho
  obtain ⟨av, cv, rfl⟩ := ho.form
  by_cases hlt : k < N.length
  ·obtain ⟨n, hn⟩ := at_lt hlt
   obtain ⟨g, og, rfl, hg, cn⟩ := HN_7.out.at hn
   have cn := cell_in hb hg cn
   have hg := Nat.lt_of_lt_of_le hg hb.size
   have c70 := cell_in hb L7_7.out (cell_rowB K7_7.out 0 _ rfl)
   have c71 := cell_in hb L7_7.out (cell_rowB K7_7.out 1 _ rfl)
   have l7 := Nat.lt_of_lt_of_le L7_7.out hb.size
   have hn8 : N.length ≤ 8 := HNL.out
   have hk0 : (0 : Int) ≤ (k : Int) := by omega
   have hk1 : (k : Int) < (N.length : Int) := by omega
   have hdk : decide ((k : Int) < (N.length : Int)) = true := decide_eq_true hk1
   have HMT : Hid ((N.take (k + 1)).map (tellB oa O.length oc i1 i2) = (N.take k).map (tellB oa O.length oc i1 i2) ++ [(tellB oa O.length oc i1 i2) n]) := Lib.hid (by rw [List.take_add_one, hn, List.map_append]; rfl)
   have HML : Hid (((N.take k).map (tellB oa O.length oc i1 i2)).length ≤ 8) := Lib.hid (by rw [List.length_map, List.length_take]; have := HNL.out; omega)
   have HBS := Lib.hid hb.size
   clear ho hb hn
   generalize (N.take k).map (tellB oa O.length oc i1 i2) = M at *
   generalize hmn : M.length = mn at HOW ⊢
   have HMN := Lib.hid hmn
   clear hmn
   go_wp2
   go_region_law ((refine step_GB 35 _ 152 info_T Tryz.underlying35 rfl (by decide) rfl (.tmp 60) (.tmp 68) rfl w7.heap.size (v := .slice av mn cv) (d := M) rfl (HOW.out.later (blAlloc ((Below.refl _ _).drew) _)) (xv := .slice (some ⟨wr.heap.size, 0, none⟩) 1 1) (l := [(tellB oa O.length oc i1 i2) n]) rfl (one_GB wr.drew _ ((tellB oa O.length oc i1 i2) n) _ _ rfl rfl) (by have := HML.out; have := HMN.out; simp only [List.length_cons, List.length_nil]; omega) (by have := HBS.out; simp only [World.size_alloc, World.size_drew]; omega) ?_); intro v4 w9 h1 h2; have HO9 := Lib.hid h1; have HB9 : Hid (Below w7.heap.size w7 w9) := Lib.hid (grown_belowG (blAlloc (HB.out.drew) _) (HOW.out.later (blAlloc ((Below.refl _ _).drew) _)) (Nat.le_refl _) (by have := HBS.out; simp only [World.size_alloc, World.size_drew]; omega) h2); clear h1 h2)
   all_goals
    go_wp2
    go_roundw
    case rel => exact ⟨k + 1, hlt, by go_num, by rw [HMT.out]; exact HO9.out, HB9.out⟩
    case measure => simp [RowKit.intOf]; omega
  have hE : (N.take k).map (tellB oa O.length oc i1 i2) = N.map (tellB oa O.length oc i1 i2) := by rw [List.take_of_length_le (by omega)]
  rw [hE, List.length_map] at ho HOW ⊢
  have hdk : decide ((k : Int) < (N.length : Int)) = false := decide_eq_false (by omega)
  have hk1 : ¬ (k : Int) < (N.length : Int) := by omega
  clear hE
  have HKN := Lib.hid hk1
  have HB7_r := Lib.hid HB.out
  have K7_r := row_upB K7_7 L7_7 HB7_r.out
  have L7_r := lt_upB L7_7 HB7_r.out
  have K9_r := row_upB K9_7 L9_7 HB7_r.out
  have L9_r := lt_upB L9_7 HB7_r.out
  have HB_r := Lib.hid (blThen HB_7.out HB7_r.out)
  have HA_r := Lib.hid (HA_7.out.later HB7_r.out)
  have HO_r := Lib.hid (HO_7.out.later HB7_r.out)
  have HT_r := Lib.hid (HT_7.out.later HB7_r.out)
  by_cases hw0 : who < 0
  ·have hb1 := decide_eq_true hw0
   go_wp2_with (first
    | go_skip
    | ((with_reducible refine atC wr ?_); go_at_call 7; go_must (refine (live12_any wr).mono ?_; rintro e wl ⟨rfl, h⟩; have HBL := Lib.hid (blThen HB_r.out h); clear h)))
   go_ret
   exact ⟨rfl, HBL.out⟩
  by_cases hw1 : (N.length : Int) ≤ who
  ·have hb1 := decide_eq_true hw1
   have hb0 := decide_eq_false hw0
   go_wp2_with (first
    | go_skip
    | ((with_reducible refine atC wr ?_); go_at_call 7; go_must (refine (live12_any wr).mono ?_; rintro e wl ⟨rfl, h⟩; have HBL := Lib.hid (blThen HB_r.out h); clear h)))
   go_ret
   exact ⟨rfl, HBL.out⟩
  obtain ⟨q, rfl⟩ := Int.eq_ofNat_of_zero_le (show 0 ≤ who by omega)
  have hqn : q < N.length := by omega
  have hqi : (q : Int) < (N.length : Int) := by omega
  have hq0 : (0 : Int) ≤ (q : Int) := by omega
  have hb0 := decide_eq_false hw0
  have hb1 := decide_eq_false hw1
  obtain ⟨nq, hnq⟩ : ∃ n, N[q]? = some n := at_lt hqn
  have HX : Hid ((N.map (tellB oa O.length oc i1 i2))[q]? = some ((tellB oa O.length oc i1 i2) nq)) := Lib.hid (by rw [List.getElem?_map, hnq]; rfl)
  have HNM : Hid (nq ∈ S4.nodesL S (S4.touchL S (allP O))) := Lib.hid (by rw [HN.out]; exact List.mem_of_getElem? hnq)
  have HQL : Hid (q < (N.map (tellB oa O.length oc i1 i2)).length) := Lib.hid (List.getElem?_eq_some_iff.1 HX.out).1
  have HLL : Hid ((N.map (tellB oa O.length oc i1 i2)).length ≤ 1000) := Lib.hid (by rw [List.length_map]; have := HNL.out; omega)
  obtain ⟨g, cap, hv, hbg, hgs, _⟩ := HOW.out.row (fun e => by have := HQL.out; rw [e] at this; cases this)
  simp only [Value.slice.injEq, List.length_map, true_and] at hv
  obtain ⟨rfl, rfl⟩ := hv
  clear hnq ho hb
  go_upto_region 13 with (first
   | go_skip
   | ((with_reducible refine atW wr ?_); refine wpList_load_part _ _ rfl (by rfl) _ 0 rfl K7_r.out Tryz.underlying24 rfl #[.int .i64 i1, .int .i64 i2] (by kernel_rfl) (two_at rfl rfl) ?_))
  have hq' : Below wr.heap.size wr (wr.alloc (.cells #[.int .i64 i1, .int .i64 i2] 24)) := blAlloc (Below.refl _ _) _
  have K17_a : Hid ((wr.alloc (.cells #[.int .i64 i1, .int .i64 i2] 24)).heap[wr.heap.size]? = some (.cells #[.int .i64 i1, .int .i64 i2] 24 (0, 0))) := Lib.hid (new_blockB wr _ _)
  have HOW_a := Lib.hid (HOW.out.later hq')
  have hb7 : Below w7.heap.size w7 (wr.alloc (.cells #[.int .i64 i1, .int .i64 i2] 24)) := blAlloc HB7_r.out _
  have G17 : Hid (w7.heap.size ≤ wr.heap.size) := Lib.hid HB7_r.out.size
  generalize (wr.alloc (.cells #[.int .i64 i1, .int .i64 i2] 24)) = wa at *
  have HB7_a := Lib.hid hb7
  have K7_a := row_upB K7_7 L7_7 HB7_a.out
  have L7_a := lt_upB L7_7 HB7_a.out
  have K9_a := row_upB K9_7 L9_7 HB7_a.out
  have L9_a := lt_upB L9_7 HB7_a.out
  have HB_a := Lib.hid (blThen HB_7.out HB7_a.out)
  have HA_a := Lib.hid (HA_7.out.later HB7_a.out)
  have HO_a := Lib.hid (HO_7.out.later HB7_a.out)
  have HT_a := Lib.hid (HT_7.out.later HB7_a.out)
  have HNE : Hid (g ≠ wr.heap.size) := Lib.hid (fun e => own_neB HOW_a.out K17_a.out (by decide) (by show some g = some _; rw [e]))
  generalize wr.heap.size = b17 at *
  have GG : Hid (g < wa.heap.size) := Lib.hid (HOW_a.out.block g rfl).2
  have GB : Hid (w7.heap.size ≤ g) := Lib.hid hbg
  clear hq' hb7 HOW HB hgs hbg
  by_cases hh0 : how = 0
  ·subst hh0
   have HPT := own_put (p := 2) (x' := ⟨nq, oa, O.length, oc, (l1, l2), true⟩) (vs := [.int .i64 l1, .int .i64 l2]) HOW_a.out HX.out (by simp) (fun j hj => by
    have hj2 : j = 0 ∨ j = 1 := by
     simp only [List.length_cons, List.length_nil] at hj
     omega
    rcases hj2 with rfl | rfl <;> rfl) (fun j hj => by
    simp only [List.length_cons, List.length_nil] at hj
    rcases hj with hj | hj
    ·have hj2 : j = 0 ∨ j = 1 := by omega
     rcases hj2 with rfl | rfl <;> rfl
    ·obtain ⟨m, rfl⟩ : ∃ m, j = m + 4 := ⟨j - 4, by omega⟩
     rfl)
   obtain ⟨hth, hsl, hgr⟩ := HPT
   have HL_b := Lib.hid hsl
   have hb7 : Below w7.heap.size w7 (wa.setCells g (q * 13 + 2) [.int .i64 l1, .int .i64 l2]) := below_grownB HB7_a.out hgr GB.out
   have K17_b := grown_otherB K17_a hgr (lt_of_block K17_a.out) (fun e => HNE.out e.symm)
   have GG_b : Hid (g < (wa.setCells g (q * 13 + 2) [.int .i64 l1, .int .i64 l2]).heap.size) := Lib.hid (Nat.lt_of_lt_of_le GG.out hgr.size)
   have HTH : Hid (wa.there g (q * 13 + 2) (#[.int .i64 l1, .int .i64 l2] : Array Value).size) := Lib.hid hth
   generalize hwb : wa.setCells g (q * 13 + 2) [.int .i64 l1, .int .i64 l2] = wb at *
   have HWB : Hid (wa.setCells g (q * 13 + 2) (#[.int .i64 l1, .int .i64 l2] : Array Value).toList = wb) := hwb
   clear hth hsl hgr hwb
   have HB7_b := Lib.hid hb7
   have K7_b := row_upB K7_7 L7_7 HB7_b.out
   have L7_b := lt_upB L7_7 HB7_b.out
   have K9_b := row_upB K9_7 L9_7 HB7_b.out
   have L9_b := lt_upB L9_7 HB7_b.out
   have HB_b := Lib.hid (blThen HB_7.out HB7_b.out)
   have HA_b := Lib.hid (HA_7.out.later HB7_b.out)
   have HO_b := Lib.hid (HO_7.out.later HB7_b.out)
   have HT_b := Lib.hid (HT_7.out.later HB7_b.out)
   have L17_b := Lib.hid (lt_of_block K17_b.out)
   go_upto_region 20 with (first
    | go_skip
    | ((with_reducible refine atW wa ?_); refine wpList_load_part _ _ rfl (by rfl) _ 0 rfl K9_a.out Tryz.underlying24 rfl #[.int .i64 l1, .int .i64 l2] (by kernel_rfl) (two_at rfl rfl) ?_)
    | ((with_reducible refine atW wa ?_); refine wpList_store_mid rfl _ _ _ rfl g (q * 13 + 2) #[.int .i64 l1, .int .i64 l2] rfl rfl HTH.out (by kernel_rfl) (by simp [Value.oneCell']) ?_; rw [HWB.out])
    | ((with_reducible refine atW wb ?_); refine wpList_load_part _ _ rfl (by rfl) _ 0 rfl K9_b.out Tryz.underlying24 rfl #[.int .i64 l1, .int .i64 l2] (by kernel_rfl) (two_at rfl rfl) ?_)
    | ((with_reducible refine atW wb ?_); refine wpList_store_part _ _ _ rfl (by rfl) _ 0 rfl rfl (cs := #[.int .i64 l1, .int .i64 l2]) rfl K17_b.out (by kernel_rfl) (by simp) (by simp [Value.oneCell']) (D := #[.int .i64 l1, .int .i64 l2]) rfl ?_; intro wc h1 h2; have K17_c := Lib.hid h1; have hb7c := below_grownB HB7_b.out h2 G17.out; have HL_c := Lib.hid (slG_other HL_b.out h2 GG_b.out HNE.out); clear h1 h2))
   have HB7_c := Lib.hid hb7c
   have K7_c := row_upB K7_7 L7_7 HB7_c.out
   have L7_c := lt_upB L7_7 HB7_c.out
   have K9_c := row_upB K9_7 L9_7 HB7_c.out
   have L9_c := lt_upB L9_7 HB7_c.out
   have HB_c := Lib.hid (blThen HB_7.out HB7_c.out)
   have HA_c := Lib.hid (HA_7.out.later HB7_c.out)
   have HO_c := Lib.hid (HO_7.out.later HB7_c.out)
   have HT_c := Lib.hid (HT_7.out.later HB7_c.out)
   have HM1 : Hid ((⟨nq, oa, O.length, oc, (l1, l2), true⟩ : Td) ∈ (N.map (tellB oa O.length oc i1 i2)).set q (⟨nq, oa, O.length, oc, (l1, l2), true⟩ : Td)) := Lib.hid (mem_setB HQL.out)
   have HDF : Hid (differsB i1 i2 (⟨nq, oa, O.length, oc, (l1, l2), true⟩ : Td) = true) := Lib.hid (differs_late (lt_ne H3.out))
   have HFB : Hid (fastB S i1 i2 (S4.touchL S (allP O)) ((N.map (tellB oa O.length oc i1 i2)).set q (⟨nq, oa, O.length, oc, (l1, l2), true⟩ : Td)) = false) := Lib.hid (odd_fast HM1.out HNM.out HDF.out)
   have HTOP : Hid (topB ((N.map (tellB oa O.length oc i1 i2)).set q (⟨nq, oa, O.length, oc, (l1, l2), true⟩ : Td)) = (l1, l2)) := Lib.hid (odd_late (i := (i1, i2)) HM1.out rfl (fun y hy => by
    rcases List.mem_or_eq_of_mem_set hy with h | h
    ·obtain ⟨n, _, rfl⟩ := List.mem_map.1 h
     exact .inl rfl
    ·subst h
     exact .inr rfl) H3.out)
   have HL1 : Hid (((N.map (tellB oa O.length oc i1 i2)).set q (⟨nq, oa, O.length, oc, (l1, l2), true⟩ : Td)).length ≤ 1000) := Lib.hid (by rw [List.length_set]; exact HLL.out)
   generalize (N.map (tellB oa O.length oc i1 i2)).set q (⟨nq, oa, O.length, oc, (l1, l2), true⟩ : Td) = L1 at *
   have HFA : Hid (Calls Tryz.prog 11 #[.slice sa S.length sc, .agg #[.int .i64 i1, .int .i64 i2], .slice ta tn tc, .slice (some ⟨g, 0, none⟩) N.length cv] wc (RetF wc i1 i2 false)) := Lib.hid (by
    have h := fast_any i1 i2 sa sc S ta tc (S4.touchL S (allP O)) (.slice (some ⟨g, 0, none⟩) N.length cv) L1 wc HL1.out HL_c.out (Nat.le_trans HTP.out.len (by decide)) (S4.topo_n5 HTP.out) HA_c.out (Nat.le_trans (S4.ofTo_len _ _) (Nat.le_trans HTP.out.len (by decide))) HT_c.out
    rw [HFB.out, htn] at h
    exact h)
   have LL_c : Hid (b17 < wc.heap.size) := Lib.hid (lt_of_block K17_c.out)
   go_upto_region 21 with (first
    | go_skip
    | ((with_reducible refine atW wc ?_); refine wpList_load_part _ _ rfl (by rfl) _ 0 rfl K7_c.out Tryz.underlying24 rfl #[.int .i64 i1, .int .i64 i2] (by kernel_rfl) (two_at rfl rfl) ?_)
    | (go_at_call 11; go_must (refine HFA.out.mono ?_; rintro e w20 ⟨fa, fn, fc, he, h⟩; subst he; simp only [if_false, Bool.false_eq_true, reduceIte]; have hb20 := blThen HB7_c.out h; have HL_20 := Lib.hid (HL_c.out.later h); have K17_20 := row_upB K17_c LL_c h; have LL_20 := lt_upB LL_c h; clear h)))
   have hq' : Below w20.heap.size w20 (w20.alloc (.cells #[.bool false, .int .i64 0, .int .i64 0, .slice none 0 0] 38)) := blAlloc (Below.refl _ _) _
   have hb7 := blThen hb20 hq'
   have HL_d := Lib.hid (HL_20.out.later hq')
   have K17_d := row_upB K17_20 LL_20 hq'
   have K18_d : Hid ((w20.alloc (.cells #[.bool false, .int .i64 0, .int .i64 0, .slice none 0 0] 38)).heap[w20.heap.size]? = some (.cells #[.bool false, .int .i64 0, .int .i64 0, .slice none 0 0] 38 (0, 0))) := Lib.hid (new_blockB w20 _ _)
   generalize (w20.alloc (.cells #[.bool false, .int .i64 0, .int .i64 0, .slice none 0 0] 38)) = wd at *
   generalize w20.heap.size = b18 at *
   clear hq' hb20
   have HB7_d := Lib.hid hb7
   have K7_d := row_upB K7_7 L7_7 HB7_d.out
   have L7_d := lt_upB L7_7 HB7_d.out
   have K9_d := row_upB K9_7 L9_7 HB7_d.out
   have L9_d := lt_upB L9_7 HB7_d.out
   have HB_d := Lib.hid (blThen HB_7.out HB7_d.out)
   have HA_d := Lib.hid (HA_7.out.later HB7_d.out)
   have HO_d := Lib.hid (HO_7.out.later HB7_d.out)
   have HT_d := Lib.hid (HT_7.out.later HB7_d.out)
   have L17_d := Lib.hid (lt_of_block K17_d.out)
   have L18_d := Lib.hid (lt_of_block K18_d.out)
   have HRE : Hid (Calls Tryz.prog 12 #[.slice sa S.length sc, .agg #[.int .i64 i1, .int .i64 i2], .slice oa O.length oc, .slice (some ⟨g, 0, none⟩) N.length cv] wd fun e w' => e = .returned (.agg #[.int .i64 2, .bool false, .int .i64 0, .int .i64 0, .slice none 0 0, .int .i64 l1, .int .i64 l2, .slice none 0 0]) ∧ Below wd.heap.size wd w') := Lib.hid (by
    have h := recover_bind i1 i2 sa sc S (.slice oa O.length oc) O (.slice (some ⟨g, 0, none⟩) N.length cv) L1 wd HL1.out HL_d.out (Nat.le_trans HTP.out.len (by decide)) (S4.topo_n5 HTP.out) HA_d.out HTP.out.full (Nat.le_trans HOk.out.1 (by decide)) HNE0.out HOk.out.2 HO_d.out HFB.out
    rw [HTOP.out] at h
    exact h)
   go_upto_region 22 with (first
    | go_skip
    | ((with_reducible refine atW wd ?_); refine wpList_load_part _ _ rfl (by rfl) _ 0 rfl K7_d.out Tryz.underlying24 rfl #[.int .i64 i1, .int .i64 i2] (by kernel_rfl) (two_at rfl rfl) ?_)
    | (go_at_call 12; go_must (refine HRE.out.mono ?_; rintro e w21 ⟨rfl, h⟩; have hb21 := blThen HB7_d.out h; have HL_21 := Lib.hid (HL_d.out.later h); have K17_21 := row_upB K17_d L17_d h; have L17_21 := lt_upB L17_d h; have K18_21 := row_upB K18_d L18_d h; have L18_21 := lt_upB L18_d h; clear h)))
   have hq' : Below w21.heap.size w21 (w21.alloc (.cells #[.int .i64 2, .bool false, .int .i64 0, .int .i64 0, .slice none 0 0, .int .i64 l1, .int .i64 l2, .slice none 0 0] 44)) := blAlloc (Below.refl _ _) _
   have HB_e := Lib.hid (blThen HB_7.out (blThen hb21 hq'))
   have HL_e := Lib.hid (HL_21.out.later hq')
   have k17 := (row_upB K17_21 L17_21 hq').out
   have k18 := (row_upB K18_21 L18_21 hq').out
   have k20 : (w21.alloc (.cells #[.int .i64 2, .bool false, .int .i64 0, .int .i64 0, .slice none 0 0, .int .i64 l1, .int .i64 l2, .slice none 0 0] 44)).heap[w21.heap.size]? = some (.cells #[.int .i64 2, .bool false, .int .i64 0, .int .i64 0, .slice none 0 0, .int .i64 l1, .int .i64 l2, .slice none 0 0] 44 (0, 0)) := new_blockB w21 _ _
   generalize (w21.alloc (.cells #[.int .i64 2, .bool false, .int .i64 0, .int .i64 0, .slice none 0 0, .int .i64 l1, .int .i64 l2, .slice none 0 0] 44)) = we at *
   generalize w21.heap.size = b20 at *
   have l17 := lt_of_block k17
   have l18 := lt_of_block k18
   have l20 := lt_of_block k20
   have c170 := cell_rowB k17 0 _ rfl
   have c171 := cell_rowB k17 1 _ rfl
   have c180 := cell_rowB k18 0 _ rfl
   have c181 := cell_rowB k18 1 _ rfl
   have c182 := cell_rowB k18 2 _ rfl
   have c183 := cell_rowB k18 3 _ rfl
   have c200 := cell_rowB k20 0 _ rfl
   have c205 := cell_rowB k20 5 _ rfl
   have c206 := cell_rowB k20 6 _ rfl
   have HAT : Hid (∀ z : S1.Aft we, Calls Tryz.prog 14 #[.slice (some ⟨g, 0, none⟩) N.length cv] z.x fun e w' => e = .returned (.agg #[.int .i64 l1, .int .i64 l2]) ∧ Below z.x.heap.size z.x w') := Lib.hid (fun z => by
    have h := at_any (.slice (some ⟨g, 0, none⟩) N.length cv) L1 z.x HL1.out (HL_e.out.later z.h)
    rw [HTOP.out] at h
    exact h)
   clear k17 k18 k20 hb21 hq'
   refine S1.region_aft (by kernel_rfl) (by kernel_rfl) ?_
   repeat (go_big_quiet_step (first | (go_at_call 14; exact S1.aft_of (HAT.out _)) | (go_at_call 13; exact S1.aft_of (samev0_any _)) | (go_at_call 7; exact S1.aft_of (live12_any _))))
   refine wpQuiet_nil ?_
   rintro w22 ⟨z, rfl⟩
   have HBF := Lib.hid (blThen HB_e.out z.h)
   generalize z.x = wF at *
   go_wp2
   go_ret
   exact ⟨rfl, HBF.out⟩
  by_cases hh1 : how = 1
  ·subst hh1
   have HPT := own_put (p := 4) (x' := ⟨nq, oa, O.length, oc, (i1, i2), false⟩) (vs := [.bool false]) HOW_a.out HX.out (by simp) (fun j hj => by
    have hj2 : j = 0 := by
     simp only [List.length_cons, List.length_nil] at hj
     omega
    subst hj2; rfl) (fun j hj => by
    simp only [List.length_cons, List.length_nil] at hj
    rcases hj with hj | hj
    ·have hj2 : j = 0 ∨ j = 1 ∨ j = 2 ∨ j = 3 := by omega
     rcases hj2 with rfl | rfl | rfl | rfl <;> rfl
    ·obtain ⟨m, rfl⟩ : ∃ m, j = m + 5 := ⟨j - 5, by omega⟩
     rfl)
   obtain ⟨hth, hsl, hgr⟩ := HPT
   have HL_b := Lib.hid hsl
   have hb7 : Below w7.heap.size w7 (wa.setCells g (q * 13 + 4) [.bool false]) := below_grownB HB7_a.out hgr GB.out
   have K17_b := grown_otherB K17_a hgr (lt_of_block K17_a.out) (fun e => HNE.out e.symm)
   have GG_b : Hid (g < (wa.setCells g (q * 13 + 4) [.bool false]).heap.size) := Lib.hid (Nat.lt_of_lt_of_le GG.out hgr.size)
   obtain ⟨u, hu⟩ := Option.isSome_iff_exists.1 (hth 0 (by decide)).1
   have hf := (hth 0 (by decide)).2
   simp only [Nat.add_zero] at hu hf
   generalize hwb : wa.setCells g (q * 13 + 4) [.bool false] = wb at *
   have HWB : Hid (wa.setCell ⟨g, q * 13 + 4, none⟩ (.bool false) = wb) := hwb
   clear hth hsl hgr hwb
   go_upto_region 20 with fail
   rw [HWB.out]
   clear hu hf
   have HB7_b := Lib.hid hb7
   have K7_b := row_upB K7_7 L7_7 HB7_b.out
   have L7_b := lt_upB L7_7 HB7_b.out
   have K9_b := row_upB K9_7 L9_7 HB7_b.out
   have L9_b := lt_upB L9_7 HB7_b.out
   have HB_b := Lib.hid (blThen HB_7.out HB7_b.out)
   have HA_b := Lib.hid (HA_7.out.later HB7_b.out)
   have HO_b := Lib.hid (HO_7.out.later HB7_b.out)
   have HT_b := Lib.hid (HT_7.out.later HB7_b.out)
   have HM1 : Hid ((⟨nq, oa, O.length, oc, (i1, i2), false⟩ : Td) ∈ (N.map (tellB oa O.length oc i1 i2)).set q (⟨nq, oa, O.length, oc, (i1, i2), false⟩ : Td)) := Lib.hid (mem_setB HQL.out)
   have HDF : Hid (differsB i1 i2 (⟨nq, oa, O.length, oc, (i1, i2), false⟩ : Td) = true) := Lib.hid (differs_not rfl)
   have HFB : Hid (fastB S i1 i2 (S4.touchL S (allP O)) ((N.map (tellB oa O.length oc i1 i2)).set q (⟨nq, oa, O.length, oc, (i1, i2), false⟩ : Td)) = false) := Lib.hid (odd_fast HM1.out HNM.out HDF.out)
   have HTOP : Hid (topB ((N.map (tellB oa O.length oc i1 i2)).set q (⟨nq, oa, O.length, oc, (i1, i2), false⟩ : Td)) = (i1, i2)) := Lib.hid (odd_same HM1.out (fun y hy => by
    rcases List.mem_or_eq_of_mem_set hy with h | h
    ·obtain ⟨n, _, rfl⟩ := List.mem_map.1 h
     exact rfl
    ·subst h
     exact rfl) )
   have HL1 : Hid (((N.map (tellB oa O.length oc i1 i2)).set q (⟨nq, oa, O.length, oc, (i1, i2), false⟩ : Td)).length ≤ 1000) := Lib.hid (by rw [List.length_set]; exact HLL.out)
   generalize (N.map (tellB oa O.length oc i1 i2)).set q (⟨nq, oa, O.length, oc, (i1, i2), false⟩ : Td) = L1 at *
   have HFA : Hid (Calls Tryz.prog 11 #[.slice sa S.length sc, .agg #[.int .i64 i1, .int .i64 i2], .slice ta tn tc, .slice (some ⟨g, 0, none⟩) N.length cv] wb (RetF wb i1 i2 false)) := Lib.hid (by
    have h := fast_any i1 i2 sa sc S ta tc (S4.touchL S (allP O)) (.slice (some ⟨g, 0, none⟩) N.length cv) L1 wb HL1.out HL_b.out (Nat.le_trans HTP.out.len (by decide)) (S4.topo_n5 HTP.out) HA_b.out (Nat.le_trans (S4.ofTo_len _ _) (Nat.le_trans HTP.out.len (by decide))) HT_b.out
    rw [HFB.out, htn] at h
    exact h)
   have LL_b : Hid (b17 < wb.heap.size) := Lib.hid (lt_of_block K17_b.out)
   go_upto_region 21 with (first
    | go_skip
    | ((with_reducible refine atW wb ?_); refine wpList_load_part _ _ rfl (by rfl) _ 0 rfl K7_b.out Tryz.underlying24 rfl #[.int .i64 i1, .int .i64 i2] (by kernel_rfl) (two_at rfl rfl) ?_)
    | (go_at_call 11; go_must (refine HFA.out.mono ?_; rintro e w20 ⟨fa, fn, fc, he, h⟩; subst he; simp only [if_false, Bool.false_eq_true, reduceIte]; have hb20 := blThen HB7_b.out h; have HL_20 := Lib.hid (HL_b.out.later h); have K17_20 := row_upB K17_b LL_b h; have LL_20 := lt_upB LL_b h; clear h)))
   have hq' : Below w20.heap.size w20 (w20.alloc (.cells #[.bool false, .int .i64 0, .int .i64 0, .slice none 0 0] 38)) := blAlloc (Below.refl _ _) _
   have hb7 := blThen hb20 hq'
   have HL_d := Lib.hid (HL_20.out.later hq')
   have K17_d := row_upB K17_20 LL_20 hq'
   have K18_d : Hid ((w20.alloc (.cells #[.bool false, .int .i64 0, .int .i64 0, .slice none 0 0] 38)).heap[w20.heap.size]? = some (.cells #[.bool false, .int .i64 0, .int .i64 0, .slice none 0 0] 38 (0, 0))) := Lib.hid (new_blockB w20 _ _)
   generalize (w20.alloc (.cells #[.bool false, .int .i64 0, .int .i64 0, .slice none 0 0] 38)) = wd at *
   generalize w20.heap.size = b18 at *
   clear hq' hb20
   have HB7_d := Lib.hid hb7
   have K7_d := row_upB K7_7 L7_7 HB7_d.out
   have L7_d := lt_upB L7_7 HB7_d.out
   have K9_d := row_upB K9_7 L9_7 HB7_d.out
   have L9_d := lt_upB L9_7 HB7_d.out
   have HB_d := Lib.hid (blThen HB_7.out HB7_d.out)
   have HA_d := Lib.hid (HA_7.out.later HB7_d.out)
   have HO_d := Lib.hid (HO_7.out.later HB7_d.out)
   have HT_d := Lib.hid (HT_7.out.later HB7_d.out)
   have L17_d := Lib.hid (lt_of_block K17_d.out)
   have L18_d := Lib.hid (lt_of_block K18_d.out)
   have HRE : Hid (Calls Tryz.prog 12 #[.slice sa S.length sc, .agg #[.int .i64 i1, .int .i64 i2], .slice oa O.length oc, .slice (some ⟨g, 0, none⟩) N.length cv] wd fun e w' => e = .returned (.agg #[.int .i64 2, .bool false, .int .i64 0, .int .i64 0, .slice none 0 0, .int .i64 i1, .int .i64 i2, .slice none 0 0]) ∧ Below wd.heap.size wd w') := Lib.hid (by
    have h := recover_bind i1 i2 sa sc S (.slice oa O.length oc) O (.slice (some ⟨g, 0, none⟩) N.length cv) L1 wd HL1.out HL_d.out (Nat.le_trans HTP.out.len (by decide)) (S4.topo_n5 HTP.out) HA_d.out HTP.out.full (Nat.le_trans HOk.out.1 (by decide)) HNE0.out HOk.out.2 HO_d.out HFB.out
    rw [HTOP.out] at h
    exact h)
   go_upto_region 22 with (first
    | go_skip
    | ((with_reducible refine atW wd ?_); refine wpList_load_part _ _ rfl (by rfl) _ 0 rfl K7_d.out Tryz.underlying24 rfl #[.int .i64 i1, .int .i64 i2] (by kernel_rfl) (two_at rfl rfl) ?_)
    | (go_at_call 12; go_must (refine HRE.out.mono ?_; rintro e w21 ⟨rfl, h⟩; have hb21 := blThen HB7_d.out h; have HL_21 := Lib.hid (HL_d.out.later h); have K17_21 := row_upB K17_d L17_d h; have L17_21 := lt_upB L17_d h; have K18_21 := row_upB K18_d L18_d h; have L18_21 := lt_upB L18_d h; clear h)))
   have hq' : Below w21.heap.size w21 (w21.alloc (.cells #[.int .i64 2, .bool false, .int .i64 0, .int .i64 0, .slice none 0 0, .int .i64 i1, .int .i64 i2, .slice none 0 0] 44)) := blAlloc (Below.refl _ _) _
   have HB_e := Lib.hid (blThen HB_7.out (blThen hb21 hq'))
   have HL_e := Lib.hid (HL_21.out.later hq')
   have k17 := (row_upB K17_21 L17_21 hq').out
   have k18 := (row_upB K18_21 L18_21 hq').out
   have k20 : (w21.alloc (.cells #[.int .i64 2, .bool false, .int .i64 0, .int .i64 0, .slice none 0 0, .int .i64 i1, .int .i64 i2, .slice none 0 0] 44)).heap[w21.heap.size]? = some (.cells #[.int .i64 2, .bool false, .int .i64 0, .int .i64 0, .slice none 0 0, .int .i64 i1, .int .i64 i2, .slice none 0 0] 44 (0, 0)) := new_blockB w21 _ _
   generalize (w21.alloc (.cells #[.int .i64 2, .bool false, .int .i64 0, .int .i64 0, .slice none 0 0, .int .i64 i1, .int .i64 i2, .slice none 0 0] 44)) = we at *
   generalize w21.heap.size = b20 at *
   have l17 := lt_of_block k17
   have l18 := lt_of_block k18
   have l20 := lt_of_block k20
   have c170 := cell_rowB k17 0 _ rfl
   have c171 := cell_rowB k17 1 _ rfl
   have c180 := cell_rowB k18 0 _ rfl
   have c181 := cell_rowB k18 1 _ rfl
   have c182 := cell_rowB k18 2 _ rfl
   have c183 := cell_rowB k18 3 _ rfl
   have c200 := cell_rowB k20 0 _ rfl
   have c205 := cell_rowB k20 5 _ rfl
   have c206 := cell_rowB k20 6 _ rfl
   have HAT : Hid (∀ z : S1.Aft we, Calls Tryz.prog 14 #[.slice (some ⟨g, 0, none⟩) N.length cv] z.x fun e w' => e = .returned (.agg #[.int .i64 i1, .int .i64 i2]) ∧ Below z.x.heap.size z.x w') := Lib.hid (fun z => by
    have h := at_any (.slice (some ⟨g, 0, none⟩) N.length cv) L1 z.x HL1.out (HL_e.out.later z.h)
    rw [HTOP.out] at h
    exact h)
   clear k17 k18 k20 hb21 hq'
   refine S1.region_aft (by kernel_rfl) (by kernel_rfl) ?_
   repeat (go_big_quiet_step (first | (go_at_call 14; exact S1.aft_of (HAT.out _)) | (go_at_call 13; exact S1.aft_of (samev0_any _)) | (go_at_call 7; exact S1.aft_of (live12_any _))))
   refine wpQuiet_nil ?_
   rintro w22 ⟨z, rfl⟩
   have HBF := Lib.hid (blThen HB_e.out z.h)
   generalize z.x = wF at *
   go_wp2
   go_ret
   exact ⟨rfl, HBF.out⟩
  have hb2 : ((how == 0) = false) := by simpa using hh0
  have hb3 : ((how == 1) = false) := by simpa using hh1
  go_wp2_with (first
   | go_skip
   | ((with_reducible refine atC wa ?_); go_at_call 7; go_must (refine (live12_any wa).mono ?_; rintro e wl ⟨rfl, h⟩; have HBL := Lib.hid (blThen HB_a.out h); clear h)))
  go_ret
  exact ⟨rfl, HBL.out⟩
end SB
end Go.Proofs.YtpdfcojcmhadnaaGreat
