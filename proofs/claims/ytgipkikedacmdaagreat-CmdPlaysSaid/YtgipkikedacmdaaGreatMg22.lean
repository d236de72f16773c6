/- deps.Without once more: its lists lie in blocks of the call's own. Conditions: as in the text ahead. -/
import Derived.DeepKeys4
import Derived.MapViews
import Derived.Lib.SliceRun
import Derived.Test.YtgipkikedacmdaaGreatMg21
import Derived.Test.YtgipkikedacmdaaGreatMg20
import Derived.Test.YtgipkikedacmdaaGreatMg19
set_option maxRecDepth 100000
set_option maxHeartbeats 16000000
set_option linter.unusedVariables false
namespace Go.Proofs.YtgipkikedacmdaaGreat
open Go.Lib renaming hid → hI
open S1
namespace SD
open Go.RowKit
def kT (s : Int × Int) : Lit := .string (keyBytes [.int .i64 s.1, .int .i64 s.2])
def WfT (s : Int × Int) : Prop := (Lit.int .i64 s.1).wf = true ∧ (Lit.int .i64 s.2).wf = true
theorem laidT : laidOutB Tryz.prog = true := by kernel_rfl
theorem rowT : (23 : TypeId) < Tryz.prog.types.size := of_decide_eq_true (by kernel_rfl)
theorem kLawT : WideMaps.KeyLaw Tryz.prog 23 := deep_law_laid laidT (m := 2) (by omega) rowT (by kernel_rfl) (by rw [Tryz.underlying23])
theorem lawT6 : Maps.Keyed Tryz.prog 23 := Maps.Keyed.of_law kLawT
theorem deepT : Tryz.prog.keyTypeAt (Tryz.prog.types.size + 1) 23 = true := by kernel_rfl
theorem formedT (t n : Int) : (stV t n).formed Tryz.prog 23 = true := by kernel_rfl
theorem litsT {t n : Int} (h : WfT (t, n)) (d : Nat) : Tryz.prog.keyLits (d + 2) 23 [.int .i64 t, .int .i64 n] = some [.int .i64 t, .int .i64 n] := by
 have h1 := h.1
 have h2 := h.2
 simp only at h1 h2
 have c1 : Tryz.prog.cellsOf 23 = 2 := by kernel_rfl
 have c2 : Tryz.prog.cellsOf 3 = 1 := by kernel_rfl
 have c3 : Tryz.prog.cellsOf 2 = 1 := by kernel_rfl
 simp [Program.keyLits, Tryz.underlying23, Tryz.underlying3, Tryz.underlying2, c1, c2, c3, h1, h2]
theorem succT {n : Nat} (h : 0 < n) : ∃ m, n = m + 1 := ⟨n - 1, by omega⟩
theorem keyT {t n : Int} (h : WfT (t, n)) : keyOf Tryz.prog 23 (stV t n) = some (kT (t, n)) := by
 have h0 : 0 < Tryz.prog.types.size := Nat.lt_of_le_of_lt (Nat.zero_le _) rowT
 obtain ⟨d, hm⟩ : ∃ m, Tryz.prog.types.size = m + 1 := succT h0
 have hd : Tryz.prog.types.size + 1 = d + 2 := by rw [hm]
 have hk : Tryz.prog.keyType 23 = true := deepT
 have hl := litsT h d
 rw [← hd] at hl
 have hv : (stV t n).cells.toList = [.int .i64 t, .int .i64 n] := rfl
 unfold keyOf
 rw [Tryz.underlying23]
 simp only [hk, formedT, Bool.and_self, if_true, hv, hl, Option.map_some]
 rfl
theorem kT_key (s : Int × Int) : WideAt.IsKeyLit (kT s) := trivial
theorem kT_ne {s t : Int × Int} (hs : WfT s) (ht : WfT t) (h : s ≠ t) : kT s ≠ kT t := fun e => by
 have a := keyT hs
 have b := keyT ht
 rw [← e] at b
 have := lawT6.inj a b
 unfold stV at this
 simp only [Value.agg.injEq, Array.mk.injEq, List.cons.injEq, Value.int.injEq] at this
 exact h (Prod.ext this.1.2 this.2.1.2)
def MapT (w : World) (b n : Nat) (D : DataW Unit) : Prop := w.ownsMap Tryz.prog 23 unitElem b n D
theorem MapT.lt {w : World} {b n : Nat} {D : DataW Unit} (h : MapT w b n D) : b < w.heap.size := World.ownsMap.lt h
theorem MapT.later {B : Nat} {w wr : World} {b n : Nat} {D : DataW Unit} (h : MapT w b n D) (hw : Below B w wr) (hb : b < B) : MapT wr b n D := by
 obtain ⟨es, clock, hh, r⟩ := h
 exact ⟨es, clock, (hw.block b hb).trans hh, r⟩
theorem has_putT {D : DataW Unit} (hD : Maps.IsMap D) {s t : Int × Int} (hs : WfT s) (ht : WfT t) (d : DataW Unit) : Maps.has (D.put (kT s) d) (kT t) = (Maps.has D (kT t) || t == s) := by
 by_cases h : t = s
 ·subst h
  rw [Maps.has_put_same hD (kT_key _)]
  simp
 ·rw [Maps.has_put_other (kT_ne ht hs h)]
  simp [h]
def SetTR (w : World) (P : List (Int × Int)) (e : Ending) (w' : World) : Prop := ∃ D n, e = .returned (.map (some w.heap.size)) ∧ MapT w' w.heap.size n D ∧ (∀ s, WfT s → Maps.has D (kT s) = P.any (· == s)) ∧ Below w.heap.size w w'
theorem setOfT_any (a : Option Addr) (c : Nat) (P : List (Int × Int)) (w : World) (hlen : P.length ≤ 1000000) (hwf : ∀ x ∈ P, WfT x) (hp : SL w a P) :
  Calls Tryz.prog 190 #[.slice a P.length c] w (SetTR w P) := by
 have HP := hI hp
 have HWF := hI hwf
 have hmm := @run_makeMap Tryz.prog
 have hB0 : Hid (Below w.heap.size w (w.alloc (.map #[] 0))) := (Below.refl _ _).alloc (Nat.le_refl _) _
 have hI0 : Hid (MapT (w.alloc (.map #[] 0)) w.heap.size 0 (.map [])) := World.ownsMap_made w _ _ _
 clear hp hwf
 go_enter Tryz.func190, Tryz.ntmps190
 go_wp2
 generalize w.alloc (.map #[] 0) = w1 at *
 go_loopw [9] (fun i wr => ∃ (k : Nat) (D : DataW Unit), k ≤ P.length ∧ i = .int .i64 k ∧ MapT wr w.heap.size k D ∧ (∀ s, WfT s → Maps.has D (kT s) = (P.take k).any (· == s)) ∧ Below w.heap.size w wr) (fun i _ => P.length - (RowKit.intOf i).toNat)
 case atStart => exact ⟨0, _, Nat.zero_le _, rfl, hI0.out, fun s _ => rfl, hB0.out⟩
 case round =>
  clear hI0 hB0
  obtain ⟨k, D, hk, rfl, hm, hh, hb⟩ := hrel
  have HB := hI hb
  have HM := hI hm
  have HH := hI hh
  clear hb hm hh
  by_cases hlt : k < P.length
  ·obtain ⟨x, y, hxy⟩ := at_ltS hlt
   obtain ⟨b, o, rfl, hbl, hl⟩ := HP.out (by rintro rfl; simp at hlt)
   obtain ⟨c0, c1⟩ := hl.later hbl HB.out k x y hxy
   have hbw : b < wr.heap.size := Nat.lt_of_lt_of_le hbl HB.out.size
   have hk1 : (k : Int) < (P.length : Int) := by omega
   have hk0 : (0 : Int) ≤ (k : Int) := by omega
   have hdk : decide ((k : Int) < (P.length : Int)) = true := decide_eq_true hk1
   have HWX : Hid (WfT (x, y)) := hI (HWF.out (x, y) (List.mem_of_getElem? hxy))
   have HKY : Hid (keyOf Tryz.prog 23 (.agg #[.int .i64 x, .int .i64 y]) = some (kT (x, y))) := keyT HWX.out
   have HT : Hid (∀ s, (P.take (k + 1)).any (· == s) = ((P.take k).any (· == s) || s == (x, y))) := fun s => by
    rw [List.take_add_one, hxy, List.any_append]
    simp [Bool.beq_comm]
   clear hxy hl hbl
   go_wp2_with (at_mapUpdate; go_must (refine wpList_mapUpdate_own _ rfl _ _ _ 225 rfl 23 230 lawT6 Tryz.underlying225 unitElem w.heap.size k D rfl (HM.out.later (blAlloc (Below.refl _ _) _) HM.out.lt) (by unfold maxLen; omega) _ _ (kT (x, y)) rfl rfl HKY.out (.agg []) [] unitElem_mk ?_; intro w9 h1 h2; have HM9 := hI h1; have HB9 := hI ((blAlloc HB.out _).grown h2 (blAlloc HB.out _).size (fun k hk => by cases hk; exact Nat.le_refl _)); clear h1 h2))
   go_roundw
   case rel => exact ⟨k + 1, _, hlt, by go_num, HM9.out, fun s hs => by rw [has_putT (World.ownsMap.isMap HM.out) HWX.out hs, HH.out s hs, HT.out], HB9.out⟩
   case measure => simp [RowKit.intOf]; omega
  ·have hge : ¬ (k : Int) < (P.length : Int) := by omega
   have hdk : decide ((k : Int) < (P.length : Int)) = false := decide_eq_false hge
   have HHE : Hid (∀ s, WfT s → Maps.has D (kT s) = P.any (· == s)) := fun s hs => by rw [HH.out s hs, List.take_of_length_le (by omega)]
   go_wp2
   go_ret
   exact ⟨D, k, rfl, HM.out, HHE.out, HB.out⟩
theorem hasT_any (b n : Nat) (D : DataW Unit) (x y : Int) (w : World) (hwf : WfT (x, y)) (hm : MapT w b n D) :
  Calls Tryz.prog 195 #[.map (some b), .agg #[.int .i64 x, .int .i64 y]] w fun e w' => e = .returned (.bool (Maps.has D (kT (x, y)))) ∧ Below w.heap.size w w' := by
 have HM := hI hm
 have HK : Hid (keyOf Tryz.prog 23 (.agg #[.int .i64 x, .int .i64 y]) = some (kT (x, y))) := keyT hwf
 clear hm hwf
 go_enter Tryz.func195, Tryz.ntmps195
 go_wp2_with (at_lookup; go_must (refine wpList_lookup_own_unit _ rfl _ _ 225 rfl 23 230 lawT6 Tryz.underlying225 (zeroU6 _) b n D rfl (HM.out.later (blAlloc (Below.refl _ _) _) HM.out.lt) _ (kT (x, y)) rfl HK.out ?_))
 go_ret
 exact ⟨rfl, blAlloc (blAlloc (Below.refl _ w) _) _⟩

def inT (D : DataW Unit) (s : Int × Int) : Bool := Maps.has D (kT s)
def idxQ {α : Type} (p : α → Bool) (l : List α) : Int := if l.any p then (l.findIdx p : Int) else -1
theorem idxQ_hit {α : Type} {p : α → Bool} {l : List α} {k : Nat} {x : α} (hx : l[k]? = some x) (hp : p x = true) (hn : (l.take k).any p = false) : idxQ p l = (k : Int) := by
 have hk := (List.getElem?_eq_some_iff.1 hx).1
 have hm : l.any p = true := List.any_eq_true.2 ⟨x, List.mem_of_getElem? hx, hp⟩
 have hf : l.findIdx p = k := by
  refine (List.findIdx_eq hk).2 ⟨?_, fun j hj => ?_⟩
  ·rw [(List.getElem?_eq_some_iff.1 hx).2]; exact hp
  ·have hj2 : j < (l.take k).length := by rw [List.length_take]; omega
   have := List.any_eq_false.1 hn (l.take k)[j] (List.getElem_mem hj2)
   rw [List.getElem_take] at this
   simpa using this
 simp [idxQ, hm, hf]
theorem idxQ_miss {α : Type} {p : α → Bool} {l : List α} (hn : l.any p = false) : idxQ p l = -1 := by simp [idxQ, hn]
theorem any_take_t {α : Type} {p : α → Bool} {l : List α} {k : Nat} {x : α} (hx : l[k]? = some x) (hn : (l.take k).any p = false) (hp : p x = false) : (l.take (k + 1)).any p = false := by
 rw [List.take_add_one, hx, List.any_append, hn]
 simp [hp]
theorem findQ_spec {α : Type} (p : α → Bool) (l : List α) : l.any p = false ∨ ∃ k x, l[k]? = some x ∧ p x = true ∧ (l.take k).any p = false ∧ idxQ p l = (k : Int) := by
 cases h : l.any p
 ·exact .inl rfl
 ·have hlt : l.findIdx p < l.length := List.findIdx_lt_length.2 (by obtain ⟨x, h1, h2⟩ := List.any_eq_true.1 h; exact ⟨x, h1, h2⟩)
  refine .inr ⟨l.findIdx p, l[l.findIdx p], List.getElem?_eq_getElem hlt, List.findIdx_getElem, ?_, ?_⟩
  ·rw [List.any_eq_false]
   intro y hy
   obtain ⟨j, hj, rfl⟩ := List.mem_iff_getElem.1 hy
   rw [List.length_take] at hj
   rw [List.getElem_take]
   have := List.not_of_lt_findIdx (p := p) (xs := l) (i := j) (by omega)
   simpa using this
  ·simp [idxQ, h]
theorem indexT_any (mb q : Nat) (D : DataW Unit) (a : Option Addr) (c : Nat) (l : List (Int × Int)) (w : World) (hlen : l.length ≤ 1000000) (hwf : ∀ x ∈ l, WfT x) (hl : SL w a l) (hm : MapT w mb q D) :
  Calls Tryz.prog 211 #[.slice a l.length c, .func (.func 195) #[.map (some mb)] #[]] w fun e w' => e = .returned (.int .i64 (idxQ (inT D) l)) ∧ Below w.heap.size w w' := by
 have HL := hI hl
 have HM := hI hm
 have HW := hI hwf
 clear hl hm hwf
 go_enter Tryz.func211, Tryz.ntmps211
 go_wp2
 go_loopw [8] (fun i wr => ∃ k : Nat, k ≤ l.length ∧ i = .int .i64 k ∧ (l.take k).any (inT D) = false ∧ Below w.heap.size w wr) (fun i _ => l.length - (RowKit.intOf i).toNat)
 case atStart => exact ⟨0, Nat.zero_le _, rfl, rfl, Below.refl _ _⟩
 case round =>
  obtain ⟨k, hk, rfl, hn, hb⟩ := hrel
  by_cases hlt : k < l.length
  ·obtain ⟨x, y, hxy⟩ := at_ltS hlt
   obtain ⟨b, o, rfl, hbl, hll⟩ := HL.out (by rintro rfl; simp at hlt)
   obtain ⟨c0, c1⟩ := hll.later hbl hb k x y hxy
   have hbw : b < wr.heap.size := Nat.lt_of_lt_of_le hbl hb.size
   have hk0 : (0 : Int) ≤ (k : Int) := by omega
   have hk1 : (k : Int) < (l.length : Int) := by omega
   have hdk : decide ((k : Int) < (l.length : Int)) = true := decide_eq_true hk1
   have HC := hI (hasT_any mb q D x y wr (HW.out (x, y) (List.mem_of_getElem? hxy)) (HM.out.later hb HM.out.lt))
   have HX := hI hxy
   have HB := hI hb
   have HN := hI hn
   clear hxy hb hn hll hbl
   have HI : Hid (Maps.has D (kT (x, y)) = inT D (x, y)) := rfl
   rw [HI.out] at HC
   cases hp : inT D (x, y)
   ·rw [hp] at HC
    go_wp2_with (go_at_call 195; refine HC.out.mono ?_; rintro e w' ⟨rfl, hb⟩; have HB2 := hI (blThen HB.out hb); clear hb)
    go_roundw
    case rel => exact ⟨k + 1, hlt, by go_num, any_take_t HX.out HN.out hp, HB2.out⟩
    case measure => simp [RowKit.intOf]; omega
   ·rw [hp] at HC
    have HE := hI (idxQ_hit HX.out hp HN.out)
    go_wp2_with (go_at_call 195; refine HC.out.mono ?_; rintro e w' ⟨rfl, hb⟩; have HB2 := hI (blThen HB.out hb); clear hb)
    go_ret
    exact ⟨ret_int HE.out.symm, HB2.out⟩
  ·have hdk : decide ((k : Int) < (l.length : Int)) = false := decide_eq_false (by omega)
   rw [List.take_of_length_le (by omega)] at hn
   have HE := hI (idxQ_miss hn)
   clear hn
   go_wp2
   go_ret
   exact ⟨ret_int HE.out.symm, hb⟩

def RetW (w : World) (l : List (Int × Int)) (e : Ending) (w' : World) : Prop := ∃ v, e = .returned v ∧ OwnL w' w.heap.size v l ∧ Below w.heap.size w w'
theorem cloneO_any (a : Option Addr) (cap : Nat) (l : List (Int × Int)) (w : World) (hlen : l.length ≤ 1000000) (hl : SL w a l) (hn : a = none → cap = 0) :
  Calls Tryz.prog 194 #[.slice a l.length cap] w (RetW w l) := by
 obtain ⟨i0, hi, hz0, hz1, hz2⟩ := info_parts info_st
 have HI := hI hi
 have HZ0 := hI hz0
 have HZ1 := hI hz1
 have HZ2 := hI hz2
 rcases src_of hl with rfl | ⟨ad, rfl, hs⟩
 ·obtain rfl : cap = 0 := hn rfl
  obtain rfl : l = [] := by
   apply Classical.byContradiction
   intro hne
   obtain ⟨_, _, h, _⟩ := hl hne
   cases h
  clear hi hz0 hz1 hz2 hl hn hlen
  show Calls Tryz.prog 194 #[.slice none 0 0] w (RetW w [])
  have hq := fun w : World => Lib.run_eql_slice_nil (P := Tryz.prog) w 80 23 none 0 0 0 0 Tryz.underlying80
  go_enter Tryz.func194, Tryz.ntmps194
  go_wp2
  go_ret
  exact ⟨_, rfl, OwnL.nil _ _, Below.refl _ _⟩
 ·have HS := hI (hs (w.alloc (.cells #[] 23)) ((Below.refl _ _).alloc (Nat.le_refl _) _))
  have hlc := cellsL_length l
  have HC := hI hlc
  clear hi hz0 hz1 hz2 hl hn hs hlc
  have hq := fun w : World => Lib.run_eql_slice_nil (P := Tryz.prog) w 80 23 (some ad) l.length cap 0 0 Tryz.underlying80
  go_enter Tryz.func194, Tryz.ntmps194
  go_wp2_with (at_builtin; refine wpList_append_own _ rfl _ _ 80 rfl w.heap.size 23 i0 (.agg #[.int .i64 0, .int .i64 0]) 2 16 Tryz.underlying80 HI.out HZ0.out HZ1.out HZ2.out rfl (by decide) _ 0 [] rfl (own_empty w) ad l.length cap (cellsL l) rfl HC.out HS.out (cellsL_one l) ?qc3 ?qc4 ?qc5 ?_)
  case qc3 => unfold maxLen; omega
  case qc4 => omega
  case qc5 => simp
  ·intro v' w' hown hgrow _
   have HO : Hid (OwnL w' w.heap.size v' l) := hown
   have HB : Hid (Below w.heap.size w w') := ((Below.refl _ _).alloc (Nat.le_refl _) _).grown hgrow (by simp) (fun k hk => by simp [Value.ownBlock] at hk; omega)
   clear hown hgrow
   go_wp2
   go_ret
   exact ⟨v', rfl, HO.out, HB.out⟩

theorem run_clear2 (w : World) (ty : TypeId) (b o n c : Nat) (hn : 0 < n)
  (hc : ∀ j, j < n * 2 → (w.cell? ⟨b, o + j, none⟩).isSome = true) (hf : ∀ j, j < n * 2 → w.frozen? ⟨b, o + j, none⟩ = false) :
  (Builtin.clear_ #[80] ty #[.slice (some ⟨b, o, none⟩) n c]).run Tryz.prog w = .ok (.tuple #[]) (w.setCells b o (List.replicate (n * 2) (.int .i64 0))) := by
 have hv : ∀ w, (zeroValue 23).run Tryz.prog w = .ok (.agg #[.int .i64 0, .int .i64 0]) w := fun w => by kernel_rfl
 have hzc : (Builtin.zeroCells (Value.agg #[.int .i64 0, .int .i64 0]).cells n).toList = List.replicate (n * 2) (.int .i64 0) := by
  show (Builtin.zeroCells #[.int .i64 0, .int .i64 0] n).toList = _
  simp only [Builtin.zeroCells]
  apply List.ext_getElem
  ·simp
  ·intro i h1 h2
   have : i % 2 = 0 ∨ i % 2 = 1 := by omega
   rcases this with h | h <;> simp [h]
 have hst := run_storeCells_cells (P := Tryz.prog) b o (List.replicate (n * 2) (.int .i64 0)) 0 w (by simpa using hc) (by simpa using hf) (by intro v hv'; rw [List.eq_of_mem_replicate hv']; rfl)
 simp only [Nat.add_zero] at hst
 obtain ⟨m, rfl⟩ : ∃ m, n = m + 1 := ⟨n - 1, by omega⟩
 simp [Builtin.clear_, run_underlying Tryz.underlying80, hv, hzc, hst]
def StsAt (w : World) (g cap : Nat) (m : List (Int × Int)) : Prop := ∃ cur : Array Value, w.heap[g]? = some (.cells cur 23 (0, 0)) ∧ m.length ≤ cap ∧ cap ≤ maxLen ∧ cur.size = cap * 2 ∧ cur.toList.take (m.length * 2) = cellsL m
theorem StsAt.lt {w : World} {g cap : Nat} {m : List (Int × Int)} (h : StsAt w g cap m) : g < w.heap.size := by obtain ⟨cur, h, _⟩ := h; exact lt_of_block h
theorem StsAt.later {w wr : World} {g cap : Nat} {m : List (Int × Int)} (h : StsAt w g cap m) (hb : Below w.heap.size w wr) : StsAt wr g cap m := by
 obtain ⟨cur, h1, r⟩ := h
 exact ⟨cur, (hb.block g (lt_of_block h1)).trans h1, r⟩
theorem StsAt.frozen {w : World} {g cap : Nat} {m : List (Int × Int)} (h : StsAt w g cap m) (j : Nat) : w.frozen? ⟨g, j, none⟩ = false := by
 obtain ⟨cur, h1, _⟩ := h
 simp [World.frozen?, h1]
theorem StsAt.own {w : World} {g cap base : Nat} {m : List (Int × Int)} (h : StsAt w g cap m) (hb : base ≤ g) : OwnL w base (.slice (some ⟨g, 0, none⟩) m.length cap) m := by
 obtain ⟨cur, h1, h2, h3, h4, h5⟩ := h
 exact ⟨cellsL_length m, .inr ⟨g, cap, cur, rfl, hb, h1, h2, h3, h4, h5⟩⟩
theorem StsAt.there {w : World} {g cap : Nat} {m : List (Int × Int)} (h : StsAt w g cap m) {j : Nat} (hj : j < m.length * 2) : (w.cell? ⟨g, j, none⟩).isSome = true := by
 obtain ⟨cur, h1, h2, h3, h4, h5⟩ := h
 simp only [World.cell?, h1]
 have : j < cur.size := by omega
 simp [this]
theorem StsAt.cell {w : World} {g cap : Nat} {m : List (Int × Int)} (h : StsAt w g cap m) {j : Nat} {x y : Int} (hx : m[j]? = some (x, y)) : w.cell? ⟨g, j * 2, none⟩ = some (.int .i64 x) ∧ w.cell? ⟨g, j * 2 + 1, none⟩ = some (.int .i64 y) := by
 obtain ⟨cur, h1, h2, h3, h4, h5⟩ := h
 have hj := (List.getElem?_eq_some_iff.1 hx).1
 obtain ⟨c1, c2⟩ := cellsL_at m j x y hx
 rw [← h5] at c1 c2
 rw [List.getElem?_take_of_lt (by omega)] at c1 c2
 simp only [World.cell?, h1]
 exact ⟨by simpa using c1, by simpa using c2⟩
theorem cellsL_set : ∀ (m : List (Int × Int)) (j : Nat) (x y : Int), cellsL (m.set j (x, y)) = ((cellsL m).set (j * 2) (.int .i64 x)).set (j * 2 + 1) (.int .i64 y) := by
 intro m
 induction m with
 | nil => intro j x y; simp [cellsL]
 | cons a m ih =>
  intro j x y
  cases j with
  | zero => simp [cellsL]
  | succ j =>
   have h := ih j x y
   simp only [cellsL, List.set_cons_succ, List.flatMap_cons] at h ⊢
   rw [h]
   rw [show (j + 1) * 2 + 1 = j * 2 + 1 + 1 + 1 by omega, show (j + 1) * 2 = j * 2 + 1 + 1 by omega]
   simp
theorem StsAt.set {w : World} {g cap : Nat} {m : List (Int × Int)} (h : StsAt w g cap m) {j : Nat} (hj : j < m.length) (x y : Int) : StsAt ((w.setCell ⟨g, j * 2, none⟩ (.int .i64 x)).setCell ⟨g, j * 2 + 1, none⟩ (.int .i64 y)) g cap (m.set j (x, y)) := by
 obtain ⟨cur, h1, h2, h3, h4, h5⟩ := h
 refine ⟨_, block_setCell (block_setCell h1 _) _, by simpa using h2, h3, by simpa using h4, ?_⟩
 rw [Array.toList_setIfInBounds, Array.toList_setIfInBounds, List.length_set, List.take_set, List.take_set, h5, cellsL_set]
theorem cellsL_take (m : List (Int × Int)) (k : Nat) : cellsL (m.take k) = (cellsL m).take (k * 2) := by
 induction m generalizing k with
 | nil => simp [cellsL]
 | cons a m ih =>
  cases k with
  | zero => simp [cellsL]
  | succ k =>
   have h := ih k
   simp only [cellsL, List.take_succ_cons, List.flatMap_cons] at h ⊢
   rw [h, show (k + 1) * 2 = k * 2 + 1 + 1 by omega]
   simp
theorem StsAt.cut {w : World} {g cap : Nat} {m : List (Int × Int)} (h : StsAt w g cap m) (k : Nat) : StsAt w g cap (m.take k) := by
 obtain ⟨cur, h1, h2, h3, h4, h5⟩ := h
 refine ⟨cur, h1, by rw [List.length_take]; omega, h3, h4, ?_⟩
 have e : cur.toList.take ((m.take k).length * 2) = (cur.toList.take (m.length * 2)).take (k * 2) := by
  rw [List.take_take, List.length_take]
  congr 1
  omega
 rw [e, h5, cellsL_take]
theorem StsAt.setCells {g cap : Nat} {m : List (Int × Int)} : ∀ (vs : List Value) (o : Nat) (w : World), m.length * 2 ≤ o → StsAt w g cap m → StsAt (w.setCells g o vs) g cap m := by
 intro vs
 induction vs with
 | nil => intro o w _ h; exact h
 | cons v vs ih =>
  intro o w ho h
  refine ih (o + 1) _ (by omega) ?_
  obtain ⟨cur, h1, h2, h3, h4, h5⟩ := h
  refine ⟨_, block_setCell h1 _, h2, h3, by simpa using h4, ?_⟩
  rw [Array.toList_setIfInBounds, List.take_set_of_le ho, h5]
theorem below_setCellsT (B g : Nat) (hg : B ≤ g) : ∀ (vs : List Value) (o : Nat) (a w : World), Below B a w → Below B a (w.setCells g o vs) := by
 intro vs
 induction vs with
 | nil => intro o a w h; exact h
 | cons v vs ih => intro o a w h; exact ih (o + 1) a _ (h.setCell hg v)
structure KeptQ {α : Type} (p : α → Bool) (l m : List α) (i j : Nat) : Prop where
 len : m.length = l.length
 lo : m.take i = (l.take j).filter fun x => !p x
 hi : ∀ k, j ≤ k → m[k]? = l[k]?
 lt : i < j
 le : j ≤ l.length
theorem KeptQ.start {α : Type} {p : α → Bool} {l : List α} {k : Nat} {x : α} (hx : l[k]? = some x) (hp : p x = true) (hn : (l.take k).any p = false) : KeptQ p l l k (k + 1) where
 len := rfl
 lo := by
  rw [List.take_add_one, hx, List.filter_append]
  have : (l.take k).filter (fun x => !p x) = l.take k := List.filter_eq_self.2 fun y hy => by
   have := List.any_eq_false.1 hn y hy
   simpa using this
  rw [this]
  simp [hp]
 hi := fun _ _ => rfl
 lt := by omega
 le := (List.getElem?_eq_some_iff.1 hx).1
theorem KeptQ.skip {α : Type} {p : α → Bool} {l m : List α} {i j : Nat} {x : α} (h : KeptQ p l m i j) (hx : l[j]? = some x) (hp : p x = true) : KeptQ p l m i (j + 1) where
 len := h.len
 lo := by
  rw [List.take_add_one, hx, List.filter_append, h.lo]
  simp [hp]
 hi := fun k hk => h.hi k (by omega)
 lt := by have := h.lt; omega
 le := (List.getElem?_eq_some_iff.1 hx).1
theorem KeptQ.keep {α : Type} {p : α → Bool} {l m : List α} {i j : Nat} {x : α} (h : KeptQ p l m i j) (hx : l[j]? = some x) (hp : p x = false) : KeptQ p l (m.set i x) (i + 1) (j + 1) where
 len := by rw [List.length_set, h.len]
 lo := by
  have hl := h.len
  have h1 := h.lt
  have h2 := (List.getElem?_eq_some_iff.1 hx).1
  rw [List.take_add_one, List.take_set_of_le (Nat.le_refl _), h.lo, List.getElem?_set_self (by omega), List.take_add_one, hx, List.filter_append]
  simp [hp]
 hi := fun k hk => by
  have h1 := h.lt
  rw [List.getElem?_set_ne (by omega)]
  exact h.hi k (by omega)
 lt := by have := h.lt; omega
 le := (List.getElem?_eq_some_iff.1 hx).1

theorem st_new (w : World) (x y : Value) : (w.alloc (.cells #[x, y] 23)).cell? ⟨w.heap.size, 0, none⟩ = some x ∧ (w.alloc (.cells #[x, y] 23)).cell? ⟨w.heap.size, 1, none⟩ = some y := by
 have hb : (w.alloc (.cells #[x, y] 23)).heap[w.heap.size]? = some (.cells #[x, y] 23 (0, 0)) := by
  show (w.heap.push _)[w.heap.size]? = _
  simp
 exact ⟨by simp only [World.cell?, hb]; simp, by simp only [World.cell?, hb]; simp⟩
theorem deleteT_any (mb q : Nat) (D : DataW Unit) (base : Nat) (v : Value) (l : List (Int × Int)) (w : World) (hlen : l.length ≤ 1000000) (hwf : ∀ x ∈ l, WfT x) (hown : OwnL w base v l) (hm : MapT w mb q D) (hmb : mb < base) (hbase : base ≤ w.heap.size) :
  Calls Tryz.prog 193 #[v, .func (.func 195) #[.map (some mb)] #[]] w fun e w' => ∃ v', e = .returned v' ∧ OwnL w' base v' (l.filter fun x => !inT D x) ∧ Below base w w' := by
 have HM := hI hm
 have HW := hI hwf
 obtain ⟨a, c, rfl, hsl, _⟩ := hown.sl
 have HC := hI (indexT_any mb q D a c l w hlen hwf hsl hm)
 clear hwf hm hsl
 rcases findQ_spec (inT D) l with hno | ⟨k0, x0, hx0, hp0, hn0, hi0⟩
 ·have HF : Hid (l.filter (fun x => !inT D x) = l) := List.filter_eq_self.2 fun y hy => by simpa using List.any_eq_false.1 hno y hy
  rw [idxQ_miss hno] at HC
  have HO := hI hown
  clear hno hown
  go_enter Tryz.func193, Tryz.ntmps193
  go_wp2_with (go_at_call 211; refine HC.out.mono ?_; rintro e w' ⟨rfl, hb⟩; have HB := hI hb; clear hb)
  go_ret
  exact ⟨_, rfl, by rw [HF.out]; exact HO.out.later HB.out, HB.out.mono hbase⟩
 ·have hk0 := (List.getElem?_eq_some_iff.1 hx0).1
  obtain ⟨hcl0, h2 | ⟨g, cap, cur, hv, hg, hh, h1, h2, h3, h4⟩⟩ := hown
  ·have := h2.2
   omega
  obtain ⟨rfl, rfl⟩ : a = some ⟨g, 0, none⟩ ∧ c = cap := by
   simp only [Value.slice.injEq] at hv
   exact ⟨hv.1, hv.2.2⟩
  have HR : Hid (StsAt w g c l) := ⟨cur, hh, h1, h2, h3, h4⟩
  rw [hi0] at HC
  have HK := hI (KeptQ.start hx0 hp0 hn0)
  have hne1 : ((k0 : Int) == -1) = false := beq_eq_false_iff_ne.2 (by omega)
  clear hx0 hp0 hn0 hi0 hh h3 h4 hcl0 hv
  go_enter Tryz.func193, Tryz.ntmps193
  go_wp2_with (go_at_call 211; refine HC.out.mono ?_; rintro e w1 ⟨rfl, hb⟩; have HB := hI hb; clear hb)
  go_loopw [5, 6, 7] (fun s5 s6 _ wr => ∃ (i j : Nat) (m : List (Int × Int)), s5 = .int .i64 i ∧ s6 = .int .i64 j ∧ Hid (KeptQ (inT D) l m i j) ∧ Hid (StsAt wr g c m) ∧ Hid (Below base w wr)) (fun _ j _ _ => l.length - (RowKit.intOf j).toNat)
  case atStart => exact ⟨k0, k0 + 1, l, rfl, by go_num, HK, HR.out.later HB.out, HB.out.mono hbase⟩
  case round =>
   obtain ⟨i, j, m, rfl, rfl, HKm, HRm, HBm⟩ := hrel
   have hij := HKm.out.lt
   have hml := HKm.out.len
   have hjl := HKm.out.le
   have hgl := HRm.out.lt
   by_cases hlt : j < l.length
   ·obtain ⟨x, y, hxy⟩ := at_ltS hlt
    obtain ⟨cj, dj⟩ := HRm.out.cell ((HKm.out.hi j (Nat.le_refl _)).trans hxy)
    have hj0 : (0 : Int) ≤ (j : Int) := by omega
    have hj1 : (j : Int) < (l.length : Int) := by omega
    have hdj : decide ((j : Int) < (l.length : Int)) = true := decide_eq_true hj1
    have hi0 : (0 : Int) ≤ (i : Int) := by omega
    have hi1 : (i : Int) < (l.length : Int) := by omega
    have HWX := hI (HW.out (x, y) (List.mem_of_getElem? hxy))
    have HX := hI hxy
    have HBa : Hid (∀ o, Below wr.heap.size wr (wr.alloc o)) := fun o => blAlloc (Below.refl _ _) o
    clear hxy
    have HI : Hid (Maps.has D (kT (x, y)) = inT D (x, y)) := rfl
    cases hp : inT D (x, y)
    ·obtain ⟨x2, y2, hy⟩ := at_ltS (l := m) (k := i) (by omega)
     obtain ⟨ci, di⟩ := HRm.out.cell hy
     have fi := HRm.out.frozen (i * 2)
     have fi2 := HRm.out.frozen (i * 2 + 1)
     have HKP := hI (fun (w2 : World) (hb : Below wr.heap.size wr w2) => (⟨cell_in hb hgl ci, cell_in hb hgl di, (hb.frozen (p := ⟨g, i * 2, none⟩) hgl).trans fi, (hb.frozen (p := ⟨g, i * 2 + 1, none⟩) hgl).trans fi2⟩ : w2.cell? ⟨g, i * 2, none⟩ = some (.int .i64 x2) ∧ w2.cell? ⟨g, i * 2 + 1, none⟩ = some (.int .i64 y2) ∧ w2.frozen? ⟨g, i * 2, none⟩ = false ∧ w2.frozen? ⟨g, i * 2 + 1, none⟩ = false))
     clear ci di fi fi2 hy
     go_wp2_with (go_at_call 195; go_must (refine (hasT_any mb q D x y _ HWX.out (HM.out.later ((HBm.out).trans ((HBa.out _).mono (Nat.le_trans hbase HBm.out.size))) hmb)).mono ?_; rintro e w2 ⟨he, hb⟩; rw [HI.out, hp] at he; subst he; obtain ⟨ci, di, fi, fi2⟩ := HKP.out w2 (blThen (HBa.out _) hb); have HB2 := hI (blThen (HBa.out _) hb); have hg2 := Nat.lt_of_lt_of_le hgl HB2.out.size; have hN := st_new wr (.int .i64 x) (.int .i64 y); have x7 := cell_in hb (by simp) hN.1; have y7 := cell_in hb (by simp) hN.2; clear hb hN))
     go_roundw
     case rel => exact ⟨i + 1, j + 1, m.set i (x, y), by go_num, by go_num, HKm.out.keep HX.out hp, (HRm.out.later HB2.out).set (by omega) x y, ((HBm.out.trans (HB2.out.mono (Nat.le_trans hbase HBm.out.size))).setCell hg _).setCell hg _⟩
     case measure => simp [RowKit.intOf]; omega
    ·go_wp2_with (go_at_call 195; go_must (refine (hasT_any mb q D x y _ HWX.out (HM.out.later ((HBm.out).trans ((HBa.out _).mono (Nat.le_trans hbase HBm.out.size))) hmb)).mono ?_; rintro e w2 ⟨he, hb⟩; rw [HI.out, hp] at he; subst he; have HB2 := hI (blThen (HBa.out _) hb); clear hb))
     go_roundw
     case rel => exact ⟨i, j + 1, m, rfl, by go_num, HKm.out.skip HX.out hp, HRm.out.later HB2.out, HBm.out.trans (HB2.out.mono (Nat.le_trans hbase HBm.out.size))⟩
     case measure => simp [RowKit.intOf]; omega
   ·obtain rfl : j = l.length := by omega
    have hdj : decide ((l.length : Int) < (l.length : Int)) = false := decide_eq_false (by omega)
    have hi0 : (0 : Int) ≤ (i : Int) := by omega
    have hcl : ∀ ty, (Builtin.clear_ #[80] ty #[.slice (some ⟨g, i * 2, none⟩) (l.length - i) (c - i)]).run Tryz.prog wr = .ok (.tuple #[]) (wr.setCells g (i * 2) (List.replicate ((l.length - i) * 2) (.int .i64 0))) :=
     fun ty => run_clear2 wr ty g (i * 2) _ _ (by omega) (fun t ht => HRm.out.there (by omega)) (fun t ht => HRm.out.frozen _)
    have HRF : Hid (StsAt (wr.setCells g (i * 2) (List.replicate ((l.length - i) * 2) (.int .i64 0))) g c (m.take i)) := (HRm.out.cut i).setCells _ _ _ (by rw [List.length_take]; omega)
    have HE : Hid (m.take i = l.filter fun x => !inT D x) := by
     have h := HKm.out.lo
     rwa [List.take_of_length_le (l := l) (by omega)] at h
    have HIL : Hid ((m.take i).length = i) := by show _ = _; rw [List.length_take]; omega
    have HBF := hI (below_setCellsT base g hg (List.replicate ((l.length - i) * 2) (.int .i64 0)) (i * 2) w wr HBm.out)
    go_wp2
    go_ret
    refine ⟨_, rfl, ?_, HBF.out⟩
    have h := HRF.out.own hg
    rw [HIL.out] at h
    rw [← HE.out]
    exact h

theorem var_new (w : World) (t : TypeId) (x : Value) : (w.alloc (.cells #[x] t)).cell? ⟨w.heap.size, 0, none⟩ = some x := by
 have hb : (w.alloc (.cells #[x] t)).heap[w.heap.size]? = some (.cells #[x] t (0, 0)) := by
  show (w.heap.push _)[w.heap.size]? = _
  simp
 simp only [World.cell?, hb]
 simp
def noW (X : List (Int × Int)) (i : Int × Int) : Bool := !X.contains i
theorem withoutD_take2 {l : List Dp} {k : Nat} {s : Dp} {X : List (Int × Int)} (h : l[k]? = some s) : withoutD ((toD l).take (k + 1)) X = withoutD ((toD l).take k) X ++ [(s.sh, s.ids.filter (noW X))] := withoutD_take h
structure SetAt (w : World) (Bs mb n : Nat) (D : DataW Unit) (X : List (Int × Int)) : Prop where
 cell : w.cell? ⟨Bs, 0, none⟩ = some (.map (some mb))
 lt : Bs < w.heap.size
 map : MapT w mb n D
 has : ∀ s, WfT s → Maps.has D (kT s) = X.any (· == s)
theorem SetAt.later {w wr : World} {Bs mb n : Nat} {D : DataW Unit} {X : List (Int × Int)} (h : SetAt w Bs mb n D X) (hw : Below w.heap.size w wr) : SetAt wr Bs mb n D X :=
 ⟨cell_in hw h.lt h.cell, Nat.lt_of_lt_of_le h.lt hw.size, h.map.later hw h.map.lt, h.has⟩
theorem SetAt.filter {w : World} {Bs mb n : Nat} {D : DataW Unit} {X : List (Int × Int)} (h : SetAt w Bs mb n D X) {l : List (Int × Int)} (hwf : ∀ i ∈ l, WfT i) : l.filter (fun x => !inT D x) = l.filter (noW X) :=
 List.filter_congr fun i hi => by
  unfold inT noW
  rw [h.has i (hwf i hi), List.contains_eq_any_beq]
  congr 1
  congr 1
  funext s
  exact Bool.beq_comm
theorem retk_of {w w' : World} {base : Nat} {v : Value} {l : List (Int × Int)} (h : OwnL w' base v l) (hb : w.heap.size ≤ base) (hB : Below w.heap.size w w') : RetK w l (.returned v) w' := by
 obtain ⟨a, c, rfl, h1, h2, h3, h4⟩ := h.sl
 exact ⟨a, c, rfl, h1, h2, fun b o e => Nat.le_trans hb (h3 b o e), h4, hB⟩
theorem withoutC_any (Bs mb n : Nat) (D : DataW Unit) (X : List (Int × Int)) (a : Option Addr) (cap : Nat) (l : List (Int × Int)) (w : World) (hlen : l.length ≤ 1000000) (hwf : ∀ i ∈ l, WfT i) (hl : SL w a l) (hn : a = none → cap = 0) (hb : SetAt w Bs mb n D X) :
  Calls Tryz.prog 192 #[.slice a l.length cap, .pointer (some ⟨Bs, 0, none⟩)] w (RetK w (l.filter (noW X))) := by
 have HL := hI hl
 have HN := hI hn
 have HW := hI hwf
 have HS := hI hb
 have HE := hI (hb.filter hwf)
 have hc0 := hb.cell
 clear hl hb hn hwf
 go_enter Tryz.func192, Tryz.ntmps192
 go_wp2
 go_region_law (first
  | ((try go_simp); go_at_call 194; refine (cloneO_any a cap l _ hlen (HL.out.later (by repeat (first | with_reducible exact Below.refl _ _ | with_reducible refine Below.drew ?_))) HN.out).mono ?_; rintro e w1 ⟨v1, rfl, ho, hb⟩; have HO := hI ho; have HB : Hid (Below w.heap.size w w1) := blThen (by repeat (first | with_reducible exact Below.refl _ _ | with_reducible refine Below.drew ?_)) hb; have hc1 := cell_in HB.out HS.out.lt hc0; clear ho hb)
  | ((try go_simp); go_at_call 193; refine (deleteT_any mb n D w.heap.size v1 l _ hlen HW.out HO.out (HS.out.map.later HB.out HS.out.map.lt) HS.out.map.lt HB.out.size).mono ?_; rintro e w2 ⟨v2, rfl, ho, hb⟩; have HO2 := hI ho; have HB2 := hI hb; clear ho hb))
 all_goals
  go_wp2
  go_ret
  rw [← HE.out]
  exact retk_of HO2.out (Nat.le_refl _) (HB.out.trans HB2.out)

set_option linter.unusedSimpArgs false
def RetDO (w : World) (r : Dd) (e : Ending) (w' : World) : Prop := ∃ a c l, e = .returned (.slice a l.length c) ∧ toD l = r ∧ Dl w' a l ∧ (a = none → c = 0) ∧ (∀ b o, a = some ⟨b, o, none⟩ → w.heap.size ≤ b) ∧ (∀ s ∈ l, ∀ b o, s.ia = some ⟨b, o, none⟩ → w.heap.size ≤ b) ∧ Below w.heap.size w w'
theorem ownD_base {w : World} {base b o n c : Nat} {F : List Dp} (h : OwnD w base (.slice (some ⟨b, o, none⟩) n c) F) : base ≤ b := by
 obtain ⟨h1, ⟨h2, _⟩ | ⟨g, cap, cur, hv, hg, _⟩⟩ := h
 ·cases h2
 ·simp only [Value.slice.injEq, Option.some.injEq, Addr.mk.injEq] at hv
  omega
theorem dl_kept {w w' : World} {a : Option Addr} {l : List Dp} {base k : Nat} (h : Dl w a l) (ha : ∀ b o, a = some ⟨b, o, none⟩ → base ≤ b) (hi : ∀ s ∈ l, ∀ b o, s.ia = some ⟨b, o, none⟩ → base ≤ b) (hg : w.grownBy w' (some k)) (hk : k < base) : Dl w' a l := by
 have cl : ∀ (b o : Nat) (v : Value), base ≤ b → b < w.heap.size → w.cell? ⟨b, o, none⟩ = some v → w'.cell? ⟨b, o, none⟩ = some v := fun b o v h1 h2 h3 => (World.cell?_of_block (a := ⟨b, o, none⟩) (hg.block b h2 (fun e => by have := Option.some.inj e; omega))).trans h3
 refine ⟨fun s hs => ⟨fun hne => ?_, (h.1 s hs).2⟩, fun hne => ?_⟩
 ·obtain ⟨b, o, e, hlt, hc⟩ := (h.1 s hs).1 hne
  exact ⟨b, o, e, Nat.lt_of_lt_of_le hlt hg.size, fun j x y hj => ⟨cl _ _ _ (hi s hs b o e) hlt (hc j x y hj).1, cl _ _ _ (hi s hs b o e) hlt (hc j x y hj).2⟩⟩
 ·obtain ⟨b, o, e, hlt, hc⟩ := h.2 hne
  exact ⟨b, o, e, Nat.lt_of_lt_of_le hlt hg.size, fun j s hj => ⟨cl _ _ _ (ha b o e) hlt (hc j s hj).1, cl _ _ _ (ha b o e) hlt (hc j s hj).2⟩⟩
theorem without_nil (d : Dd) : withoutD d [] = d := by
 unfold withoutD
 have h : ∀ l : List (Int × Int), (l.filter fun i => !([] : List (Int × Int)).contains i) = l := fun l => List.filter_eq_self.2 (fun x _ => by simp)
 rw [show (fun x : Int × List (Int × Int) => (x.1, x.2.filter fun i => !([] : List (Int × Int)).contains i)) = id from funext fun x => by rw [h]; rfl]
 exact List.map_id d
theorem inEachO_any (Bs mb n : Nat) (D : DataW Unit) (X : List (Int × Int)) (a : Option Addr) (c : Nat) (l : List Dp) (w : World) (hf : FewD l) (hl : Dl w a l) (hkp : SetAt w Bs mb n D X) (hwf : ∀ s ∈ l, ∀ i ∈ s.ids, WfT i) :
  Calls Tryz.prog 191 #[.slice a l.length c, .func (.func 192) #[] #[.pointer (some ⟨Bs, 0, none⟩)]] w (RetDO w (withoutD (toD l) X)) := by
 have HL := hI hl
 have HF := hI hf
 have HK := hI hkp
 have hlen := hf.1
 clear hl hf hkp
 go_enter Tryz.func191, Tryz.ntmps191
 go_wp2
 go_loopw [5, 10] (fun v i wr => ∃ (k : Nat) (F : List Dp), k ≤ l.length ∧ i = .int .i64 k ∧ toD F = withoutD ((toD l).take k) X ∧ OwnD wr w.heap.size v F ∧ HasG wr v F ∧ (∀ s ∈ F, ∀ b o, s.ia = some ⟨b, o, none⟩ → w.heap.size ≤ b) ∧ Below w.heap.size w wr) (fun _ i _ => l.length - (RowKit.intOf i).toNat)
 case atStart => exact ⟨0, [], Nat.zero_le _, rfl, rfl, OwnD.nil _ _, HasG.nil _ _, (fun s hs => by cases hs), Below.refl _ _⟩
 case round =>
  obtain ⟨k, F, hk, rfl, hF, ho, hg, hib, hb⟩ := hrel
  have HIB := hI hib
  clear hib
  have HB := hI hb
  have HO := hI ho
  have HG := hI hg
  have HFE := hI hF
  obtain ⟨av, cv, rfl, _⟩ := ho.row
  clear hb ho hg hF
  by_cases hlt : k < l.length
  ·obtain ⟨s, hs⟩ := at_ltD hlt
   obtain ⟨b, o, rfl, hbg, hx, hy, hi⟩ := (HL.out.later HB.out).at hs
   have hk1 : (k : Int) < (l.length : Int) := by omega
   have hk0 : (0 : Int) ≤ (k : Int) := by omega
   have hdk : decide ((k : Int) < (l.length : Int)) = true := decide_eq_true hk1
   have HFT := hI (withoutD_take2 (X := X) hs)
   have HI := hI hi
   have HSN := hI (HF.out.2 s (List.mem_of_getElem? hs))
   have HWS := hI (hwf s (List.mem_of_getElem? hs))
   have HFL : Hid (F.length ≤ 1000000) := by
    have h := congrArg List.length HFE.out
    rw [toD_length] at h
    have h2 : (withoutD ((toD l).take k) X).length ≤ l.length := by
     simp [withoutD, toD_length]
     omega
    show _ ≤ _
    omega
   unfold ilD at hy
   clear hs hi
   go_wp2
   have hNB := dep_new wr (.int .i64 s.sh) (.slice s.ia s.ids.length s.ic)
   have hB2 : Below wr.heap.size wr (wr.alloc (.cells #[.int .i64 s.sh, .slice s.ia s.ids.length s.ic] 82)) := blAlloc (Below.refl _ _) _
   have hsz2 : wr.heap.size < (wr.alloc (.cells #[.int .i64 s.sh, .slice s.ia s.ids.length s.ic] 82)).heap.size := by simp
   generalize wr.alloc (.cells #[.int .i64 s.sh, .slice s.ia s.ids.length s.ic] 82) = W at *
   obtain ⟨hx2, hy2⟩ := hNB
   have HB2 := hI hB2
   have HO2 := hI (HO.out.later hB2)
   have HG2 := hI (HG.out.later hB2)
   have HI2 := hI (HI.out.later hB2)
   have HBW := hI (blThen HB.out hB2)
   have HK2 := hI (HK.out.later HBW.out)
   clear hB2 hx hy
   go_region_law (first
    | ((refine step_dp rfl (.tmp 14) (.tmp 22) rfl w.heap.size (v := .slice av F.length cv) (d := F) (ad := ⟨w6.heap.size, 0, none⟩) (cap := 1) (m := ⟨s.sh, xa, xc, (s.ids.filter (noW X))⟩) (by simp [Act.eval]) (by simp [Act.eval]) (HO2.out.later (by repeat (first | with_reducible exact HB3.out | with_reducible refine blAlloc ?_ _ | with_reducible refine Below.drew ?_))) (dp_one (w0 := w6) rfl rfl) HFL.out (by have := HBW.out.size; have := HB3.out.size; simp; omega) ?_); intro v' w' h1 h2 h3; have HO7 := hI h1; have HG7 := hI ((HG2.out.later (by repeat (first | with_reducible exact HB3.out | with_reducible refine blAlloc ?_ _ | with_reducible refine Below.drew ?_))).push (m := ⟨s.sh, xa, xc, (s.ids.filter (noW X))⟩) (show IdsAt _ _ from ⟨HM1.out.later (by repeat (first | with_reducible exact Below.refl _ _ | with_reducible refine blAlloc ?_ _ | with_reducible refine Below.drew ?_)), HM2.out, HM4.out⟩) HMV.out h2 h3); have HB7 := hI (grown_belowD (x := w) (HBW.out.trans ((show Below W.heap.size W _ from (by repeat (first | with_reducible exact HB3.out | with_reducible refine blAlloc ?_ _ | with_reducible refine Below.drew ?_))).mono HBW.out.size)) (HO2.out.later (by repeat (first | with_reducible exact HB3.out | with_reducible refine blAlloc ?_ _ | with_reducible refine Below.drew ?_))) (Nat.le_refl _) (by have := HBW.out.size; have := HB3.out.size; simp; omega) h2); clear h1 h2 h3)
    | ((try go_simp); go_at_call 192; refine (withoutC_any Bs mb n D X _ _ s.ids _ HSN.out HWS.out (HI2.out.1.later (by repeat (first | with_reducible exact Below.refl _ _ | with_reducible refine blAlloc ?_ _ | with_reducible refine Below.drew ?_))) HI2.out.2.1 (HK2.out.later (by repeat (first | with_reducible exact Below.refl _ _ | with_reducible refine blAlloc ?_ _ | with_reducible refine Below.drew ?_)))).mono ?_; rintro e w6 ⟨xa, xc, rfl, h1, h2, h3, h4, h5⟩; have HB3 : Hid (Below W.heap.size W w6) := blThen (by repeat (first | with_reducible exact Below.refl _ _ | with_reducible refine blAlloc ?_ _ | with_reducible refine Below.drew ?_)) h5; have HM1 := hI h1; have HM2 := hI h2; have HNB : Hid (∀ b o, xa = some ⟨b, o, none⟩ → w.heap.size ≤ b) := hI (fun b o e => by have q1 := HBW.out.size; have q2 := h3 b o e; (try simp at q2); omega); have HMV := hI (apart_g HO2.out h1 h3 (Nat.le_refl _)); have HM4 := hI h4; have x6 := cell_in HB3.out hsz2 hx2; have y6 := cell_in HB3.out hsz2 hy2; have hs6 := Nat.lt_of_lt_of_le hsz2 HB3.out.size; clear h1 h2 h3 h4 h5))
   all_goals
    go_wp2
    go_roundw
    case rel => exact ⟨k + 1, _, hlt, by go_num, by rw [HFT.out, ← HFE.out]; unfold toD; rw [List.map_append]; rfl, HO7.out, HG7.out, (by intro s hs; rcases List.mem_append.1 hs with h | h; exact HIB.out s h; rw [List.mem_singleton.1 h]; exact HNB.out), HB7.out⟩
    case measure => simp [RowKit.intOf]; omega
  ·have hge : ¬ (k : Int) < (l.length : Int) := by omega
   have hdk : decide ((k : Int) < (l.length : Int)) = false := decide_eq_false hge
   have HFF : Hid (toD F = withoutD (toD l) X) := by
    have h := HFE.out
    rwa [List.take_of_length_le (by rw [toD_length]; omega)] at h
   go_wp2
   go_ret
   obtain ⟨a2, c2, hv, h1, h2, h3⟩ := HO.out.dl fun s hs => (HG.out s hs).1
   exact ⟨a2, c2, F, by rw [← hv]; rfl, HFF.out, h3, h1, (fun b o e => by subst e; exact ownD_base (hv ▸ HO.out)), HIB.out, HB.out⟩
theorem pwithoutO_any (a : Option Addr) (c : Nat) (l : List Dp) (ax : Option Addr) (cx : Nat) (X : List (Int × Int)) (w : World) (hf : FewD l) (hl : Dl w a l) (hwf : ∀ s ∈ l, ∀ i ∈ s.ids, WfT i) (hlx : X.length ≤ 1000000) (hx : SL w ax X) (hwx : ∀ i ∈ X, WfT i) :
  Calls Tryz.prog 154 #[.slice a l.length c, .slice ax X.length cx] w (RetDO w (withoutD (toD l) X)) := by
 have HL := hI hl
 have HF := hI hf
 have HX := hI hx
 have HWF := hI hwf
 clear hl hf hx hwf
 go_enter Tryz.func154, Tryz.ntmps154
 go_wp2_with (first
  | (go_at_call 190; go_must (refine (setOfT_any ax cx X _ hlx hwx HX.out).mono ?_; rintro e w1 ⟨D, n, rfl, hm, hh, hb⟩; have HM := hI hm; have HH := hI hh; have HB := hI hb; clear hm hh hb))
  | (go_at_call 191; go_must (refine (inEachO_any w1.heap.size w.heap.size n D X a c l _ HF.out (HL.out.later (blAlloc HB.out _)) ⟨var_new _ _ _, by simp, HM.out.later (blAlloc (Below.refl _ _) _) HM.out.lt, HH.out⟩ HWF.out).mono ?_; rintro e w6 ⟨xa, xc, F, rfl, h1, h2, h3, h4, h6, h5⟩; have hq := HB.out.size; have HR : Hid (RetDO w (withoutD (toD l) X) (.returned (.slice xa F.length xc)) w6) := ⟨xa, xc, F, rfl, h1, h2, h3, (fun b o e => by have := h4 b o e; simp at this; omega), (fun s hs b o e => by have := h6 s hs b o e; simp at this; omega), blThen (blAlloc HB.out _) h5⟩; clear h1 h2 h3 h4 h5 h6 hq)))
 go_ret
 exact HR.out
end SD
end Go.Proofs.YtgipkikedacmdaaGreat
