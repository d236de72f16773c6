/- Less; Union. Conditions: lists of at most some hundred thousand spans. -/
import Derived.Shelf.SlSortCmp.NoneTotal
import Derived.Test.YtpdfcojcmhadnaaGreatMg06
import Derived.Test.YtpdfcojcmhadnaaGreatMg14
set_option maxRecDepth 100000
set_option maxHeartbeats 16000000
namespace Go.Proofs.YtpdfcojcmhadnaaGreat
namespace S3
open Go.RowKit
open Go.Sort (grow flatK get_flatK size_flatK Holds HoldsK putRowK putRow mapBlock onCells SWO grow_grow alloc_eq_grow)
theorem grow_below (w : World) (q : Nat) (os : Array Obj) : Below w.heap.size w (grow (w.drewN q) os) :=
 ⟨rfl, rfl, rfl, by simp [grow, World.drewN], fun k hk => by
  show (w.heap ++ os)[k]? = _
  rw [Array.getElem?_append_left hk]⟩
theorem byFrom1_grow (s t : Sp) (w : World) :
  Calls Tryz.prog 102 #[.agg #[.string s.1, .string s.2], .agg #[.string t.1, .string t.2]] w fun r w' => r = .returned (.int .i64 (cmpT s.1 t.1)) ∧ ∃ q os, w' = grow (w.drewN q) os :=
 (byFrom1_any s t w).mono fun r w' ⟨h1, h2⟩ => ⟨h1, 0, #[.cells #[.string s.1, .string s.2] 57, .cells #[.string t.1, .string t.2] 57], by
  rw [h2, alloc_eq_grow, alloc_eq_grow, grow_grow]
  rfl⟩
def encS (x : Sp) : List Value := [.string x.1, .string x.2]
def cfS (x y : Sp) : Int := cmpT x.1 y.1
theorem ltOf_cfS (x y : Sp) : ltOf cfS x y = ltT x.1 y.1 := by
 unfold ltOf cfS
 cases h : ltT x.1 y.1
 ·simp only [decide_eq_false_iff_not]
  intro hc
  rw [(cmpT_neg x.1 y.1).1 hc] at h
  cases h
 ·simp only [decide_eq_true_eq]
  exact (cmpT_neg x.1 y.1).2 h
theorem swoS : SWO (ltOf cfS) where
 irrefl x := by rw [ltOf_cfS, lt_irrefl]
 trans x y z h1 h2 := by rw [ltOf_cfS] at *; exact lt_trans h1 h2
 ntrans x y z h1 h2 := by rw [ltOf_cfS] at *; exact ge_trans h2 h1
theorem cmpLaysS (blk off size : Nat) (w : World) : CmpLays Tryz.prog 102 #[] encS 2 cfS blk off size w :=
 fun _ _ _ _ x y => byFrom1_grow x y _
def RowC (w : World) (g : Nat) (l : List Sp) : Prop := Row2 w g 0 l ∧ ∀ i, i < l.length * 2 → w.frozen? ⟨g, i, none⟩ = false
theorem holds_of_row {w : World} {g : Nat} {l : List Sp} (h : RowC w g l) : HoldsK encS 2 w g 0 l.toArray := by
 intro j hj
 rw [size_flatK] at hj
 have hj2 : j < l.length * 2 := by simpa using hj
 obtain ⟨s, hs⟩ := at_lt (l := l) (k := j / 2) (by omega)
 obtain ⟨c0, c1⟩ := h.1 (j / 2) s hs
 have hget : l.toArray[j / 2]! = s := by simp [hs]
 rw [get_flatK _ _ _ _ hj, hget, Nat.zero_add]
 rw [Nat.zero_add] at c0 c1
 refine ⟨?_, h.2 j hj2⟩
 rcases Nat.mod_two_eq_zero_or_one j with hm | hm
 ·rw [hm]
  rw [show j / 2 * 2 = j by omega] at c0
  exact c0
 ·rw [hm]
  rw [show j / 2 * 2 + 1 = j by omega] at c1
  exact c1
theorem row_of_holds {w : World} {g : Nat} {d : Array Sp} (h : HoldsK encS 2 w g 0 d) : Row2 w g 0 d.toList := by
 intro i s hi
 have hil : i < d.size := by simpa using (List.getElem?_eq_some_iff.1 hi).1
 have hget : d[i]! = s := by
  have : d[i]? = some s := by simpa using hi
  rw [getElem!_pos d i hil]
  rw [Array.getElem?_eq_getElem hil] at this
  exact Option.some.inj this
 have h0 := h (i * 2) (by rw [size_flatK]; omega)
 have h1 := h (i * 2 + 1) (by rw [size_flatK]; omega)
 rw [get_flatK _ _ _ _ (by omega), Nat.zero_add] at h0 h1
 rw [show i * 2 / 2 = i by omega, show i * 2 % 2 = 0 by omega, hget] at h0
 rw [show (i * 2 + 1) / 2 = i by omega, show (i * 2 + 1) % 2 = 1 by omega, hget] at h1
 rw [Nat.zero_add]
 exact ⟨h0.1, h1.1⟩
theorem but_sortWorld (w : World) (g m : Nat) (d : Array Sp) (os : Array Obj) : w.grownBy (sortWorldK encS 2 w g 0 m d os) (some g) := by
 have h1 : w.grownBy (putRowK encS 2 (Go.Sort.ahead w m) g 0 d) (some g) := by
  refine ⟨rfl, rfl, rfl, ?_, fun k hk hne => ?_⟩
  ·simp [putRowK, Go.Sort.ahead]
  ·have hkg : g ≠ k := fun e => hne (by rw [e])
   simp only [putRowK, putRow, mapBlock, Go.Sort.ahead, Array.getElem?_modify]
   rw [if_neg hkg]
 have h2 := grow_below (putRowK encS 2 (Go.Sort.ahead w m) g 0 d) 0 os
 exact ⟨h2.os.trans h1.os, h2.tape.trans h1.tape, h2.output.trans h1.output, Nat.le_trans h1.size h2.size, fun k hk hne => (h2.block k (Nat.lt_of_lt_of_le hk h1.size)).trans (h1.block k hk hne)⟩
theorem sortfunc_none (a : Option Addr) (cap : Nat) (w : World) :
  Calls Tryz.prog 101 #[.slice a 0 cap, .func (.func 102) #[] #[]] w fun e w' => e = .returned (.tuple #[]) ∧ w = w' :=
 (AnyF.slices_SortFunc_none (P := Tryz.prog) (ρ := Tryz.sortSp_ren) { Tryz.sortSp with } a cap (.func (.func 102) #[] #[]) w).mono fun _ _ ⟨he, hw⟩ => ⟨he, hw.symm⟩
theorem sortfunc_any (g cap : Nat) (l : List Sp) (w : World) (hlen : l.length ≤ 1000000) (hg : g < w.heap.size) (hH : RowC w g l) :
  Calls Tryz.prog 101 #[.slice (some ⟨g, 0, none⟩) l.length cap, .func (.func 102) #[] #[]] w fun e w' =>
   e = .returned (.tuple #[]) ∧ ∃ d : List Sp, d.Perm l ∧ (d.Pairwise fun a b => ltT b.1 a.1 = false) ∧ w.grownBy w' (some g) ∧ Row2 w' g 0 d := by
 have eg : ∀ args w, (callFunc 102 args).run Tryz.prog w = .ok (.enter 102 args) w := enters_of Tryz.func102 (by kernel_rfl) rfl
 have hK := holds_of_row hH
 have hcon := AnyQ.slices_SortFunc Tryz.sortSp 2 Tryz.isAgg57 Tryz.sizeOf57 encS (fun _ => rfl) (fun x v hv => by simp [encS] at hv; rcases hv with rfl | rfl <;> rfl) cfS swoS 102 #[] g 0 cap l.toArray w eg (cmpLaysS g 0 l.toArray.size w) hK hg (by simp; omega)
 change Calls Tryz.prog 101 _ _ _ at hcon
 refine Calls.mono hcon fun e w' ⟨he, d', n, os, hp, hs, hw⟩ => ⟨he, d'.toList, ?_, ?_, by rw [hw]; exact but_sortWorld w g n d' os, ?_⟩
 ·obtain ⟨hsz, _, hperm⟩ := hp
  have e1 : (d'.extract 0 l.toArray.size).toList = d'.toList := by rw [← hsz]; simp
  have e2 : (l.toArray.extract 0 l.toArray.size).toList = l := by simp
  rwa [e1, e2] at hperm
 ·rw [List.pairwise_iff_getElem]
  intro i j hi hj hij
  obtain ⟨hsz, _, _⟩ := hp
  have hi' : i < d'.size := by simpa using hi
  have hj' : j < d'.size := by simpa using hj
  have := hs i j (Nat.zero_le _) hij (by rw [← hsz]; exact hj')
  rw [ltOf_cfS, getElem!_pos d' j hj', getElem!_pos d' i hi'] at this
  simpa using this
 ·rw [hw]
  exact row_of_holds (holdsK_sortWorldK_c encS 2 w g 0 l.toArray d' n os hK hg hp.1)
end S3
end Go.Proofs.YtpdfcojcmhadnaaGreat

namespace Go.Proofs.YtpdfcojcmhadnaaGreat
namespace S3
open Go.RowKit
theorem one_new (X : World) (s : Sp) (n : Nat) (h : X.heap.size = n) : Sl (X.alloc (.cells #[.string s.1, .string s.2] 57)) (.slice (some ⟨n, 0, none⟩) 1 1) [s] := by
 subst h
 exact one_sl (box2_new X s) 1
theorem filter_take {α : Type} (p : α → Bool) (l : List α) (k : Nat) (x : α) (h : l[k]? = some x) : (l.take (k + 1)).filter p = (l.take k).filter p ++ if p x then [x] else [] := by
 rw [List.take_add_one, h, List.filter_append]
 cases hp : p x <;> simp [hp]
theorem filter_len {α : Type} (p : α → Bool) (l : List α) (k : Nat) : ((l.take k).filter p).length ≤ l.length := Nat.le_trans (List.length_filter_le _ _) (by simp; omega)
theorem byFrom_any (va : Value) (l : List Sp) (w : World) (hlen : l.length ≤ 1000000) (ha : Sl w va l) :
  Calls Tryz.prog 84 #[va] w fun e w' => ∃ v d, e = .returned v ∧ d.Perm (l.filter fullS) ∧ (d.Pairwise fun a b => ltT b.1 a.1 = false) ∧ Sl w' v d ∧ Below w.heap.size w w' := by
 obtain ⟨aa, ca, rfl⟩ := ha.form
 have HA := Lib.hid ha
 have HL := Lib.hid (filter_len fullS l)
 clear ha
 go_enter Tryz.func84, Tryz.ntmps84
 go_wp2
 go_loopw [3, 8] (fun v i wr => ∃ k : Nat, k ≤ l.length ∧ i = .int .i64 k ∧ OwnL wr w.heap.size v ((l.take k).filter fullS) ∧ Below w.heap.size w wr) (fun _ i _ => l.length - (RowKit.intOf i).toNat)
 case atStart => exact ⟨0, Nat.zero_le _, rfl, OwnL.nil _ _, Below.refl _ _⟩
 case round =>
  obtain ⟨k, hk, rfl, ho, hb⟩ := hrel
  obtain ⟨av, cv, rfl⟩ := ho.form
  have HO := Lib.hid ho
  have HB := Lib.hid hb
  clear ho
  by_cases hlt : k < l.length
  ·obtain ⟨s, hs⟩ := at_lt hlt
   obtain ⟨g, o, rfl, hg, c0, c1⟩ := HA.out.at hs
   replace c0 := cell_in hb hg c0
   replace c1 := cell_in hb hg c1
   have hgw := Nat.lt_of_lt_of_le hg hb.size
   have HF := Lib.hid (filter_take fullS l k s hs)
   clear hs hb
   cases hf : fullS s
   ·have HFF := Lib.hid hf
    clear hf
    go_wp2_with (go_at_call 99; refine (isEmpty_any s _).mono ?_; rintro r w2 ⟨rfl, rfl⟩; rw [HFF.out])
    go_roundw
    case rel => exact ⟨k + 1, hlt, by go_num, by rw [HF.out, HFF.out]; simp only [Bool.false_eq_true, if_false, List.append_nil]; exact HO.out.later (blAlloc (blAlloc (Below.refl _ _) _) _), blAlloc (blAlloc HB.out _) _⟩
    case measure => simp [RowKit.intOf]; omega
   ·have HFF := Lib.hid hf
    clear hf
    go_wp2_with (first
     | (go_at_call 99; refine (isEmpty_any s _).mono ?_; rintro r w2 ⟨rfl, rfl⟩; rw [HFF.out])
     | (at_builtin; refine append_sp rfl (.tmp 15) (.tmp 17) rfl w.heap.size _ _ rfl (HO.out.later (blAlloc (blAlloc (blAlloc (Below.refl _ _) _) _) _)) _ [s] rfl (one_new _ s _ (by simp)) (by have := HL.out k; simp; omega) (by have := HB.out.size; simp; omega) ?_; intro v' w' h1 h2; have H1 := Lib.hid h1; have H2 := Lib.hid (grown_below (blAlloc (blAlloc (blAlloc HB.out _) _) _) (HO.out.later (blAlloc (blAlloc (blAlloc (Below.refl _ _) _) _) _)) (Nat.le_refl _) (by have := HB.out.size; simp; omega) h2); clear h1 h2))
    go_roundw
    case rel => exact ⟨k + 1, hlt, by go_num, by rw [HF.out, HFF.out]; exact H1.out, H2.out⟩
    case measure => simp [RowKit.intOf]; omega
  ·obtain rfl : k = l.length := by omega
   clear hb
   have HT : Hid ((l.take l.length).filter fullS = l.filter fullS) := by show _ = _; rw [List.take_length]
   rw [HT.out] at HO ⊢
   by_cases hne : l.filter fullS = []
   ·have HN := Lib.hid hne
    have hlen0 : (l.filter fullS).length = 0 := by rw [hne]; rfl
    rw [hlen0] at HO ⊢
    clear hne
    go_wp2_with (go_at_call 101; refine (sortfunc_none _ _ _).mono ?_; rintro e w' ⟨rfl, rfl⟩)
    go_ret
    exact ⟨_, [], rfl, by rw [HN.out], List.Pairwise.nil, by have h := HO.out.sl; rwa [HN.out] at h, HB.out⟩
   ·obtain ⟨g, cap, he, hg, hgw, _, _, hrow, hfr⟩ := HO.out.row hne
    simp only [Value.slice.injEq] at he
    obtain ⟨rfl, _, rfl⟩ := he
    have HR : Hid (RowC wr g (l.filter fullS)) := ⟨hrow, hfr⟩
    have HLF : Hid ((l.filter fullS).length ≤ 1000000) := Nat.le_trans (List.length_filter_le _ _) hlen
    clear hrow hfr
    go_wp2_with fail
    refine (sortfunc_any g cv (l.filter fullS) _ HLF.out hgw HR.out).mono ?_
    rintro e w2 ⟨rfl, d, hperm, hpw, hbut, hrow2⟩
    have HP := Lib.hid hperm
    have HPW := Lib.hid hpw
    have HB2 : Hid (Below w.heap.size w w2) := HB.out.grown hbut HB.out.size (fun k hk => by cases hk; exact hg)
    have HS : Hid (Sl w2 (.slice (some ⟨g, 0, none⟩) (l.filter fullS).length cv) d) := ⟨_, cv, by rw [hperm.length_eq], fun h => (by cases h), fun _ => ⟨g, 0, rfl, Nat.lt_of_lt_of_le hgw hbut.size, hrow2⟩⟩
    clear hperm hpw hbut hrow2
    go_wp2
    go_ret
    exact ⟨_, d, rfl, HP.out, HPW.out, HS.out, HB2.out⟩

set_option linter.unusedVariables false
def JoinAt (d : List Sp) (k : Nat) (acc : List Sp) : Prop := acc.length ≤ k ∧ ((k = 0 ∧ acc = []) ∨ ∃ pre cur, acc = pre ++ [cur] ∧ pre ++ joinL cur (d.drop k) = byL d)
theorem joinAt_zero (d : List Sp) : JoinAt d 0 [] := ⟨Nat.le_refl _, .inl ⟨rfl, rfl⟩⟩
theorem joinAt_first {d : List Sp} {k : Nat} {s : Sp} (h : JoinAt d k []) (hs : d[k]? = some s) : JoinAt d (k + 1) [s] := by
 obtain ⟨_, ⟨rfl, _⟩ | ⟨pre, cur, he, _⟩⟩ := h
 ·refine ⟨by simp, .inr ⟨[], s, rfl, ?_⟩⟩
  cases d with
  | nil => simp at hs
  | cons t d =>
   simp only [List.getElem?_cons_zero, Option.some.injEq] at hs
   subst hs
   rfl
 ·simp at he
theorem joinAt_drop {d : List Sp} {k : Nat} {s : Sp} (hs : d[k]? = some s) : d.drop k = s :: d.drop (k + 1) := by
 obtain ⟨h1, rfl⟩ := List.getElem?_eq_some_iff.1 hs
 exact List.drop_eq_getElem_cons h1
theorem joinAt_last {d : List Sp} {k : Nat} {pre : List Sp} {cur : Sp} (h : JoinAt d k (pre ++ [cur])) : (pre ++ [cur]).length ≤ k ∧ pre ++ joinL cur (d.drop k) = byL d := by
 obtain ⟨h1, ⟨_, h2⟩ | ⟨p, c, he, h2⟩⟩ := h
 ·simp at h2
 ·obtain ⟨rfl, hc⟩ := List.append_inj' he rfl
  simp only [List.cons.injEq, and_true] at hc
  subst hc
  exact ⟨h1, h2⟩
theorem joinAt_more {d : List Sp} {k : Nat} {pre : List Sp} {cur s : Sp} (h : JoinAt d k (pre ++ [cur])) (hs : d[k]? = some s) (hr : reachT cur.2 s.1 = false) : JoinAt d (k + 1) (pre ++ [cur] ++ [s]) := by
 obtain ⟨h1, h2⟩ := joinAt_last h
 refine ⟨by simp at h1 ⊢; omega, .inr ⟨pre ++ [cur], s, rfl, ?_⟩⟩
 rw [joinAt_drop hs] at h2
 unfold joinL at h2
 rw [hr] at h2
 simpa using h2
theorem joinAt_join {d : List Sp} {k : Nat} {pre : List Sp} {cur s : Sp} (h : JoinAt d k (pre ++ [cur])) (hs : d[k]? = some s) (hr : reachT cur.2 s.1 = true) : JoinAt d (k + 1) (pre ++ [(cur.1, laterT cur.2 s.2)]) := by
 obtain ⟨h1, h2⟩ := joinAt_last h
 refine ⟨by simp at h1 ⊢; omega, .inr ⟨pre, (cur.1, laterT cur.2 s.2), rfl, ?_⟩⟩
 rw [joinAt_drop hs] at h2
 unfold joinL at h2
 rw [hr] at h2
 simpa using h2
theorem joinAt_end {d : List Sp} {k : Nat} {acc : List Sp} (h : JoinAt d k acc) (hk : d.length ≤ k) : acc = byL d := by
 obtain ⟨h1, ⟨h2, rfl⟩ | ⟨p, c, rfl, h2⟩⟩ := h
 ·have : d = [] := List.eq_nil_of_length_eq_zero (by omega)
  rw [this]
  rfl
 ·rw [List.drop_eq_nil_of_le hk] at h2
  exact h2
theorem OwnL.setTo {w : World} {base g m c : Nat} {pre : List Sp} {cur : Sp} (h : OwnL w base (.slice (some ⟨g, 0, none⟩) (m + 1) c) (pre ++ [cur])) (t : ByteArray) (hm : pre.length = m) :
  OwnL (w.setCell ⟨g, m * 2 + 1, none⟩ (.string t)) base (.slice (some ⟨g, 0, none⟩) (m + 1) c) (pre ++ [(cur.1, t)]) := by
 subst hm
 obtain ⟨h1, ⟨h2, _⟩ | ⟨g', cap, cs, hv, hg, hh, hn, hm, hs, hx⟩⟩ := h
 ·cases h2
 ·simp only [Value.slice.injEq, Option.some.injEq, Addr.mk.injEq, and_true] at hv
  obtain ⟨rfl, _, rfl⟩ := hv
  refine ⟨cellsL_length _, .inr ⟨g, c, _, by simp, hg, block_setCell hh _, by simpa using hn, hm, by simp [hs], ?_⟩⟩
  have e1 : (pre ++ [(cur.1, t)]).length = (pre ++ [cur]).length := by simp
  rw [e1, Array.toList_setIfInBounds, List.take_set, hx]
  simp only [cellsL_append]
  have e2 : pre.length * 2 + 1 = (cellsL pre).length + 1 := by rw [cellsL_length]
  rw [e2, List.set_append_right _ _ (by omega), show (cellsL pre).length + 1 - (cellsL pre).length = 1 by omega]
  rfl
theorem union_d (va : Value) (l : List Sp) (w : World) (hlen : l.length ≤ 1000000) (ha : Sl w va l) :
  Calls Tryz.prog 63 #[va] w fun e w' => ∃ u, Uni l u ∧ RetO w u e w' := by
 obtain ⟨aa, ca, rfl⟩ := ha.form
 have HA := Lib.hid ha
 clear ha
 go_enter Tryz.func63, Tryz.ntmps63
 go_wp2_with fail
 refine (byFrom_any _ l w hlen HA.out).mono ?_
 rintro e w1 ⟨v, d, rfl, hperm, hpw, hs, hb⟩
 have hdl : d.length ≤ 1000000 := by rw [hperm.length_eq]; exact Nat.le_trans (List.length_filter_le _ _) hlen
 have HU := Lib.hid (uni_of hperm hpw)
 obtain ⟨ad, cd, rfl⟩ := hs.form
 have HD := Lib.hid hs
 have HB1 := Lib.hid hb
 clear hperm hpw hs hb
 go_wp2
 go_loopw [3, 10] (fun v i wr => ∃ (k : Nat) (acc : List Sp), k ≤ d.length ∧ i = .int .i64 k ∧ JoinAt d k acc ∧ OwnL wr w1.heap.size v acc ∧ Below w1.heap.size w1 wr) (fun _ i _ => d.length - (RowKit.intOf i).toNat)
 case atStart => exact ⟨0, [], Nat.zero_le _, rfl, joinAt_zero d, OwnL.nil _ _, Below.refl _ _⟩
 case round =>
  obtain ⟨k, acc, hk, rfl, hj, ho, hb⟩ := hrel
  have HJ := Lib.hid hj
  have HO := Lib.hid ho
  have HB := Lib.hid hb
  by_cases hlt : k < d.length
  ·obtain ⟨s, hs⟩ := at_lt hlt
   obtain ⟨g, o, rfl, hg, c0, c1⟩ := HD.out.at hs
   replace c0 := cell_in hb hg c0
   replace c1 := cell_in hb hg c1
   have hgw := Nat.lt_of_lt_of_le hg hb.size
   have HS := Lib.hid hs
   have HBW : Hid (Below w.heap.size w wr) := HB1.out.trans (hb.mono HB1.out.size)
   rcases List.eq_nil_or_concat acc with rfl | ⟨pre, cur, rfl⟩
   ·obtain ⟨av, cv, rfl⟩ := ho.form
    clear hs hb hj ho
    have hd : decide ((0 : Int) ≤ -1) = false := by decide
    go_wp2
    go_quiet (fail)
    go_wp2_with (at_builtin; refine append_sp rfl (.tmp 41) (.tmp 43) rfl w1.heap.size _ [] rfl (HO.out.later (by repeat (first | exact Below.refl _ _ | refine blAlloc ?_ _ | refine blDrewN ?_ _))) _ [s] rfl (one_new _ s _ (by simp)) (by simp only [List.length_nil, List.length_cons]; omega) (by have := HB.out.size; simp; omega) ?_; intro v' w' h1 h2; have H3 := Lib.hid h1; have H4 := Lib.hid (grown_below (B := w1.heap.size) (base := w1.heap.size) (x := w1) ((by repeat (first | exact HB.out | refine blAlloc ?_ _ | refine blDrewN ?_ _))) (HO.out.later (by repeat (first | exact Below.refl _ _ | refine blAlloc ?_ _ | refine blDrewN ?_ _))) (Nat.le_refl _) (by have := HB.out.size; simp; omega) h2); clear h1 h2)
    go_roundw
    case rel => exact ⟨k + 1, [s], hlt, by go_num, joinAt_first HJ.out HS.out, H3.out, H4.out⟩
    case measure => simp [RowKit.intOf]; omega
   ·rw [List.concat_eq_append] at *
    obtain ⟨gr, cr, rfl, hgr, hgrw, hn, hcm, hrow, hfr⟩ := ho.row (by simp)
    obtain ⟨m, hm⟩ : ∃ m, pre.length = m := ⟨_, rfl⟩
    have hlm : (pre ++ [cur]).length = m + 1 := by simp [hm]
    rw [hlm] at hn hfr ⊢
    obtain ⟨r0, r1⟩ := hrow m cur (by simp [← hm])
    have f1 := hfr (m * 2 + 1) (by omega)
    rw [Nat.zero_add] at r0 r1
    have hml : m + 1 ≤ k := by have := HJ.out.1; omega
    have HLM := Lib.hid hlm
    have HOx : Hid (OwnL wr w1.heap.size (.slice (some ⟨gr, 0, none⟩) (m + 1) cr) (pre ++ [cur])) := by show OwnL _ _ _ _; rw [← hlm]; exact ho
    clear HO
    have HO := HOx
    clear HOx
    have HROW := Lib.hid hrow
    clear hs hb hj ho hlm hm hrow hfr
    cases hr : reachT cur.2 s.1
    ·have HR := Lib.hid hr
     clear hr
     go_wp2
     go_quiet ((go_at_call 85; exact Calls.quiet_of_same ((reaches_any _ _ _).mono fun e w' h => ⟨h.1.trans (by rw [HR.out]), h.2.symm⟩)))
     go_wp2_with (at_builtin; refine append_sp rfl (.tmp 41) (.tmp 43) rfl w1.heap.size _ (pre ++ [cur]) rfl (HO.out.later (by repeat (first | exact Below.refl _ _ | refine blAlloc ?_ _ | refine blDrewN ?_ _))) _ [s] rfl (one_new _ s _ (by simp)) (by have := HLM.out; simp only [List.length_nil, List.length_cons]; omega) (by have := HB.out.size; simp; omega) ?_; intro v' w' h1 h2; have H3 := Lib.hid h1; have H4 := Lib.hid (grown_below (B := w1.heap.size) (base := w1.heap.size) (x := w1) ((by repeat (first | exact HB.out | refine blAlloc ?_ _ | refine blDrewN ?_ _))) (HO.out.later (by repeat (first | exact Below.refl _ _ | refine blAlloc ?_ _ | refine blDrewN ?_ _))) (Nat.le_refl _) (by have := HB.out.size; simp; omega) h2); clear h1 h2)
     go_roundw
     case rel => exact ⟨k + 1, pre ++ [cur] ++ [s], hlt, by go_num, joinAt_more HJ.out HS.out HR.out, H3.out, H4.out⟩
     case measure => simp [RowKit.intOf]; omega
    ·have HR := Lib.hid hr
     clear hr
     go_wp2
     go_quiet ((go_at_call 85; exact Calls.quiet_of_same ((reaches_any _ _ _).mono fun e w' h => ⟨h.1.trans (by rw [HR.out]), h.2.symm⟩)))
     go_wp2
     have hm0 : (0 : Int) ≤ (m : Int) := by omega
     have hm1 : (m : Int) < (m : Int) + 1 := by omega
     go_region_with (first | (go_at_call 86; refine (later_any _ _ _).mono ?_; rintro r w2 ⟨rfl, rfl⟩))
     all_goals
      go_wp2
      go_roundw
      case rel => exact ⟨k + 1, pre ++ [(cur.1, laterT cur.2 s.2)], hlt, by go_num, joinAt_join HJ.out HS.out HR.out, OwnL.setTo (HO.out.later (by repeat (first | exact Below.refl _ _ | refine blAlloc ?_ _ | refine blDrewN ?_ _))) _ (by have := HLM.out; simp at this; omega), blSet (blDrewN (blAlloc HB.out _) _) (p := ⟨gr, m * 2 + 1, none⟩) hgr _⟩
      case measure => simp [RowKit.intOf]; omega
  ·have HF := Lib.hid (joinAt_end HJ.out (by omega))
   clear hj ho hb HJ
   go_wp2
   go_ret
   exact ⟨_, HU.out, _, rfl, by rw [← HF.out]; exact HO.out.mono HB1.out.size, HB1.out.trans (HB.out.mono HB1.out.size)⟩
end S3
end Go.Proofs.YtpdfcojcmhadnaaGreat
