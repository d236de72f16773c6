/- Eval of package txn. Conditions: at most ten thousand ops, a hundred thousand pairs. -/
import Derived.Shelf.SlSortCmp.NoneTotal
import Derived.Shelf.Slices.In.SortNone
import Derived.Shelf.Slices.Clone
import Derived.Sort.OwnSorted
import Derived.Lib.RowBridge
import Derived.WalkSpells
import Derived.Deep.RegionHeld3
import Derived.Test.YtjlkgbejldcklaaGreatMg35
import Derived.Test.YtjlkgbejldcklaaGreatMg06
import Derived.Test.YtjlkgbejldcklaaGreatMg28
import Derived.Test.YtjlkgbejldcklaaGreatMg29
import Derived.Test.YtjlkgbejldcklaaGreatMg08
set_option linter.unusedVariables false
namespace Go.Proofs.YtjlkgbejldcklaaGreat
open S3 SN
namespace SP
open Go.RowKit
open Go.Sort (grow flatK get_flatK size_flatK Holds HoldsK putRowK putRow putCells mapBlock onCells SWO grow_grow alloc_eq_grow)
set_option maxHeartbeats 400000 in
theorem within1_any (s t : ByteArray × Nat) (w : World) :
    Calls Tryz.prog 224 #[.agg #[.string s.1, .int .u64 (s.2 : Int)], .agg #[.string t.1, .int .u64 (t.2 : Int)]] w fun r w' => r = .returned (.int .i64 (cmpT s.1 t.1)) ∧ w' = (w.alloc (.cells #[.string s.1, .int .u64 (s.2 : Int)] 92)).alloc (.cells #[.string t.1, .int .u64 (t.2 : Int)] 92) := by
  go_enter Tryz.func224, Tryz.ntmps224
  go_wp2_with (go_at_call 225; refine (S3.compare_any _ _ _).mono ?_; rintro r w' ⟨rfl, rfl⟩)
  go_ret
  exact ⟨rfl, rfl⟩
theorem within1_grow (s t : ByteArray × Nat) (w : World) :
    Calls Tryz.prog 224 #[.agg #[.string s.1, .int .u64 (s.2 : Int)], .agg #[.string t.1, .int .u64 (t.2 : Int)]] w fun r w' => r = .returned (.int .i64 (cmpT s.1 t.1)) ∧ ∃ q os, w' = grow (w.drewN q) os :=
  (within1_any s t w).mono fun r w' ⟨h1, h2⟩ => ⟨h1, 0, #[.cells #[.string s.1, .int .u64 (s.2 : Int)] 92, .cells #[.string t.1, .int .u64 (t.2 : Int)] 92], by
    rw [h2, alloc_eq_grow, alloc_eq_grow, grow_grow]
    rfl⟩
def cfP (x y : ByteArray × Nat) : Int := cmpT x.1 y.1
theorem ltOf_cfP (x y : ByteArray × Nat) : ltOf cfP x y = ltT x.1 y.1 := by
  unfold ltOf cfP
  cases h : ltT x.1 y.1
  · simp only [decide_eq_false_iff_not]
    intro hc
    rw [(cmpT_neg x.1 y.1).1 hc] at h
    cases h
  · simp only [decide_eq_true_eq]
    exact (cmpT_neg x.1 y.1).2 h
theorem swoP : SWO (ltOf cfP) where
  irrefl x := by rw [ltOf_cfP, lt_irrefl]
  trans x y z h1 h2 := by rw [ltOf_cfP] at *; exact lt_trans h1 h2
  ntrans x y z h1 h2 := by rw [ltOf_cfP] at *; exact ge_trans h2 h1
theorem cmpLaysP (blk off size : Nat) (w : World) : CmpLays Tryz.prog 224 #[] eP.enc 2 cfP blk off size w :=
  fun _ _ _ _ x y => within1_grow x y _
theorem holds_own {w : World} {g : Nat} {cur : Array Value} {T : TypeId} {l : Al Nat} (hb : w.heap[g]? = some (.cells cur T (0, 0))) (ht : cur.toList.take (l.length * 2) = cellsG eP l) : HoldsK eP.enc 2 w g 0 l.toArray := by
  intro j hj
  rw [size_flatK] at hj
  have hj2 : j < l.length * 2 := by simpa using hj
  obtain ⟨x, hx⟩ := at_lt (l := l) (k := j / 2) (by omega)
  have hget : l.toArray[j / 2]! = x := by simp [hx]
  rw [get_flatK _ _ _ _ hj, hget, Nat.zero_add]
  have h1 := cellsG_at (E := eP) l (j / 2) x hx (j % 2) (Nat.mod_lt _ (by decide))
  have h2 : (cur.toList.take (l.length * 2))[j]? = (cellsG eP l)[j]? := by rw [ht]
  rw [List.getElem?_take_of_lt hj2] at h2
  rw [show j / 2 * eP.K + j % 2 = j from by show j / 2 * 2 + j % 2 = j; omega] at h1
  refine ⟨?_, by simp [World.frozen?, hb]⟩
  simp only [World.cell?, hb, Option.isSome_none, Bool.false_eq_true, if_false]
  rw [← Array.getElem?_toList, h2, h1]
  have hlen : (eP.enc x).length = 2 := rfl
  have hm := Nat.mod_lt j (show 0 < 2 by decide)
  rw [List.getElem?_eq_getElem (by rw [hlen]; exact hm)]
  simp [getElem!_pos, hlen, hm]
theorem but_sortWorldP (w : World) (g m : Nat) (d : Array (ByteArray × Nat)) (os : Array Obj) : w.grownBy (sortWorldK eP.enc 2 w g 0 m d os) (some g) := by
  have h1 : w.grownBy (putRowK eP.enc 2 (Go.Sort.ahead w m) g 0 d) (some g) := by
    refine ⟨rfl, rfl, rfl, ?_, fun k hk hne => ?_⟩
    · simp [putRowK, Go.Sort.ahead]
    · have hkg : g ≠ k := fun e => hne (by rw [e])
      simp only [putRowK, putRow, mapBlock, Go.Sort.ahead, Array.getElem?_modify]
      rw [if_neg hkg]
  have h2 := grow_below (putRowK eP.enc 2 (Go.Sort.ahead w m) g 0 d) 0 os
  exact ⟨h2.os.trans h1.os, h2.tape.trans h1.tape, h2.output.trans h1.output, Nat.le_trans h1.size h2.size, fun k hk hne => (h2.block k (Nat.lt_of_lt_of_le hk h1.size)).trans (h1.block k hk hne)⟩
theorem sortPr_any (base : Nat) (v : Value) (l : Al Nat) (w : World) (hlen : l.length ≤ 1000000) (hown : OwnPr w base v l) :
    Calls Tryz.prog 223 #[v, .func (.func 224) #[] #[]] w fun e w' =>
      e = .returned (.tuple #[]) ∧ ∃ d : Al Nat, d.Perm l ∧ (d.Pairwise fun a b => ltT b.1 a.1 = false) ∧ OwnPr w' base v d ∧ w.grownBy w' v.ownBlock := by
  obtain ⟨h1, ⟨rfl, hl⟩ | ⟨g, cap, cur, rfl, hg, hh, hn, hm, hs, hx⟩⟩ := id hown
  · obtain rfl := List.eq_nil_of_length_eq_zero hl
    refine (AnyF.slices_SortFunc_none (P := Tryz.prog) (ρ := Tryz.sortPr_ren) { Tryz.sortPr with } none 0 (.func (.func 224) #[] #[]) w).mono fun e w' ⟨he, hw⟩ => ?_
    subst hw
    exact ⟨he, [], List.Perm.refl _, List.Pairwise.nil, hown, ⟨rfl, rfl, rfl, Nat.le_refl _, fun _ _ _ => rfl⟩⟩
  · have eg : ∀ args w, (callFunc 224 args).run Tryz.prog w = .ok (.enter 224 args) w := enters_of Tryz.func224 (by kernel_rfl) rfl
    have hK := holds_own hh hx
    have hcon := AnyQ.slices_SortFunc Tryz.sortPr 2 Tryz.isAgg92 Tryz.sizeOf92 eP.enc (fun _ => rfl) (fun x v hv => eP.one x v hv) cfP swoP 224 #[] g 0 cap l.toArray w eg (cmpLaysP g 0 l.toArray.size w) hK (lt_of_block hh) (by simp; omega)
    change Calls Tryz.prog 223 _ _ _ at hcon
    refine Calls.mono hcon fun e w' ⟨he, d', n, os, hp, hsrt, hw⟩ => ?_
    obtain ⟨hsz, _, hperm⟩ := hp
    have hdl : d'.toList.length = l.length := by
      have h9 := hsz
      simp at h9 ⊢
      omega
    refine ⟨he, d'.toList, ?_, ?_, ?_, ?_⟩
    · have e1 : (d'.extract 0 l.toArray.size).toList = d'.toList := by rw [← hsz]; simp
      have e2 : (l.toArray.extract 0 l.toArray.size).toList = l := by simp
      rwa [e1, e2] at hperm
    · rw [List.pairwise_iff_getElem]
      intro i j hi hj hij
      have hi' : i < d'.size := by simpa using hi
      have hj' : j < d'.size := by simpa using hj
      have := hsrt i j (Nat.zero_le _) hij (by rw [← hsz]; exact hj')
      rw [ltOf_cfP, getElem!_pos d' j hj', getElem!_pos d' i hi'] at this
      simpa using this
    · have hheap : w'.heap[g]? = some (.cells (putCells id 0 (flatK eP.enc 2 d') cur) 92 (0, 0)) := by
        rw [hw]
        show (grow (putRow id (Go.Sort.ahead w n) g 0 (flatK eP.enc 2 d')) os).heap[g]? = _
        rw [Go.Sort.heap_grow_old _ _ (by simpa using lt_of_block hh)]
        simp [putRow, mapBlock, Go.Sort.ahead, Array.getElem?_modify, hh, onCells]
      refine ⟨cellsG_length _, .inr ⟨g, cap, _, by rw [hdl], hg, hheap, by rw [hdl]; exact hn, hm, by simp [putCells, hs], ?_⟩⟩
      rw [hdl]
      have hK2 : eP.K = 2 := rfl
      rw [hK2] at hs ⊢
      apply List.ext_getElem?
      intro j
      by_cases hj : j < l.length * 2
      · rw [List.getElem?_take_of_lt hj, Array.getElem?_toList]
        have hjd : j / 2 < d'.toList.length := by rw [hdl]; omega
        obtain ⟨x, hx2⟩ := at_lt hjd
        have h3 := cellsG_at (E := eP) d'.toList (j / 2) x hx2 (j % 2) (Nat.mod_lt _ (by decide))
        rw [show j / 2 * eP.K + j % 2 = j from by show j / 2 * 2 + j % 2 = j; omega] at h3
        rw [h3]
        have hjm : j < d'.size * 2 := by
          have h9 : d'.size = l.length := by simpa using hdl
          omega
        have hjs : j < (flatK eP.enc 2 d').size := by rw [size_flatK]; exact hjm
        have hjc : j < cur.size := by rw [hs]; have := Nat.mul_le_mul_right 2 hn; omega
        have hg2 := get_flatK eP.enc 2 d' j hjm
        have hgx : d'[j / 2]! = x := by
          have hlt : j / 2 < d'.size := by simpa using hjd
          rw [getElem!_pos d' _ hlt]
          have := List.getElem?_eq_some_iff.1 hx2
          obtain ⟨_, h⟩ := this
          simpa using h
        rw [hgx] at hg2
        have hlen2 : (eP.enc x).length = 2 := rfl
        have hm2 := Nat.mod_lt j (show 0 < 2 by decide)
        simp [putCells, hjc, hg2, hlen2, hm2, getElem!_pos]
        intro h9
        omega
      · rw [List.getElem?_take_eq_none (by omega), List.getElem?_eq_none]
        rw [cellsG_length, hdl, hK2]
        omega
    · rw [hw]
      exact but_sortWorldP w g n d' os
def tb (ks : List ByteArray) : List (List UInt8) := ks.map fun k => k.data.toList
def bt (ls : List (List UInt8)) : List ByteArray := ls.map fun l => ⟨l.toArray⟩
theorem bt_tb (ks : List ByteArray) : bt (tb ks) = ks := by
  unfold bt tb
  rw [List.map_map]
  conv => rhs; rw [← List.map_id ks]
  refine List.map_congr_left fun k _ => ?_
  cases k
  simp
theorem enc_bt (ls : List (List UInt8)) : cellsT (bt ls) = ls.map encStr := by
  unfold cellsT bt
  rw [List.map_map]
  rfl
theorem less_lt (a b : List UInt8) : Op.bytesLess a b = decide (a < b) := by
  induction a generalizing b with
  | nil =>
    cases b with
    | nil => simp [Op.bytesLess]
    | cons y b => simp [Op.bytesLess]
  | cons x a ih =>
    cases b with
    | nil => simp [Op.bytesLess]
    | cons y b =>
      rw [Op.bytesLess, ih]
      rw [Bool.eq_iff_iff]
      simp only [Bool.or_eq_true, decide_eq_true_eq, Bool.and_eq_true, beq_iff_eq, List.cons_lt_cons_iff]
def sortK (ks : List ByteArray) : List ByteArray := bt ((tb ks).mergeSort fun x y => decide (x ≤ y))
theorem sortK_length (ks : List ByteArray) : (sortK ks).length = ks.length := by
  unfold sortK bt tb
  rw [List.length_map, List.length_mergeSort, List.length_map]
theorem tb_mem {ls : List (List UInt8)} {k : ByteArray} : k ∈ bt ls ↔ k.data.toList ∈ ls := by
  unfold bt
  rw [List.mem_map]
  constructor
  · rintro ⟨l, hl, rfl⟩
    simpa using hl
  · intro h
    exact ⟨_, h, by cases k; simp⟩
theorem sortK_mem (ks : List ByteArray) (k : ByteArray) : k ∈ sortK ks ↔ k ∈ ks := by
  unfold sortK
  rw [tb_mem, List.mem_mergeSort]
  unfold tb
  rw [List.mem_map]
  constructor
  · rintro ⟨x, hx, e⟩
    have : x = k := by
      cases x; cases k
      congr
      exact Array.toList_inj.1 e
    rwa [← this]
  · intro h
    exact ⟨k, h, rfl⟩
theorem sortK_sorted (ks : List ByteArray) : (sortK ks).Pairwise fun a b => ltT b a = false := by
  unfold sortK bt
  rw [List.pairwise_map]
  have h := List.pairwise_mergeSort (le := fun x y : List UInt8 => decide (x ≤ y)) (fun a b c h1 h2 => by simp at *; exact List.le_trans h1 h2) (fun a b => by simp; exact List.le_total a b) (tb ks)
  refine h.imp fun {a b} h => ?_
  unfold ltT
  rw [toList_data, toList_data, less_lt]
  simpa using h
theorem OwnT.cases {w : World} {base : Nat} {v : Value} {l : List ByteArray} (h : OwnT w base v l) :
    (v = .slice none 0 0 ∧ l = []) ∨ ∃ g cap cur, v = .slice (some ⟨g, 0, none⟩) l.length cap ∧ base ≤ g ∧ w.heap[g]? = some (.cells cur 9 (0, 0)) ∧ l.length ≤ cap ∧ cap ≤ maxLen ∧ cur.size = cap * 1 ∧ cur.toList.take l.length = cellsT l := by
  obtain ⟨h1, ⟨rfl, hl⟩ | ⟨g, cap, cur, hv, hg, hh, hn, hm, hs, hx⟩⟩ := h
  · exact .inl ⟨rfl, List.eq_nil_of_length_eq_zero hl⟩
  · exact .inr ⟨g, cap, cur, hv, hg, hh, hn, hm, hs, by rw [Nat.mul_one] at hx; exact hx⟩
theorem tb_length (ks : List ByteArray) : (tb ks).length = ks.length := List.length_map _
theorem enc_tb (ks : List ByteArray) : (tb ks).map encStr = cellsT ks := by rw [← enc_bt, bt_tb]
theorem grown_rfl8 (w : World) (row : Option Nat) : w.grownBy w row := ⟨rfl, rfl, rfl, Nat.le_refl _, fun _ _ _ => rfl⟩
theorem sortT_any (base : Nat) (v : Value) (l : List ByteArray) (w : World) (hlen : l.length ≤ 1000000) (hown : OwnT w base v l) :
    Calls Tryz.prog 217 #[v] w fun e w' => e = .returned (.tuple #[]) ∧ OwnT w' base v (sortK l) ∧ w.grownBy w' v.ownBlock := by
  rcases OwnT.cases hown with ⟨rfl, rfl⟩ | ⟨g, cap, cur, rfl, hg, hh, hn, hm, hs, hx⟩
  · refine (Any.slices_Sort_string_none (ρ := Tryz.sortT_ren) Tryz.sortT none 0 w).mono ?_
    rintro e w' ⟨rfl, rfl⟩
    refine ⟨rfl, ?_, grown_rfl8 _ _⟩
    have e : sortK [] = [] := List.eq_nil_of_length_eq_zero (sortK_length [])
    rw [e]; exact hown
  · have hH : Holds encStr w g 0 (tb l).toArray := holds_of_block hh (by rw [tb_length, enc_tb]; exact hx)
    have h0 := Any.slices_Sort_string (ρ := Tryz.sortT_ren) Tryz.sortT g 0 cap (tb l) w hH (lt_of_block hh) (by rw [tb_length]; omega)
    rw [tb_length] at h0
    refine h0.mono ?_
    rintro e w' ⟨rfl, n, os, rfl⟩
    refine ⟨rfl, ?_, grownBy_sorted _⟩
    have h := ownsRow_sorted (n := n) (os := os) (ss := tb l) (ts := (tb l).mergeSort fun x y => decide (x ≤ y)) (by rw [List.length_mergeSort]) hg hh (by rw [tb_length]; exact hn) hm hs
    rw [tb_length] at h
    show World.ownsRow _ _ _ _ _ _ _
    rw [sortK_length]
    have e2 : cellsT (sortK l) = ((tb l).mergeSort fun x y => decide (x ≤ y)).map encStr := enc_bt _
    rw [e2]
    exact h
def compK (ks : List ByteArray) : List ByteArray := bt (Lib.compact (tb ks))
theorem compK_length (ks : List ByteArray) : (compK ks).length ≤ ks.length := by
  unfold compK bt
  rw [List.length_map]
  have := Lib.compact_length_le (tb ks)
  rwa [tb_length] at this
theorem compT_any (base : Nat) (v : Value) (l : List ByteArray) (w : World) (hlen : l.length ≤ 1000000) (hown : OwnT w base v l) :
    Calls Tryz.prog 218 #[v] w fun e w' => ∃ v', e = .returned v' ∧ OwnT w' base v' (compK l) ∧ w.grownBy w' v.ownBlock := by
  rcases OwnT.cases hown with ⟨rfl, rfl⟩ | ⟨g, cap, cur, rfl, hg, hh, hn, hm, hs, hx⟩
  · refine (Any.slices_Compact_string_empty (ρ := Tryz.compT_ren) Tryz.compT none 0 w).mono ?_
    rintro e w' ⟨rfl, rfl⟩
    have h0 : compK [] = [] := List.eq_nil_of_length_eq_zero (by have := compK_length []; simpa using this)
    exact ⟨_, rfl, by rw [h0]; exact hown, grown_rfl8 _ _⟩
  · have hH : Holds encStr w g 0 (tb l).toArray := holds_of_block hh (by rw [tb_length, enc_tb]; exact hx)
    have hc0 := Any.slices_Compact_string (ρ := Tryz.compT_ren) Tryz.compT g 0 cap (tb l) w hH (by rw [tb_length]; omega) (by rw [tb_length]; exact hn)
    rw [tb_length] at hc0
    refine hc0.mono ?_
    rintro e w' ⟨rfl, q, rfl⟩
    have hl := compK_length l
    have hle : (Lib.compact (tb l)).length = (compK l).length := by unfold compK bt; rw [List.length_map]
    have hgr : ∀ x : World, grow x #[] = x := fun x => by simp [grow]
    rw [hle]
    refine ⟨_, rfl, ?_, ?_⟩
    · have h := heap_sorted (n := q) (os := #[]) (Lib.compact (tb l) ++ List.replicate (l.length - (compK l).length) []).toArray hh
      rw [hgr] at h
      refine ⟨by simp [cellsT], .inr ⟨g, cap, _, rfl, hg, h, Nat.le_trans hl hn, hm, by simp [putCells, hs], ?_⟩⟩
      rw [Nat.mul_one]
      have ht := take_putCells cur (Lib.compact (tb l) ++ List.replicate (l.length - (compK l).length) []) (by simp only [List.length_append, List.length_replicate, hle]; omega)
      have h2 := congrArg (List.take (compK l).length) ht
      rw [List.take_take, Nat.min_eq_left (by simp [hle]), List.map_append] at h2
      rw [h2, List.take_append_of_le_length (by simp [hle]), List.take_of_length_le (by simp [hle])]
      exact (enc_bt _).symm
    · have h := grownBy_sorted (w := w) (g := g) (n := q) (os := #[]) (Lib.compact (tb l) ++ List.replicate (l.length - (compK l).length) []).toArray
      rwa [hgr] at h
theorem cloneT_any (va : Value) (l : List ByteArray) (w : World) (hlen : l.length ≤ 1000000) (ha : Tl w va l) :
    Calls Tryz.prog 216 #[va] w fun e w' => ∃ v, e = .returned v ∧ OwnT w' w.heap.size v l ∧ Below w.heap.size w w' := by
  obtain ⟨a, cap, rfl, hn, hr⟩ := ha
  by_cases hl : l = []
  · subst hl
    cases a with
    | none =>
      obtain rfl := hn rfl
      refine (Any.slices_Clone_string_nil (ρ := Tryz.cloneT_ren) Tryz.cloneT 0 0 w).mono ?_
      rintro e w' ⟨rfl, rfl⟩
      exact ⟨_, rfl, OwnT.nil _ _, Below.refl _ _⟩
    | some ad =>
      refine (Any.slices_Clone_string_zero (ρ := Tryz.cloneT_ren) Tryz.cloneT ad cap w).mono ?_
      rintro e w' ⟨v, rfl, h1, _, h3⟩
      exact ⟨v, rfl, h1, h3⟩
  · obtain ⟨g, o, rfl, hg, hrow⟩ := hr hl
    refine (Any.slices_Clone_string (ρ := Tryz.cloneT_ren) Tryz.cloneT g o l.length cap l w (Nat.le_refl _) (by omega) (fun j hj => ?_)).mono ?_
    · have := hrow j l[j] (List.getElem?_eq_getElem hj)
      rw [this]
      simp [List.getD, List.getElem?_eq_getElem hj]
    · rintro e w' ⟨v, rfl, h1, _, h3⟩
      rw [List.take_length] at h1
      exact ⟨v, rfl, h1, h3⟩
end SP
end Go.Proofs.YtjlkgbejldcklaaGreat

set_option linter.unusedSimpArgs false
namespace Go.Proofs.YtjlkgbejldcklaaGreat
open S3 SN
namespace SP
open Go.ChangeShapes Go.WideShapes Go.ChangeAt Go.RowKit Go.Joins Go.Deep
theorem Wrote.mono {w x : World} {base s n : Nat} {d : Al Nat} {ks : List ByteArray} {w' : World} (hb : Below w.heap.size w x) (h : Wrote x base s n d ks w') : Wrote w base s n d ks w' := ⟨h.1, (Kp.ofBelow hb).trans h.2⟩
set_option maxRecDepth 100000 in
set_option maxHeartbeats 4000000 in
theorem sadd_any (base s n : Nat) (d : Al Nat) (ks : List ByteArray) (b : Nat) (wv : Value) (key : ByteArray) (x : Nat) (w : World) (hb : base ≤ w.heap.size) (hd : RisA d) (hk : key.size ≤ maxLen) (hn : n < 1000000) (hks : ks.length ≤ 1000000) (h : Stk w base s n d ks b wv) :
    Calls Tryz.prog 214 #[.pointer (some ⟨s, 0, none⟩), .string key, .int .u64 (x : Int)] w fun e w' => e = .returned (.int .u64 (adN (valP d key) x : Nat)) ∧ Wrote w base s (n + 1) (putA d key (adN (valP d key) x)) (ks ++ [key]) w' := by
  have c0 := h.c0
  have hs := h.lt
  have hlk := mapN_look h.map hk
  have HST := Lib.hid h
  have HB := Lib.hid hb
  clear h hb
  generalize valP d key = V at *
  go_enter Tryz.func214, Tryz.ntmps214
  go_wp2_with (first
    | (go_at_call 267; go_must (refine (SN.add_any V x _).mono ?_; rintro e w1 ⟨rfl, h5⟩; have HB1 := Lib.hid h5; have HS1 := Lib.hid (HST.out.later h5); clear h5))
    | (go_at_call 149; go_must (refine (sput_any base s n d ks b wv key (adN V x) _ (Nat.le_trans HB.out HB1.out.size) hd hk hn hks HS1.out).mono ?_; rintro e w2 ⟨rfl, h6⟩; have HW2 := Lib.hid (h6.mono HB1.out); clear h6)))
  go_ret
  exact ⟨rfl, HW2.out⟩
theorem put_end {l : Al Nat} {k : Nat} {p : ByteArray × Nat} (h : RisA l) (hp : l[k]? = some p) : putA (l.take k) p.1 p.2 = l.take (k + 1) := by
  have e : l.take (k + 1) = l.take k ++ [p] := by rw [List.take_add_one, hp]; rfl
  have hr : RisA (l.take (k + 1)) := List.Pairwise.sublist (List.take_sublist _ _) h
  have hr0 : RisA (l.take k) := List.Pairwise.sublist (List.take_sublist _ _) h
  refine alExt (risA_put hr0 _ _) hr fun x => ?_
  rw [getA_put hr0]
  by_cases ex : p.1 = x
  · subst ex
    rw [if_pos rfl]
    symm
    refine (getA_mem hr).2 ?_
    rw [e]
    simp
  · rw [if_neg ex]
    cases hg : getA (l.take k) x with
    | some v =>
      symm
      refine (getA_mem hr).2 ?_
      rw [e]
      exact List.mem_append_left _ ((getA_mem hr0).1 hg)
    | none =>
      symm
      cases hg2 : getA (l.take (k + 1)) x with
      | none => rfl
      | some v =>
        have hm := (getA_mem hr).1 hg2
        rw [e, List.mem_append] at hm
        rcases hm with hm | hm
        · rw [(getA_mem hr0).2 hm] at hg
          cases hg
        · simp only [List.mem_singleton] at hm
          rw [← hm] at ex
          exact absurd rfl ex
theorem stk_new (w : World) : Stk ((w.alloc (.map #[] 0)).alloc (.cells #[.map (some w.heap.size), .slice none 0 0] 256)) w.heap.size (w.heap.size + 1) 0 [] [] w.heap.size (.slice none 0 0) := by
  refine ⟨?_, OwnT.nil _ _, (mapN_new w).later (blAlloc (Below.refl _ _) _) (by simp), by omega, Nat.le_refl _⟩
  show ((w.alloc (.map #[] 0)).heap.push _)[w.heap.size + 1]? = _
  have e : (w.alloc (.map #[] 0)).heap.size = w.heap.size + 1 := by simp
  rw [← e, Array.getElem?_push_size]
theorem grownCell {w w' : World} {row : Option Nat} (h : w.grownBy w' row) {p : Addr} (hp : p.block < w.heap.size) (hne : some p.block ≠ row) : w'.cell? p = w.cell? p := by
  simp only [World.cell?]
  rw [h.block p.block hp hne]
set_option maxRecDepth 100000 in
set_option maxHeartbeats 4000000 in
theorem stockOf_any (va : Value) (l : Al Nat) (w : World) (hlen : l.length ≤ 100000) (hr : RisA l) (hk : ∀ p ∈ l, p.1.size ≤ maxLen) (ha : SlG eP w va l) : Calls Tryz.prog 140 #[va] w fun e w' => e = .returned (.pointer (some ⟨w.heap.size + 1, 0, none⟩)) ∧ Stk w' w.heap.size (w.heap.size + 1) l.length l [] w.heap.size (.slice none 0 0) ∧ Below w.heap.size w w' := by
  obtain ⟨a, cap, rfl⟩ := ha.form
  have HL := Lib.hid ha
  have HR := Lib.hid hr
  have HK := Lib.hid hk
  have HB0 : Hid (Below w.heap.size w ((w.alloc (.map #[] 0)).alloc (.cells #[.map (some w.heap.size), .slice none 0 0] 256))) := blAlloc (blAlloc (Below.refl _ _) _) _
  have HS0 := Lib.hid (stk_new w)
  clear ha hr hk
  have hmm := @run_makeMap Tryz.prog
  go_enter Tryz.func140, Tryz.ntmps140
  go_wp2_with fail
  go_loopw [11] (fun i wr => ∃ k : Nat, k ≤ l.length ∧ i = .int .i64 k ∧ Stk wr w.heap.size (w.heap.size + 1) k (l.take k) [] w.heap.size (.slice none 0 0) ∧ Below w.heap.size w wr) (fun i _ => l.length - (intOf i).toNat)
  case atStart => exact ⟨0, Nat.zero_le _, rfl, HS0.out, HB0.out⟩
  case round =>
    obtain ⟨k, hkl, rfl, ho, hb⟩ := hrel
    have HB := Lib.hid hb
    have HST := Lib.hid ho
    clear hb ho
    by_cases hlt : k < l.length
    · obtain ⟨⟨pk, pn⟩, hx⟩ := at_lt hlt
      obtain ⟨g, o, hA, hg, d0, d1⟩ := prs_at HL.out hx
      simp only at d0 d1
      have c0 := cell_in HB.out hg d0
      have c1 := cell_in HB.out hg d1
      have hpk : pk.size ≤ maxLen := HK.out _ (List.mem_of_getElem? hx)
      have HRT : Hid (RisA (l.take k)) := List.Pairwise.sublist (List.take_sublist _ _) HR.out
      have HT := Lib.hid (put_end HR.out hx)
      simp only at HT
      have hsl := HST.out.lt
      have hbl := HST.out.map.lt
      have HB1 : Hid (Below wr.heap.size wr (wr.alloc (.cells #[.string pk, .int .u64 (pn : Int)] 92))) := blAlloc (Below.refl _ _) _
      have HS1 := Lib.hid (HST.out.later HB1.out)
      have HM1 : Hid (MapN (wr.alloc (.cells #[.string pk, .int .u64 (pn : Int)] 92)).drew w.heap.size k (l.take k)) := HS1.out.map
      have q0 : (wr.alloc (.cells #[.string pk, .int .u64 (pn : Int)] 92)).drew.cell? ⟨w.heap.size + 1, 0, none⟩ = some (.map (some w.heap.size)) ∧ True := ⟨HS1.out.c0, trivial⟩
      have q1 : (wr.alloc (.cells #[.string pk, .int .u64 (pn : Int)] 92)).drew.cell? ⟨wr.heap.size, 0, none⟩ = some (.string pk) ∧ (wr.alloc (.cells #[.string pk, .int .u64 (pn : Int)] 92)).drew.cell? ⟨wr.heap.size, 1, none⟩ = some (.int .u64 (pn : Int)) := ⟨(cells_two wr (.string pk) (.int .u64 (pn : Int)) 92 _ rfl).1, (cells_two wr (.string pk) (.int .u64 (pn : Int)) 92 _ rfl).2.1⟩
      have hk1 : (k : Int) < (l.length : Int) := by omega
      have hk0 : (0 : Int) ≤ (k : Int) := by omega
      have hdk : decide ((k : Int) < (l.length : Int)) = true := decide_eq_true hk1
      have hdn : decide (k < l.length) = true := decide_eq_true hlt
      clear hx d0 d1
      subst hA
      go_wp2_with fail
      refine wp_region_held_drew (S := fun Y => Y.cell? ⟨w.heap.size + 1, 0, none⟩ = some (.map (some w.heap.size)) ∧ Y.cell? ⟨wr.heap.size, 0, none⟩ = some (.string pk) ∧ Y.cell? ⟨wr.heap.size, 1, none⟩ = some (.int .u64 (pn : Int))) (by kernel_rfl) (⟨q0.1, q1.1, q1.2⟩) (fun hHeld => ?_)
      refine wpAnyH_take (i := 0) (oi := { dst := some 15, op := Op.move (Operand.tmp 3), type := 188, pos := "stock.go:21", after := #[], guard := none }) (v := ?_) rfl (by kernel_rfl) (by kernel_rfl) (by kernel_rfl) (fun _ _ _ h => h) (Or.inl ⟨by rfl, ?_⟩) (by assumption) ?_
      rotate_left
      · intro w hSw
        try dsimp only at hSw
        go_simp
        try with_reducible rfl
      try simp only [Act.put, List.setIfInBounds_toArray, List.set_cons_zero, List.set_cons_succ]
      refine wpAnyH_take (i := 1) (oi := { dst := some 16, op := Op.nilCheck (Operand.tmp 15), type := 0, pos := "stock.go:21", after := #[{ on := 0, ground := Ground.data }], guard := none }) (v := ?_) rfl (by kernel_rfl) (by kernel_rfl) (by kernel_rfl) (fun _ _ _ h => h) (Or.inl ⟨by rfl, ?_⟩) (by assumption) ?_
      rotate_left
      · intro w hSw
        try dsimp only at hSw
        go_simp
        try with_reducible rfl
      try simp only [Act.put, List.setIfInBounds_toArray, List.set_cons_zero, List.set_cons_succ]
      refine wpAnyH_take (i := 2) (oi := { dst := some 17, op := Op.fieldAddr 256 (Operand.tmp 16) 0, type := 0, pos := "stock.go:21", after := #[{ on := 1, ground := Ground.data }], guard := none }) (v := ?_) rfl (by kernel_rfl) (by kernel_rfl) (by kernel_rfl) (fun _ _ _ h => h) (Or.inl ⟨by rfl, ?_⟩) (by assumption) ?_
      rotate_left
      · intro w hSw
        try dsimp only at hSw
        go_simp
        try with_reducible rfl
      try simp only [Act.put, List.setIfInBounds_toArray, List.set_cons_zero, List.set_cons_succ]
      refine wpAnyH_take (i := 3) (oi := { dst := some 18, op := Op.load 254 (Operand.tmp 17), type := 254, pos := "stock.go:21", after := #[{ on := 2, ground := Ground.data }], guard := none }) (v := ?_) rfl (by kernel_rfl) (by kernel_rfl) (by kernel_rfl) (fun _ _ _ h => h) (Or.inl ⟨by rfl, ?_⟩) (by assumption) ?_
      rotate_left
      · intro w hSw
        try dsimp only at hSw
        go_simp
        try with_reducible rfl
      try simp only [Act.put, List.setIfInBounds_toArray, List.set_cons_zero, List.set_cons_succ]
      refine wpAnyH_take (i := 4) (oi := { dst := some 19, op := Op.fieldAddr 92 (Operand.tmp 5) 0, type := 0, pos := "stock.go:21", after := #[], guard := none }) (v := ?_) rfl (by kernel_rfl) (by kernel_rfl) (by kernel_rfl) (fun _ _ _ h => h) (Or.inl ⟨by rfl, ?_⟩) (by assumption) ?_
      rotate_left
      · intro w hSw
        try dsimp only at hSw
        go_simp
        try with_reducible rfl
      try simp only [Act.put, List.setIfInBounds_toArray, List.set_cons_zero, List.set_cons_succ]
      refine wpAnyH_take (i := 5) (oi := { dst := some 20, op := Op.load 9 (Operand.tmp 19), type := 9, pos := "stock.go:21", after := #[{ on := 4, ground := Ground.data }], guard := none }) (v := ?_) rfl (by kernel_rfl) (by kernel_rfl) (by kernel_rfl) (fun _ _ _ h => h) (Or.inl ⟨by rfl, ?_⟩) (by assumption) ?_
      rotate_left
      · intro w hSw
        try dsimp only at hSw
        go_simp
        try with_reducible rfl
      try simp only [Act.put, List.setIfInBounds_toArray, List.set_cons_zero, List.set_cons_succ]
      refine wpAnyH_take (i := 6) (oi := { dst := some 21, op := Op.fieldAddr 92 (Operand.tmp 5) 1, type := 0, pos := "stock.go:21", after := #[], guard := none }) (v := ?_) rfl (by kernel_rfl) (by kernel_rfl) (by kernel_rfl) (fun _ _ _ h => h) (Or.inl ⟨by rfl, ?_⟩) (by assumption) ?_
      rotate_left
      · intro w hSw
        try dsimp only at hSw
        go_simp
        try with_reducible rfl
      try simp only [Act.put, List.setIfInBounds_toArray, List.set_cons_zero, List.set_cons_succ]
      refine wpAnyH_take (i := 7) (oi := { dst := some 22, op := Op.load 89 (Operand.tmp 21), type := 89, pos := "stock.go:21", after := #[{ on := 6, ground := Ground.data }], guard := none }) (v := ?_) rfl (by kernel_rfl) (by kernel_rfl) (by kernel_rfl) (fun _ _ _ h => h) (Or.inl ⟨by rfl, ?_⟩) (by assumption) ?_
      rotate_left
      · intro w hSw
        try dsimp only at hSw
        go_simp
        try with_reducible rfl
      try simp only [Act.put, List.setIfInBounds_toArray, List.set_cons_zero, List.set_cons_succ]
      refine wpAnyH_ready (rs := [8]) (by kernel_rfl) (by simp) ?_
      refine AllReadyH.cons (o := { dst := none, op := Op.mapUpdate 254 (Operand.tmp 18) (Operand.tmp 20) (Operand.tmp 22), type := 0, pos := "stock.go:21", after := #[{ on := 3, ground := Ground.data }, { on := 5, ground := Ground.data }, { on := 7, ground := Ground.data }, { on := 0, ground := Ground.phase }, { on := 1, ground := Ground.phase }, { on := 2, ground := Ground.phase }, { on := 3, ground := Ground.phase }, { on := 4, ground := Ground.phase }, { on := 5, ground := Ground.phase }, { on := 6, ground := Ground.phase }, { on := 7, ground := Ground.phase }], guard := none }) rfl (fun K hK => ?_) ?_
      rotate_left
      · exact AllReadyH.nil
      obtain ⟨w1, hup, hm1, hg1⟩ := mapN_upd HM1.out HRT.out hpk (by omega) pn
      go_simp
      have HM2 := Lib.hid hm1
      have HG2 := Lib.hid hg1
      refine hK.out _ _ ⟨?_, ?_, ?_⟩ (fun hHeld => ?_)
      · have := grownCell hg1 (p := ⟨w.heap.size + 1, 0, none⟩) (by simp; omega) (by simp)
        exact this.trans q0.1
      · have := grownCell hg1 (p := ⟨wr.heap.size, 0, none⟩) (by simp) (by simp; omega)
        exact this.trans q1.1
      · have := grownCell hg1 (p := ⟨wr.heap.size, 1, none⟩) (by simp) (by simp; omega)
        exact this.trans q1.2
      clear hK K
      try simp only [Act.put, List.setIfInBounds_toArray, List.set_cons_zero, List.set_cons_succ]
      refine wpAnyH_done (by kernel_rfl) ?_ _
      go_wp2
      go_roundw
      case rel =>
        refine ⟨k + 1, hlt, by go_num, ?_, ?_⟩
        · rw [← HT.out]
          refine ⟨?_, OwnT.nil _ _, HM2.out, by omega, Nat.le_refl _⟩
          have := HG2.out.block (w.heap.size + 1) (by simp; omega) (by simp)
          exact this.trans HS1.out.box
        · have hbb : Below w.heap.size w (wr.alloc (.cells #[.string pk, .int .u64 (pn : Int)] 92)).drew := (blAlloc HB.out _).drew
          exact hbb.grown HG2.out hbb.size (fun j hj => by cases hj; exact Nat.le_refl _)
      case measure => simp [intOf]; omega
    · have hge : ¬ (k : Int) < (l.length : Int) := by omega
      have hdk : decide ((k : Int) < (l.length : Int)) = false := decide_eq_false hge
      have hdn : decide (k < l.length) = false := decide_eq_false hlt
      obtain rfl : k = l.length := by omega
      rw [List.take_length] at HST
      go_wp2
      go_ret
      exact ⟨rfl, HST.out, HB.out⟩
end SP
end Go.Proofs.YtjlkgbejldcklaaGreat

namespace Go.Proofs.YtjlkgbejldcklaaGreat
open S3 SN
namespace SP
open Go.ChangeShapes Go.WideShapes Go.ChangeAt Go.RowKit Go.Joins Go.Deep
theorem kK_same (a b : ByteArray) : (kK a).sameKey (kK b) = decide (a = b) := by
  by_cases e : a = b
  · subst e
    rw [decide_eq_true rfl]
    unfold kK Lit.sameKey
    simp
  · rw [decide_eq_false e]
    exact Maps.sameKey_ne (kK_ne e)
theorem rep_at {D : DataW Value} {d : Al Nat} (h : RepD D d) {k : ByteArray} {c : Nat} (hat : ∀ zd, D.atKey (kK k) zd = .held (.int .u64 (c : Int))) : getA d k = some c := by
  have h1 := Maps.has_true_of_atKey hat
  obtain ⟨h2, h3⟩ := h.2 k
  rw [h1] at h2
  rw [hat] at h3
  unfold hasP at h2
  unfold valP at h3
  cases hg : getA d k with
  | none => rw [hg] at h2; cases h2
  | some v =>
    rw [hg] at h3
    have h9 := DataW.held.inj h3
    simp at h9
    have h8 : c = v := by omega
    rw [h8]
structure Gath (d : Al Nat) (P : ByteArray → Bool) (left : Lit → Bool) (L : Al Nat) : Prop where
  mem : ∀ k v, (k, v) ∈ L ↔ getA d k = some v ∧ P k = true ∧ left (kK k) = false
  one : L.Pairwise fun a b => a.1 ≠ b.1
theorem gath_start {D : DataW Value} {d : Al Nat} (h : RepD D d) (P : ByteArray → Bool) : Gath d P (Maps.has D) [] := by
  refine ⟨fun k v => ⟨fun h => (by cases h), fun ⟨h1, _, h3⟩ => ?_⟩, List.Pairwise.nil⟩
  rw [(h.2 k).1] at h3
  unfold hasP at h3
  rw [h1] at h3
  cases h3
theorem gath_out {d : Al Nat} {P : ByteArray → Bool} {left : Lit → Bool} {L : Al Nat} {x : ByteArray} (h : Gath d P left L) (hl : left (kK x) = true) (hp : P x = false) : Gath d P (fun z => left z && !z.sameKey (kK x)) L := by
  refine ⟨fun k v => ?_, h.one⟩
  rw [h.mem]
  constructor
  · rintro ⟨h1, h2, h3⟩
    exact ⟨h1, h2, by simp only [h3, Bool.false_and]⟩
  · rintro ⟨h1, h2, h3⟩
    refine ⟨h1, h2, ?_⟩
    simp only [kK_same] at h3
    by_cases e : k = x
    · subst e
      rw [hp] at h2
      cases h2
    · rw [decide_eq_false e] at h3
      simpa using h3
theorem gath_in {d : Al Nat} {P : ByteArray → Bool} {left : Lit → Bool} {L : Al Nat} {x : ByteArray} {c : Nat} (h : Gath d P left L) (hl : left (kK x) = true) (hp : P x = true) (hg : getA d x = some c) : Gath d P (fun z => left z && !z.sameKey (kK x)) (L ++ [(x, c)]) := by
  refine ⟨fun k v => ?_, List.pairwise_append.2 ⟨h.one, List.pairwise_singleton _ _, fun a ha b hb => ?_⟩⟩
  · rw [List.mem_append, h.mem, kK_same]
    simp only [List.mem_singleton, Prod.mk.injEq]
    by_cases e : k = x
    · subst e
      rw [decide_eq_true rfl]
      constructor
      · rintro (⟨_, _, h3⟩ | ⟨_, rfl⟩)
        · rw [hl] at h3
          cases h3
        · exact ⟨hg, hp, by simp⟩
      · rintro ⟨h1, _, _⟩
        rw [hg] at h1
        exact .inr ⟨rfl, (Option.some.inj h1).symm⟩
    · rw [decide_eq_false e]
      simp [e]
  · simp only [List.mem_singleton] at hb
    subst hb
    obtain ⟨k, v⟩ := a
    have := (h.mem k v).1 ha
    intro e
    simp only at e
    subst e
    rw [hl] at this
    cases this.2.2
theorem gath_end {d : Al Nat} {P : ByteArray → Bool} {left : Lit → Bool} {L M : Al Nat} (hr : RisA d) (h : Gath d P left L) (hl : ∀ kl, left kl = false) (hp : M.Perm L) (hs : M.Pairwise fun a b => ltT b.1 a.1 = false) : M = inA P d := by
  have hone : M.Pairwise fun a b => a.1 ≠ b.1 := (List.Perm.pairwise_iff (fun h e => h e.symm) hp).2 h.one
  have hrm : RisA M := by
    have := List.Pairwise.and hs hone
    refine this.imp fun {a b} ⟨h1, h2⟩ => ?_
    cases h3 : ltT a.1 b.1
    · exact absurd (lt_total h3 h1) h2
    · rfl
  refine alExt hrm (risA_in hr P) fun k => ?_
  rw [getA_in]
  cases hg : getA M k with
  | some v =>
    have := (h.mem k v).1 (hp.mem_iff.1 ((getA_mem hrm).1 hg))
    rw [if_pos this.2.1, this.1]
  | none =>
    cases hP : P k
    · rw [if_neg (by simp)]
    · rw [if_pos rfl]
      cases hd : getA d k with
      | none => rfl
      | some v =>
        have := hp.mem_iff.2 ((h.mem k v).2 ⟨hd, hP, hl _⟩)
        rw [(getA_mem hrm).2 this] at hg
        cases hg
theorem row_ne_map {w : World} {b r n cnt base : Nat} {D : DataW Value} {left : Lit → Bool} {v : Value} {L : Al Nat} (h : OwnPr w base v L) (hr : w.ranges Tryz.prog 9 numR b r n D left cnt) : some b ≠ v.ownBlock ∧ some r ≠ v.ownBlock := by
  refine ⟨fun e => ?_, fun e => ?_⟩
  · obtain ⟨es, clock, hh, _⟩ := World.ranges.owns hr
    obtain ⟨h1, ⟨rfl, _⟩ | ⟨g, cap, cur, rfl, hg, hb, _⟩⟩ := h
    · cases e
    · simp only [Value.ownBlock, Option.some.injEq] at e
      subst e
      rw [hb] at hh
      cases hh
  · exact row_ne_iter (e := 92) h hr e
theorem set_one {s : Sp} (h : fullS s = true) : IsSet [s] := ⟨fun t ht => by simp only [List.mem_singleton] at ht; subst ht; exact h, List.pairwise_singleton _ _⟩
set_option maxRecDepth 100000 in
set_option maxHeartbeats 8000000 in
theorem within_any (base s n : Nat) (d : Al Nat) (ks : List ByteArray) (b : Nat) (wv : Value) (f t : ByteArray) (w : World) (hd : RisA d) (hn : n ≤ 1000000) (hf : fullS (f, t) = true) (h : Stk w base s n d ks b wv) :
    Calls Tryz.prog 150 #[.pointer (some ⟨s, 0, none⟩), .agg #[.string f, .string t]] w (RetPr w (inA (inS (f, t)) d)) := by
  obtain ⟨D, hown0, hrep⟩ := h.map
  have hsz := World.ownsMap.size_le hown0
  have HD := Lib.hid hd
  have HREP := Lib.hid hrep
  have hbox : Below w.heap.size w ((w.alloc (.cells #[.string f, .string t] 195)).alloc (.cells #[.string f, .string t] 195)) := blAlloc (blAlloc (Below.refl _ _) _) _
  have HBX : Hid (Box2 ((w.alloc (.cells #[.string f, .string t] 195)).alloc (.cells #[.string f, .string t] 195)) (w.heap.size + 1) (f, t)) := by
    have h1 := box2_new (w.alloc (.cells #[.string f, .string t] 195)) (f, t)
    have e : (w.alloc (.cells #[.string f, .string t] 195)).heap.size = w.heap.size + 1 := by simp
    rw [e] at h1
    exact h1
  have HSP : Hid (Sl ((w.alloc (.cells #[.string f, .string t] 195)).alloc (.cells #[.string f, .string t] 195)) (.slice (some ⟨w.heap.size + 1, 0, none⟩) 1 1) [(f, t)]) := by
    have h1 := one_sl (box2_new (w.alloc (.cells #[.string f, .string t] 195)) (f, t)) 1
    have e : (w.alloc (.cells #[.string f, .string t] 195)).heap.size = w.heap.size + 1 := by simp
    rw [e] at h1
    exact h1
  have hown : World.ownsMap ((w.alloc (.cells #[.string f, .string t] 195)).alloc (.cells #[.string f, .string t] 195)) Tryz.prog 9 numR b n D := (hown0.alloc _).alloc _
  have c0 := cell_in hbox h.lt h.c0
  have hs : s < ((w.alloc (.cells #[.string f, .string t] 195)).alloc (.cells #[.string f, .string t] 195)).heap.size := Nat.lt_of_lt_of_le h.lt hbox.size
  have HSET := Lib.hid (set_one hf)
  have HBW := Lib.hid hbox
  have hbsz : b < w.heap.size := h.map.lt
  clear hbox hown0 hrep h hd hf
  go_enter Tryz.func150, Tryz.ntmps150
  go_wp2_with (first
    | (at_range; refine wpList_range_own _ rfl _ _ rfl 9 89 lawT8 Tryz.underlying254 numR b n D rfl hown ?_; intro w0 hrg0 hg0 hs0; go_frame)
    | go_in)
  have HB0 : Hid (Below w.heap.size w w0) := HBW.out.grown hg0 HBW.out.size (fun j hj => by cases hj)
  have HBX0 : Hid (Box2 w0 (w.heap.size + 1) (f, t)) := (hg0.block (w.heap.size + 1) (by simp) (by simp)).trans HBX.out
  have hW2 : ((w.alloc (.cells #[.string f, .string t] 195)).alloc (.cells #[.string f, .string t] 195)).heap.size = w.heap.size + 2 := by simp
  clear hown c0 hs HSP HBW hg0 HBX
  generalize ((w.alloc (.cells #[.string f, .string t] 195)).alloc (.cells #[.string f, .string t] 195)).heap.size = R2 at *
  subst hW2
  have hsz0 : w0.heap.size = w.heap.size + 3 := by omega
  have HSPK : Hid (∀ Y, Below (w.heap.size + 2) w0 Y → Sl Y (.slice (some ⟨w.heap.size + 1, 0, none⟩) 1 1) [(f, t)]) := fun Y hY => one_sl (HBX0.out.later hY (by omega)) 1
  go_loopw [6, 7] (fun v _ wr => ∃ (left : Lit → Bool) (cnt : Nat) (L : Al Nat), wr.ranges Tryz.prog 9 numR b (w.heap.size + 2) n D left cnt ∧ OwnPr wr (w.heap.size + 3) v L ∧ Gath d (inS (f, t)) left L ∧ L.length + cnt ≤ n ∧ Below (w.heap.size + 2) w0 wr) (fun _ _ wr => wr.rangeLeft b (w.heap.size + 2))
  case atStart => exact ⟨_, _, [], hrg0, OwnG.nil _ _, gath_start HREP.out _, by simpa using hsz, Below.refl _ _⟩
  case round =>
    obtain ⟨left, cnt, L, hrg, ho, hga, hle, hb⟩ := hrel
    have HBw : Hid (Below w.heap.size w wr) := ⟨hb.os.trans HB0.out.os, hb.tape.trans HB0.out.tape, hb.output.trans HB0.out.output, Nat.le_trans HB0.out.size hb.size, fun k hk => (hb.block k (by omega)).trans (HB0.out.block k hk)⟩
    have HO := Lib.hid ho
    have HGA := Lib.hid hga
    have HBr := Lib.hid hb
    obtain ⟨av, cv, rfl⟩ := ho.form
    clear ho hga hb
    generalize hN : L.length = N at *
    have HN := Lib.hid hN
    clear hN
    go_wp2_with (first
      | (at_next; refine wpList_next_ranges _ rfl _ rfl 9 lawT8 numR Value.string (fun c : Nat => Value.int .u64 (c : Int)) (fun key kl hkey => by obtain ⟨x, e, _⟩ := WideMaps.string_of_keyOf Tryz.underlying9 hkey; exact ⟨x, e⟩) (fun v y hv => by obtain ⟨c, e, _⟩ := numR_inv hv; exact ⟨c, e⟩) b (w.heap.size + 2) n D left cnt rfl hrg ?_ ?_)
      | go_in)
    · intro hc0 hl0
      go_wp2_with (go_at_call 223; go_must (have hso := sortPr_any (w.heap.size + 3) (.slice av N cv) L wr (by have := HN.out; omega) HO.out; refine hso.mono ?_; rintro e w2 ⟨rfl, M, hp, hsr, ho2, hg2⟩; have HO2 := Lib.hid ho2; have HE := Lib.hid (gath_end HD.out HGA.out hl0 hp hsr); have HB2 : Hid (Below w.heap.size w w2) := HBw.grown hg2 HBw.size (fun k hk => by have := (HO.out.block k hk).1; omega); clear hso hp hsr ho2 hg2))
      go_ret
      exact ⟨_, rfl, by rw [← HE.out]; exact HO2.out.mono (by omega), HB2.out⟩
    · intro x c kl y ps w1 cnt1 hkey hlk hry hat hrg1 hlt hg1 hs1 hen
      obtain ⟨s', e1, rfl, _⟩ := WideMaps.string_of_keyOf Tryz.underlying9 hkey
      cases e1
      have hlk' : left (kK x) = true := hlk
      rw [numR_mk] at hry
      simp only [Option.some.injEq, Prod.mk.injEq] at hry
      obtain ⟨rfl, rfl⟩ := hry
      have hgx : Hid (getA d x = some c) := rep_at HREP.out hat
      have HRG1 : Hid (w1.ranges Tryz.prog 9 numR b (w.heap.size + 2) n D (fun z => left z && !z.sameKey (kK x)) cnt1) := hrg1
      have HLK := Lib.hid hlk'
      have HO1 : Hid (OwnPr w1 (w.heap.size + 3) (.slice av N cv) L) := HO.out.kept hg1 (by
        by_cases e : (Value.slice av N cv).ownBlock = none
        · exact .inr e
        · exact .inl fun e2 => by have := (HO.out.block (w.heap.size + 2) e2).1; omega)
      have HB1 : Hid (Below w.heap.size w w1) := HBw.grown hg1 HBw.size (fun k hk => by cases hk; omega)
      have HBr1 : Hid (Below (w.heap.size + 2) w0 w1) := HBr.out.grown hg1 (Nat.le_trans (by omega) HBr.out.size) (fun k hk => by cases hk; exact Nat.le_refl _)
      have HSP1 := Lib.hid (HSPK.out _ HBr1.out)
      have hrl := hrg.left_eq
      have hcl : L.length + cnt1 + 1 ≤ n := by have := HN.out; omega
      have HCL := Lib.hid hcl
      clear hkey hat hlk hrg1 hlk' hcl hg1
      cases hin : inS (f, t) x
      · go_wp2_with (go_at_call 152; go_must (refine (has_any _ [(f, t)] x _ (by simp) HSP1.out HSET.out).mono ?_; rw [memL_one, hin]; rintro e w2 ⟨rfl, h5⟩; have HB2 := Lib.hid h5; clear h5))
        have hg2 := grown_of_below HB2.out none
        have HRG2 := Lib.hid (HRG1.out.kept hg2 (by simp) (by simp))
        go_roundw
        case rel => exact ⟨_, cnt1, L, HRG2.out, HO1.out.later HB2.out, gath_out HGA.out HLK.out hin, by have := HCL.out; omega, HBr1.out.trans (HB2.out.mono (Nat.le_trans (by omega) HBr1.out.size))⟩
        case measure => rw [HRG2.out.left_eq, hrl]; exact hlt
      · go_wp2_with (first
          | (go_at_call 152; go_must (refine (has_any _ [(f, t)] x _ (by simp) HSP1.out HSET.out).mono ?_; rw [memL_one, hin]; rintro e w2 ⟨rfl, h5⟩; have HB2 := Lib.hid h5; have HO2 := Lib.hid (HO1.out.later h5); have HBw2 : Hid (Below w.heap.size w w2) := blThen HB1.out h5; have HS2 : Hid (w.heap.size + 3 ≤ w2.heap.size) := Nat.le_trans (by have := HBr1.out.size; omega) h5.size; clear h5))
          | (at_builtin; go_must (refine append_G 71 _ 24 info_pr Tryz.underlying71 rfl (by decide) rfl _ _ rfl (w.heap.size + 3) _ L rfl (HO2.out.later (blAlloc (Below.refl _ _) _)) _ [(x, c)] rfl (one_G eP _ _ (x, c) _ _ rfl rfl) (by have := HCL.out; simp only [List.length_cons, List.length_nil]; omega) (Nat.le_trans HS2.out (blAlloc (Below.refl w2.heap.size w2) _).size) ?_; intro v3 w3 h1 h2; have HO3 := Lib.hid h1; have HG3 := Lib.hid h2; clear h1 h2)))
        have hga := World.grownBy_alloc w2 (.cells #[.string x, .int .u64 (c : Int)] 92) none
        have HRG2 := Lib.hid (HRG1.out.kept (grown_of_below HB2.out none) (by simp) (by simp))
        have HRG3 := Lib.hid (HRG2.out.kept hga (by simp) (by simp))
        have hne := row_ne_map (HO2.out.later (blAlloc (Below.refl w2.heap.size w2) (.cells #[.string x, .int .u64 (c : Int)] 92))) HRG3.out
        have HRG4 := Lib.hid (HRG3.out.kept HG3.out hne.1 hne.2)
        have HBr3 : Hid (Below (w.heap.size + 2) w0 w3) := by
          have h1 : Below (w.heap.size + 2) w0 w2 := HBr1.out.trans (HB2.out.mono (Nat.le_trans (by omega) HBr1.out.size))
          have h2 : Below (w.heap.size + 2) w0 (w2.alloc (.cells #[.string x, .int .u64 (c : Int)] 92)) := h1.alloc (by have := HS2.out; omega) _
          exact h2.grown HG3.out (by have := HS2.out; simp; omega) (fun k hk => by have := ((HO2.out.later (blAlloc (Below.refl w2.heap.size w2) (.cells #[.string x, .int .u64 (c : Int)] 92))).block k hk).1; omega)
        go_roundw
        case rel => exact ⟨_, cnt1, L ++ [(x, c)], HRG4.out, HO3.out, gath_in HGA.out HLK.out hin hgx.out, by have := HCL.out; simp only [List.length_append, List.length_cons, List.length_nil]; omega, HBr3.out⟩
        case measure => rw [HRG4.out.left_eq, hrl]; exact hlt
end SP
end Go.Proofs.YtjlkgbejldcklaaGreat

namespace Go.Proofs.YtjlkgbejldcklaaGreat
open S3 SN
namespace SP
open Go.ChangeShapes Go.WideShapes Go.ChangeAt Go.RowKit Go.Joins Go.Deep
theorem upTo_hasB (d : Array (List UInt8)) : ∀ (m j : Nat), j < m → d[j]! ∈ Lib.compactUpTo d m := by
  intro m
  induction m with
  | zero => intro j hj; omega
  | succ m ih =>
    intro j hj
    rw [Lib.compactUpTo_succ]
    rcases Nat.lt_or_ge j m with h | h
    · exact List.mem_append.2 (.inl (ih j h))
    · obtain rfl : j = m := by omega
      cases hk : Lib.keeps d j
      · refine List.mem_append.2 (.inl ?_)
        rcases Nat.eq_zero_or_pos j with h0 | h0
        · subst h0
          rw [Lib.keeps_lt_one d 0 (by omega)] at hk
          cases hk
        · have e : d[j]! = d[j - 1]! := by
            apply Classical.byContradiction
            intro hne
            rw [Lib.keeps_pos hne] at hk
            cases hk
          rw [e]
          exact ih (j - 1) (by omega)
      · exact List.mem_append.2 (.inr (by simp))
theorem compB_mem (l : List (List UInt8)) (x : List UInt8) : x ∈ Lib.compact l ↔ x ∈ l := by
  constructor
  · intro h
    unfold Lib.compact Lib.compactUpTo at h
    simp only [List.mem_map, List.mem_filter, List.mem_range] at h
    obtain ⟨j, ⟨hj, _⟩, rfl⟩ := h
    simp [getElem!_pos, hj]
  · intro h
    obtain ⟨j, hj, rfl⟩ := List.mem_iff_getElem.1 h
    have := upTo_hasB l.toArray l.length j hj
    simpa [hj, Lib.compact] using this
theorem compK_mem (ks : List ByteArray) (k : ByteArray) : k ∈ compK ks ↔ k ∈ ks := by
  unfold compK
  rw [tb_mem, compB_mem, ← tb_mem, bt_tb]
theorem compK_rises {ks : List ByteArray} (h : ks.Pairwise fun a b => ltT b a = false) : Rises (compK ks) := by
  unfold Rises compK bt
  rw [List.pairwise_map]
  unfold Lib.compact Lib.compactUpTo
  rw [List.pairwise_map]
  have hlen : (tb ks).length = ks.length := tb_length ks
  refine List.Pairwise.imp_of_mem ?_ ((List.pairwise_lt_range (n := (tb ks).length)).filter _)
  intro i j hi hj hij
  simp only [List.mem_filter, List.mem_range] at hi hj
  have hil := hi.1
  have hjl := hj.1
  have hkj := hj.2
  unfold Lib.keeps at hkj
  simp only [decide_eq_true_eq] at hkj
  have hne := hkj.resolve_left (by omega)
  have at_ : ∀ q, q < (tb ks).length → ∃ k, ks[q]? = some k ∧ (tb ks).toArray[q]! = k.data.toList := by
    intro q hq
    obtain ⟨k, hk⟩ := at_lt (l := ks) (k := q) (by omega)
    refine ⟨k, hk, ?_⟩
    rw [getElem!_pos (tb ks).toArray q (by simpa using hq)]
    have : (tb ks)[q]? = some k.data.toList := by unfold tb; rw [List.getElem?_map, hk]; rfl
    obtain ⟨_, h2⟩ := List.getElem?_eq_some_iff.1 this
    simpa using h2
  obtain ⟨a, ha, ea⟩ := at_ i hil
  obtain ⟨p, hp, ep⟩ := at_ (j - 1) (by omega)
  obtain ⟨b, hb, eb⟩ := at_ j hjl
  rw [ea, eb]
  have back : ∀ k : ByteArray, (⟨k.data.toList.toArray⟩ : ByteArray) = k := fun k => by cases k; simp
  rw [back, back]
  have hpw := List.pairwise_iff_getElem.1 h
  have ge : ∀ {q r : Nat} {x y : ByteArray}, ks[q]? = some x → ks[r]? = some y → q ≤ r → ltT y x = false := by
    intro q r x y hx hy hqr
    obtain ⟨h1, rfl⟩ := List.getElem?_eq_some_iff.1 hx
    obtain ⟨h2, rfl⟩ := List.getElem?_eq_some_iff.1 hy
    rcases Nat.lt_or_ge q r with hlt | hge
    · exact hpw q r h1 h2 hlt
    · obtain rfl : q = r := by omega
      exact lt_irrefl _
  have h1 := ge ha hp (by omega)
  have h2 := ge hp hb (by omega)
  have h3 : ltT p b = true := by
    cases h4 : ltT p b
    · exact absurd (by rw [eb, ep, lt_total h4 h2]) hne
    · rfl
  exact ge_lt h1 h3
def keysK (ks : List ByteArray) : List ByteArray := compK (sortK ks)
theorem keysK_mem (ks : List ByteArray) (k : ByteArray) : k ∈ keysK ks ↔ k ∈ ks := by unfold keysK; rw [compK_mem, sortK_mem]
theorem keysK_rises (ks : List ByteArray) : Rises (keysK ks) := compK_rises (sortK_sorted ks)
theorem keysK_length (ks : List ByteArray) : (keysK ks).length ≤ ks.length := by
  unfold keysK
  have := compK_length (sortK ks)
  rwa [sortK_length] at this
def outW (d : Al Nat) (k : ByteArray) : Wrt := (k, valP d k, !hasP d k)
theorem keys_last {d0 : Al Nat} (h : RisA d0) {l : List Wrt} (hz : Zero0 l) : (keysK (l.map fun x => x.1)).map (outW (applyP d0 l)) = lastL l :=
  prog_last h hz (keysK_rises _) (fun k => by rw [keysK_mem, List.mem_map])
set_option maxRecDepth 100000 in
set_option maxHeartbeats 8000000 in
theorem swrites_any (base s n : Nat) (d : Al Nat) (ks : List ByteArray) (b : Nat) (wv : Value) (w : World) (hks : ks.length ≤ 100000) (hkl : ∀ k ∈ ks, k.size ≤ maxLen) (h : Stk w base s n d ks b wv) :
    Calls Tryz.prog 142 #[.pointer (some ⟨s, 0, none⟩)] w fun e w' => ∃ v, e = .returned v ∧ OwnWr w' w.heap.size v ((keysK ks).map (outW d)) ∧ Below w.heap.size w w' := by
  have HST := Lib.hid h
  have c0 := h.c0
  have c1 := h.c1
  have hs := h.lt
  have HKL : Hid (∀ k ∈ keysK ks, k.size ≤ maxLen) := fun k hk => hkl k ((keysK_mem ks k).1 hk)
  have HKN := Lib.hid (keysK_length ks)
  obtain ⟨ga, gc, rfl⟩ := h.row.form
  have HTL := Lib.hid h.row.tl
  generalize hN : ks.length = N at *
  clear h hkl
  go_enter Tryz.func142, Tryz.ntmps142
  go_wp2_with fail
  refine (cloneT_any _ ks w (by omega) HTL.out).mono ?_
  rintro e w1 ⟨v, rfl, h1, h2⟩
  have HB1 := Lib.hid h2
  have HO1 := Lib.hid h1
  obtain ⟨g1, d1, rfl⟩ := h1.form
  clear h1 h2
  rw [hN] at HO1 ⊢
  have HN := Lib.hid hN
  go_wp2_with fail
  refine (sortT_any w.heap.size _ ks _ (by have := HN.out; omega) HO1.out).mono ?_
  rintro e w2 ⟨rfl, h1, h2⟩
  have HB2 : Hid (Below w.heap.size w w2) := HB1.out.grown h2 HB1.out.size (fun k hk => HO1.out.block k hk)
  have HO2 := Lib.hid h1
  clear h1 h2
  go_wp2_with fail
  refine (compT_any w.heap.size _ (sortK ks) _ (by rw [sortK_length]; have := HN.out; omega) HO2.out).mono ?_
  rintro e w3 ⟨v, rfl, h1, h2⟩
  have HB3 : Hid (Below w.heap.size w w3) := HB2.out.grown h2 HB2.out.size (fun k hk => HO2.out.block k hk)
  have HO3 : Hid (OwnT w3 w.heap.size v (keysK ks)) := h1
  have HT3 := Lib.hid HO3.out.tl
  obtain ⟨g3, d3, rfl⟩ := HO3.out.form
  clear h1 h2
  generalize hK : keysK ks = K at *
  generalize hM : K.length = M at *
  have HM := Lib.hid hM
  have hMl : M ≤ 100000 := by have := HKN.out; omega
  clear hM
  go_wp2_with fail
  go_loopw [4, 19] (fun v i wr => ∃ k : Nat, k ≤ M ∧ i = .int .i64 k ∧ OwnWr wr w3.heap.size v ((K.take k).map (outW d)) ∧ Below w3.heap.size w3 wr) (fun _ i _ => M - (intOf i).toNat)
  case atStart => exact ⟨0, Nat.zero_le _, rfl, OwnG.nil _ _, Below.refl _ _⟩
  case round =>
    obtain ⟨k, hk, rfl, ho, hb⟩ := hrel
    have HBr := Lib.hid hb
    have HO := Lib.hid ho
    have HB : Hid (Below w.heap.size w wr) := blThen HB3.out hb
    obtain ⟨av, cv, rfl⟩ := ho.form
    have HLL : Hid (((K.take k).map (outW d)).length ≤ 100000) := by
      show _ ≤ _
      rw [List.length_map, List.length_take]
      have := HM.out
      omega
    clear hb ho
    generalize hD : (K.take k).map (outW d) = D at *
    generalize hDN : D.length = DN at *
    have HD := Lib.hid hD
    have HDN := Lib.hid hDN
    clear hD hDN
    have hk0 : (0 : Int) ≤ (k : Int) := by omega
    by_cases hlt : k < M
    · obtain ⟨x, hx⟩ := at_lt (l := K) (k := k) (by have := HM.out; omega)
      obtain ⟨g, o, hA, hg, e0⟩ := (HT3.out.later HBr.out).at hx
      have hkx := HKL.out x (List.mem_of_getElem? hx)
      have HSr := Lib.hid (HST.out.later HB.out)
      have q0 := HSr.out.c0
      have hs2 := HSr.out.lt
      have hlk := mapN_look2 HSr.out.map hkx
      have HT : Hid (D ++ [outW d x] = (K.take (k + 1)).map (outW d)) := by
        show _ = _
        rw [List.take_add_one, hx, List.map_append, HD.out]
        rfl
      have hk1 : (k : Int) < (M : Int) := by omega
      have hdk : decide ((k : Int) < (M : Int)) = true := decide_eq_true hk1
      have hdn : decide (k < M) = true := decide_eq_true hlt
      clear hx
      subst hA
      have hov : outW d x = (x, valP d x, !hasP d x) := rfl
      rw [hov] at HT
      generalize valP d x = V at *
      generalize hasP d x = B at *
      clear hov
      go_wp2_with (at_builtin; go_must (refine append_G 75 _ 32 info_wr Tryz.underlying75 rfl (by decide) rfl _ _ rfl w3.heap.size _ D rfl (HO.out.later (blAlloc (Below.refl _ _) _)) _ [(x, V, !B)] rfl (one_G eW _ _ (x, V, !B) _ _ rfl rfl) (by have := HLL.out; have := HDN.out; simp only [List.length_cons, List.length_nil]; omega) (blAlloc HBr.out _).size ?_; intro v4 w4 h1 h2; have HO4 := Lib.hid h1; have HB4 : Hid (Below w3.heap.size w3 w4) := grown_belowG (blAlloc HBr.out _) (HO.out.later (blAlloc (Below.refl _ _) _)) (Nat.le_refl _) (blAlloc HBr.out _).size h2; clear h1 h2))
      go_roundw
      case rel => exact ⟨k + 1, hlt, by go_num, by rw [← HT.out]; exact HO4.out, HB4.out⟩
      case measure => simp [intOf]; omega
    · have hge : ¬ (k : Int) < (M : Int) := by omega
      have hdk : decide ((k : Int) < (M : Int)) = false := decide_eq_false hge
      have hdn : decide (k < M) = false := decide_eq_false hlt
      have HE : Hid (D = K.map (outW d)) := by
        show _ = _
        rw [← HD.out, List.take_of_length_le (by have := HM.out; omega)]
      go_wp2
      go_ret
      exact ⟨_, rfl, by rw [← HE.out]; exact HO.out.mono HB3.out.size, HB.out⟩
end SP
end Go.Proofs.YtjlkgbejldcklaaGreat

namespace Go.Proofs.YtjlkgbejldcklaaGreat
open S3 SN
namespace SP
open Go.ChangeShapes Go.WideShapes Go.ChangeAt Go.RowKit Go.Joins Go.Deep
theorem Kp.cells {base : Nat} {w w' : World} {k : Nat} {c : Array Value} {T : TypeId} (h : Kp base w w') (hc : w.heap[k]? = some (.cells c T (0, 0))) (h1 : T ≠ 9) (h2 : T ≠ 256) : w'.heap[k]? = some (.cells c T (0, 0)) :=
  (h.block k (lt_of_block hc) (.inr ⟨c, T, (0, 0), hc, h1, h2⟩)).trans hc
theorem cells_four {Y : World} {k : Nat} {x0 x1 x2 x3 : Value} {T : TypeId} (h : Y.heap[k]? = some (.cells #[x0, x1, x2, x3] T (0, 0))) :
    Y.cell? ⟨k, 0, none⟩ = some x0 ∧ Y.cell? ⟨k, 1, none⟩ = some x1 ∧ Y.cell? ⟨k, 2, none⟩ = some x2 ∧ Y.cell? ⟨k, 3, none⟩ = some x3 := by
  simp only [World.cell?, h]
  exact ⟨rfl, rfl, rfl, rfl⟩
set_option maxRecDepth 100000 in
set_option maxHeartbeats 8000000 in
theorem move_any (base s n : Nat) (d : Al Nat) (ks : List ByteArray) (b : Nat) (wv : Value) (key to : ByteArray) (nm : Nat) (w : World) (hb : base ≤ w.heap.size) (hd : RisA d) (hk1 : key.size ≤ maxLen) (hk2 : to.size ≤ maxLen) (hne : key ≠ to) (hnm : nm < 18446744073709551616) (hn : n + 2 ≤ 1000000) (hks : ks.length + 2 ≤ 1000000) (h : Stk w base s n d ks b wv) :
    Calls Tryz.prog 215 #[.pointer (some ⟨s, 0, none⟩), opV (6, key, to, nm)] w fun e w' => e = .returned (.bool (movB d (6, key, to, nm))) ∧ ∃ n', n' ≤ n + 2 ∧ Wrote w base s n' (applyP d (opW d (6, key, to, nm))) (ks ++ (opW d (6, key, to, nm)).map fun x => x.1) w' := by
  have HK1 := Lib.hid hk1
  have HK2 := Lib.hid hk2
  have HRD := Lib.hid hd
  have HNM := Lib.hid hnm
  have HN := Lib.hid hn
  have HKS := Lib.hid hks
  have HNE := Lib.hid hne
  have HST := Lib.hid h
  have hs := h.lt
  have HB1 : Hid (Below w.heap.size w (w.alloc (.cells #[.int .i64 6, .string key, .string to, .int .u64 (nm : Int)] 94))) := blAlloc (Below.refl _ _) _
  have HST2 := Lib.hid (HST.out.later HB1.out.drew)
  have HST3 := Lib.hid (HST.out.later HB1.out.drew.drew)
  have HBX2 : Hid ((w.alloc (.cells #[.int .i64 6, .string key, .string to, .int .u64 (nm : Int)] 94)).drew.drew.heap[w.heap.size]? = some (.cells #[.int .i64 6, .string key, .string to, .int .u64 (nm : Int)] 94 (0, 0))) := by
    show (w.heap.push _)[w.heap.size]? = _
    rw [Array.getElem?_push_size]
  have hcs := cells_four HBX2.out
  have q0 : (w.alloc (.cells #[.int .i64 6, .string key, .string to, .int .u64 (nm : Int)] 94)).drew.cell? ⟨s, 0, none⟩ = some (.map (some b)) ∧ True := ⟨HST2.out.c0, trivial⟩
  have q1 : (w.alloc (.cells #[.int .i64 6, .string key, .string to, .int .u64 (nm : Int)] 94)).drew.cell? ⟨w.heap.size, 1, none⟩ = some (.string key) ∧ (w.alloc (.cells #[.int .i64 6, .string key, .string to, .int .u64 (nm : Int)] 94)).drew.cell? ⟨w.heap.size, 3, none⟩ = some (.int .u64 (nm : Int)) := ⟨hcs.2.1, hcs.2.2.2⟩
  have q2 : MapN (w.alloc (.cells #[.int .i64 6, .string key, .string to, .int .u64 (nm : Int)] 94)).drew b n d := HST2.out.map
  have q3 : (w.alloc (.cells #[.int .i64 6, .string key, .string to, .int .u64 (nm : Int)] 94)).drew.drew.cell? ⟨w.heap.size, 1, none⟩ = some (.string key) ∧ (w.alloc (.cells #[.int .i64 6, .string key, .string to, .int .u64 (nm : Int)] 94)).drew.drew.cell? ⟨w.heap.size, 3, none⟩ = some (.int .u64 (nm : Int)) := ⟨hcs.2.1, hcs.2.2.2⟩
  have HB2 : Hid (base ≤ (w.alloc (.cells #[.int .i64 6, .string key, .string to, .int .u64 (nm : Int)] 94)).drew.drew.heap.size) := Nat.le_trans hb HB1.out.size
  have HKP : Hid (Kp base w (w.alloc (.cells #[.int .i64 6, .string key, .string to, .int .u64 (nm : Int)] 94)).drew.drew) := Kp.ofBelow HB1.out.drew.drew
  clear hcs h hk1 hk2 hd hnm hn hks hne hb
  unfold opV
  go_enter Tryz.func215, Tryz.ntmps215
  go_wp2_with fail
  cases hA : coN (valP d key) nm
  · have HA := Lib.hid hA
    clear hA
    refine wp_region_held_drew (S := fun Y => Y.cell? ⟨s, 0, none⟩ = some (.map (some b)) ∧ (Y.cell? ⟨w.heap.size, 1, none⟩ = some (.string key) ∧ Y.cell? ⟨w.heap.size, 3, none⟩ = some (.int .u64 (nm : Int))) ∧ MapN Y b n d) (by kernel_rfl) (⟨q0.1, q1, q2⟩) (fun hHeld => ?_)
    refine wpAnyH_take (i := 0) (oi := { dst := some 5, op := Op.move (Operand.tmp 0), type := 188, pos := "eval.go:67", after := #[], guard := none }) (v := ?_) rfl (by kernel_rfl) (by kernel_rfl) (by kernel_rfl) (fun _ _ _ h => h) (Or.inl ⟨by rfl, ?_⟩) (by assumption) ?_
    rotate_left
    · intro w hSw
      try dsimp only at hSw
      go_simp
      try with_reducible rfl
    try simp only [Act.put, List.setIfInBounds_toArray, List.set_cons_zero, List.set_cons_succ]
    refine wpAnyH_take (i := 1) (oi := { dst := some 6, op := Op.nilCheck (Operand.tmp 5), type := 0, pos := "eval.go:67", after := #[{ on := 0, ground := Ground.data }], guard := none }) (v := ?_) rfl (by kernel_rfl) (by kernel_rfl) (by kernel_rfl) (fun _ _ _ h => h) (Or.inl ⟨by rfl, ?_⟩) (by assumption) ?_
    rotate_left
    · intro w hSw
      try dsimp only at hSw
      go_simp
      try with_reducible rfl
    try simp only [Act.put, List.setIfInBounds_toArray, List.set_cons_zero, List.set_cons_succ]
    refine wpAnyH_take (i := 2) (oi := { dst := some 7, op := Op.fieldAddr 256 (Operand.tmp 6) 0, type := 0, pos := "eval.go:67", after := #[{ on := 1, ground := Ground.data }], guard := none }) (v := ?_) rfl (by kernel_rfl) (by kernel_rfl) (by kernel_rfl) (fun _ _ _ h => h) (Or.inl ⟨by rfl, ?_⟩) (by assumption) ?_
    rotate_left
    · intro w hSw
      try dsimp only at hSw
      go_simp
      try with_reducible rfl
    try simp only [Act.put, List.setIfInBounds_toArray, List.set_cons_zero, List.set_cons_succ]
    refine wpAnyH_take (i := 3) (oi := { dst := some 8, op := Op.load 254 (Operand.tmp 7), type := 254, pos := "eval.go:67", after := #[{ on := 2, ground := Ground.data }], guard := none }) (v := ?_) rfl (by kernel_rfl) (by kernel_rfl) (by kernel_rfl) (fun _ _ _ h => h) (Or.inl ⟨by rfl, ?_⟩) (by assumption) ?_
    rotate_left
    · intro w hSw
      try dsimp only at hSw
      go_simp
      try with_reducible rfl
    try simp only [Act.put, List.setIfInBounds_toArray, List.set_cons_zero, List.set_cons_succ]
    refine wpAnyH_take (i := 4) (oi := { dst := some 9, op := Op.fieldAddr 94 (Operand.tmp 3) 1, type := 0, pos := "eval.go:67", after := #[], guard := none }) (v := ?_) rfl (by kernel_rfl) (by kernel_rfl) (by kernel_rfl) (fun _ _ _ h => h) (Or.inl ⟨by rfl, ?_⟩) (by assumption) ?_
    rotate_left
    · intro w hSw
      try dsimp only at hSw
      go_simp
      try with_reducible rfl
    try simp only [Act.put, List.setIfInBounds_toArray, List.set_cons_zero, List.set_cons_succ]
    refine wpAnyH_take (i := 5) (oi := { dst := some 10, op := Op.load 9 (Operand.tmp 9), type := 9, pos := "eval.go:67", after := #[{ on := 4, ground := Ground.data }], guard := none }) (v := ?_) rfl (by kernel_rfl) (by kernel_rfl) (by kernel_rfl) (fun _ _ _ h => h) (Or.inl ⟨by rfl, ?_⟩) (by assumption) ?_
    rotate_left
    · intro w hSw
      try dsimp only at hSw
      go_simp
      try with_reducible rfl
    try simp only [Act.put, List.setIfInBounds_toArray, List.set_cons_zero, List.set_cons_succ]
    refine wpAnyH_take (i := 6) (oi := { dst := some 11, op := Op.lookup 254 (Operand.tmp 8) (Operand.tmp 10) false, type := 89, pos := "eval.go:67", after := #[{ on := 3, ground := Ground.data }, { on := 5, ground := Ground.data }], guard := none }) (v := .int .u64 (valP d key : Nat)) rfl (by kernel_rfl) (by kernel_rfl) (by kernel_rfl) (fun _ _ _ h => h) (Or.inl ⟨by rfl, ?_⟩) (by assumption) ?_
    · intro Y hY
      have hlk := mapN_look hY.2.2 HK1.out
      go_simp
    try simp only [Act.put, List.setIfInBounds_toArray, List.set_cons_zero, List.set_cons_succ]
    refine wpAnyH_take (i := 7) (oi := { dst := some 12, op := Op.fieldAddr 94 (Operand.tmp 3) 3, type := 0, pos := "eval.go:67", after := #[], guard := none }) (v := ?_) rfl (by kernel_rfl) (by kernel_rfl) (by kernel_rfl) (fun _ _ _ h => h) (Or.inl ⟨by rfl, ?_⟩) (by assumption) ?_
    rotate_left
    · intro w hSw
      try dsimp only at hSw
      go_simp
      try with_reducible rfl
    try simp only [Act.put, List.setIfInBounds_toArray, List.set_cons_zero, List.set_cons_succ]
    refine wpAnyH_take (i := 8) (oi := { dst := some 13, op := Op.load 89 (Operand.tmp 12), type := 89, pos := "eval.go:67", after := #[{ on := 7, ground := Ground.data }], guard := none }) (v := ?_) rfl (by kernel_rfl) (by kernel_rfl) (by kernel_rfl) (fun _ _ _ h => h) (Or.inl ⟨by rfl, ?_⟩) (by assumption) ?_
    rotate_left
    · intro w hSw
      try dsimp only at hSw
      go_simp
      try with_reducible rfl
    try simp only [Act.put, List.setIfInBounds_toArray, List.set_cons_zero, List.set_cons_succ]
    refine wpAnyH_ready (rs := [9]) (by kernel_rfl) (by simp) ?_
    refine AllReadyH.cons (o := { dst := some 14, op := Op.call { callee := Callee.value (Operand.func 268), args := #[Operand.tmp 11, Operand.tmp 13], argTypes := #[89, 89] }, type := 4, pos := "eval.go:67", after := #[{ on := 6, ground := Ground.data }, { on := 8, ground := Ground.data }], guard := none }) rfl (fun K hK => ?_) ?_
    rotate_left
    · exact AllReadyH.nil
    go_simp
    go_at_call 268
    refine (SN.covers_any _ nm _).mono ?_
    rw [HA.out]
    rintro e w1 ⟨rfl, rfl⟩
    refine hK.out _ _ (hHeld) (fun hHeld => ?_)
    clear hK K
    try simp only [Act.put, List.setIfInBounds_toArray, List.set_cons_zero, List.set_cons_succ]
    refine wpAnyH_take (i := 10) (oi := { dst := some 15, op := Op.unOp UnOp.not 4 (Operand.tmp 14), type := 4, pos := "eval.go:67", after := #[{ on := 9, ground := Ground.data }], guard := none }) (v := ?_) rfl (by kernel_rfl) (by kernel_rfl) (by kernel_rfl) (fun _ _ _ h => h) (Or.inl ⟨by rfl, ?_⟩) (by assumption) ?_
    rotate_left
    · intro w hSw
      try dsimp only at hSw
      go_simp
      try with_reducible rfl
    try simp only [Act.put, List.setIfInBounds_toArray, List.set_cons_zero, List.set_cons_succ]
    refine wpAnyH_take (i := 11) (oi := { dst := some 16, op := Op.move (Operand.tmp 15), type := 4, pos := "eval.go:67", after := #[{ on := 10, ground := Ground.data }, { on := 9, ground := Ground.chain }], guard := none }) (v := ?_) rfl (by kernel_rfl) (by kernel_rfl) (by kernel_rfl) (fun _ _ _ h => h) (Or.inl ⟨by rfl, ?_⟩) (by assumption) ?_
    rotate_left
    · intro w hSw
      try dsimp only at hSw
      go_simp
      try with_reducible rfl
    try simp only [Act.put, List.setIfInBounds_toArray, List.set_cons_zero, List.set_cons_succ]
    refine wpAnyH_take (i := 12) (oi := { dst := some 17, op := Op.fieldAddr 94 (Operand.tmp 3) 3, type := 0, pos := "eval.go:67", after := #[{ on := 11, ground := Ground.guard }], guard := some (11, false) }) (v := undef) rfl (by kernel_rfl) (by kernel_rfl) (by kernel_rfl) (fun _ _ _ h => h) (Or.inr ⟨by rfl, rfl⟩) (by assumption) ?_
    try simp only [Act.put, List.setIfInBounds_toArray, List.set_cons_zero, List.set_cons_succ]
    refine wpAnyH_take (i := 13) (oi := { dst := some 18, op := Op.load 89 (Operand.tmp 17), type := 89, pos := "eval.go:67", after := #[{ on := 12, ground := Ground.data }, { on := 11, ground := Ground.guard }], guard := some (11, false) }) (v := undef) rfl (by kernel_rfl) (by kernel_rfl) (by kernel_rfl) (fun _ _ _ h => h) (Or.inr ⟨by rfl, rfl⟩) (by assumption) ?_
    try simp only [Act.put, List.setIfInBounds_toArray, List.set_cons_zero, List.set_cons_succ]
    refine wpAnyH_ready (rs := [14]) (by kernel_rfl) (by simp) ?_
    refine AllReadyH.cons (o := { dst := some 19, op := Op.call { callee := Callee.value (Operand.func 269), args := #[Operand.const (Value.int IntKind.i64 0)], argTypes := #[2] }, type := 89, pos := "eval.go:67", after := #[{ on := 11, ground := Ground.chain }, { on := 11, ground := Ground.guard }], guard := some (11, false) }) rfl (fun K hK => ?_) ?_
    rotate_left
    · exact AllReadyH.nil
    refine ite_no (by rfl) ?_
    refine hK.out _ _ hHeld (fun hHeld => ?_)
    clear hK K
    try simp only [Act.put, List.setIfInBounds_toArray, List.set_cons_zero, List.set_cons_succ]
    refine wpAnyH_ready (rs := [15]) (by kernel_rfl) (by simp) ?_
    refine AllReadyH.cons (o := { dst := some 20, op := Op.call { callee := Callee.value (Operand.func 268), args := #[Operand.tmp 18, Operand.tmp 19], argTypes := #[89, 89] }, type := 4, pos := "eval.go:67", after := #[{ on := 13, ground := Ground.data }, { on := 14, ground := Ground.data }, { on := 14, ground := Ground.chain }, { on := 11, ground := Ground.guard }], guard := some (11, false) }) rfl (fun K hK => ?_) ?_
    rotate_left
    · exact AllReadyH.nil
    refine ite_no (by rfl) ?_
    refine hK.out _ _ hHeld (fun hHeld => ?_)
    clear hK K
    try simp only [Act.put, List.setIfInBounds_toArray, List.set_cons_zero, List.set_cons_succ]
    refine wpAnyH_take (i := 16) (oi := { dst := some 21, op := Op.unOp UnOp.not 4 (Operand.tmp 20), type := 4, pos := "eval.go:67", after := #[{ on := 15, ground := Ground.data }, { on := 11, ground := Ground.guard }], guard := some (11, false) }) (v := undef) rfl (by kernel_rfl) (by kernel_rfl) (by kernel_rfl) (fun _ _ _ h => h) (Or.inr ⟨by rfl, rfl⟩) (by assumption) ?_
    try simp only [Act.put, List.setIfInBounds_toArray, List.set_cons_zero, List.set_cons_succ]
    refine wpAnyH_take (i := 17) (oi := { dst := some 22, op := Op.pick (Operand.tmp 16) (Operand.const (Value.bool true)) (Operand.tmp 21), type := 4, pos := "eval.go:67", after := #[{ on := 11, ground := Ground.data }, { on := 16, ground := Ground.data }], guard := none }) (v := ?_) rfl (by kernel_rfl) (by kernel_rfl) (by kernel_rfl) (fun _ _ _ h => h) (Or.inl ⟨by rfl, ?_⟩) (by assumption) ?_
    rotate_left
    · intro w hSw
      try dsimp only at hSw
      go_simp
      try with_reducible rfl
    try simp only [Act.put, List.setIfInBounds_toArray, List.set_cons_zero, List.set_cons_succ]
    refine wpAnyH_done (by kernel_rfl) ?_ _
    go_wp2
    go_ret
    refine ⟨by rw [show movB d (6, key, to, nm) = (coN (valP d key) nm && coN nm 0) from rfl, HA.out]; rfl, n, by omega, ?_⟩
    have e : opW d (6, key, to, nm) = [] := by unfold opW movB; simp [HA.out]
    rw [e]
    show Wrote w base s n d (ks ++ []) _
    rw [List.append_nil]
    exact ⟨⟨b, wv, HST2.out⟩, Kp.ofBelow HB1.out.drew⟩
  · have HA := Lib.hid hA
    clear hA
    cases hC : coN nm 0
    · have HC := Lib.hid hC
      clear hC
      refine wp_region_held_drew (S := fun Y => Y.cell? ⟨s, 0, none⟩ = some (.map (some b)) ∧ (Y.cell? ⟨w.heap.size, 1, none⟩ = some (.string key) ∧ Y.cell? ⟨w.heap.size, 3, none⟩ = some (.int .u64 (nm : Int))) ∧ MapN Y b n d) (by kernel_rfl) (⟨q0.1, q1, q2⟩) (fun hHeld => ?_)
      refine wpAnyH_take (i := 0) (oi := { dst := some 5, op := Op.move (Operand.tmp 0), type := 188, pos := "eval.go:67", after := #[], guard := none }) (v := ?_) rfl (by kernel_rfl) (by kernel_rfl) (by kernel_rfl) (fun _ _ _ h => h) (Or.inl ⟨by rfl, ?_⟩) (by assumption) ?_
      rotate_left
      · intro w hSw
        try dsimp only at hSw
        go_simp
        try with_reducible rfl
      try simp only [Act.put, List.setIfInBounds_toArray, List.set_cons_zero, List.set_cons_succ]
      refine wpAnyH_take (i := 1) (oi := { dst := some 6, op := Op.nilCheck (Operand.tmp 5), type := 0, pos := "eval.go:67", after := #[{ on := 0, ground := Ground.data }], guard := none }) (v := ?_) rfl (by kernel_rfl) (by kernel_rfl) (by kernel_rfl) (fun _ _ _ h => h) (Or.inl ⟨by rfl, ?_⟩) (by assumption) ?_
      rotate_left
      · intro w hSw
        try dsimp only at hSw
        go_simp
        try with_reducible rfl
      try simp only [Act.put, List.setIfInBounds_toArray, List.set_cons_zero, List.set_cons_succ]
      refine wpAnyH_take (i := 2) (oi := { dst := some 7, op := Op.fieldAddr 256 (Operand.tmp 6) 0, type := 0, pos := "eval.go:67", after := #[{ on := 1, ground := Ground.data }], guard := none }) (v := ?_) rfl (by kernel_rfl) (by kernel_rfl) (by kernel_rfl) (fun _ _ _ h => h) (Or.inl ⟨by rfl, ?_⟩) (by assumption) ?_
      rotate_left
      · intro w hSw
        try dsimp only at hSw
        go_simp
        try with_reducible rfl
      try simp only [Act.put, List.setIfInBounds_toArray, List.set_cons_zero, List.set_cons_succ]
      refine wpAnyH_take (i := 3) (oi := { dst := some 8, op := Op.load 254 (Operand.tmp 7), type := 254, pos := "eval.go:67", after := #[{ on := 2, ground := Ground.data }], guard := none }) (v := ?_) rfl (by kernel_rfl) (by kernel_rfl) (by kernel_rfl) (fun _ _ _ h => h) (Or.inl ⟨by rfl, ?_⟩) (by assumption) ?_
      rotate_left
      · intro w hSw
        try dsimp only at hSw
        go_simp
        try with_reducible rfl
      try simp only [Act.put, List.setIfInBounds_toArray, List.set_cons_zero, List.set_cons_succ]
      refine wpAnyH_take (i := 4) (oi := { dst := some 9, op := Op.fieldAddr 94 (Operand.tmp 3) 1, type := 0, pos := "eval.go:67", after := #[], guard := none }) (v := ?_) rfl (by kernel_rfl) (by kernel_rfl) (by kernel_rfl) (fun _ _ _ h => h) (Or.inl ⟨by rfl, ?_⟩) (by assumption) ?_
      rotate_left
      · intro w hSw
        try dsimp only at hSw
        go_simp
        try with_reducible rfl
      try simp only [Act.put, List.setIfInBounds_toArray, List.set_cons_zero, List.set_cons_succ]
      refine wpAnyH_take (i := 5) (oi := { dst := some 10, op := Op.load 9 (Operand.tmp 9), type := 9, pos := "eval.go:67", after := #[{ on := 4, ground := Ground.data }], guard := none }) (v := ?_) rfl (by kernel_rfl) (by kernel_rfl) (by kernel_rfl) (fun _ _ _ h => h) (Or.inl ⟨by rfl, ?_⟩) (by assumption) ?_
      rotate_left
      · intro w hSw
        try dsimp only at hSw
        go_simp
        try with_reducible rfl
      try simp only [Act.put, List.setIfInBounds_toArray, List.set_cons_zero, List.set_cons_succ]
      refine wpAnyH_take (i := 6) (oi := { dst := some 11, op := Op.lookup 254 (Operand.tmp 8) (Operand.tmp 10) false, type := 89, pos := "eval.go:67", after := #[{ on := 3, ground := Ground.data }, { on := 5, ground := Ground.data }], guard := none }) (v := .int .u64 (valP d key : Nat)) rfl (by kernel_rfl) (by kernel_rfl) (by kernel_rfl) (fun _ _ _ h => h) (Or.inl ⟨by rfl, ?_⟩) (by assumption) ?_
      · intro Y hY
        have hlk := mapN_look hY.2.2 HK1.out
        go_simp
      try simp only [Act.put, List.setIfInBounds_toArray, List.set_cons_zero, List.set_cons_succ]
      refine wpAnyH_take (i := 7) (oi := { dst := some 12, op := Op.fieldAddr 94 (Operand.tmp 3) 3, type := 0, pos := "eval.go:67", after := #[], guard := none }) (v := ?_) rfl (by kernel_rfl) (by kernel_rfl) (by kernel_rfl) (fun _ _ _ h => h) (Or.inl ⟨by rfl, ?_⟩) (by assumption) ?_
      rotate_left
      · intro w hSw
        try dsimp only at hSw
        go_simp
        try with_reducible rfl
      try simp only [Act.put, List.setIfInBounds_toArray, List.set_cons_zero, List.set_cons_succ]
      refine wpAnyH_take (i := 8) (oi := { dst := some 13, op := Op.load 89 (Operand.tmp 12), type := 89, pos := "eval.go:67", after := #[{ on := 7, ground := Ground.data }], guard := none }) (v := ?_) rfl (by kernel_rfl) (by kernel_rfl) (by kernel_rfl) (fun _ _ _ h => h) (Or.inl ⟨by rfl, ?_⟩) (by assumption) ?_
      rotate_left
      · intro w hSw
        try dsimp only at hSw
        go_simp
        try with_reducible rfl
      try simp only [Act.put, List.setIfInBounds_toArray, List.set_cons_zero, List.set_cons_succ]
      refine wpAnyH_ready (rs := [9]) (by kernel_rfl) (by simp) ?_
      refine AllReadyH.cons (o := { dst := some 14, op := Op.call { callee := Callee.value (Operand.func 268), args := #[Operand.tmp 11, Operand.tmp 13], argTypes := #[89, 89] }, type := 4, pos := "eval.go:67", after := #[{ on := 6, ground := Ground.data }, { on := 8, ground := Ground.data }], guard := none }) rfl (fun K hK => ?_) ?_
      rotate_left
      · exact AllReadyH.nil
      go_simp
      go_at_call 268
      refine (SN.covers_any _ nm _).mono ?_
      rw [HA.out]
      rintro e w1 ⟨rfl, rfl⟩
      refine hK.out _ _ (hHeld) (fun hHeld => ?_)
      clear hK K
      try simp only [Act.put, List.setIfInBounds_toArray, List.set_cons_zero, List.set_cons_succ]
      refine wpAnyH_take (i := 10) (oi := { dst := some 15, op := Op.unOp UnOp.not 4 (Operand.tmp 14), type := 4, pos := "eval.go:67", after := #[{ on := 9, ground := Ground.data }], guard := none }) (v := ?_) rfl (by kernel_rfl) (by kernel_rfl) (by kernel_rfl) (fun _ _ _ h => h) (Or.inl ⟨by rfl, ?_⟩) (by assumption) ?_
      rotate_left
      · intro w hSw
        try dsimp only at hSw
        go_simp
        try with_reducible rfl
      try simp only [Act.put, List.setIfInBounds_toArray, List.set_cons_zero, List.set_cons_succ]
      refine wpAnyH_take (i := 11) (oi := { dst := some 16, op := Op.move (Operand.tmp 15), type := 4, pos := "eval.go:67", after := #[{ on := 10, ground := Ground.data }, { on := 9, ground := Ground.chain }], guard := none }) (v := ?_) rfl (by kernel_rfl) (by kernel_rfl) (by kernel_rfl) (fun _ _ _ h => h) (Or.inl ⟨by rfl, ?_⟩) (by assumption) ?_
      rotate_left
      · intro w hSw
        try dsimp only at hSw
        go_simp
        try with_reducible rfl
      try simp only [Act.put, List.setIfInBounds_toArray, List.set_cons_zero, List.set_cons_succ]
      refine wpAnyH_take (i := 12) (oi := { dst := some 17, op := Op.fieldAddr 94 (Operand.tmp 3) 3, type := 0, pos := "eval.go:67", after := #[{ on := 11, ground := Ground.guard }], guard := some (11, false) }) (v := ?_) rfl (by kernel_rfl) (by kernel_rfl) (by kernel_rfl) (fun _ _ _ h => h) (Or.inl ⟨by rfl, ?_⟩) (by assumption) ?_
      rotate_left
      · intro w hSw
        try dsimp only at hSw
        go_simp
        try with_reducible rfl
      try simp only [Act.put, List.setIfInBounds_toArray, List.set_cons_zero, List.set_cons_succ]
      refine wpAnyH_take (i := 13) (oi := { dst := some 18, op := Op.load 89 (Operand.tmp 17), type := 89, pos := "eval.go:67", after := #[{ on := 12, ground := Ground.data }, { on := 11, ground := Ground.guard }], guard := some (11, false) }) (v := ?_) rfl (by kernel_rfl) (by kernel_rfl) (by kernel_rfl) (fun _ _ _ h => h) (Or.inl ⟨by rfl, ?_⟩) (by assumption) ?_
      rotate_left
      · intro w hSw
        try dsimp only at hSw
        go_simp
        try with_reducible rfl
      try simp only [Act.put, List.setIfInBounds_toArray, List.set_cons_zero, List.set_cons_succ]
      refine wpAnyH_ready (rs := [14]) (by kernel_rfl) (by simp) ?_
      refine AllReadyH.cons (o := { dst := some 19, op := Op.call { callee := Callee.value (Operand.func 269), args := #[Operand.const (Value.int IntKind.i64 0)], argTypes := #[2] }, type := 89, pos := "eval.go:67", after := #[{ on := 11, ground := Ground.chain }, { on := 11, ground := Ground.guard }], guard := some (11, false) }) rfl (fun K hK => ?_) ?_
      rotate_left
      · exact AllReadyH.nil
      go_simp
      go_at_call 269
      refine (SN.of_any 0 _).mono ?_
      rw [show ofN 0 = 0 from by decide +kernel]
      rintro e w1 ⟨rfl, rfl⟩
      refine hK.out _ _ (hHeld) (fun hHeld => ?_)
      clear hK K
      try simp only [Act.put, List.setIfInBounds_toArray, List.set_cons_zero, List.set_cons_succ]
      refine wpAnyH_ready (rs := [15]) (by kernel_rfl) (by simp) ?_
      refine AllReadyH.cons (o := { dst := some 20, op := Op.call { callee := Callee.value (Operand.func 268), args := #[Operand.tmp 18, Operand.tmp 19], argTypes := #[89, 89] }, type := 4, pos := "eval.go:67", after := #[{ on := 13, ground := Ground.data }, { on := 14, ground := Ground.data }, { on := 14, ground := Ground.chain }, { on := 11, ground := Ground.guard }], guard := some (11, false) }) rfl (fun K hK => ?_) ?_
      rotate_left
      · exact AllReadyH.nil
      go_simp
      go_at_call 268
      refine (SN.covers_any nm 0 _).mono ?_
      rw [HC.out]
      rintro e w1 ⟨rfl, rfl⟩
      refine hK.out _ _ (hHeld) (fun hHeld => ?_)
      clear hK K
      try simp only [Act.put, List.setIfInBounds_toArray, List.set_cons_zero, List.set_cons_succ]
      refine wpAnyH_take (i := 16) (oi := { dst := some 21, op := Op.unOp UnOp.not 4 (Operand.tmp 20), type := 4, pos := "eval.go:67", after := #[{ on := 15, ground := Ground.data }, { on := 11, ground := Ground.guard }], guard := some (11, false) }) (v := ?_) rfl (by kernel_rfl) (by kernel_rfl) (by kernel_rfl) (fun _ _ _ h => h) (Or.inl ⟨by rfl, ?_⟩) (by assumption) ?_
      rotate_left
      · intro w hSw
        try dsimp only at hSw
        go_simp
        try with_reducible rfl
      try simp only [Act.put, List.setIfInBounds_toArray, List.set_cons_zero, List.set_cons_succ]
      refine wpAnyH_take (i := 17) (oi := { dst := some 22, op := Op.pick (Operand.tmp 16) (Operand.const (Value.bool true)) (Operand.tmp 21), type := 4, pos := "eval.go:67", after := #[{ on := 11, ground := Ground.data }, { on := 16, ground := Ground.data }], guard := none }) (v := ?_) rfl (by kernel_rfl) (by kernel_rfl) (by kernel_rfl) (fun _ _ _ h => h) (Or.inl ⟨by rfl, ?_⟩) (by assumption) ?_
      rotate_left
      · intro w hSw
        try dsimp only at hSw
        go_simp
        try with_reducible rfl
      try simp only [Act.put, List.setIfInBounds_toArray, List.set_cons_zero, List.set_cons_succ]
      refine wpAnyH_done (by kernel_rfl) ?_ _
      go_wp2
      go_ret
      refine ⟨by rw [show movB d (6, key, to, nm) = (coN (valP d key) nm && coN nm 0) from rfl, HA.out, HC.out]; rfl, n, by omega, ?_⟩
      have e : opW d (6, key, to, nm) = [] := by unfold opW movB; simp [HA.out, HC.out]
      rw [e]
      show Wrote w base s n d (ks ++ []) _
      rw [List.append_nil]
      exact ⟨⟨b, wv, HST2.out⟩, Kp.ofBelow HB1.out.drew⟩
    · have HC := Lib.hid hC
      clear hC
      refine wp_region_held_drew (S := fun Y => Y.cell? ⟨s, 0, none⟩ = some (.map (some b)) ∧ (Y.cell? ⟨w.heap.size, 1, none⟩ = some (.string key) ∧ Y.cell? ⟨w.heap.size, 3, none⟩ = some (.int .u64 (nm : Int))) ∧ MapN Y b n d) (by kernel_rfl) (⟨q0.1, q1, q2⟩) (fun hHeld => ?_)
      refine wpAnyH_take (i := 0) (oi := { dst := some 5, op := Op.move (Operand.tmp 0), type := 188, pos := "eval.go:67", after := #[], guard := none }) (v := ?_) rfl (by kernel_rfl) (by kernel_rfl) (by kernel_rfl) (fun _ _ _ h => h) (Or.inl ⟨by rfl, ?_⟩) (by assumption) ?_
      rotate_left
      · intro w hSw
        try dsimp only at hSw
        go_simp
        try with_reducible rfl
      try simp only [Act.put, List.setIfInBounds_toArray, List.set_cons_zero, List.set_cons_succ]
      refine wpAnyH_take (i := 1) (oi := { dst := some 6, op := Op.nilCheck (Operand.tmp 5), type := 0, pos := "eval.go:67", after := #[{ on := 0, ground := Ground.data }], guard := none }) (v := ?_) rfl (by kernel_rfl) (by kernel_rfl) (by kernel_rfl) (fun _ _ _ h => h) (Or.inl ⟨by rfl, ?_⟩) (by assumption) ?_
      rotate_left
      · intro w hSw
        try dsimp only at hSw
        go_simp
        try with_reducible rfl
      try simp only [Act.put, List.setIfInBounds_toArray, List.set_cons_zero, List.set_cons_succ]
      refine wpAnyH_take (i := 2) (oi := { dst := some 7, op := Op.fieldAddr 256 (Operand.tmp 6) 0, type := 0, pos := "eval.go:67", after := #[{ on := 1, ground := Ground.data }], guard := none }) (v := ?_) rfl (by kernel_rfl) (by kernel_rfl) (by kernel_rfl) (fun _ _ _ h => h) (Or.inl ⟨by rfl, ?_⟩) (by assumption) ?_
      rotate_left
      · intro w hSw
        try dsimp only at hSw
        go_simp
        try with_reducible rfl
      try simp only [Act.put, List.setIfInBounds_toArray, List.set_cons_zero, List.set_cons_succ]
      refine wpAnyH_take (i := 3) (oi := { dst := some 8, op := Op.load 254 (Operand.tmp 7), type := 254, pos := "eval.go:67", after := #[{ on := 2, ground := Ground.data }], guard := none }) (v := ?_) rfl (by kernel_rfl) (by kernel_rfl) (by kernel_rfl) (fun _ _ _ h => h) (Or.inl ⟨by rfl, ?_⟩) (by assumption) ?_
      rotate_left
      · intro w hSw
        try dsimp only at hSw
        go_simp
        try with_reducible rfl
      try simp only [Act.put, List.setIfInBounds_toArray, List.set_cons_zero, List.set_cons_succ]
      refine wpAnyH_take (i := 4) (oi := { dst := some 9, op := Op.fieldAddr 94 (Operand.tmp 3) 1, type := 0, pos := "eval.go:67", after := #[], guard := none }) (v := ?_) rfl (by kernel_rfl) (by kernel_rfl) (by kernel_rfl) (fun _ _ _ h => h) (Or.inl ⟨by rfl, ?_⟩) (by assumption) ?_
      rotate_left
      · intro w hSw
        try dsimp only at hSw
        go_simp
        try with_reducible rfl
      try simp only [Act.put, List.setIfInBounds_toArray, List.set_cons_zero, List.set_cons_succ]
      refine wpAnyH_take (i := 5) (oi := { dst := some 10, op := Op.load 9 (Operand.tmp 9), type := 9, pos := "eval.go:67", after := #[{ on := 4, ground := Ground.data }], guard := none }) (v := ?_) rfl (by kernel_rfl) (by kernel_rfl) (by kernel_rfl) (fun _ _ _ h => h) (Or.inl ⟨by rfl, ?_⟩) (by assumption) ?_
      rotate_left
      · intro w hSw
        try dsimp only at hSw
        go_simp
        try with_reducible rfl
      try simp only [Act.put, List.setIfInBounds_toArray, List.set_cons_zero, List.set_cons_succ]
      refine wpAnyH_take (i := 6) (oi := { dst := some 11, op := Op.lookup 254 (Operand.tmp 8) (Operand.tmp 10) false, type := 89, pos := "eval.go:67", after := #[{ on := 3, ground := Ground.data }, { on := 5, ground := Ground.data }], guard := none }) (v := .int .u64 (valP d key : Nat)) rfl (by kernel_rfl) (by kernel_rfl) (by kernel_rfl) (fun _ _ _ h => h) (Or.inl ⟨by rfl, ?_⟩) (by assumption) ?_
      · intro Y hY
        have hlk := mapN_look hY.2.2 HK1.out
        go_simp
      try simp only [Act.put, List.setIfInBounds_toArray, List.set_cons_zero, List.set_cons_succ]
      refine wpAnyH_take (i := 7) (oi := { dst := some 12, op := Op.fieldAddr 94 (Operand.tmp 3) 3, type := 0, pos := "eval.go:67", after := #[], guard := none }) (v := ?_) rfl (by kernel_rfl) (by kernel_rfl) (by kernel_rfl) (fun _ _ _ h => h) (Or.inl ⟨by rfl, ?_⟩) (by assumption) ?_
      rotate_left
      · intro w hSw
        try dsimp only at hSw
        go_simp
        try with_reducible rfl
      try simp only [Act.put, List.setIfInBounds_toArray, List.set_cons_zero, List.set_cons_succ]
      refine wpAnyH_take (i := 8) (oi := { dst := some 13, op := Op.load 89 (Operand.tmp 12), type := 89, pos := "eval.go:67", after := #[{ on := 7, ground := Ground.data }], guard := none }) (v := ?_) rfl (by kernel_rfl) (by kernel_rfl) (by kernel_rfl) (fun _ _ _ h => h) (Or.inl ⟨by rfl, ?_⟩) (by assumption) ?_
      rotate_left
      · intro w hSw
        try dsimp only at hSw
        go_simp
        try with_reducible rfl
      try simp only [Act.put, List.setIfInBounds_toArray, List.set_cons_zero, List.set_cons_succ]
      refine wpAnyH_ready (rs := [9]) (by kernel_rfl) (by simp) ?_
      refine AllReadyH.cons (o := { dst := some 14, op := Op.call { callee := Callee.value (Operand.func 268), args := #[Operand.tmp 11, Operand.tmp 13], argTypes := #[89, 89] }, type := 4, pos := "eval.go:67", after := #[{ on := 6, ground := Ground.data }, { on := 8, ground := Ground.data }], guard := none }) rfl (fun K hK => ?_) ?_
      rotate_left
      · exact AllReadyH.nil
      go_simp
      go_at_call 268
      refine (SN.covers_any _ nm _).mono ?_
      rw [HA.out]
      rintro e w1 ⟨rfl, rfl⟩
      refine hK.out _ _ (hHeld) (fun hHeld => ?_)
      clear hK K
      try simp only [Act.put, List.setIfInBounds_toArray, List.set_cons_zero, List.set_cons_succ]
      refine wpAnyH_take (i := 10) (oi := { dst := some 15, op := Op.unOp UnOp.not 4 (Operand.tmp 14), type := 4, pos := "eval.go:67", after := #[{ on := 9, ground := Ground.data }], guard := none }) (v := ?_) rfl (by kernel_rfl) (by kernel_rfl) (by kernel_rfl) (fun _ _ _ h => h) (Or.inl ⟨by rfl, ?_⟩) (by assumption) ?_
      rotate_left
      · intro w hSw
        try dsimp only at hSw
        go_simp
        try with_reducible rfl
      try simp only [Act.put, List.setIfInBounds_toArray, List.set_cons_zero, List.set_cons_succ]
      refine wpAnyH_take (i := 11) (oi := { dst := some 16, op := Op.move (Operand.tmp 15), type := 4, pos := "eval.go:67", after := #[{ on := 10, ground := Ground.data }, { on := 9, ground := Ground.chain }], guard := none }) (v := ?_) rfl (by kernel_rfl) (by kernel_rfl) (by kernel_rfl) (fun _ _ _ h => h) (Or.inl ⟨by rfl, ?_⟩) (by assumption) ?_
      rotate_left
      · intro w hSw
        try dsimp only at hSw
        go_simp
        try with_reducible rfl
      try simp only [Act.put, List.setIfInBounds_toArray, List.set_cons_zero, List.set_cons_succ]
      refine wpAnyH_take (i := 12) (oi := { dst := some 17, op := Op.fieldAddr 94 (Operand.tmp 3) 3, type := 0, pos := "eval.go:67", after := #[{ on := 11, ground := Ground.guard }], guard := some (11, false) }) (v := ?_) rfl (by kernel_rfl) (by kernel_rfl) (by kernel_rfl) (fun _ _ _ h => h) (Or.inl ⟨by rfl, ?_⟩) (by assumption) ?_
      rotate_left
      · intro w hSw
        try dsimp only at hSw
        go_simp
        try with_reducible rfl
      try simp only [Act.put, List.setIfInBounds_toArray, List.set_cons_zero, List.set_cons_succ]
      refine wpAnyH_take (i := 13) (oi := { dst := some 18, op := Op.load 89 (Operand.tmp 17), type := 89, pos := "eval.go:67", after := #[{ on := 12, ground := Ground.data }, { on := 11, ground := Ground.guard }], guard := some (11, false) }) (v := ?_) rfl (by kernel_rfl) (by kernel_rfl) (by kernel_rfl) (fun _ _ _ h => h) (Or.inl ⟨by rfl, ?_⟩) (by assumption) ?_
      rotate_left
      · intro w hSw
        try dsimp only at hSw
        go_simp
        try with_reducible rfl
      try simp only [Act.put, List.setIfInBounds_toArray, List.set_cons_zero, List.set_cons_succ]
      refine wpAnyH_ready (rs := [14]) (by kernel_rfl) (by simp) ?_
      refine AllReadyH.cons (o := { dst := some 19, op := Op.call { callee := Callee.value (Operand.func 269), args := #[Operand.const (Value.int IntKind.i64 0)], argTypes := #[2] }, type := 89, pos := "eval.go:67", after := #[{ on := 11, ground := Ground.chain }, { on := 11, ground := Ground.guard }], guard := some (11, false) }) rfl (fun K hK => ?_) ?_
      rotate_left
      · exact AllReadyH.nil
      go_simp
      go_at_call 269
      refine (SN.of_any 0 _).mono ?_
      rw [show ofN 0 = 0 from by decide +kernel]
      rintro e w1 ⟨rfl, rfl⟩
      refine hK.out _ _ (hHeld) (fun hHeld => ?_)
      clear hK K
      try simp only [Act.put, List.setIfInBounds_toArray, List.set_cons_zero, List.set_cons_succ]
      refine wpAnyH_ready (rs := [15]) (by kernel_rfl) (by simp) ?_
      refine AllReadyH.cons (o := { dst := some 20, op := Op.call { callee := Callee.value (Operand.func 268), args := #[Operand.tmp 18, Operand.tmp 19], argTypes := #[89, 89] }, type := 4, pos := "eval.go:67", after := #[{ on := 13, ground := Ground.data }, { on := 14, ground := Ground.data }, { on := 14, ground := Ground.chain }, { on := 11, ground := Ground.guard }], guard := some (11, false) }) rfl (fun K hK => ?_) ?_
      rotate_left
      · exact AllReadyH.nil
      go_simp
      go_at_call 268
      refine (SN.covers_any nm 0 _).mono ?_
      rw [HC.out]
      rintro e w1 ⟨rfl, rfl⟩
      refine hK.out _ _ (hHeld) (fun hHeld => ?_)
      clear hK K
      try simp only [Act.put, List.setIfInBounds_toArray, List.set_cons_zero, List.set_cons_succ]
      refine wpAnyH_take (i := 16) (oi := { dst := some 21, op := Op.unOp UnOp.not 4 (Operand.tmp 20), type := 4, pos := "eval.go:67", after := #[{ on := 15, ground := Ground.data }, { on := 11, ground := Ground.guard }], guard := some (11, false) }) (v := ?_) rfl (by kernel_rfl) (by kernel_rfl) (by kernel_rfl) (fun _ _ _ h => h) (Or.inl ⟨by rfl, ?_⟩) (by assumption) ?_
      rotate_left
      · intro w hSw
        try dsimp only at hSw
        go_simp
        try with_reducible rfl
      try simp only [Act.put, List.setIfInBounds_toArray, List.set_cons_zero, List.set_cons_succ]
      refine wpAnyH_take (i := 17) (oi := { dst := some 22, op := Op.pick (Operand.tmp 16) (Operand.const (Value.bool true)) (Operand.tmp 21), type := 4, pos := "eval.go:67", after := #[{ on := 11, ground := Ground.data }, { on := 16, ground := Ground.data }], guard := none }) (v := ?_) rfl (by kernel_rfl) (by kernel_rfl) (by kernel_rfl) (fun _ _ _ h => h) (Or.inl ⟨by rfl, ?_⟩) (by assumption) ?_
      rotate_left
      · intro w hSw
        try dsimp only at hSw
        go_simp
        try with_reducible rfl
      try simp only [Act.put, List.setIfInBounds_toArray, List.set_cons_zero, List.set_cons_succ]
      refine wpAnyH_done (by kernel_rfl) ?_ _
      go_wp2_with fail
      refine wp_region_held_drew (S := fun Y => Y.cell? ⟨w.heap.size, 1, none⟩ = some (.string key) ∧ Y.cell? ⟨w.heap.size, 3, none⟩ = some (.int .u64 (nm : Int))) (by kernel_rfl) (q3) (fun hHeld => ?_)
      refine wpAnyH_take (i := 0) (oi := { dst := some 23, op := Op.move (Operand.tmp 0), type := 188, pos := "eval.go:70", after := #[], guard := none }) (v := ?_) rfl (by kernel_rfl) (by kernel_rfl) (by kernel_rfl) (fun _ _ _ h => h) (Or.inl ⟨by rfl, ?_⟩) (by assumption) ?_
      rotate_left
      · intro w hSw
        try dsimp only at hSw
        go_simp
        try with_reducible rfl
      try simp only [Act.put, List.setIfInBounds_toArray, List.set_cons_zero, List.set_cons_succ]
      refine wpAnyH_take (i := 1) (oi := { dst := some 24, op := Op.fieldAddr 94 (Operand.tmp 3) 1, type := 0, pos := "eval.go:70", after := #[], guard := none }) (v := ?_) rfl (by kernel_rfl) (by kernel_rfl) (by kernel_rfl) (fun _ _ _ h => h) (Or.inl ⟨by rfl, ?_⟩) (by assumption) ?_
      rotate_left
      · intro w hSw
        try dsimp only at hSw
        go_simp
        try with_reducible rfl
      try simp only [Act.put, List.setIfInBounds_toArray, List.set_cons_zero, List.set_cons_succ]
      refine wpAnyH_take (i := 2) (oi := { dst := some 25, op := Op.load 9 (Operand.tmp 24), type := 9, pos := "eval.go:70", after := #[{ on := 1, ground := Ground.data }], guard := none }) (v := ?_) rfl (by kernel_rfl) (by kernel_rfl) (by kernel_rfl) (fun _ _ _ h => h) (Or.inl ⟨by rfl, ?_⟩) (by assumption) ?_
      rotate_left
      · intro w hSw
        try dsimp only at hSw
        go_simp
        try with_reducible rfl
      try simp only [Act.put, List.setIfInBounds_toArray, List.set_cons_zero, List.set_cons_succ]
      refine wpAnyH_take (i := 3) (oi := { dst := some 26, op := Op.fieldAddr 94 (Operand.tmp 3) 3, type := 0, pos := "eval.go:70", after := #[], guard := none }) (v := ?_) rfl (by kernel_rfl) (by kernel_rfl) (by kernel_rfl) (fun _ _ _ h => h) (Or.inl ⟨by rfl, ?_⟩) (by assumption) ?_
      rotate_left
      · intro w hSw
        try dsimp only at hSw
        go_simp
        try with_reducible rfl
      try simp only [Act.put, List.setIfInBounds_toArray, List.set_cons_zero, List.set_cons_succ]
      refine wpAnyH_take (i := 4) (oi := { dst := some 27, op := Op.load 89 (Operand.tmp 26), type := 89, pos := "eval.go:70", after := #[{ on := 3, ground := Ground.data }], guard := none }) (v := ?_) rfl (by kernel_rfl) (by kernel_rfl) (by kernel_rfl) (fun _ _ _ h => h) (Or.inl ⟨by rfl, ?_⟩) (by assumption) ?_
      rotate_left
      · intro w hSw
        try dsimp only at hSw
        go_simp
        try with_reducible rfl
      try simp only [Act.put, List.setIfInBounds_toArray, List.set_cons_zero, List.set_cons_succ]
      refine wpAnyH_ready (rs := [5]) (by kernel_rfl) (by simp) ?_
      refine AllReadyH.cons (o := { dst := some 28, op := Op.call { callee := Callee.value (Operand.func 270), args := #[Operand.tmp 27], argTypes := #[89] }, type := 89, pos := "eval.go:70", after := #[{ on := 4, ground := Ground.data }], guard := none }) rfl (fun K hK => ?_) ?_
      rotate_left
      · exact AllReadyH.nil
      go_simp
      go_at_call 270
      refine (SN.neg_any nm HNM.out _).mono ?_
      rintro e w1 ⟨rfl, rfl⟩
      refine hK.out _ _ (hHeld) (fun hHeld => ?_)
      clear hK K
      try simp only [Act.put, List.setIfInBounds_toArray, List.set_cons_zero, List.set_cons_succ]
      refine wpAnyH_ready (rs := [6]) (by kernel_rfl) (by simp) ?_
      refine AllReadyH.cons (o := { dst := some 29, op := Op.call { callee := Callee.value (Operand.func 214), args := #[Operand.tmp 23, Operand.tmp 25, Operand.tmp 28], argTypes := #[188, 9, 89] }, type := 89, pos := "eval.go:70", after := #[{ on := 0, ground := Ground.data }, { on := 2, ground := Ground.data }, { on := 5, ground := Ground.data }, { on := 5, ground := Ground.chain }], guard := none }) rfl (fun K hK => ?_) ?_
      rotate_left
      · exact AllReadyH.nil
      go_simp
      go_at_call 214
      refine (sadd_any base s n d ks b wv key (ngN nm) _ HB2.out HRD.out HK1.out (by have := HN.out; omega) (by have := HKS.out; omega) HST3.out).mono ?_
      rintro e w1 ⟨rfl, h5⟩
      have HW1 := Lib.hid h5
      have hbx := cells_four (h5.2.cells HBX2.out (by decide) (by decide))
      clear h5
      refine hK.out _ _ (⟨hbx.2.1, hbx.2.2.2⟩) (fun hHeld => ?_)
      clear hK K
      try simp only [Act.put, List.setIfInBounds_toArray, List.set_cons_zero, List.set_cons_succ]
      refine wpAnyH_done (by kernel_rfl) ?_ _
      obtain ⟨⟨b1, wv1, hst⟩, hkp⟩ := HW1.out
      have HS4 := Lib.hid hst
      have HKP1 := Lib.hid (HKP.out.trans hkp)
      have HB4 : Hid (base ≤ w1.heap.size) := Nat.le_trans HB2.out hkp.size
      obtain ⟨c0, c1, c2, c3⟩ := hbx
      clear hst hkp
      have HV : Hid (valP (putA d key (adN (valP d key) (ngN nm))) to = valP d to) := by
        show valP _ _ = _
        unfold valP
        rw [getA_put HRD.out, if_neg HNE.out]
      go_wp2_with (go_at_call 214; go_must (refine (sadd_any base s (n + 1) (putA d key (adN (valP d key) (ngN nm))) (ks ++ [key]) b1 wv1 to nm _ HB4.out (risA_put HRD.out _ _) HK2.out (by have := HN.out; omega) (by have := HKS.out; simp only [List.length_append, List.length_cons, List.length_nil]; omega) HS4.out).mono ?_; rintro e w2 ⟨rfl, h5⟩; have HW2 := Lib.hid h5; clear h5))
      go_ret
      refine ⟨by rw [show movB d (6, key, to, nm) = (coN (valP d key) nm && coN nm 0) from rfl, HA.out, HC.out]; rfl, n + 2, Nat.le_refl _, ?_⟩
      have e : opW d (6, key, to, nm) = [(key, adN (valP d key) (ngN nm), false), (to, adN (valP d to) nm, false)] := by unfold opW movB; simp [HA.out, HC.out]
      rw [e]
      have h6 := HW2.out
      rw [HV.out, List.append_assoc] at h6
      exact ⟨h6.1, HKP1.out.trans h6.2⟩
end SP
end Go.Proofs.YtjlkgbejldcklaaGreat

namespace Go.Proofs.YtjlkgbejldcklaaGreat
open S3 SN
namespace SP
open Go.ChangeShapes Go.WideShapes Go.ChangeAt Go.RowKit Go.Joins Go.Deep
theorem Kp.after {base : Nat} {w w1 w2 : World} {j : Nat} (h : Kp base w w1) (hg : w1.grownBy w2 (some j)) (hj : w.heap.size ≤ j) : Kp base w w2 :=
  ⟨hg.os.trans h.os, hg.tape.trans h.tape, hg.output.trans h.output, Nat.le_trans h.size hg.size, fun k hk hs => (hg.block k (Nat.lt_of_lt_of_le hk h.size) (fun e => by cases e; omega)).trans (h.block k hk hs)⟩
theorem ownG_ne {α : Type} {E : Enc α} {T : TypeId} {w : World} {base : Nat} {v : Value} {l : List α} {j : Nat} {c : Array Value} {U : TypeId} (h : OwnG E T w base v l) (hj : w.heap[j]? = some (.cells c U (0, 0))) (ht : T ≠ U) : v.ownBlock ≠ some j := by
  obtain ⟨h1, ⟨rfl, _⟩ | ⟨g, cap, cur, rfl, hg, hh, _⟩⟩ := h
  · exact fun e => by cases e
  · intro e
    simp only [Value.ownBlock, Option.some.injEq] at e
    subst e
    rw [hj] at hh
    simp only [Option.some.injEq, Obj.cells.injEq] at hh
    exact ht hh.2.1.symm
theorem ownT_ne {w : World} {base : Nat} {v : Value} {l : List ByteArray} {j : Nat} {c : Array Value} {U : TypeId} (h : OwnT w base v l) (hj : w.heap[j]? = some (.cells c U (0, 0))) (ht : 9 ≠ U) : v.ownBlock ≠ some j := by
  obtain ⟨h1, ⟨rfl, _⟩ | ⟨g, cap, cur, rfl, hg, hh, _⟩⟩ := h
  · exact fun e => by cases e
  · intro e
    simp only [Value.ownBlock, Option.some.injEq] at e
    subst e
    rw [hj] at hh
    simp only [Option.some.injEq, Obj.cells.injEq] at hh
    exact ht hh.2.1.symm
theorem Stk.after {w w' : World} {base s n : Nat} {d : Al Nat} {ks : List ByteArray} {b : Nat} {wv : Value} {j : Nat} {c : Array Value} {U : TypeId} (h : Stk w base s n d ks b wv) (hj : w.heap[j]? = some (.cells c U (0, 0))) (h1 : 9 ≠ U) (h2 : 256 ≠ U) (hg : w.grownBy w' (some j)) : Stk w' base s n d ks b wv := by
  refine ⟨(hg.block s h.lt (fun e => ?_)).trans h.box, ownT_kept h.row hg (.inl (ownT_ne h.row hj h1)), mapN_kept h.map hg (fun e => ?_), h.bs, h.bb⟩
  · have := h.box
    rw [Option.some.inj e, hj] at this
    simp only [Option.some.injEq, Obj.cells.injEq] at this
    exact h2 this.2.1.symm
  · obtain ⟨D, ⟨es, clock, h3, _⟩, _⟩ := h.map
    rw [Option.some.inj e, hj] at h3
    cases h3
theorem ownG_kp {α : Type} {E : Enc α} {T : TypeId} {w w' : World} {base B : Nat} {v : Value} {l : List α} (h : OwnG E T w base v l) (hk : Kp B w w') (h1 : T ≠ 9) (h2 : T ≠ 256) : OwnG E T w' base v l := by
  obtain ⟨h3, h4 | ⟨g, cap, cur, rfl, hgb, hh, rest⟩⟩ := h
  · exact ⟨h3, .inl h4⟩
  · exact ⟨h3, .inr ⟨g, cap, cur, rfl, hgb, hk.cells hh h1 h2, rest⟩⟩
theorem ans_block {w : World} {x y z : Value} {k : Nat} (h : w.heap[k]? = some (.cells #[x, y, z] 96 (0, 0))) (u0 u1 u2 : Value) :
    (((w.setCell ⟨k, 0, none⟩ u0).setCell ⟨k, 1, none⟩ u1).setCell ⟨k, 2, none⟩ u2).heap[k]? = some (.cells #[u0, u1, u2] 96 (0, 0)) ∧ w.grownBy (((w.setCell ⟨k, 0, none⟩ u0).setCell ⟨k, 1, none⟩ u1).setCell ⟨k, 2, none⟩ u2) (some k) := by
  have hk := lt_of_block h
  refine ⟨?_, rfl, rfl, rfl, by simp [World.setCell], fun j hj hne => ?_⟩
  · simp only [World.setCell]
    rw [Array.getElem?_modify, if_pos rfl, Array.getElem?_modify, if_pos rfl, Array.getElem?_modify, if_pos rfl, h]
    rfl
  · have e : j ≠ k := fun e => hne (by rw [e])
    rw [Go.Deep.blk_setCell_other _ _ _ _ e, Go.Deep.blk_setCell_other _ _ _ _ e, Go.Deep.blk_setCell_other _ _ _ _ e]
def Did (w : World) (base s n : Nat) (d : Al Nat) (ks : List ByteArray) (o : Opr) (e : Ending) (w' : World) : Prop :=
  ∃ r : AnR, e = .returned (anV r) ∧ r.ans = opA d o ∧ OwnPr w' base (.slice r.at_ r.prs.length r.cap) r.prs ∧ ∃ n', n' ≤ n + 2 ∧ Wrote w base s n' (applyP d (opW d o)) (ks ++ (opW d o).map fun x => x.1) w'
theorem cells_three {Y : World} {k : Nat} {x0 x1 x2 : Value} {T : TypeId} (h : Y.heap[k]? = some (.cells #[x0, x1, x2] T (0, 0))) :
    Y.cell? ⟨k, 0, none⟩ = some x0 ∧ Y.cell? ⟨k, 1, none⟩ = some x1 ∧ Y.cell? ⟨k, 2, none⟩ = some x2 := by
  simp only [World.cell?, h]
  exact ⟨rfl, rfl, rfl⟩
theorem frozen_three {Y : World} {k : Nat} {x0 x1 x2 : Value} {T : TypeId} (h : Y.heap[k]? = some (.cells #[x0, x1, x2] T (0, 0))) :
    Y.frozen? ⟨k, 0, none⟩ = false ∧ Y.frozen? ⟨k, 1, none⟩ = false ∧ Y.frozen? ⟨k, 2, none⟩ = false := by
  simp only [World.frozen?, h]
  exact ⟨rfl, rfl, rfl⟩
set_option maxRecDepth 100000 in
set_option maxHeartbeats 16000000 in
theorem do_any (base s n : Nat) (d : Al Nat) (ks : List ByteArray) (b : Nat) (wv : Value) (o : Opr) (w : World) (hb : base ≤ w.heap.size) (hd : RisA d) (ho : okB o = true) (hnm : o.2.2.2 < 18446744073709551616) (hn : n + 2 ≤ 1000000) (hks : ks.length + 2 ≤ 1000000) (h : Stk w base s n d ks b wv) :
    Calls Tryz.prog 141 #[.pointer (some ⟨s, 0, none⟩), opV o] w (Did w base s n d ks o) := by
  obtain ⟨hkd, hky, _, h6, _⟩ := ok_kd ho
  have HOK := Lib.hid ho
  have HRD := Lib.hid hd
  have HN := Lib.hid hn
  have HKS := Lib.hid hks
  have HST := Lib.hid h
  have HB := Lib.hid hb
  have hs := h.lt
  clear h hd hn hks hb ho
  obtain ⟨kd, key, to, nm⟩ := o
  simp only at hkd hky h6 hnm
  have HNM := Lib.hid hnm
  have HK1 : Hid (key.size ≤ maxLen) := by
    show _ ≤ maxLen
    have := key_len hky
    unfold maxLen
    omega
  have H6 := Lib.hid h6
  unfold Kd at hkd
  simp only at hkd
  have hcs : kd = 1 ∨ kd = 2 ∨ kd = 3 ∨ kd = 4 ∨ kd = 5 ∨ kd = 6 := by omega
  clear hkd h6 hky hnm
  unfold opV
  simp only
  rcases hcs with rfl | rfl | rfl | rfl | rfl | rfl
  · have HB1 : Hid (Below w.heap.size w ((w.alloc (.cells #[.int .i64 1, .string key, .string to, .int .u64 (nm : Int)] 94)).alloc (.cells #[.bool false, .int .u64 0, .slice none 0 0] 96))) := blAlloc (blAlloc (Below.refl _ _) _) _
    have HST2 := Lib.hid (HST.out.later HB1.out.drew)
    have HAB : Hid (((w.alloc (.cells #[.int .i64 1, .string key, .string to, .int .u64 (nm : Int)] 94)).alloc (.cells #[.bool false, .int .u64 0, .slice none 0 0] 96)).drew.heap[w.heap.size + 1]? = some (.cells #[.bool false, .int .u64 0, .slice none 0 0] 96 (0, 0))) := by
      show ((w.heap.push _).push _)[w.heap.size + 1]? = _
      rw [show w.heap.size + 1 = (w.heap.push (.cells #[.int .i64 1, .string key, .string to, .int .u64 (nm : Int)] 94)).size from by simp, Array.getElem?_push_size]
    have hob : ((w.alloc (.cells #[.int .i64 1, .string key, .string to, .int .u64 (nm : Int)] 94)).alloc (.cells #[.bool false, .int .u64 0, .slice none 0 0] 96)).drew.heap[w.heap.size]? = some (.cells #[.int .i64 1, .string key, .string to, .int .u64 (nm : Int)] 94 (0, 0)) := by
      show ((w.heap.push _).push _)[w.heap.size]? = _
      rw [Array.getElem?_push_lt (by simp)]
      simp
    have hcs := cells_four hob
    have HOB := Lib.hid hob
    have q0 : ((w.alloc (.cells #[.int .i64 1, .string key, .string to, .int .u64 (nm : Int)] 94)).alloc (.cells #[.bool false, .int .u64 0, .slice none 0 0] 96)).drew.cell? ⟨s, 0, none⟩ = some (.map (some b)) ∧ True := ⟨HST2.out.c0, trivial⟩
    have q1 : ((w.alloc (.cells #[.int .i64 1, .string key, .string to, .int .u64 (nm : Int)] 94)).alloc (.cells #[.bool false, .int .u64 0, .slice none 0 0] 96)).drew.cell? ⟨w.heap.size, 1, none⟩ = some (.string key) := hcs.2.1
    have q2 : MapN ((w.alloc (.cells #[.int .i64 1, .string key, .string to, .int .u64 (nm : Int)] 94)).alloc (.cells #[.bool false, .int .u64 0, .slice none 0 0] 96)).drew b n d := HST2.out.map
    have HB2 : Hid (base ≤ ((w.alloc (.cells #[.int .i64 1, .string key, .string to, .int .u64 (nm : Int)] 94)).alloc (.cells #[.bool false, .int .u64 0, .slice none 0 0] 96)).drew.heap.size) := Nat.le_trans HB.out HB1.out.size
    have HKP : Hid (Kp base w ((w.alloc (.cells #[.int .i64 1, .string key, .string to, .int .u64 (nm : Int)] 94)).alloc (.cells #[.bool false, .int .u64 0, .slice none 0 0] 96)).drew) := Kp.ofBelow HB1.out.drew
    clear hcs hob
    go_enter Tryz.func141, Tryz.ntmps141
    go_wp2_with fail
    refine wp_region_held_drew (S := fun Y => Y.cell? ⟨s, 0, none⟩ = some (.map (some b)) ∧ Y.cell? ⟨w.heap.size, 1, none⟩ = some (.string key) ∧ MapN Y b n d) (by kernel_rfl) (⟨q0.1, q1, q2⟩) (fun hHeld => ?_)
    refine wpAnyH_take (i := 0) (oi := { dst := some 8, op := Op.move (Operand.tmp 0), type := 188, pos := "eval.go:45", after := #[], guard := none }) (v := ?_) rfl (by kernel_rfl) (by kernel_rfl) (by kernel_rfl) (fun _ _ _ h => h) (Or.inl ⟨by rfl, ?_⟩) (by assumption) ?_
    rotate_left
    · intro w hSw
      try dsimp only at hSw
      go_simp
      try with_reducible rfl
    try simp only [Act.put, List.setIfInBounds_toArray, List.set_cons_zero, List.set_cons_succ]
    refine wpAnyH_take (i := 1) (oi := { dst := some 9, op := Op.nilCheck (Operand.tmp 8), type := 0, pos := "eval.go:45", after := #[{ on := 0, ground := Ground.data }], guard := none }) (v := ?_) rfl (by kernel_rfl) (by kernel_rfl) (by kernel_rfl) (fun _ _ _ h => h) (Or.inl ⟨by rfl, ?_⟩) (by assumption) ?_
    rotate_left
    · intro w hSw
      try dsimp only at hSw
      go_simp
      try with_reducible rfl
    try simp only [Act.put, List.setIfInBounds_toArray, List.set_cons_zero, List.set_cons_succ]
    refine wpAnyH_take (i := 2) (oi := { dst := some 10, op := Op.fieldAddr 256 (Operand.tmp 9) 0, type := 0, pos := "eval.go:45", after := #[{ on := 1, ground := Ground.data }], guard := none }) (v := ?_) rfl (by kernel_rfl) (by kernel_rfl) (by kernel_rfl) (fun _ _ _ h => h) (Or.inl ⟨by rfl, ?_⟩) (by assumption) ?_
    rotate_left
    · intro w hSw
      try dsimp only at hSw
      go_simp
      try with_reducible rfl
    try simp only [Act.put, List.setIfInBounds_toArray, List.set_cons_zero, List.set_cons_succ]
    refine wpAnyH_take (i := 3) (oi := { dst := some 11, op := Op.load 254 (Operand.tmp 10), type := 254, pos := "eval.go:45", after := #[{ on := 2, ground := Ground.data }], guard := none }) (v := ?_) rfl (by kernel_rfl) (by kernel_rfl) (by kernel_rfl) (fun _ _ _ h => h) (Or.inl ⟨by rfl, ?_⟩) (by assumption) ?_
    rotate_left
    · intro w hSw
      try dsimp only at hSw
      go_simp
      try with_reducible rfl
    try simp only [Act.put, List.setIfInBounds_toArray, List.set_cons_zero, List.set_cons_succ]
    refine wpAnyH_take (i := 4) (oi := { dst := some 12, op := Op.fieldAddr 94 (Operand.tmp 3) 1, type := 0, pos := "eval.go:45", after := #[], guard := none }) (v := ?_) rfl (by kernel_rfl) (by kernel_rfl) (by kernel_rfl) (fun _ _ _ h => h) (Or.inl ⟨by rfl, ?_⟩) (by assumption) ?_
    rotate_left
    · intro w hSw
      try dsimp only at hSw
      go_simp
      try with_reducible rfl
    try simp only [Act.put, List.setIfInBounds_toArray, List.set_cons_zero, List.set_cons_succ]
    refine wpAnyH_take (i := 5) (oi := { dst := some 13, op := Op.load 9 (Operand.tmp 12), type := 9, pos := "eval.go:45", after := #[{ on := 4, ground := Ground.data }], guard := none }) (v := ?_) rfl (by kernel_rfl) (by kernel_rfl) (by kernel_rfl) (fun _ _ _ h => h) (Or.inl ⟨by rfl, ?_⟩) (by assumption) ?_
    rotate_left
    · intro w hSw
      try dsimp only at hSw
      go_simp
      try with_reducible rfl
    try simp only [Act.put, List.setIfInBounds_toArray, List.set_cons_zero, List.set_cons_succ]
    refine wpAnyH_take (i := 6) (oi := { dst := some 14, op := Op.lookup 254 (Operand.tmp 11) (Operand.tmp 13) true, type := 192, pos := "eval.go:45", after := #[{ on := 3, ground := Ground.data }, { on := 5, ground := Ground.data }], guard := none }) (v := .tuple #[.int .u64 (valP d key : Nat), .bool (hasP d key)]) rfl (by kernel_rfl) (by kernel_rfl) (by kernel_rfl) (fun _ _ _ h => h) (Or.inl ⟨by rfl, ?_⟩) (by assumption) ?_
    · intro Y hY
      have hlk := mapN_look2 hY.2.2 HK1.out
      go_simp
    try simp only [Act.put, List.setIfInBounds_toArray, List.set_cons_zero, List.set_cons_succ]
    refine wpAnyH_take (i := 7) (oi := { dst := some 7, op := Op.move (Operand.tmp 14), type := 192, pos := "eval.go:45", after := #[{ on := 6, ground := Ground.data }], guard := none }) (v := ?_) rfl (by kernel_rfl) (by kernel_rfl) (by kernel_rfl) (fun _ _ _ h => h) (Or.inl ⟨by rfl, ?_⟩) (by assumption) ?_
    rotate_left
    · intro w hSw
      try dsimp only at hSw
      go_simp
      try with_reducible rfl
    try simp only [Act.put, List.setIfInBounds_toArray, List.set_cons_zero, List.set_cons_succ]
    refine wpAnyH_take (i := 8) (oi := { dst := some 15, op := Op.extract (Operand.tmp 7) 0, type := 89, pos := "eval.go:45", after := #[{ on := 7, ground := Ground.data }], guard := none }) (v := ?_) rfl (by kernel_rfl) (by kernel_rfl) (by kernel_rfl) (fun _ _ _ h => h) (Or.inl ⟨by rfl, ?_⟩) (by assumption) ?_
    rotate_left
    · intro w hSw
      try dsimp only at hSw
      go_simp
      try with_reducible rfl
    try simp only [Act.put, List.setIfInBounds_toArray, List.set_cons_zero, List.set_cons_succ]
    refine wpAnyH_take (i := 9) (oi := { dst := some 16, op := Op.extract (Operand.tmp 7) 1, type := 4, pos := "eval.go:45", after := #[{ on := 7, ground := Ground.data }, { on := 10, ground := Ground.gcOnly Departure.lateStores }], guard := none }) (v := ?_) rfl (by kernel_rfl) (by kernel_rfl) (by kernel_rfl) (fun _ _ _ h => h) (Or.inl ⟨by rfl, ?_⟩) (by assumption) ?_
    rotate_left
    · intro w hSw
      try dsimp only at hSw
      go_simp
      try with_reducible rfl
    try simp only [Act.put, List.setIfInBounds_toArray, List.set_cons_zero, List.set_cons_succ]
    refine wpAnyH_take (i := 10) (oi := { dst := some 5, op := Op.assign (Operand.tmp 15), type := 89, pos := "eval.go:45", after := #[{ on := 8, ground := Ground.data }, { on := 0, ground := Ground.phase }, { on := 1, ground := Ground.phase }, { on := 2, ground := Ground.phase }, { on := 3, ground := Ground.phase }, { on := 4, ground := Ground.phase }, { on := 5, ground := Ground.phase }, { on := 6, ground := Ground.phase }, { on := 7, ground := Ground.phase }, { on := 8, ground := Ground.phase }, { on := 9, ground := Ground.textOnly Departure.lateStores }], guard := none }) (v := ?_) rfl (by kernel_rfl) (by kernel_rfl) (by kernel_rfl) (fun _ _ _ h => h) (Or.inl ⟨by rfl, ?_⟩) (by assumption) ?_
    rotate_left
    · intro w hSw
      try dsimp only at hSw
      go_simp
      try with_reducible rfl
    try simp only [Act.put, List.setIfInBounds_toArray, List.set_cons_zero, List.set_cons_succ]
    refine wpAnyH_take (i := 11) (oi := { dst := some 6, op := Op.assign (Operand.tmp 16), type := 4, pos := "eval.go:45", after := #[{ on := 9, ground := Ground.data }, { on := 10, ground := Ground.chain }, { on := 0, ground := Ground.phase }, { on := 1, ground := Ground.phase }, { on := 2, ground := Ground.phase }, { on := 3, ground := Ground.phase }, { on := 4, ground := Ground.phase }, { on := 5, ground := Ground.phase }, { on := 6, ground := Ground.phase }, { on := 7, ground := Ground.phase }, { on := 8, ground := Ground.phase }, { on := 9, ground := Ground.phase }, { on := 10, ground := Ground.phase }], guard := none }) (v := ?_) rfl (by kernel_rfl) (by kernel_rfl) (by kernel_rfl) (fun _ _ _ h => h) (Or.inl ⟨by rfl, ?_⟩) (by assumption) ?_
    rotate_left
    · intro w hSw
      try dsimp only at hSw
      go_simp
      try with_reducible rfl
    try simp only [Act.put, List.setIfInBounds_toArray, List.set_cons_zero, List.set_cons_succ]
    refine wpAnyH_done (by kernel_rfl) ?_ _
    go_wp2
    refine bodyPost_ret (v := .agg #[.bool (hasP d key), .int .u64 (valP d key : Nat), .slice none 0 0]) (by simp [results, Tryz.results141, go_sem]) rfl ?_
    refine ⟨⟨hasP d key, valP d key, none, 0, []⟩, rfl, rfl, OwnG.nil _ _, n, by omega, ?_⟩
    have e : opW d (1, key, to, nm) = [] := rfl
    rw [e]
    show Wrote w base s n d (ks ++ []) _
    rw [List.append_nil]
    exact ⟨⟨b, wv, HST.out.later (blAlloc (blAlloc (Below.refl _ _) _) _).drew⟩, Kp.ofBelow (blAlloc (blAlloc (Below.refl _ _) _) _).drew⟩
  · have HB1 : Hid (Below w.heap.size w ((w.alloc (.cells #[.int .i64 2, .string key, .string to, .int .u64 (nm : Int)] 94)).alloc (.cells #[.bool false, .int .u64 0, .slice none 0 0] 96))) := blAlloc (blAlloc (Below.refl _ _) _) _
    have HST2 := Lib.hid (HST.out.later HB1.out.drew)
    have HAB : Hid (((w.alloc (.cells #[.int .i64 2, .string key, .string to, .int .u64 (nm : Int)] 94)).alloc (.cells #[.bool false, .int .u64 0, .slice none 0 0] 96)).drew.heap[w.heap.size + 1]? = some (.cells #[.bool false, .int .u64 0, .slice none 0 0] 96 (0, 0))) := by
      show ((w.heap.push _).push _)[w.heap.size + 1]? = _
      rw [show w.heap.size + 1 = (w.heap.push (.cells #[.int .i64 2, .string key, .string to, .int .u64 (nm : Int)] 94)).size from by simp, Array.getElem?_push_size]
    have hob : ((w.alloc (.cells #[.int .i64 2, .string key, .string to, .int .u64 (nm : Int)] 94)).alloc (.cells #[.bool false, .int .u64 0, .slice none 0 0] 96)).drew.heap[w.heap.size]? = some (.cells #[.int .i64 2, .string key, .string to, .int .u64 (nm : Int)] 94 (0, 0)) := by
      show ((w.heap.push _).push _)[w.heap.size]? = _
      rw [Array.getElem?_push_lt (by simp)]
      simp
    have hcs := cells_four hob
    have HOB := Lib.hid hob
    have q0 : ((w.alloc (.cells #[.int .i64 2, .string key, .string to, .int .u64 (nm : Int)] 94)).alloc (.cells #[.bool false, .int .u64 0, .slice none 0 0] 96)).drew.cell? ⟨s, 0, none⟩ = some (.map (some b)) ∧ True := ⟨HST2.out.c0, trivial⟩
    have q1 : ((w.alloc (.cells #[.int .i64 2, .string key, .string to, .int .u64 (nm : Int)] 94)).alloc (.cells #[.bool false, .int .u64 0, .slice none 0 0] 96)).drew.cell? ⟨w.heap.size, 1, none⟩ = some (.string key) := hcs.2.1
    have q2 : MapN ((w.alloc (.cells #[.int .i64 2, .string key, .string to, .int .u64 (nm : Int)] 94)).alloc (.cells #[.bool false, .int .u64 0, .slice none 0 0] 96)).drew b n d := HST2.out.map
    have HB2 : Hid (base ≤ ((w.alloc (.cells #[.int .i64 2, .string key, .string to, .int .u64 (nm : Int)] 94)).alloc (.cells #[.bool false, .int .u64 0, .slice none 0 0] 96)).drew.heap.size) := Nat.le_trans HB.out HB1.out.size
    have HKP : Hid (Kp base w ((w.alloc (.cells #[.int .i64 2, .string key, .string to, .int .u64 (nm : Int)] 94)).alloc (.cells #[.bool false, .int .u64 0, .slice none 0 0] 96)).drew) := Kp.ofBelow HB1.out.drew
    clear hcs hob
    go_enter Tryz.func141, Tryz.ntmps141
    go_wp2_with fail
    refine wp_region_held_drew (S := fun Y => Y.cell? ⟨s, 0, none⟩ = some (.map (some b)) ∧ Y.cell? ⟨w.heap.size, 1, none⟩ = some (.string key) ∧ MapN Y b n d) (by kernel_rfl) (⟨q0.1, q1, q2⟩) (fun hHeld => ?_)
    refine wpAnyH_take (i := 0) (oi := { dst := some 8, op := Op.move (Operand.tmp 0), type := 188, pos := "eval.go:45", after := #[], guard := none }) (v := ?_) rfl (by kernel_rfl) (by kernel_rfl) (by kernel_rfl) (fun _ _ _ h => h) (Or.inl ⟨by rfl, ?_⟩) (by assumption) ?_
    rotate_left
    · intro w hSw
      try dsimp only at hSw
      go_simp
      try with_reducible rfl
    try simp only [Act.put, List.setIfInBounds_toArray, List.set_cons_zero, List.set_cons_succ]
    refine wpAnyH_take (i := 1) (oi := { dst := some 9, op := Op.nilCheck (Operand.tmp 8), type := 0, pos := "eval.go:45", after := #[{ on := 0, ground := Ground.data }], guard := none }) (v := ?_) rfl (by kernel_rfl) (by kernel_rfl) (by kernel_rfl) (fun _ _ _ h => h) (Or.inl ⟨by rfl, ?_⟩) (by assumption) ?_
    rotate_left
    · intro w hSw
      try dsimp only at hSw
      go_simp
      try with_reducible rfl
    try simp only [Act.put, List.setIfInBounds_toArray, List.set_cons_zero, List.set_cons_succ]
    refine wpAnyH_take (i := 2) (oi := { dst := some 10, op := Op.fieldAddr 256 (Operand.tmp 9) 0, type := 0, pos := "eval.go:45", after := #[{ on := 1, ground := Ground.data }], guard := none }) (v := ?_) rfl (by kernel_rfl) (by kernel_rfl) (by kernel_rfl) (fun _ _ _ h => h) (Or.inl ⟨by rfl, ?_⟩) (by assumption) ?_
    rotate_left
    · intro w hSw
      try dsimp only at hSw
      go_simp
      try with_reducible rfl
    try simp only [Act.put, List.setIfInBounds_toArray, List.set_cons_zero, List.set_cons_succ]
    refine wpAnyH_take (i := 3) (oi := { dst := some 11, op := Op.load 254 (Operand.tmp 10), type := 254, pos := "eval.go:45", after := #[{ on := 2, ground := Ground.data }], guard := none }) (v := ?_) rfl (by kernel_rfl) (by kernel_rfl) (by kernel_rfl) (fun _ _ _ h => h) (Or.inl ⟨by rfl, ?_⟩) (by assumption) ?_
    rotate_left
    · intro w hSw
      try dsimp only at hSw
      go_simp
      try with_reducible rfl
    try simp only [Act.put, List.setIfInBounds_toArray, List.set_cons_zero, List.set_cons_succ]
    refine wpAnyH_take (i := 4) (oi := { dst := some 12, op := Op.fieldAddr 94 (Operand.tmp 3) 1, type := 0, pos := "eval.go:45", after := #[], guard := none }) (v := ?_) rfl (by kernel_rfl) (by kernel_rfl) (by kernel_rfl) (fun _ _ _ h => h) (Or.inl ⟨by rfl, ?_⟩) (by assumption) ?_
    rotate_left
    · intro w hSw
      try dsimp only at hSw
      go_simp
      try with_reducible rfl
    try simp only [Act.put, List.setIfInBounds_toArray, List.set_cons_zero, List.set_cons_succ]
    refine wpAnyH_take (i := 5) (oi := { dst := some 13, op := Op.load 9 (Operand.tmp 12), type := 9, pos := "eval.go:45", after := #[{ on := 4, ground := Ground.data }], guard := none }) (v := ?_) rfl (by kernel_rfl) (by kernel_rfl) (by kernel_rfl) (fun _ _ _ h => h) (Or.inl ⟨by rfl, ?_⟩) (by assumption) ?_
    rotate_left
    · intro w hSw
      try dsimp only at hSw
      go_simp
      try with_reducible rfl
    try simp only [Act.put, List.setIfInBounds_toArray, List.set_cons_zero, List.set_cons_succ]
    refine wpAnyH_take (i := 6) (oi := { dst := some 14, op := Op.lookup 254 (Operand.tmp 11) (Operand.tmp 13) true, type := 192, pos := "eval.go:45", after := #[{ on := 3, ground := Ground.data }, { on := 5, ground := Ground.data }], guard := none }) (v := .tuple #[.int .u64 (valP d key : Nat), .bool (hasP d key)]) rfl (by kernel_rfl) (by kernel_rfl) (by kernel_rfl) (fun _ _ _ h => h) (Or.inl ⟨by rfl, ?_⟩) (by assumption) ?_
    · intro Y hY
      have hlk := mapN_look2 hY.2.2 HK1.out
      go_simp
    try simp only [Act.put, List.setIfInBounds_toArray, List.set_cons_zero, List.set_cons_succ]
    refine wpAnyH_take (i := 7) (oi := { dst := some 7, op := Op.move (Operand.tmp 14), type := 192, pos := "eval.go:45", after := #[{ on := 6, ground := Ground.data }], guard := none }) (v := ?_) rfl (by kernel_rfl) (by kernel_rfl) (by kernel_rfl) (fun _ _ _ h => h) (Or.inl ⟨by rfl, ?_⟩) (by assumption) ?_
    rotate_left
    · intro w hSw
      try dsimp only at hSw
      go_simp
      try with_reducible rfl
    try simp only [Act.put, List.setIfInBounds_toArray, List.set_cons_zero, List.set_cons_succ]
    refine wpAnyH_take (i := 8) (oi := { dst := some 15, op := Op.extract (Operand.tmp 7) 0, type := 89, pos := "eval.go:45", after := #[{ on := 7, ground := Ground.data }], guard := none }) (v := ?_) rfl (by kernel_rfl) (by kernel_rfl) (by kernel_rfl) (fun _ _ _ h => h) (Or.inl ⟨by rfl, ?_⟩) (by assumption) ?_
    rotate_left
    · intro w hSw
      try dsimp only at hSw
      go_simp
      try with_reducible rfl
    try simp only [Act.put, List.setIfInBounds_toArray, List.set_cons_zero, List.set_cons_succ]
    refine wpAnyH_take (i := 9) (oi := { dst := some 16, op := Op.extract (Operand.tmp 7) 1, type := 4, pos := "eval.go:45", after := #[{ on := 7, ground := Ground.data }, { on := 10, ground := Ground.gcOnly Departure.lateStores }], guard := none }) (v := ?_) rfl (by kernel_rfl) (by kernel_rfl) (by kernel_rfl) (fun _ _ _ h => h) (Or.inl ⟨by rfl, ?_⟩) (by assumption) ?_
    rotate_left
    · intro w hSw
      try dsimp only at hSw
      go_simp
      try with_reducible rfl
    try simp only [Act.put, List.setIfInBounds_toArray, List.set_cons_zero, List.set_cons_succ]
    refine wpAnyH_take (i := 10) (oi := { dst := some 5, op := Op.assign (Operand.tmp 15), type := 89, pos := "eval.go:45", after := #[{ on := 8, ground := Ground.data }, { on := 0, ground := Ground.phase }, { on := 1, ground := Ground.phase }, { on := 2, ground := Ground.phase }, { on := 3, ground := Ground.phase }, { on := 4, ground := Ground.phase }, { on := 5, ground := Ground.phase }, { on := 6, ground := Ground.phase }, { on := 7, ground := Ground.phase }, { on := 8, ground := Ground.phase }, { on := 9, ground := Ground.textOnly Departure.lateStores }], guard := none }) (v := ?_) rfl (by kernel_rfl) (by kernel_rfl) (by kernel_rfl) (fun _ _ _ h => h) (Or.inl ⟨by rfl, ?_⟩) (by assumption) ?_
    rotate_left
    · intro w hSw
      try dsimp only at hSw
      go_simp
      try with_reducible rfl
    try simp only [Act.put, List.setIfInBounds_toArray, List.set_cons_zero, List.set_cons_succ]
    refine wpAnyH_take (i := 11) (oi := { dst := some 6, op := Op.assign (Operand.tmp 16), type := 4, pos := "eval.go:45", after := #[{ on := 9, ground := Ground.data }, { on := 10, ground := Ground.chain }, { on := 0, ground := Ground.phase }, { on := 1, ground := Ground.phase }, { on := 2, ground := Ground.phase }, { on := 3, ground := Ground.phase }, { on := 4, ground := Ground.phase }, { on := 5, ground := Ground.phase }, { on := 6, ground := Ground.phase }, { on := 7, ground := Ground.phase }, { on := 8, ground := Ground.phase }, { on := 9, ground := Ground.phase }, { on := 10, ground := Ground.phase }], guard := none }) (v := ?_) rfl (by kernel_rfl) (by kernel_rfl) (by kernel_rfl) (fun _ _ _ h => h) (Or.inl ⟨by rfl, ?_⟩) (by assumption) ?_
    rotate_left
    · intro w hSw
      try dsimp only at hSw
      go_simp
      try with_reducible rfl
    try simp only [Act.put, List.setIfInBounds_toArray, List.set_cons_zero, List.set_cons_succ]
    refine wpAnyH_done (by kernel_rfl) ?_ _
    have HFU : Hid (fullS (key, to) = true) := by
      show fullS _ = true
      have := (ok_kd HOK.out).2.2.2.2 rfl
      unfold fullS
      simp only [Bool.or_eq_true]
      exact this
    go_wp2_with (first | (go_at_call 213; go_must (refine (between_any (2, key, to, nm) _).mono ?_; rintro e w1 ⟨rfl, h5⟩; simp only; have HB3 := Lib.hid h5; have HST3 := Lib.hid (HST2.out.later h5); clear h5)) | (go_at_call 150; go_must (refine (within_any base s n d ks b wv key to _ HRD.out (by have := HN.out; omega) HFU.out HST3.out).mono ?_; rintro e w2 ⟨v, rfl, h5, h6⟩; obtain ⟨g5, c5, rfl⟩ := h5.form; have HO2 := Lib.hid h5; have HB4 : Hid (Below ((w.alloc (.cells #[.int .i64 2, .string key, .string to, .int .u64 (nm : Int)] 94)).alloc (.cells #[.bool false, .int .u64 0, .slice none 0 0] 96)).drew.heap.size ((w.alloc (.cells #[.int .i64 2, .string key, .string to, .int .u64 (nm : Int)] 94)).alloc (.cells #[.bool false, .int .u64 0, .slice none 0 0] 96)).drew w2) := blThen HB3.out h6; have HRB : Hid (w2.heap[w.heap.size + 1]? = _) := (HB4.out.block (w.heap.size + 1) (lt_of_block HAB.out)).trans HAB.out; have hrc := cells_three HRB.out; obtain ⟨a0, a1, a2⟩ := hrc; have hfz := frozen_three HRB.out; obtain ⟨f0, f1, f2⟩ := hfz; have hrs := lt_of_block HRB.out; clear h5 h6)))
    have hE := ans_block HRB.out (.bool true) (.int .u64 (0 : Nat)) (.slice g5 (inA (inS (key, to)) d).length c5)
    have HE := Lib.hid hE
    obtain ⟨z0, z1, z2⟩ := cells_three hE.1
    have HST4 := Lib.hid (HST2.out.later HB4.out)
    have HWR : Hid (Wrote w base s n d ks (((w2.setCell ⟨w.heap.size + 1, 0, none⟩ (.bool true)).setCell ⟨w.heap.size + 1, 1, none⟩ (.int .u64 (0 : Nat))).setCell ⟨w.heap.size + 1, 2, none⟩ (.slice g5 (inA (inS (key, to)) d).length c5))) := ⟨⟨b, wv, HST4.out.after HRB.out (by decide) (by decide) hE.2⟩, (HKP.out.trans (Kp.ofBelow HB4.out)).after hE.2 (by omega)⟩
    have HO3 := Lib.hid (HO2.out.kept hE.2 (.inl (ownG_ne HO2.out HRB.out (by decide))))
    clear hE
    generalize (((w2.setCell ⟨w.heap.size + 1, 0, none⟩ (.bool true)).setCell ⟨w.heap.size + 1, 1, none⟩ (.int .u64 (0 : Nat))).setCell ⟨w.heap.size + 1, 2, none⟩ (.slice g5 (inA (inS (key, to)) d).length c5)) = w3 at *
    clear HE
    refine bodyPost_ret (v := .agg #[.bool true, .int .u64 (0 : Nat), .slice g5 (inA (inS (key, to)) d).length c5]) (by simp [results, Tryz.results141, go_sem, z0, z1, z2]) rfl ?_
    refine ⟨⟨true, 0, g5, c5, inA (inS (key, to)) d⟩, rfl, rfl, HO3.out.mono (Nat.le_trans HB2.out HB3.out.size), n, by omega, ?_⟩
    have e : opW d (2, key, to, nm) = [] := rfl
    rw [e]
    show Wrote w base s n d (ks ++ []) _
    rw [List.append_nil]
    exact HWR.out
  · have HB1 : Hid (Below w.heap.size w ((w.alloc (.cells #[.int .i64 3, .string key, .string to, .int .u64 (nm : Int)] 94)).alloc (.cells #[.bool false, .int .u64 0, .slice none 0 0] 96))) := blAlloc (blAlloc (Below.refl _ _) _) _
    have HST2 := Lib.hid (HST.out.later HB1.out.drew)
    have HAB : Hid (((w.alloc (.cells #[.int .i64 3, .string key, .string to, .int .u64 (nm : Int)] 94)).alloc (.cells #[.bool false, .int .u64 0, .slice none 0 0] 96)).drew.heap[w.heap.size + 1]? = some (.cells #[.bool false, .int .u64 0, .slice none 0 0] 96 (0, 0))) := by
      show ((w.heap.push _).push _)[w.heap.size + 1]? = _
      rw [show w.heap.size + 1 = (w.heap.push (.cells #[.int .i64 3, .string key, .string to, .int .u64 (nm : Int)] 94)).size from by simp, Array.getElem?_push_size]
    have hob : ((w.alloc (.cells #[.int .i64 3, .string key, .string to, .int .u64 (nm : Int)] 94)).alloc (.cells #[.bool false, .int .u64 0, .slice none 0 0] 96)).drew.heap[w.heap.size]? = some (.cells #[.int .i64 3, .string key, .string to, .int .u64 (nm : Int)] 94 (0, 0)) := by
      show ((w.heap.push _).push _)[w.heap.size]? = _
      rw [Array.getElem?_push_lt (by simp)]
      simp
    have hcs := cells_four hob
    have HOB := Lib.hid hob
    have q0 : ((w.alloc (.cells #[.int .i64 3, .string key, .string to, .int .u64 (nm : Int)] 94)).alloc (.cells #[.bool false, .int .u64 0, .slice none 0 0] 96)).drew.cell? ⟨s, 0, none⟩ = some (.map (some b)) ∧ True := ⟨HST2.out.c0, trivial⟩
    have q1 : ((w.alloc (.cells #[.int .i64 3, .string key, .string to, .int .u64 (nm : Int)] 94)).alloc (.cells #[.bool false, .int .u64 0, .slice none 0 0] 96)).drew.cell? ⟨w.heap.size, 1, none⟩ = some (.string key) := hcs.2.1
    have q2 : MapN ((w.alloc (.cells #[.int .i64 3, .string key, .string to, .int .u64 (nm : Int)] 94)).alloc (.cells #[.bool false, .int .u64 0, .slice none 0 0] 96)).drew b n d := HST2.out.map
    have HB2 : Hid (base ≤ ((w.alloc (.cells #[.int .i64 3, .string key, .string to, .int .u64 (nm : Int)] 94)).alloc (.cells #[.bool false, .int .u64 0, .slice none 0 0] 96)).drew.heap.size) := Nat.le_trans HB.out HB1.out.size
    have HKP : Hid (Kp base w ((w.alloc (.cells #[.int .i64 3, .string key, .string to, .int .u64 (nm : Int)] 94)).alloc (.cells #[.bool false, .int .u64 0, .slice none 0 0] 96)).drew) := Kp.ofBelow HB1.out.drew
    clear hcs hob
    go_enter Tryz.func141, Tryz.ntmps141
    go_wp2_with fail
    refine wp_region_held_drew (S := fun Y => Y.cell? ⟨s, 0, none⟩ = some (.map (some b)) ∧ Y.cell? ⟨w.heap.size, 1, none⟩ = some (.string key) ∧ MapN Y b n d) (by kernel_rfl) (⟨q0.1, q1, q2⟩) (fun hHeld => ?_)
    refine wpAnyH_take (i := 0) (oi := { dst := some 8, op := Op.move (Operand.tmp 0), type := 188, pos := "eval.go:45", after := #[], guard := none }) (v := ?_) rfl (by kernel_rfl) (by kernel_rfl) (by kernel_rfl) (fun _ _ _ h => h) (Or.inl ⟨by rfl, ?_⟩) (by assumption) ?_
    rotate_left
    · intro w hSw
      try dsimp only at hSw
      go_simp
      try with_reducible rfl
    try simp only [Act.put, List.setIfInBounds_toArray, List.set_cons_zero, List.set_cons_succ]
    refine wpAnyH_take (i := 1) (oi := { dst := some 9, op := Op.nilCheck (Operand.tmp 8), type := 0, pos := "eval.go:45", after := #[{ on := 0, ground := Ground.data }], guard := none }) (v := ?_) rfl (by kernel_rfl) (by kernel_rfl) (by kernel_rfl) (fun _ _ _ h => h) (Or.inl ⟨by rfl, ?_⟩) (by assumption) ?_
    rotate_left
    · intro w hSw
      try dsimp only at hSw
      go_simp
      try with_reducible rfl
    try simp only [Act.put, List.setIfInBounds_toArray, List.set_cons_zero, List.set_cons_succ]
    refine wpAnyH_take (i := 2) (oi := { dst := some 10, op := Op.fieldAddr 256 (Operand.tmp 9) 0, type := 0, pos := "eval.go:45", after := #[{ on := 1, ground := Ground.data }], guard := none }) (v := ?_) rfl (by kernel_rfl) (by kernel_rfl) (by kernel_rfl) (fun _ _ _ h => h) (Or.inl ⟨by rfl, ?_⟩) (by assumption) ?_
    rotate_left
    · intro w hSw
      try dsimp only at hSw
      go_simp
      try with_reducible rfl
    try simp only [Act.put, List.setIfInBounds_toArray, List.set_cons_zero, List.set_cons_succ]
    refine wpAnyH_take (i := 3) (oi := { dst := some 11, op := Op.load 254 (Operand.tmp 10), type := 254, pos := "eval.go:45", after := #[{ on := 2, ground := Ground.data }], guard := none }) (v := ?_) rfl (by kernel_rfl) (by kernel_rfl) (by kernel_rfl) (fun _ _ _ h => h) (Or.inl ⟨by rfl, ?_⟩) (by assumption) ?_
    rotate_left
    · intro w hSw
      try dsimp only at hSw
      go_simp
      try with_reducible rfl
    try simp only [Act.put, List.setIfInBounds_toArray, List.set_cons_zero, List.set_cons_succ]
    refine wpAnyH_take (i := 4) (oi := { dst := some 12, op := Op.fieldAddr 94 (Operand.tmp 3) 1, type := 0, pos := "eval.go:45", after := #[], guard := none }) (v := ?_) rfl (by kernel_rfl) (by kernel_rfl) (by kernel_rfl) (fun _ _ _ h => h) (Or.inl ⟨by rfl, ?_⟩) (by assumption) ?_
    rotate_left
    · intro w hSw
      try dsimp only at hSw
      go_simp
      try with_reducible rfl
    try simp only [Act.put, List.setIfInBounds_toArray, List.set_cons_zero, List.set_cons_succ]
    refine wpAnyH_take (i := 5) (oi := { dst := some 13, op := Op.load 9 (Operand.tmp 12), type := 9, pos := "eval.go:45", after := #[{ on := 4, ground := Ground.data }], guard := none }) (v := ?_) rfl (by kernel_rfl) (by kernel_rfl) (by kernel_rfl) (fun _ _ _ h => h) (Or.inl ⟨by rfl, ?_⟩) (by assumption) ?_
    rotate_left
    · intro w hSw
      try dsimp only at hSw
      go_simp
      try with_reducible rfl
    try simp only [Act.put, List.setIfInBounds_toArray, List.set_cons_zero, List.set_cons_succ]
    refine wpAnyH_take (i := 6) (oi := { dst := some 14, op := Op.lookup 254 (Operand.tmp 11) (Operand.tmp 13) true, type := 192, pos := "eval.go:45", after := #[{ on := 3, ground := Ground.data }, { on := 5, ground := Ground.data }], guard := none }) (v := .tuple #[.int .u64 (valP d key : Nat), .bool (hasP d key)]) rfl (by kernel_rfl) (by kernel_rfl) (by kernel_rfl) (fun _ _ _ h => h) (Or.inl ⟨by rfl, ?_⟩) (by assumption) ?_
    · intro Y hY
      have hlk := mapN_look2 hY.2.2 HK1.out
      go_simp
    try simp only [Act.put, List.setIfInBounds_toArray, List.set_cons_zero, List.set_cons_succ]
    refine wpAnyH_take (i := 7) (oi := { dst := some 7, op := Op.move (Operand.tmp 14), type := 192, pos := "eval.go:45", after := #[{ on := 6, ground := Ground.data }], guard := none }) (v := ?_) rfl (by kernel_rfl) (by kernel_rfl) (by kernel_rfl) (fun _ _ _ h => h) (Or.inl ⟨by rfl, ?_⟩) (by assumption) ?_
    rotate_left
    · intro w hSw
      try dsimp only at hSw
      go_simp
      try with_reducible rfl
    try simp only [Act.put, List.setIfInBounds_toArray, List.set_cons_zero, List.set_cons_succ]
    refine wpAnyH_take (i := 8) (oi := { dst := some 15, op := Op.extract (Operand.tmp 7) 0, type := 89, pos := "eval.go:45", after := #[{ on := 7, ground := Ground.data }], guard := none }) (v := ?_) rfl (by kernel_rfl) (by kernel_rfl) (by kernel_rfl) (fun _ _ _ h => h) (Or.inl ⟨by rfl, ?_⟩) (by assumption) ?_
    rotate_left
    · intro w hSw
      try dsimp only at hSw
      go_simp
      try with_reducible rfl
    try simp only [Act.put, List.setIfInBounds_toArray, List.set_cons_zero, List.set_cons_succ]
    refine wpAnyH_take (i := 9) (oi := { dst := some 16, op := Op.extract (Operand.tmp 7) 1, type := 4, pos := "eval.go:45", after := #[{ on := 7, ground := Ground.data }, { on := 10, ground := Ground.gcOnly Departure.lateStores }], guard := none }) (v := ?_) rfl (by kernel_rfl) (by kernel_rfl) (by kernel_rfl) (fun _ _ _ h => h) (Or.inl ⟨by rfl, ?_⟩) (by assumption) ?_
    rotate_left
    · intro w hSw
      try dsimp only at hSw
      go_simp
      try with_reducible rfl
    try simp only [Act.put, List.setIfInBounds_toArray, List.set_cons_zero, List.set_cons_succ]
    refine wpAnyH_take (i := 10) (oi := { dst := some 5, op := Op.assign (Operand.tmp 15), type := 89, pos := "eval.go:45", after := #[{ on := 8, ground := Ground.data }, { on := 0, ground := Ground.phase }, { on := 1, ground := Ground.phase }, { on := 2, ground := Ground.phase }, { on := 3, ground := Ground.phase }, { on := 4, ground := Ground.phase }, { on := 5, ground := Ground.phase }, { on := 6, ground := Ground.phase }, { on := 7, ground := Ground.phase }, { on := 8, ground := Ground.phase }, { on := 9, ground := Ground.textOnly Departure.lateStores }], guard := none }) (v := ?_) rfl (by kernel_rfl) (by kernel_rfl) (by kernel_rfl) (fun _ _ _ h => h) (Or.inl ⟨by rfl, ?_⟩) (by assumption) ?_
    rotate_left
    · intro w hSw
      try dsimp only at hSw
      go_simp
      try with_reducible rfl
    try simp only [Act.put, List.setIfInBounds_toArray, List.set_cons_zero, List.set_cons_succ]
    refine wpAnyH_take (i := 11) (oi := { dst := some 6, op := Op.assign (Operand.tmp 16), type := 4, pos := "eval.go:45", after := #[{ on := 9, ground := Ground.data }, { on := 10, ground := Ground.chain }, { on := 0, ground := Ground.phase }, { on := 1, ground := Ground.phase }, { on := 2, ground := Ground.phase }, { on := 3, ground := Ground.phase }, { on := 4, ground := Ground.phase }, { on := 5, ground := Ground.phase }, { on := 6, ground := Ground.phase }, { on := 7, ground := Ground.phase }, { on := 8, ground := Ground.phase }, { on := 9, ground := Ground.phase }, { on := 10, ground := Ground.phase }], guard := none }) (v := ?_) rfl (by kernel_rfl) (by kernel_rfl) (by kernel_rfl) (fun _ _ _ h => h) (Or.inl ⟨by rfl, ?_⟩) (by assumption) ?_
    rotate_left
    · intro w hSw
      try dsimp only at hSw
      go_simp
      try with_reducible rfl
    try simp only [Act.put, List.setIfInBounds_toArray, List.set_cons_zero, List.set_cons_succ]
    refine wpAnyH_done (by kernel_rfl) ?_ _
    go_wp2_with (go_at_call 149; go_must (refine (sput_any base s n d ks b wv key nm _ HB2.out HRD.out HK1.out (by have := HN.out; omega) (by have := HKS.out; omega) HST2.out).mono ?_; rintro e w2 ⟨rfl, h6⟩; have HW2 := Lib.hid h6; have HRB := Lib.hid (h6.2.cells HAB.out (by decide) (by decide)); have hrc := cells_three HRB.out; obtain ⟨a0, a1, a2⟩ := hrc; have hfz := frozen_three HRB.out; obtain ⟨f0, f1, f2⟩ := hfz; have hrs := lt_of_block HRB.out; clear h6))
    have hE := ans_block HRB.out (.bool true) (.int .u64 (0 : Nat)) (.slice none 0 0)
    have HE := Lib.hid hE
    obtain ⟨z0, z1, z2⟩ := cells_three hE.1
    obtain ⟨⟨b1, wv1, hst⟩, hkp⟩ := HW2.out
    have HWR : Hid (Wrote w base s (n + 1) _ _ (((w2.setCell ⟨w.heap.size + 1, 0, none⟩ (.bool true)).setCell ⟨w.heap.size + 1, 1, none⟩ (.int .u64 (0 : Nat))).setCell ⟨w.heap.size + 1, 2, none⟩ (.slice none 0 0))) := ⟨⟨b1, wv1, hst.after HRB.out (by decide) (by decide) hE.2⟩, (HKP.out.trans hkp).after hE.2 (by omega)⟩
    clear hE hst hkp
    generalize (((w2.setCell ⟨w.heap.size + 1, 0, none⟩ (.bool true)).setCell ⟨w.heap.size + 1, 1, none⟩ (.int .u64 (0 : Nat))).setCell ⟨w.heap.size + 1, 2, none⟩ (.slice none 0 0)) = w3 at *
    clear HE
    refine bodyPost_ret (v := .agg #[.bool true, .int .u64 (0 : Nat), .slice none 0 0]) (by simp [results, Tryz.results141, go_sem, z0, z1, z2]) rfl ?_
    exact ⟨⟨true, 0, none, 0, []⟩, rfl, rfl, OwnG.nil _ _, (n + 1), by omega, HWR.out⟩
  · have HB1 : Hid (Below w.heap.size w ((w.alloc (.cells #[.int .i64 4, .string key, .string to, .int .u64 (nm : Int)] 94)).alloc (.cells #[.bool false, .int .u64 0, .slice none 0 0] 96))) := blAlloc (blAlloc (Below.refl _ _) _) _
    have HST2 := Lib.hid (HST.out.later HB1.out.drew)
    have HAB : Hid (((w.alloc (.cells #[.int .i64 4, .string key, .string to, .int .u64 (nm : Int)] 94)).alloc (.cells #[.bool false, .int .u64 0, .slice none 0 0] 96)).drew.heap[w.heap.size + 1]? = some (.cells #[.bool false, .int .u64 0, .slice none 0 0] 96 (0, 0))) := by
      show ((w.heap.push _).push _)[w.heap.size + 1]? = _
      rw [show w.heap.size + 1 = (w.heap.push (.cells #[.int .i64 4, .string key, .string to, .int .u64 (nm : Int)] 94)).size from by simp, Array.getElem?_push_size]
    have hob : ((w.alloc (.cells #[.int .i64 4, .string key, .string to, .int .u64 (nm : Int)] 94)).alloc (.cells #[.bool false, .int .u64 0, .slice none 0 0] 96)).drew.heap[w.heap.size]? = some (.cells #[.int .i64 4, .string key, .string to, .int .u64 (nm : Int)] 94 (0, 0)) := by
      show ((w.heap.push _).push _)[w.heap.size]? = _
      rw [Array.getElem?_push_lt (by simp)]
      simp
    have hcs := cells_four hob
    have HOB := Lib.hid hob
    have q0 : ((w.alloc (.cells #[.int .i64 4, .string key, .string to, .int .u64 (nm : Int)] 94)).alloc (.cells #[.bool false, .int .u64 0, .slice none 0 0] 96)).drew.cell? ⟨s, 0, none⟩ = some (.map (some b)) ∧ True := ⟨HST2.out.c0, trivial⟩
    have q1 : ((w.alloc (.cells #[.int .i64 4, .string key, .string to, .int .u64 (nm : Int)] 94)).alloc (.cells #[.bool false, .int .u64 0, .slice none 0 0] 96)).drew.cell? ⟨w.heap.size, 1, none⟩ = some (.string key) := hcs.2.1
    have q2 : MapN ((w.alloc (.cells #[.int .i64 4, .string key, .string to, .int .u64 (nm : Int)] 94)).alloc (.cells #[.bool false, .int .u64 0, .slice none 0 0] 96)).drew b n d := HST2.out.map
    have HB2 : Hid (base ≤ ((w.alloc (.cells #[.int .i64 4, .string key, .string to, .int .u64 (nm : Int)] 94)).alloc (.cells #[.bool false, .int .u64 0, .slice none 0 0] 96)).drew.heap.size) := Nat.le_trans HB.out HB1.out.size
    have HKP : Hid (Kp base w ((w.alloc (.cells #[.int .i64 4, .string key, .string to, .int .u64 (nm : Int)] 94)).alloc (.cells #[.bool false, .int .u64 0, .slice none 0 0] 96)).drew) := Kp.ofBelow HB1.out.drew
    clear hcs hob
    go_enter Tryz.func141, Tryz.ntmps141
    go_wp2_with fail
    refine wp_region_held_drew (S := fun Y => Y.cell? ⟨s, 0, none⟩ = some (.map (some b)) ∧ Y.cell? ⟨w.heap.size, 1, none⟩ = some (.string key) ∧ MapN Y b n d) (by kernel_rfl) (⟨q0.1, q1, q2⟩) (fun hHeld => ?_)
    refine wpAnyH_take (i := 0) (oi := { dst := some 8, op := Op.move (Operand.tmp 0), type := 188, pos := "eval.go:45", after := #[], guard := none }) (v := ?_) rfl (by kernel_rfl) (by kernel_rfl) (by kernel_rfl) (fun _ _ _ h => h) (Or.inl ⟨by rfl, ?_⟩) (by assumption) ?_
    rotate_left
    · intro w hSw
      try dsimp only at hSw
      go_simp
      try with_reducible rfl
    try simp only [Act.put, List.setIfInBounds_toArray, List.set_cons_zero, List.set_cons_succ]
    refine wpAnyH_take (i := 1) (oi := { dst := some 9, op := Op.nilCheck (Operand.tmp 8), type := 0, pos := "eval.go:45", after := #[{ on := 0, ground := Ground.data }], guard := none }) (v := ?_) rfl (by kernel_rfl) (by kernel_rfl) (by kernel_rfl) (fun _ _ _ h => h) (Or.inl ⟨by rfl, ?_⟩) (by assumption) ?_
    rotate_left
    · intro w hSw
      try dsimp only at hSw
      go_simp
      try with_reducible rfl
    try simp only [Act.put, List.setIfInBounds_toArray, List.set_cons_zero, List.set_cons_succ]
    refine wpAnyH_take (i := 2) (oi := { dst := some 10, op := Op.fieldAddr 256 (Operand.tmp 9) 0, type := 0, pos := "eval.go:45", after := #[{ on := 1, ground := Ground.data }], guard := none }) (v := ?_) rfl (by kernel_rfl) (by kernel_rfl) (by kernel_rfl) (fun _ _ _ h => h) (Or.inl ⟨by rfl, ?_⟩) (by assumption) ?_
    rotate_left
    · intro w hSw
      try dsimp only at hSw
      go_simp
      try with_reducible rfl
    try simp only [Act.put, List.setIfInBounds_toArray, List.set_cons_zero, List.set_cons_succ]
    refine wpAnyH_take (i := 3) (oi := { dst := some 11, op := Op.load 254 (Operand.tmp 10), type := 254, pos := "eval.go:45", after := #[{ on := 2, ground := Ground.data }], guard := none }) (v := ?_) rfl (by kernel_rfl) (by kernel_rfl) (by kernel_rfl) (fun _ _ _ h => h) (Or.inl ⟨by rfl, ?_⟩) (by assumption) ?_
    rotate_left
    · intro w hSw
      try dsimp only at hSw
      go_simp
      try with_reducible rfl
    try simp only [Act.put, List.setIfInBounds_toArray, List.set_cons_zero, List.set_cons_succ]
    refine wpAnyH_take (i := 4) (oi := { dst := some 12, op := Op.fieldAddr 94 (Operand.tmp 3) 1, type := 0, pos := "eval.go:45", after := #[], guard := none }) (v := ?_) rfl (by kernel_rfl) (by kernel_rfl) (by kernel_rfl) (fun _ _ _ h => h) (Or.inl ⟨by rfl, ?_⟩) (by assumption) ?_
    rotate_left
    · intro w hSw
      try dsimp only at hSw
      go_simp
      try with_reducible rfl
    try simp only [Act.put, List.setIfInBounds_toArray, List.set_cons_zero, List.set_cons_succ]
    refine wpAnyH_take (i := 5) (oi := { dst := some 13, op := Op.load 9 (Operand.tmp 12), type := 9, pos := "eval.go:45", after := #[{ on := 4, ground := Ground.data }], guard := none }) (v := ?_) rfl (by kernel_rfl) (by kernel_rfl) (by kernel_rfl) (fun _ _ _ h => h) (Or.inl ⟨by rfl, ?_⟩) (by assumption) ?_
    rotate_left
    · intro w hSw
      try dsimp only at hSw
      go_simp
      try with_reducible rfl
    try simp only [Act.put, List.setIfInBounds_toArray, List.set_cons_zero, List.set_cons_succ]
    refine wpAnyH_take (i := 6) (oi := { dst := some 14, op := Op.lookup 254 (Operand.tmp 11) (Operand.tmp 13) true, type := 192, pos := "eval.go:45", after := #[{ on := 3, ground := Ground.data }, { on := 5, ground := Ground.data }], guard := none }) (v := .tuple #[.int .u64 (valP d key : Nat), .bool (hasP d key)]) rfl (by kernel_rfl) (by kernel_rfl) (by kernel_rfl) (fun _ _ _ h => h) (Or.inl ⟨by rfl, ?_⟩) (by assumption) ?_
    · intro Y hY
      have hlk := mapN_look2 hY.2.2 HK1.out
      go_simp
    try simp only [Act.put, List.setIfInBounds_toArray, List.set_cons_zero, List.set_cons_succ]
    refine wpAnyH_take (i := 7) (oi := { dst := some 7, op := Op.move (Operand.tmp 14), type := 192, pos := "eval.go:45", after := #[{ on := 6, ground := Ground.data }], guard := none }) (v := ?_) rfl (by kernel_rfl) (by kernel_rfl) (by kernel_rfl) (fun _ _ _ h => h) (Or.inl ⟨by rfl, ?_⟩) (by assumption) ?_
    rotate_left
    · intro w hSw
      try dsimp only at hSw
      go_simp
      try with_reducible rfl
    try simp only [Act.put, List.setIfInBounds_toArray, List.set_cons_zero, List.set_cons_succ]
    refine wpAnyH_take (i := 8) (oi := { dst := some 15, op := Op.extract (Operand.tmp 7) 0, type := 89, pos := "eval.go:45", after := #[{ on := 7, ground := Ground.data }], guard := none }) (v := ?_) rfl (by kernel_rfl) (by kernel_rfl) (by kernel_rfl) (fun _ _ _ h => h) (Or.inl ⟨by rfl, ?_⟩) (by assumption) ?_
    rotate_left
    · intro w hSw
      try dsimp only at hSw
      go_simp
      try with_reducible rfl
    try simp only [Act.put, List.setIfInBounds_toArray, List.set_cons_zero, List.set_cons_succ]
    refine wpAnyH_take (i := 9) (oi := { dst := some 16, op := Op.extract (Operand.tmp 7) 1, type := 4, pos := "eval.go:45", after := #[{ on := 7, ground := Ground.data }, { on := 10, ground := Ground.gcOnly Departure.lateStores }], guard := none }) (v := ?_) rfl (by kernel_rfl) (by kernel_rfl) (by kernel_rfl) (fun _ _ _ h => h) (Or.inl ⟨by rfl, ?_⟩) (by assumption) ?_
    rotate_left
    · intro w hSw
      try dsimp only at hSw
      go_simp
      try with_reducible rfl
    try simp only [Act.put, List.setIfInBounds_toArray, List.set_cons_zero, List.set_cons_succ]
    refine wpAnyH_take (i := 10) (oi := { dst := some 5, op := Op.assign (Operand.tmp 15), type := 89, pos := "eval.go:45", after := #[{ on := 8, ground := Ground.data }, { on := 0, ground := Ground.phase }, { on := 1, ground := Ground.phase }, { on := 2, ground := Ground.phase }, { on := 3, ground := Ground.phase }, { on := 4, ground := Ground.phase }, { on := 5, ground := Ground.phase }, { on := 6, ground := Ground.phase }, { on := 7, ground := Ground.phase }, { on := 8, ground := Ground.phase }, { on := 9, ground := Ground.textOnly Departure.lateStores }], guard := none }) (v := ?_) rfl (by kernel_rfl) (by kernel_rfl) (by kernel_rfl) (fun _ _ _ h => h) (Or.inl ⟨by rfl, ?_⟩) (by assumption) ?_
    rotate_left
    · intro w hSw
      try dsimp only at hSw
      go_simp
      try with_reducible rfl
    try simp only [Act.put, List.setIfInBounds_toArray, List.set_cons_zero, List.set_cons_succ]
    refine wpAnyH_take (i := 11) (oi := { dst := some 6, op := Op.assign (Operand.tmp 16), type := 4, pos := "eval.go:45", after := #[{ on := 9, ground := Ground.data }, { on := 10, ground := Ground.chain }, { on := 0, ground := Ground.phase }, { on := 1, ground := Ground.phase }, { on := 2, ground := Ground.phase }, { on := 3, ground := Ground.phase }, { on := 4, ground := Ground.phase }, { on := 5, ground := Ground.phase }, { on := 6, ground := Ground.phase }, { on := 7, ground := Ground.phase }, { on := 8, ground := Ground.phase }, { on := 9, ground := Ground.phase }, { on := 10, ground := Ground.phase }], guard := none }) (v := ?_) rfl (by kernel_rfl) (by kernel_rfl) (by kernel_rfl) (fun _ _ _ h => h) (Or.inl ⟨by rfl, ?_⟩) (by assumption) ?_
    rotate_left
    · intro w hSw
      try dsimp only at hSw
      go_simp
      try with_reducible rfl
    try simp only [Act.put, List.setIfInBounds_toArray, List.set_cons_zero, List.set_cons_succ]
    refine wpAnyH_done (by kernel_rfl) ?_ _
    go_wp2_with (go_at_call 214; go_must (refine (sadd_any base s n d ks b wv key nm _ HB2.out HRD.out HK1.out (by have := HN.out; omega) (by have := HKS.out; omega) HST2.out).mono ?_; rintro e w2 ⟨rfl, h6⟩; have HW2 := Lib.hid h6; have HRB := Lib.hid (h6.2.cells HAB.out (by decide) (by decide)); have hrc := cells_three HRB.out; obtain ⟨a0, a1, a2⟩ := hrc; have hfz := frozen_three HRB.out; obtain ⟨f0, f1, f2⟩ := hfz; have hrs := lt_of_block HRB.out; clear h6))
    have hE := ans_block HRB.out (.bool (hasP d key)) (.int .u64 ((adN (valP d key) nm) : Nat)) (.slice none 0 0)
    have HE := Lib.hid hE
    obtain ⟨z0, z1, z2⟩ := cells_three hE.1
    obtain ⟨⟨b1, wv1, hst⟩, hkp⟩ := HW2.out
    have HWR : Hid (Wrote w base s (n + 1) _ _ (((w2.setCell ⟨w.heap.size + 1, 0, none⟩ (.bool (hasP d key))).setCell ⟨w.heap.size + 1, 1, none⟩ (.int .u64 ((adN (valP d key) nm) : Nat))).setCell ⟨w.heap.size + 1, 2, none⟩ (.slice none 0 0))) := ⟨⟨b1, wv1, hst.after HRB.out (by decide) (by decide) hE.2⟩, (HKP.out.trans hkp).after hE.2 (by omega)⟩
    clear hE hst hkp
    generalize (((w2.setCell ⟨w.heap.size + 1, 0, none⟩ (.bool (hasP d key))).setCell ⟨w.heap.size + 1, 1, none⟩ (.int .u64 ((adN (valP d key) nm) : Nat))).setCell ⟨w.heap.size + 1, 2, none⟩ (.slice none 0 0)) = w3 at *
    clear HE
    refine bodyPost_ret (v := .agg #[.bool (hasP d key), .int .u64 ((adN (valP d key) nm) : Nat), .slice none 0 0]) (by simp [results, Tryz.results141, go_sem, z0, z1, z2]) rfl ?_
    exact ⟨⟨(hasP d key), (adN (valP d key) nm), none, 0, []⟩, rfl, rfl, OwnG.nil _ _, (n + 1), by omega, HWR.out⟩
  · have HB1 : Hid (Below w.heap.size w ((w.alloc (.cells #[.int .i64 5, .string key, .string to, .int .u64 (nm : Int)] 94)).alloc (.cells #[.bool false, .int .u64 0, .slice none 0 0] 96))) := blAlloc (blAlloc (Below.refl _ _) _) _
    have HST2 := Lib.hid (HST.out.later HB1.out.drew)
    have HAB : Hid (((w.alloc (.cells #[.int .i64 5, .string key, .string to, .int .u64 (nm : Int)] 94)).alloc (.cells #[.bool false, .int .u64 0, .slice none 0 0] 96)).drew.heap[w.heap.size + 1]? = some (.cells #[.bool false, .int .u64 0, .slice none 0 0] 96 (0, 0))) := by
      show ((w.heap.push _).push _)[w.heap.size + 1]? = _
      rw [show w.heap.size + 1 = (w.heap.push (.cells #[.int .i64 5, .string key, .string to, .int .u64 (nm : Int)] 94)).size from by simp, Array.getElem?_push_size]
    have hob : ((w.alloc (.cells #[.int .i64 5, .string key, .string to, .int .u64 (nm : Int)] 94)).alloc (.cells #[.bool false, .int .u64 0, .slice none 0 0] 96)).drew.heap[w.heap.size]? = some (.cells #[.int .i64 5, .string key, .string to, .int .u64 (nm : Int)] 94 (0, 0)) := by
      show ((w.heap.push _).push _)[w.heap.size]? = _
      rw [Array.getElem?_push_lt (by simp)]
      simp
    have hcs := cells_four hob
    have HOB := Lib.hid hob
    have q0 : ((w.alloc (.cells #[.int .i64 5, .string key, .string to, .int .u64 (nm : Int)] 94)).alloc (.cells #[.bool false, .int .u64 0, .slice none 0 0] 96)).drew.cell? ⟨s, 0, none⟩ = some (.map (some b)) ∧ True := ⟨HST2.out.c0, trivial⟩
    have q1 : ((w.alloc (.cells #[.int .i64 5, .string key, .string to, .int .u64 (nm : Int)] 94)).alloc (.cells #[.bool false, .int .u64 0, .slice none 0 0] 96)).drew.cell? ⟨w.heap.size, 1, none⟩ = some (.string key) := hcs.2.1
    have q2 : MapN ((w.alloc (.cells #[.int .i64 5, .string key, .string to, .int .u64 (nm : Int)] 94)).alloc (.cells #[.bool false, .int .u64 0, .slice none 0 0] 96)).drew b n d := HST2.out.map
    have HB2 : Hid (base ≤ ((w.alloc (.cells #[.int .i64 5, .string key, .string to, .int .u64 (nm : Int)] 94)).alloc (.cells #[.bool false, .int .u64 0, .slice none 0 0] 96)).drew.heap.size) := Nat.le_trans HB.out HB1.out.size
    have HKP : Hid (Kp base w ((w.alloc (.cells #[.int .i64 5, .string key, .string to, .int .u64 (nm : Int)] 94)).alloc (.cells #[.bool false, .int .u64 0, .slice none 0 0] 96)).drew) := Kp.ofBelow HB1.out.drew
    clear hcs hob
    go_enter Tryz.func141, Tryz.ntmps141
    go_wp2_with fail
    refine wp_region_held_drew (S := fun Y => Y.cell? ⟨s, 0, none⟩ = some (.map (some b)) ∧ Y.cell? ⟨w.heap.size, 1, none⟩ = some (.string key) ∧ MapN Y b n d) (by kernel_rfl) (⟨q0.1, q1, q2⟩) (fun hHeld => ?_)
    refine wpAnyH_take (i := 0) (oi := { dst := some 8, op := Op.move (Operand.tmp 0), type := 188, pos := "eval.go:45", after := #[], guard := none }) (v := ?_) rfl (by kernel_rfl) (by kernel_rfl) (by kernel_rfl) (fun _ _ _ h => h) (Or.inl ⟨by rfl, ?_⟩) (by assumption) ?_
    rotate_left
    · intro w hSw
      try dsimp only at hSw
      go_simp
      try with_reducible rfl
    try simp only [Act.put, List.setIfInBounds_toArray, List.set_cons_zero, List.set_cons_succ]
    refine wpAnyH_take (i := 1) (oi := { dst := some 9, op := Op.nilCheck (Operand.tmp 8), type := 0, pos := "eval.go:45", after := #[{ on := 0, ground := Ground.data }], guard := none }) (v := ?_) rfl (by kernel_rfl) (by kernel_rfl) (by kernel_rfl) (fun _ _ _ h => h) (Or.inl ⟨by rfl, ?_⟩) (by assumption) ?_
    rotate_left
    · intro w hSw
      try dsimp only at hSw
      go_simp
      try with_reducible rfl
    try simp only [Act.put, List.setIfInBounds_toArray, List.set_cons_zero, List.set_cons_succ]
    refine wpAnyH_take (i := 2) (oi := { dst := some 10, op := Op.fieldAddr 256 (Operand.tmp 9) 0, type := 0, pos := "eval.go:45", after := #[{ on := 1, ground := Ground.data }], guard := none }) (v := ?_) rfl (by kernel_rfl) (by kernel_rfl) (by kernel_rfl) (fun _ _ _ h => h) (Or.inl ⟨by rfl, ?_⟩) (by assumption) ?_
    rotate_left
    · intro w hSw
      try dsimp only at hSw
      go_simp
      try with_reducible rfl
    try simp only [Act.put, List.setIfInBounds_toArray, List.set_cons_zero, List.set_cons_succ]
    refine wpAnyH_take (i := 3) (oi := { dst := some 11, op := Op.load 254 (Operand.tmp 10), type := 254, pos := "eval.go:45", after := #[{ on := 2, ground := Ground.data }], guard := none }) (v := ?_) rfl (by kernel_rfl) (by kernel_rfl) (by kernel_rfl) (fun _ _ _ h => h) (Or.inl ⟨by rfl, ?_⟩) (by assumption) ?_
    rotate_left
    · intro w hSw
      try dsimp only at hSw
      go_simp
      try with_reducible rfl
    try simp only [Act.put, List.setIfInBounds_toArray, List.set_cons_zero, List.set_cons_succ]
    refine wpAnyH_take (i := 4) (oi := { dst := some 12, op := Op.fieldAddr 94 (Operand.tmp 3) 1, type := 0, pos := "eval.go:45", after := #[], guard := none }) (v := ?_) rfl (by kernel_rfl) (by kernel_rfl) (by kernel_rfl) (fun _ _ _ h => h) (Or.inl ⟨by rfl, ?_⟩) (by assumption) ?_
    rotate_left
    · intro w hSw
      try dsimp only at hSw
      go_simp
      try with_reducible rfl
    try simp only [Act.put, List.setIfInBounds_toArray, List.set_cons_zero, List.set_cons_succ]
    refine wpAnyH_take (i := 5) (oi := { dst := some 13, op := Op.load 9 (Operand.tmp 12), type := 9, pos := "eval.go:45", after := #[{ on := 4, ground := Ground.data }], guard := none }) (v := ?_) rfl (by kernel_rfl) (by kernel_rfl) (by kernel_rfl) (fun _ _ _ h => h) (Or.inl ⟨by rfl, ?_⟩) (by assumption) ?_
    rotate_left
    · intro w hSw
      try dsimp only at hSw
      go_simp
      try with_reducible rfl
    try simp only [Act.put, List.setIfInBounds_toArray, List.set_cons_zero, List.set_cons_succ]
    refine wpAnyH_take (i := 6) (oi := { dst := some 14, op := Op.lookup 254 (Operand.tmp 11) (Operand.tmp 13) true, type := 192, pos := "eval.go:45", after := #[{ on := 3, ground := Ground.data }, { on := 5, ground := Ground.data }], guard := none }) (v := .tuple #[.int .u64 (valP d key : Nat), .bool (hasP d key)]) rfl (by kernel_rfl) (by kernel_rfl) (by kernel_rfl) (fun _ _ _ h => h) (Or.inl ⟨by rfl, ?_⟩) (by assumption) ?_
    · intro Y hY
      have hlk := mapN_look2 hY.2.2 HK1.out
      go_simp
    try simp only [Act.put, List.setIfInBounds_toArray, List.set_cons_zero, List.set_cons_succ]
    refine wpAnyH_take (i := 7) (oi := { dst := some 7, op := Op.move (Operand.tmp 14), type := 192, pos := "eval.go:45", after := #[{ on := 6, ground := Ground.data }], guard := none }) (v := ?_) rfl (by kernel_rfl) (by kernel_rfl) (by kernel_rfl) (fun _ _ _ h => h) (Or.inl ⟨by rfl, ?_⟩) (by assumption) ?_
    rotate_left
    · intro w hSw
      try dsimp only at hSw
      go_simp
      try with_reducible rfl
    try simp only [Act.put, List.setIfInBounds_toArray, List.set_cons_zero, List.set_cons_succ]
    refine wpAnyH_take (i := 8) (oi := { dst := some 15, op := Op.extract (Operand.tmp 7) 0, type := 89, pos := "eval.go:45", after := #[{ on := 7, ground := Ground.data }], guard := none }) (v := ?_) rfl (by kernel_rfl) (by kernel_rfl) (by kernel_rfl) (fun _ _ _ h => h) (Or.inl ⟨by rfl, ?_⟩) (by assumption) ?_
    rotate_left
    · intro w hSw
      try dsimp only at hSw
      go_simp
      try with_reducible rfl
    try simp only [Act.put, List.setIfInBounds_toArray, List.set_cons_zero, List.set_cons_succ]
    refine wpAnyH_take (i := 9) (oi := { dst := some 16, op := Op.extract (Operand.tmp 7) 1, type := 4, pos := "eval.go:45", after := #[{ on := 7, ground := Ground.data }, { on := 10, ground := Ground.gcOnly Departure.lateStores }], guard := none }) (v := ?_) rfl (by kernel_rfl) (by kernel_rfl) (by kernel_rfl) (fun _ _ _ h => h) (Or.inl ⟨by rfl, ?_⟩) (by assumption) ?_
    rotate_left
    · intro w hSw
      try dsimp only at hSw
      go_simp
      try with_reducible rfl
    try simp only [Act.put, List.setIfInBounds_toArray, List.set_cons_zero, List.set_cons_succ]
    refine wpAnyH_take (i := 10) (oi := { dst := some 5, op := Op.assign (Operand.tmp 15), type := 89, pos := "eval.go:45", after := #[{ on := 8, ground := Ground.data }, { on := 0, ground := Ground.phase }, { on := 1, ground := Ground.phase }, { on := 2, ground := Ground.phase }, { on := 3, ground := Ground.phase }, { on := 4, ground := Ground.phase }, { on := 5, ground := Ground.phase }, { on := 6, ground := Ground.phase }, { on := 7, ground := Ground.phase }, { on := 8, ground := Ground.phase }, { on := 9, ground := Ground.textOnly Departure.lateStores }], guard := none }) (v := ?_) rfl (by kernel_rfl) (by kernel_rfl) (by kernel_rfl) (fun _ _ _ h => h) (Or.inl ⟨by rfl, ?_⟩) (by assumption) ?_
    rotate_left
    · intro w hSw
      try dsimp only at hSw
      go_simp
      try with_reducible rfl
    try simp only [Act.put, List.setIfInBounds_toArray, List.set_cons_zero, List.set_cons_succ]
    refine wpAnyH_take (i := 11) (oi := { dst := some 6, op := Op.assign (Operand.tmp 16), type := 4, pos := "eval.go:45", after := #[{ on := 9, ground := Ground.data }, { on := 10, ground := Ground.chain }, { on := 0, ground := Ground.phase }, { on := 1, ground := Ground.phase }, { on := 2, ground := Ground.phase }, { on := 3, ground := Ground.phase }, { on := 4, ground := Ground.phase }, { on := 5, ground := Ground.phase }, { on := 6, ground := Ground.phase }, { on := 7, ground := Ground.phase }, { on := 8, ground := Ground.phase }, { on := 9, ground := Ground.phase }, { on := 10, ground := Ground.phase }], guard := none }) (v := ?_) rfl (by kernel_rfl) (by kernel_rfl) (by kernel_rfl) (fun _ _ _ h => h) (Or.inl ⟨by rfl, ?_⟩) (by assumption) ?_
    rotate_left
    · intro w hSw
      try dsimp only at hSw
      go_simp
      try with_reducible rfl
    try simp only [Act.put, List.setIfInBounds_toArray, List.set_cons_zero, List.set_cons_succ]
    refine wpAnyH_done (by kernel_rfl) ?_ _
    go_wp2_with (go_at_call 148; go_must (refine (sdrop_any base s n d ks b wv key _ HB2.out HRD.out HK1.out (by have := HN.out; omega) (by have := HKS.out; omega) HST2.out).mono ?_; rintro e w2 ⟨rfl, h6⟩; have HW2 := Lib.hid h6; have HRB := Lib.hid (h6.2.cells HAB.out (by decide) (by decide)); have hrc := cells_three HRB.out; obtain ⟨a0, a1, a2⟩ := hrc; have hfz := frozen_three HRB.out; obtain ⟨f0, f1, f2⟩ := hfz; have hrs := lt_of_block HRB.out; clear h6))
    have hE := ans_block HRB.out (.bool (hasP d key)) (.int .u64 (0 : Nat)) (.slice none 0 0)
    have HE := Lib.hid hE
    obtain ⟨z0, z1, z2⟩ := cells_three hE.1
    obtain ⟨⟨b1, wv1, hst⟩, hkp⟩ := HW2.out
    have HWR : Hid (Wrote w base s n _ _ (((w2.setCell ⟨w.heap.size + 1, 0, none⟩ (.bool (hasP d key))).setCell ⟨w.heap.size + 1, 1, none⟩ (.int .u64 (0 : Nat))).setCell ⟨w.heap.size + 1, 2, none⟩ (.slice none 0 0))) := ⟨⟨b1, wv1, hst.after HRB.out (by decide) (by decide) hE.2⟩, (HKP.out.trans hkp).after hE.2 (by omega)⟩
    clear hE hst hkp
    generalize (((w2.setCell ⟨w.heap.size + 1, 0, none⟩ (.bool (hasP d key))).setCell ⟨w.heap.size + 1, 1, none⟩ (.int .u64 (0 : Nat))).setCell ⟨w.heap.size + 1, 2, none⟩ (.slice none 0 0)) = w3 at *
    clear HE
    refine bodyPost_ret (v := .agg #[.bool (hasP d key), .int .u64 (0 : Nat), .slice none 0 0]) (by simp [results, Tryz.results141, go_sem, z0, z1, z2]) rfl ?_
    exact ⟨⟨(hasP d key), 0, none, 0, []⟩, rfl, rfl, OwnG.nil _ _, n, by omega, HWR.out⟩
  · have HB1 : Hid (Below w.heap.size w ((w.alloc (.cells #[.int .i64 6, .string key, .string to, .int .u64 (nm : Int)] 94)).alloc (.cells #[.bool false, .int .u64 0, .slice none 0 0] 96))) := blAlloc (blAlloc (Below.refl _ _) _) _
    have HST2 := Lib.hid (HST.out.later HB1.out.drew)
    have HAB : Hid (((w.alloc (.cells #[.int .i64 6, .string key, .string to, .int .u64 (nm : Int)] 94)).alloc (.cells #[.bool false, .int .u64 0, .slice none 0 0] 96)).drew.heap[w.heap.size + 1]? = some (.cells #[.bool false, .int .u64 0, .slice none 0 0] 96 (0, 0))) := by
      show ((w.heap.push _).push _)[w.heap.size + 1]? = _
      rw [show w.heap.size + 1 = (w.heap.push (.cells #[.int .i64 6, .string key, .string to, .int .u64 (nm : Int)] 94)).size from by simp, Array.getElem?_push_size]
    have hob : ((w.alloc (.cells #[.int .i64 6, .string key, .string to, .int .u64 (nm : Int)] 94)).alloc (.cells #[.bool false, .int .u64 0, .slice none 0 0] 96)).drew.heap[w.heap.size]? = some (.cells #[.int .i64 6, .string key, .string to, .int .u64 (nm : Int)] 94 (0, 0)) := by
      show ((w.heap.push _).push _)[w.heap.size]? = _
      rw [Array.getElem?_push_lt (by simp)]
      simp
    have hcs := cells_four hob
    have HOB := Lib.hid hob
    have q0 : ((w.alloc (.cells #[.int .i64 6, .string key, .string to, .int .u64 (nm : Int)] 94)).alloc (.cells #[.bool false, .int .u64 0, .slice none 0 0] 96)).drew.cell? ⟨s, 0, none⟩ = some (.map (some b)) ∧ True := ⟨HST2.out.c0, trivial⟩
    have q1 : ((w.alloc (.cells #[.int .i64 6, .string key, .string to, .int .u64 (nm : Int)] 94)).alloc (.cells #[.bool false, .int .u64 0, .slice none 0 0] 96)).drew.cell? ⟨w.heap.size, 1, none⟩ = some (.string key) := hcs.2.1
    have q2 : MapN ((w.alloc (.cells #[.int .i64 6, .string key, .string to, .int .u64 (nm : Int)] 94)).alloc (.cells #[.bool false, .int .u64 0, .slice none 0 0] 96)).drew b n d := HST2.out.map
    have HB2 : Hid (base ≤ ((w.alloc (.cells #[.int .i64 6, .string key, .string to, .int .u64 (nm : Int)] 94)).alloc (.cells #[.bool false, .int .u64 0, .slice none 0 0] 96)).drew.heap.size) := Nat.le_trans HB.out HB1.out.size
    have HKP : Hid (Kp base w ((w.alloc (.cells #[.int .i64 6, .string key, .string to, .int .u64 (nm : Int)] 94)).alloc (.cells #[.bool false, .int .u64 0, .slice none 0 0] 96)).drew) := Kp.ofBelow HB1.out.drew
    clear hcs hob
    go_enter Tryz.func141, Tryz.ntmps141
    go_wp2_with fail
    refine wp_region_held_drew (S := fun Y => Y.cell? ⟨s, 0, none⟩ = some (.map (some b)) ∧ Y.cell? ⟨w.heap.size, 1, none⟩ = some (.string key) ∧ MapN Y b n d) (by kernel_rfl) (⟨q0.1, q1, q2⟩) (fun hHeld => ?_)
    refine wpAnyH_take (i := 0) (oi := { dst := some 8, op := Op.move (Operand.tmp 0), type := 188, pos := "eval.go:45", after := #[], guard := none }) (v := ?_) rfl (by kernel_rfl) (by kernel_rfl) (by kernel_rfl) (fun _ _ _ h => h) (Or.inl ⟨by rfl, ?_⟩) (by assumption) ?_
    rotate_left
    · intro w hSw
      try dsimp only at hSw
      go_simp
      try with_reducible rfl
    try simp only [Act.put, List.setIfInBounds_toArray, List.set_cons_zero, List.set_cons_succ]
    refine wpAnyH_take (i := 1) (oi := { dst := some 9, op := Op.nilCheck (Operand.tmp 8), type := 0, pos := "eval.go:45", after := #[{ on := 0, ground := Ground.data }], guard := none }) (v := ?_) rfl (by kernel_rfl) (by kernel_rfl) (by kernel_rfl) (fun _ _ _ h => h) (Or.inl ⟨by rfl, ?_⟩) (by assumption) ?_
    rotate_left
    · intro w hSw
      try dsimp only at hSw
      go_simp
      try with_reducible rfl
    try simp only [Act.put, List.setIfInBounds_toArray, List.set_cons_zero, List.set_cons_succ]
    refine wpAnyH_take (i := 2) (oi := { dst := some 10, op := Op.fieldAddr 256 (Operand.tmp 9) 0, type := 0, pos := "eval.go:45", after := #[{ on := 1, ground := Ground.data }], guard := none }) (v := ?_) rfl (by kernel_rfl) (by kernel_rfl) (by kernel_rfl) (fun _ _ _ h => h) (Or.inl ⟨by rfl, ?_⟩) (by assumption) ?_
    rotate_left
    · intro w hSw
      try dsimp only at hSw
      go_simp
      try with_reducible rfl
    try simp only [Act.put, List.setIfInBounds_toArray, List.set_cons_zero, List.set_cons_succ]
    refine wpAnyH_take (i := 3) (oi := { dst := some 11, op := Op.load 254 (Operand.tmp 10), type := 254, pos := "eval.go:45", after := #[{ on := 2, ground := Ground.data }], guard := none }) (v := ?_) rfl (by kernel_rfl) (by kernel_rfl) (by kernel_rfl) (fun _ _ _ h => h) (Or.inl ⟨by rfl, ?_⟩) (by assumption) ?_
    rotate_left
    · intro w hSw
      try dsimp only at hSw
      go_simp
      try with_reducible rfl
    try simp only [Act.put, List.setIfInBounds_toArray, List.set_cons_zero, List.set_cons_succ]
    refine wpAnyH_take (i := 4) (oi := { dst := some 12, op := Op.fieldAddr 94 (Operand.tmp 3) 1, type := 0, pos := "eval.go:45", after := #[], guard := none }) (v := ?_) rfl (by kernel_rfl) (by kernel_rfl) (by kernel_rfl) (fun _ _ _ h => h) (Or.inl ⟨by rfl, ?_⟩) (by assumption) ?_
    rotate_left
    · intro w hSw
      try dsimp only at hSw
      go_simp
      try with_reducible rfl
    try simp only [Act.put, List.setIfInBounds_toArray, List.set_cons_zero, List.set_cons_succ]
    refine wpAnyH_take (i := 5) (oi := { dst := some 13, op := Op.load 9 (Operand.tmp 12), type := 9, pos := "eval.go:45", after := #[{ on := 4, ground := Ground.data }], guard := none }) (v := ?_) rfl (by kernel_rfl) (by kernel_rfl) (by kernel_rfl) (fun _ _ _ h => h) (Or.inl ⟨by rfl, ?_⟩) (by assumption) ?_
    rotate_left
    · intro w hSw
      try dsimp only at hSw
      go_simp
      try with_reducible rfl
    try simp only [Act.put, List.setIfInBounds_toArray, List.set_cons_zero, List.set_cons_succ]
    refine wpAnyH_take (i := 6) (oi := { dst := some 14, op := Op.lookup 254 (Operand.tmp 11) (Operand.tmp 13) true, type := 192, pos := "eval.go:45", after := #[{ on := 3, ground := Ground.data }, { on := 5, ground := Ground.data }], guard := none }) (v := .tuple #[.int .u64 (valP d key : Nat), .bool (hasP d key)]) rfl (by kernel_rfl) (by kernel_rfl) (by kernel_rfl) (fun _ _ _ h => h) (Or.inl ⟨by rfl, ?_⟩) (by assumption) ?_
    · intro Y hY
      have hlk := mapN_look2 hY.2.2 HK1.out
      go_simp
    try simp only [Act.put, List.setIfInBounds_toArray, List.set_cons_zero, List.set_cons_succ]
    refine wpAnyH_take (i := 7) (oi := { dst := some 7, op := Op.move (Operand.tmp 14), type := 192, pos := "eval.go:45", after := #[{ on := 6, ground := Ground.data }], guard := none }) (v := ?_) rfl (by kernel_rfl) (by kernel_rfl) (by kernel_rfl) (fun _ _ _ h => h) (Or.inl ⟨by rfl, ?_⟩) (by assumption) ?_
    rotate_left
    · intro w hSw
      try dsimp only at hSw
      go_simp
      try with_reducible rfl
    try simp only [Act.put, List.setIfInBounds_toArray, List.set_cons_zero, List.set_cons_succ]
    refine wpAnyH_take (i := 8) (oi := { dst := some 15, op := Op.extract (Operand.tmp 7) 0, type := 89, pos := "eval.go:45", after := #[{ on := 7, ground := Ground.data }], guard := none }) (v := ?_) rfl (by kernel_rfl) (by kernel_rfl) (by kernel_rfl) (fun _ _ _ h => h) (Or.inl ⟨by rfl, ?_⟩) (by assumption) ?_
    rotate_left
    · intro w hSw
      try dsimp only at hSw
      go_simp
      try with_reducible rfl
    try simp only [Act.put, List.setIfInBounds_toArray, List.set_cons_zero, List.set_cons_succ]
    refine wpAnyH_take (i := 9) (oi := { dst := some 16, op := Op.extract (Operand.tmp 7) 1, type := 4, pos := "eval.go:45", after := #[{ on := 7, ground := Ground.data }, { on := 10, ground := Ground.gcOnly Departure.lateStores }], guard := none }) (v := ?_) rfl (by kernel_rfl) (by kernel_rfl) (by kernel_rfl) (fun _ _ _ h => h) (Or.inl ⟨by rfl, ?_⟩) (by assumption) ?_
    rotate_left
    · intro w hSw
      try dsimp only at hSw
      go_simp
      try with_reducible rfl
    try simp only [Act.put, List.setIfInBounds_toArray, List.set_cons_zero, List.set_cons_succ]
    refine wpAnyH_take (i := 10) (oi := { dst := some 5, op := Op.assign (Operand.tmp 15), type := 89, pos := "eval.go:45", after := #[{ on := 8, ground := Ground.data }, { on := 0, ground := Ground.phase }, { on := 1, ground := Ground.phase }, { on := 2, ground := Ground.phase }, { on := 3, ground := Ground.phase }, { on := 4, ground := Ground.phase }, { on := 5, ground := Ground.phase }, { on := 6, ground := Ground.phase }, { on := 7, ground := Ground.phase }, { on := 8, ground := Ground.phase }, { on := 9, ground := Ground.textOnly Departure.lateStores }], guard := none }) (v := ?_) rfl (by kernel_rfl) (by kernel_rfl) (by kernel_rfl) (fun _ _ _ h => h) (Or.inl ⟨by rfl, ?_⟩) (by assumption) ?_
    rotate_left
    · intro w hSw
      try dsimp only at hSw
      go_simp
      try with_reducible rfl
    try simp only [Act.put, List.setIfInBounds_toArray, List.set_cons_zero, List.set_cons_succ]
    refine wpAnyH_take (i := 11) (oi := { dst := some 6, op := Op.assign (Operand.tmp 16), type := 4, pos := "eval.go:45", after := #[{ on := 9, ground := Ground.data }, { on := 10, ground := Ground.chain }, { on := 0, ground := Ground.phase }, { on := 1, ground := Ground.phase }, { on := 2, ground := Ground.phase }, { on := 3, ground := Ground.phase }, { on := 4, ground := Ground.phase }, { on := 5, ground := Ground.phase }, { on := 6, ground := Ground.phase }, { on := 7, ground := Ground.phase }, { on := 8, ground := Ground.phase }, { on := 9, ground := Ground.phase }, { on := 10, ground := Ground.phase }], guard := none }) (v := ?_) rfl (by kernel_rfl) (by kernel_rfl) (by kernel_rfl) (fun _ _ _ h => h) (Or.inl ⟨by rfl, ?_⟩) (by assumption) ?_
    rotate_left
    · intro w hSw
      try dsimp only at hSw
      go_simp
      try with_reducible rfl
    try simp only [Act.put, List.setIfInBounds_toArray, List.set_cons_zero, List.set_cons_succ]
    refine wpAnyH_done (by kernel_rfl) ?_ _
    have HK2 : Hid (to.size ≤ maxLen) := by
      show _ ≤ maxLen
      have h16 : to.size ≤ 16 := key_len ((ok_kd HOK.out).2.2.2.1 rfl).1
      unfold maxLen
      omega
    have HNE : Hid (key ≠ to) := fun e => ((ok_kd HOK.out).2.2.2.1 rfl).2 e.symm
    go_wp2_with (go_at_call 215; go_must (have hm := move_any base s n d ks b wv key to nm _ HB2.out HRD.out HK1.out HK2.out HNE.out HNM.out HN.out HKS.out HST2.out; refine hm.mono ?_; rintro e w2 ⟨rfl, n2, hn2, h6⟩; clear hm; have HW2 := Lib.hid h6; have HN2 := Lib.hid hn2; have HRB := Lib.hid (h6.2.cells HAB.out (by decide) (by decide)); have hrc := cells_three HRB.out; obtain ⟨a0, a1, a2⟩ := hrc; have hfz := frozen_three HRB.out; obtain ⟨f0, f1, f2⟩ := hfz; have hrs := lt_of_block HRB.out; clear h6))
    have hE := ans_block HRB.out (.bool (movB d (6, key, to, nm))) (.int .u64 (0 : Nat)) (.slice none 0 0)
    have HE := Lib.hid hE
    obtain ⟨z0, z1, z2⟩ := cells_three hE.1
    obtain ⟨⟨b1, wv1, hst⟩, hkp⟩ := HW2.out
    have HWR : Hid (Wrote w base s n2 _ _ (((w2.setCell ⟨w.heap.size + 1, 0, none⟩ (.bool (movB d (6, key, to, nm)))).setCell ⟨w.heap.size + 1, 1, none⟩ (.int .u64 (0 : Nat))).setCell ⟨w.heap.size + 1, 2, none⟩ (.slice none 0 0))) := ⟨⟨b1, wv1, hst.after HRB.out (by decide) (by decide) hE.2⟩, (HKP.out.trans hkp).after hE.2 (by omega)⟩
    clear hE hst hkp
    generalize (((w2.setCell ⟨w.heap.size + 1, 0, none⟩ (.bool (movB d (6, key, to, nm)))).setCell ⟨w.heap.size + 1, 1, none⟩ (.int .u64 (0 : Nat))).setCell ⟨w.heap.size + 1, 2, none⟩ (.slice none 0 0)) = w3 at *
    clear HE
    refine bodyPost_ret (v := .agg #[.bool (movB d (6, key, to, nm)), .int .u64 (0 : Nat), .slice none 0 0]) (by simp [results, Tryz.results141, go_sem, z0, z1, z2]) rfl ?_
    exact ⟨⟨(movB d (6, key, to, nm)), 0, none, 0, []⟩, rfl, rfl, OwnG.nil _ _, n2, by omega, HWR.out⟩
end SP
end Go.Proofs.YtjlkgbejldcklaaGreat

namespace Go.Proofs.YtjlkgbejldcklaaGreat
open S3 SN
namespace SP
open Go.ChangeShapes Go.WideShapes Go.ChangeAt Go.RowKit Go.Joins Go.Deep
theorem applyP_take {d : Al Nat} {l : List Wrt} {k : Nat} {x : Wrt} (hx : l[k]? = some x) : applyP d (l.take (k + 1)) = doW (applyP d (l.take k)) x := by
  unfold applyP
  rw [List.take_add_one, hx, List.foldl_append]
  rfl
theorem risA_doW {d : Al Nat} (h : RisA d) (x : Wrt) : RisA (doW d x) := by
  unfold doW
  by_cases e : x.2.2 = true
  · rw [if_pos e]; exact risA_del h _
  · rw [if_neg e]; exact risA_put h _ _
theorem risA_apply {d : Al Nat} (h : RisA d) (l : List Wrt) : RisA (applyP d l) := by
  induction l generalizing d with
  | nil => exact h
  | cons x r ih => exact ih (risA_doW h x)
theorem inS_all (k : ByteArray) : inS (⟨#[]⟩, ⟨#[]⟩) k = true := by
  unfold inS
  have e2 : noT (⟨#[]⟩ : ByteArray) = true := noT_iff.2 rfl
  have e1 : ltT k ⟨#[]⟩ = false := not_lt_noT e2
  simp only [e1, e2, Bool.not_false, Bool.true_or, Bool.and_self]
theorem full_all : fullS (⟨#[]⟩, ⟨#[]⟩) = true := by
  unfold fullS
  rw [show noT (⟨#[]⟩ : ByteArray) = true from noT_iff.2 rfl]
  rfl
theorem inA_all {P : ByteArray → Bool} (h : ∀ k, P k = true) (l : Al Nat) : inA P l = l := by
  unfold inA
  exact List.filter_eq_self.2 (fun p _ => h p.1)
set_option maxRecDepth 100000 in
set_option maxHeartbeats 8000000 in
theorem apply_any (va vs : Value) (d : Al Nat) (l : List Wrt) (w : World) (hlen : d.length ≤ 100000) (hl : l.length ≤ 100000) (hr : RisA d) (hk : ∀ p ∈ d, p.1.size ≤ maxLen) (hkl : ∀ x ∈ l, x.1.size ≤ maxLen) (ha : SlG eP w va d) (hs : SlG eW w vs l) : Calls Tryz.prog 59 #[va, vs] w (RetPr w (applyP d l)) := by
  obtain ⟨aS, cS, rfl⟩ := hs.form
  have HS := Lib.hid hs
  have HD := Lib.hid ha
  have HR := Lib.hid hr
  have HKL := Lib.hid hkl
  have HK := Lib.hid hk
  have HDL := Lib.hid hlen
  have HLL := Lib.hid hl
  clear ha hs hr hkl hk hlen hl
  go_enter Tryz.func59, Tryz.ntmps59
  go_wp2_with (go_at_call 140; go_must (refine (stockOf_any va d _ HDL.out HR.out HK.out HD.out).mono ?_; rintro e w1 ⟨rfl, h5, h6⟩; have HST := Lib.hid h5; have HB1 := Lib.hid h6; clear h5 h6))
  generalize hDL : d.length = DL at *
  clear hDL
  go_loopw [12] (fun i wr => ∃ (k n b : Nat) (wv : Value) (ks : List ByteArray), k ≤ l.length ∧ i = .int .i64 k ∧ n ≤ DL + k ∧ ks.length = k ∧ Stk wr w.heap.size (w.heap.size + 1) n (applyP d (l.take k)) ks b wv ∧ Kp w.heap.size w1 wr) (fun i _ => l.length - (intOf i).toNat)
  case atStart => exact ⟨0, DL, _, _, [], Nat.zero_le _, rfl, Nat.le_refl _, rfl, HST.out, Kp.refl _ _⟩
  case round =>
    obtain ⟨k, n, b, wv, ks, hk, rfl, hn, hkn, hst, hkp⟩ := hrel
    have HSTr := Lib.hid hst
    have HKP := Lib.hid hkp
    have HNN := Lib.hid hn
    have HKN := Lib.hid hkn
    have hll := HLL.out
    have HB : Hid (Below w.heap.size w wr) := HB1.out.trans (hkp.below HB1.out.size)
    clear hst hkp hn hkn
    by_cases hlt : k < l.length
    · obtain ⟨⟨pk, pn, gone⟩, hx⟩ := at_lt hlt
      obtain ⟨g, o, hA, hg, d0, d1, d2⟩ := wrs_at HS.out hx
      simp only at d0 d1 d2
      have c0 := cell_in HB.out hg d0
      have c1 := cell_in HB.out hg d1
      have c2 := cell_in HB.out hg d2
      have hk1 : (k : Int) < (l.length : Int) := by omega
      have hk0 : (0 : Int) ≤ (k : Int) := by omega
      have hdk : decide ((k : Int) < (l.length : Int)) = true := decide_eq_true hk1
      have hdn : decide (k < l.length) = true := decide_eq_true hlt
      have HT := Lib.hid (applyP_take (d := d) hx)
      have HPK : Hid (pk.size ≤ maxLen) := HKL.out _ (List.mem_of_getElem? hx)
      have HRR : Hid (RisA (applyP d (l.take k))) := risA_apply HR.out _
      generalize hE : applyP d (l.take k) = E at *
      clear hE hx d0 d1 d2
      subst hA
      cases gone
      · have HB2 : Hid (Below wr.heap.size wr (wr.alloc (.cells #[.string pk, .int .u64 (pn : Int), .bool false] 178))) := blAlloc (Below.refl _ _) _
        have HS2 := Lib.hid (HSTr.out.later HB2.out)
        have HBS : Hid (w.heap.size ≤ (wr.alloc (.cells #[.string pk, .int .u64 (pn : Int), .bool false] 178)).heap.size) := Nat.le_trans HB.out.size HB2.out.size
        go_wp2_with (go_at_call 149; go_must (refine (sput_any w.heap.size (w.heap.size + 1) n E ks b wv pk pn _ HBS.out HRR.out HPK.out (by have := HNN.out; have := HDL.out; have := HLL.out; omega) (by have := HKN.out; have := HLL.out; omega) HS2.out).mono ?_; rintro e w2 ⟨rfl, h5⟩; have HW2 := Lib.hid h5; clear h5))
        obtain ⟨⟨b2, wv2, hst2⟩, hkp2⟩ := HW2.out
        have HS3 := Lib.hid hst2
        have HK3 := Lib.hid ((HKP.out.trans (Kp.ofBelow HB2.out)).trans hkp2)
        clear hst2 hkp2
        go_roundw
        case rel => exact ⟨k + 1, n + 1, b2, wv2, ks ++ [pk], hlt, by go_num, by have := HNN.out; omega, by have := HKN.out; simp only [List.length_append, List.length_cons, List.length_nil]; omega, by rw [HT.out]; exact HS3.out, HK3.out⟩
        case measure => simp [intOf]; omega
      · have HB2 : Hid (Below wr.heap.size wr (wr.alloc (.cells #[.string pk, .int .u64 (pn : Int), .bool true] 178))) := blAlloc (Below.refl _ _) _
        have HS2 := Lib.hid (HSTr.out.later HB2.out)
        have HBS : Hid (w.heap.size ≤ (wr.alloc (.cells #[.string pk, .int .u64 (pn : Int), .bool true] 178)).heap.size) := Nat.le_trans HB.out.size HB2.out.size
        go_wp2_with (go_at_call 148; go_must (refine (sdrop_any w.heap.size (w.heap.size + 1) n E ks b wv pk _ HBS.out HRR.out HPK.out (by have := HNN.out; have := HDL.out; have := HLL.out; omega) (by have := HKN.out; have := HLL.out; omega) HS2.out).mono ?_; rintro e w2 ⟨rfl, h5⟩; have HW2 := Lib.hid h5; clear h5))
        obtain ⟨⟨b2, wv2, hst2⟩, hkp2⟩ := HW2.out
        have HS3 := Lib.hid hst2
        have HK3 := Lib.hid ((HKP.out.trans (Kp.ofBelow HB2.out)).trans hkp2)
        clear hst2 hkp2
        go_roundw
        case rel => exact ⟨k + 1, n, b2, wv2, ks ++ [pk], hlt, by go_num, by have := HNN.out; omega, by have := HKN.out; simp only [List.length_append, List.length_cons, List.length_nil]; omega, by rw [HT.out]; exact HS3.out, HK3.out⟩
        case measure => simp [intOf]; omega
    · have hge : ¬ (k : Int) < (l.length : Int) := by omega
      have hdk : decide ((k : Int) < (l.length : Int)) = false := decide_eq_false hge
      have hdn : decide (k < l.length) = false := decide_eq_false hlt
      have HE : Hid (applyP d (l.take k) = applyP d l) := by show _ = _; rw [List.take_of_length_le (by omega)]
      have HRR : Hid (RisA (applyP d l)) := risA_apply HR.out _
      go_wp2_with (go_at_call 150; go_must (refine (within_any w.heap.size (w.heap.size + 1) n (applyP d l) ks b wv ⟨#[]⟩ ⟨#[]⟩ _ HRR.out (by have := HNN.out; have := HDL.out; have := HLL.out; omega) full_all (by rw [← HE.out]; exact HSTr.out)).mono ?_; rw [inA_all inS_all]; rintro e w2 ⟨v, rfl, h5, h6⟩; have HO2 := Lib.hid h5; have HB2 : Hid (Below w.heap.size w w2) := blThen HB.out h6; clear h5 h6))
      go_ret
      exact ⟨_, rfl, HO2.out.mono HB.out.size, HB2.out⟩
end SP
end Go.Proofs.YtjlkgbejldcklaaGreat

namespace Go.Proofs.YtjlkgbejldcklaaGreat
open S3 SN
namespace SP
open Go.ChangeShapes Go.WideShapes Go.ChangeAt Go.RowKit Go.Joins Go.Deep
theorem evalD_take {d : Al Nat} {l : List Opr} {k : Nat} {o : Opr} (h : l[k]? = some o) : evalD d (l.take (k + 1)) = applyP (evalD d (l.take k)) (opW (evalD d (l.take k)) o) := by
  rw [List.take_add_one, h, evalD_append]; rfl
theorem evalL_take {d : Al Nat} {l : List Opr} {k : Nat} {o : Opr} (h : l[k]? = some o) : evalL d (l.take (k + 1)) = evalL d (l.take k) ++ opW (evalD d (l.take k)) o := by
  rw [List.take_add_one, h, evalL_append]
  show evalL d (l.take k) ++ (opW _ o ++ []) = _
  rw [List.append_nil]
theorem evalA_take {d : Al Nat} {l : List Opr} {k : Nat} {o : Opr} (h : l[k]? = some o) : evalA d (l.take (k + 1)) = evalA d (l.take k) ++ [opA (evalD d (l.take k)) o] := by
  rw [List.take_add_one, h, evalA_append]; rfl
theorem opW_small {d : Al Nat} {o : Opr} (ho : okB o = true) : ∀ x ∈ opW d o, x.1.size ≤ 16 := by
  obtain ⟨_, hky, _, h6, _⟩ := ok_kd ho
  have h1 := key_len hky
  intro x hx
  unfold opW at hx
  by_cases e3 : o.1 = 3
  · rw [if_pos e3, List.mem_singleton] at hx; subst hx; exact h1
  rw [if_neg e3] at hx
  by_cases e4 : o.1 = 4
  · rw [if_pos e4, List.mem_singleton] at hx; subst hx; exact h1
  rw [if_neg e4] at hx
  by_cases e5 : o.1 = 5
  · rw [if_pos e5, List.mem_singleton] at hx; subst hx; exact h1
  rw [if_neg e5] at hx
  by_cases e6 : o.1 = 6
  · rw [if_pos e6] at hx
    by_cases em : movB d o = true
    · rw [if_pos em] at hx
      simp only [List.mem_cons, List.not_mem_nil, or_false] at hx
      rcases hx with rfl | rfl
      · exact h1
      · exact key_len (h6 e6).1
    · rw [if_neg em] at hx; cases hx
  · rw [if_neg e6] at hx; cases hx
theorem evalL_small : ∀ (l : List Opr) (d : Al Nat), (∀ o ∈ l, okB o = true) → ∀ x ∈ evalL d l, x.1.size ≤ 16
  | [], _, _, x, hx => by cases hx
  | o :: l, d, h, x, hx => by
    rcases List.mem_append.1 (show x ∈ opW d o ++ evalL (applyP d (opW d o)) l from hx) with h1 | h1
    · exact opW_small (h o (by simp)) x h1
    · exact evalL_small l _ (fun o ho => h o (by simp [ho])) x h1
theorem rows_ne {α β : Type} {E : Enc α} {F : Enc β} {T U : TypeId} {w : World} {B C : Nat} {v u : Value} {l : List α} {m : List β} (h : OwnG E T w B v l) (k : OwnG F U w C u m) (ht : T ≠ U) : v.ownBlock ≠ u.ownBlock ∨ v.ownBlock = none := by
  obtain ⟨h1, ⟨rfl, _⟩ | ⟨g, cap, cur, rfl, hg, hh, _⟩⟩ := k
  · by_cases e : v.ownBlock = none
    · exact .inr e
    · exact .inl e
  · exact .inl (ownG_ne h hh ht)
theorem Stk.row_kept {α : Type} {E : Enc α} {T : TypeId} {w w' : World} {base s n B : Nat} {d : Al Nat} {ks : List ByteArray} {b : Nat} {wv v : Value} {l : List α} (h : Stk w base s n d ks b wv) (hr : OwnG E T w B v l) (h1 : 9 ≠ T) (h2 : 256 ≠ T) (hg : w.grownBy w' v.ownBlock) : Stk w' base s n d ks b wv := by
  obtain ⟨h3, ⟨rfl, _⟩ | ⟨g, cap, cur, rfl, hgb, hh, _⟩⟩ := hr
  · refine ⟨(hg.block s h.lt (by simp [Value.ownBlock])).trans h.box, ownT_kept h.row hg (by
      by_cases e : wv.ownBlock = none
      · exact .inr e
      · exact .inl (by simpa [Value.ownBlock] using e)), mapN_kept h.map hg (by simp [Value.ownBlock]), h.bs, h.bb⟩
  · exact h.after hh h1 h2 hg
theorem Kp.row {α : Type} {E : Enc α} {T : TypeId} {w w1 w' : World} {base B : Nat} {v : Value} {l : List α} (h : Kp base w w1) (hr : OwnG E T w1 B v l) (hb : w.heap.size ≤ B) (hg : w1.grownBy w' v.ownBlock) : Kp base w w' :=
  ⟨hg.os.trans h.os, hg.tape.trans h.tape, hg.output.trans h.output, Nat.le_trans h.size hg.size, fun k hk hs => (hg.block k (Nat.lt_of_lt_of_le hk h.size) (fun e => by have := hr.block k e.symm; omega)).trans (h.block k hk hs)⟩
structure Anss (w : World) (base B : Nat) (v : Value) (rs : List AnR) (l : List Ans) : Prop where
  row : OwnAn w B v rs
  same : rs.map AnR.ans = l
  prs : ∀ r ∈ rs, OwnPr w base (.slice r.at_ r.prs.length r.cap) r.prs
theorem Anss.kp {w w' : World} {base B C : Nat} {v : Value} {rs : List AnR} {l : List Ans} (h : Anss w base B v rs l) (hk : Kp C w w') : Anss w' base B v rs l :=
  ⟨ownG_kp h.row hk (by decide) (by decide), h.same, fun r hr => ownG_kp (h.prs r hr) hk (by decide) (by decide)⟩
def RetEv (w : World) (d : Al Nat) (l : List Opr) (e : Ending) (w' : World) : Prop :=
  ∃ v1 v2 rs, e = .returned (.tuple #[v1, v2]) ∧ OwnWr w' w.heap.size v1 (lastL (evalL d l)) ∧ Anss w' w.heap.size w.heap.size v2 rs (evalA d l) ∧ Below w.heap.size w w'
set_option maxRecDepth 100000 in
set_option maxHeartbeats 16000000 in
theorem eval_any (va vs : Value) (l : List Opr) (d : Al Nat) (w : World) (hlen : d.length ≤ 100000) (hl : l.length ≤ 10000) (hr : RisA d) (hk : ∀ p ∈ d, p.1.size ≤ maxLen) (hok : ∀ o ∈ l, okB o = true) (hnm : ∀ o ∈ l, o.2.2.2 < 18446744073709551616) (ha : SlG eO w va l) (hs : SlG eP w vs d) : Calls Tryz.prog 53 #[va, vs] w (RetEv w d l) := by
  obtain ⟨aS, cS, rfl⟩ := ha.form
  have HS := Lib.hid ha
  have HD := Lib.hid hs
  have HR := Lib.hid hr
  have HK := Lib.hid hk
  have HDL := Lib.hid hlen
  have HLL := Lib.hid hl
  have HOK := Lib.hid hok
  have HNM := Lib.hid hnm
  clear ha hs hr hk hlen hl hok hnm
  go_enter Tryz.func53, Tryz.ntmps53
  go_wp2_with (go_at_call 140; go_must (refine (stockOf_any vs d _ HDL.out HR.out HK.out HD.out).mono ?_; rintro e w1 ⟨rfl, h5, h6⟩; have HST := Lib.hid h5; have HB1 := Lib.hid h6; clear h5 h6))
  generalize hDL : d.length = DL at *
  clear hDL
  go_loopw [7, 14] (fun v i wr => ∃ (k n b : Nat) (wv : Value) (rs : List AnR), k ≤ l.length ∧ i = .int .i64 k ∧ n ≤ DL + 2 * k ∧ Stk wr w.heap.size (w.heap.size + 1) n (evalD d (l.take k)) ((evalL d (l.take k)).map fun x => x.1) b wv ∧ Anss wr w.heap.size w1.heap.size v rs (evalA d (l.take k)) ∧ Kp w.heap.size w1 wr) (fun _ i _ => l.length - (intOf i).toNat)
  case atStart => exact ⟨0, DL, _, _, [], Nat.zero_le _, rfl, Nat.le_refl _, HST.out, ⟨OwnG.nil _ _, rfl, fun r hr => by cases hr⟩, Kp.refl _ _⟩
  case round =>
    obtain ⟨k, n, b, wv, rs, hk, rfl, hn, hst, hans, hkp⟩ := hrel
    have HSTr := Lib.hid hst
    have HKP := Lib.hid hkp
    have HNN := Lib.hid hn
    have HAN := Lib.hid hans
    have hll := HLL.out
    have HRL : Hid (rs.length ≤ 10000) := by
      show _ ≤ _
      have h1 := congrArg List.length hans.same
      rw [List.length_map, evalA_length, List.length_take] at h1
      omega
    have HB : Hid (Below w.heap.size w wr) := HB1.out.trans (hkp.below HB1.out.size)
    obtain ⟨av, cv, rfl⟩ := hans.row.form
    clear hst hkp hn hans
    generalize hN : rs.length = N at *
    have HN := Lib.hid hN
    clear hN
    by_cases hlt : k < l.length
    · obtain ⟨⟨kd, key, to, nm⟩, hx⟩ := at_lt hlt
      obtain ⟨g, o, hA, hg, d0, d1, d2, d3⟩ := ops_at HS.out hx
      simp only at d0 d1 d2 d3
      have c0 := cell_in HB.out hg d0
      have c1 := cell_in HB.out hg d1
      have c2 := cell_in HB.out hg d2
      have c3 := cell_in HB.out hg d3
      have hk1 : (k : Int) < (l.length : Int) := by omega
      have hk0 : (0 : Int) ≤ (k : Int) := by omega
      have hdk : decide ((k : Int) < (l.length : Int)) = true := decide_eq_true hk1
      have hdn : decide (k < l.length) = true := decide_eq_true hlt
      have HTD := Lib.hid (evalD_take (d := d) hx)
      have HTL := Lib.hid (evalL_take (d := d) hx)
      have HTA := Lib.hid (evalA_take (d := d) hx)
      have HOx := Lib.hid (HOK.out _ (List.mem_of_getElem? hx))
      have HNx := Lib.hid (HNM.out _ (List.mem_of_getElem? hx))
      have HRR : Hid (RisA (evalD d (l.take k))) := ris_evalD HR.out _
      have HKL : Hid (((evalL d (l.take k)).map fun x => x.1).length ≤ 20000) := by
        show _ ≤ _
        have := evalL_len (l.take k) d
        rw [List.length_take] at this
        rw [List.length_map]
        omega
      have HB2 : Hid (Below wr.heap.size wr (wr.alloc (.cells #[.int .i64 kd, .string key, .string to, .int .u64 (nm : Int)] 94))) := blAlloc (Below.refl _ _) _
      have HS2 := Lib.hid (HSTr.out.later HB2.out)
      have HBS : Hid (w.heap.size ≤ (wr.alloc (.cells #[.int .i64 kd, .string key, .string to, .int .u64 (nm : Int)] 94)).heap.size) := Nat.le_trans HB.out.size HB2.out.size
      generalize hE : evalD d (l.take k) = E at *
      generalize hF : evalL d (l.take k) = F at *
      clear hE hF hx d0 d1 d2 d3
      subst hA
      go_wp2_with (first
        | (go_at_call 141; go_must (have hdo := do_any w.heap.size (w.heap.size + 1) n E (F.map fun x => x.1) b wv (kd, key, to, nm) _ HBS.out HRR.out HOx.out HNx.out (by have := HNN.out; have := HDL.out; omega) (by have := HKL.out; omega) HS2.out; refine hdo.mono ?_; rintro e w2 ⟨r, rfl, hra, hrp, n2, hn2, ⟨b2, wv2, hst2⟩, hkp2⟩; clear hdo; have HRA := Lib.hid hra; have HRP := Lib.hid hrp; have HN2 := Lib.hid hn2; have HS3 := Lib.hid hst2; have HK3 := Lib.hid ((Kp.ofBelow (base := w.heap.size) HB2.out).trans hkp2); have HA3 := Lib.hid (HAN.out.kp HK3.out); have HK4 := Lib.hid (HKP.out.trans HK3.out); clear hra hrp hn2 hst2 hkp2; unfold anV))
        | (at_builtin; go_must (refine append_G 76 _ 40 info_an Tryz.underlying76 rfl (by decide) rfl _ _ rfl w1.heap.size _ rs rfl (HA3.out.row.later (blAlloc (Below.refl _ _) _)) _ [r] rfl (one_G eA _ _ r _ _ rfl rfl) (by have := HRL.out; have := HN.out; simp only [List.length_cons, List.length_nil]; omega) (Nat.le_trans HK4.out.size (blAlloc (Below.refl w2.heap.size w2) _).size) ?_; intro v3 w3 h1 h2; have HO3 := Lib.hid h1; have HG3 := Lib.hid h2; clear h1 h2)))
      have hal : Below w2.heap.size w2 (w2.alloc (.cells #[.bool r.yes, .int .u64 (r.num : Int), .slice r.at_ r.prs.length r.cap] 96)) := blAlloc (Below.refl _ _) _
      have hra := HA3.out.row.later hal
      have HS5 : Hid (Stk w3 w.heap.size (w.heap.size + 1) _ _ _ _ _) := Lib.hid ((HS3.out.later hal).row_kept hra (by decide) (by decide) HG3.out)
      have HK5 : Hid (Kp w.heap.size w1 w3) := (HK4.out.trans (Kp.ofBelow hal)).row hra (Nat.le_refl _) HG3.out
      have HA5 : Hid (Anss w3 w.heap.size w1.heap.size v3 (rs ++ [r]) (evalA d (l.take (k + 1)))) := by
        refine ⟨HO3.out, ?_, fun q hq => ?_⟩
        · rw [List.map_append, HA3.out.same, HTA.out]
          show _ ++ [r.ans] = _
          rw [HRA.out]
        · rcases List.mem_append.1 hq with h | h
          · exact ((HA3.out.prs q h).later hal).kept HG3.out (rows_ne ((HA3.out.prs q h).later hal) hra (by decide))
          · obtain rfl := List.mem_singleton.1 h
            exact (HRP.out.later hal).kept HG3.out (rows_ne (HRP.out.later hal) hra (by decide))
      clear hal hra
      go_roundw
      case rel => exact ⟨k + 1, n2, b2, wv2, rs ++ [r], hlt, by go_num, by have := HNN.out; have := HN2.out; omega, by rw [HTD.out, HTL.out, List.map_append]; exact HS5.out, HA5.out, HK5.out⟩
      case measure => simp [intOf]; omega
    · have hge : ¬ (k : Int) < (l.length : Int) := by omega
      have hdk : decide ((k : Int) < (l.length : Int)) = false := decide_eq_false hge
      have hdn : decide (k < l.length) = false := decide_eq_false hlt
      have hT : l.take k = l := List.take_of_length_le (by omega)
      rw [hT] at HSTr HAN
      have HZ := Lib.hid (keys_last HR.out (zero_evalL l d))
      rw [← evalD_eq] at HZ
      have HKN : Hid (((evalL d l).map fun x => x.1).length ≤ 100000) := by
        show _ ≤ _
        have := evalL_len l d
        rw [List.length_map]
        omega
      have HKM : Hid (∀ x ∈ (evalL d l).map fun x => x.1, x.size ≤ maxLen) := by
        intro x hx
        obtain ⟨y, hy, rfl⟩ := List.mem_map.1 hx
        have := evalL_small l d HOK.out y hy
        unfold maxLen
        omega
      clear hT
      go_wp2_with (go_at_call 142; go_must (refine (swrites_any w.heap.size (w.heap.size + 1) n (evalD d l) ((evalL d l).map fun x => x.1) b wv _ HKN.out HKM.out HSTr.out).mono ?_; rw [HZ.out]; rintro e w2 ⟨v, rfl, h5, h6⟩; have HO2 := Lib.hid h5; have HB2 : Hid (Below w.heap.size w w2) := blThen HB.out h6; have HA2 := Lib.hid (HAN.out.kp (Kp.ofBelow (base := w.heap.size) h6)); clear h5 h6))
      refine bodyPost_ret (results_tmp2 rfl _ _ _) rfl ?_
      exact ⟨_, _, rs, rfl, HO2.out.mono HB.out.size, by have h9 := HA2.out; rw [← HN.out] at *; exact ⟨h9.row.mono HB1.out.size, h9.same, h9.prs⟩, HB2.out⟩
end SP
end Go.Proofs.YtjlkgbejldcklaaGreat
