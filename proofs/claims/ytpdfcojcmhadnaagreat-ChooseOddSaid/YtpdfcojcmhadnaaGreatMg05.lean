/- The reference's marks: the texts at which spans begin or end, rising, each once. Conditions: a list of at most a million spans. -/
import Derived.Deep.AppendLies
import Derived.BigQuiet
import Derived.Test.YtpdfcojcmhadnaaGreatMg03
import Derived.Test.YtpdfcojcmhadnaaGreatMg02
set_option maxRecDepth 100000
set_option maxHeartbeats 16000000
namespace Go.Proofs.YtpdfcojcmhadnaaGreat
namespace S3
open Go.RowKit
theorem blQ {w x : World} (h : Below w.heap.size w x) (n : Nat) : Below w.heap.size w (x.drewN n) := ⟨h.os, h.tape, h.output, h.size, h.block⟩
def Row1 (w : World) (g o : Nat) (l : List ByteArray) : Prop := ∀ (i : Nat) s, l[i]? = some s → w.cell? ⟨g, o + i, none⟩ = some (.string s)
def Tl (w : World) (v : Value) (l : List ByteArray) : Prop := ∃ a cap, v = .slice a l.length cap ∧ (a = none → cap = 0) ∧ (l ≠ [] → ∃ g o, a = some ⟨g, o, none⟩ ∧ g < w.heap.size ∧ Row1 w g o l)
theorem Row1.later {B : Nat} {W wr : World} {g o : Nat} {l : List ByteArray} (h : Row1 W g o l) (hb : g < B) (hw : Below B W wr) : Row1 wr g o l :=
 fun i s hi => cell_in hw hb (h i s hi)
theorem Tl.later {W wr : World} {v : Value} {l : List ByteArray} (h : Tl W v l) (hw : Below W.heap.size W wr) : Tl wr v l := by
 obtain ⟨a, cap, hv, hn, hr⟩ := h
 refine ⟨a, cap, hv, hn, fun hne => ?_⟩
 obtain ⟨g, o, ha, hg, hl⟩ := hr hne
 exact ⟨g, o, ha, Nat.lt_of_lt_of_le hg hw.size, hl.later hg hw⟩
theorem Tl.form {w : World} {v : Value} {l : List ByteArray} (h : Tl w v l) : ∃ a cap, v = .slice a l.length cap := by
 obtain ⟨a, cap, hv, _⟩ := h
 exact ⟨a, cap, hv⟩
theorem Tl.at {w : World} {a : Option Addr} {n cap : Nat} {l : List ByteArray} (h : Tl w (.slice a n cap) l) {k : Nat} {s : ByteArray} (hs : l[k]? = some s) :
  ∃ g o, a = some ⟨g, o, none⟩ ∧ g < w.heap.size ∧ w.cell? ⟨g, o + k, none⟩ = some (.string s) := by
 obtain ⟨a', cap', hv, hn, hr⟩ := h
 simp only [Value.slice.injEq] at hv
 obtain ⟨rfl, rfl, rfl⟩ := hv
 have hne : l ≠ [] := by rintro rfl; simp at hs
 obtain ⟨g, o, ha, hg, hl⟩ := hr hne
 exact ⟨g, o, ha, hg, hl k s hs⟩
def cellsT (l : List ByteArray) : List Value := l.map .string
theorem cellsT_length (l : List ByteArray) : (cellsT l).length = l.length := by simp [cellsT]
theorem cellsT_append (l r : List ByteArray) : cellsT (l ++ r) = cellsT l ++ cellsT r := by simp [cellsT]
theorem cellsT_at {l : List ByteArray} {i : Nat} {s : ByteArray} (h : l[i]? = some s) : (cellsT l)[i]? = some (.string s) := by simp [cellsT, h]
theorem cellsT_one (l : List ByteArray) : ∀ u ∈ cellsT l, u.oneCell' = true := by
 intro u hu
 obtain ⟨s, _, rfl⟩ := List.mem_map.1 hu
 rfl
theorem Row1.cells {w : World} {b o : Nat} {l : List ByteArray} (h : Row1 w b o l) : ∀ (j : Nat) (u : Value), (cellsT l)[j]? = some u → w.cell? ((⟨b, o, none⟩ : Addr).add j) = some u := by
 intro j u hj
 have hlt : j < l.length := by
  have := (List.getElem?_eq_some_iff.1 hj).1
  rwa [cellsT_length] at this
 obtain ⟨s, hs⟩ := at_lt hlt
 rw [Go.WideShapes.add_plain, h j s hs, ← cellsT_at hs, hj]
def OwnT (w : World) (base : Nat) (v : Value) (l : List ByteArray) : Prop := w.ownsRow base 9 1 v l.length (cellsT l)
theorem OwnT.row {w : World} {base : Nat} {v : Value} {l : List ByteArray} (h : OwnT w base v l) : (v = .slice none 0 0 ∧ l = []) ∨
  ∃ g cap, v = .slice (some ⟨g, 0, none⟩) l.length cap ∧ base ≤ g ∧ g < w.heap.size ∧ l.length ≤ cap ∧ cap ≤ 9223372036854775807 ∧ Row1 w g 0 l := by
 obtain ⟨h1, h2 | ⟨g, cap, cur, hv, hg, hh, hn, hm, hs, hx⟩⟩ := h
 ·obtain ⟨rfl, hl⟩ := h2
  exact .inl ⟨rfl, List.eq_nil_of_length_eq_zero hl⟩
 ·refine .inr ⟨g, cap, hv, hg, lt_of_block hh, hn, by unfold maxLen at hm; omega, fun i s hi => ?_⟩
  have hil := (List.getElem?_eq_some_iff.1 hi).1
  have c1 := cellsT_at hi
  rw [← hx] at c1
  rw [List.getElem?_take_of_lt (by omega)] at c1
  rw [Nat.zero_add]
  simp only [World.cell?, hh]; simpa using c1
theorem OwnT.tl {w : World} {base : Nat} {v : Value} {l : List ByteArray} (h : OwnT w base v l) : Tl w v l := by
 rcases h.row with ⟨rfl, rfl⟩ | ⟨g, cap, rfl, _, hg, _, _, hr⟩
 ·exact ⟨none, 0, rfl, fun _ => rfl, fun h => absurd rfl h⟩
 ·exact ⟨_, cap, rfl, fun h => (by cases h), fun _ => ⟨g, 0, rfl, hg, hr⟩⟩
theorem OwnT.later {W wr : World} {base : Nat} {v : Value} {l : List ByteArray} (h : OwnT W base v l) (hb : Below W.heap.size W wr) : OwnT wr base v l := by
 obtain ⟨h1, h2 | ⟨g, cap, cur, hv, hg, hh, hn, hm, hs, hx⟩⟩ := h
 ·exact ⟨h1, .inl h2⟩
 ·exact ⟨h1, .inr ⟨g, cap, cur, hv, hg, (hb.block g (lt_of_block hh)).trans hh, hn, hm, hs, hx⟩⟩
theorem OwnT.nil (w : World) (base : Nat) : OwnT w base (.slice none 0 0) [] := World.ownsRow_nil _ _ _ _
theorem OwnT.block {w : World} {base : Nat} {v : Value} {l : List ByteArray} (h : OwnT w base v l) : ∀ k, v.ownBlock = some k → base ≤ k := by
 intro k hk
 obtain ⟨h1, ⟨rfl, _⟩ | ⟨g, cap, cur, rfl, hg, _⟩⟩ := h
 ·simp [Value.ownBlock] at hk
 ·simp [Value.ownBlock] at hk
  omega
theorem OwnT.mono {w : World} {base B : Nat} {v : Value} {d : List ByteArray} (h : OwnT w B v d) (hb : base ≤ B) : OwnT w base v d := by
 obtain ⟨h1, h2 | ⟨g, cap, cur, hv, hg, rest⟩⟩ := h
 ·exact ⟨h1, .inl h2⟩
 ·exact ⟨h1, .inr ⟨g, cap, cur, hv, Nat.le_trans hb hg, rest⟩⟩
theorem OwnT.form {w : World} {base : Nat} {v : Value} {l : List ByteArray} (h : OwnT w base v l) : ∃ a cap, v = .slice a l.length cap := h.tl.form
theorem own_emptyT (w : World) : OwnT (w.alloc (.cells #[] 9)) w.heap.size (.slice (some ⟨w.heap.size, 0, none⟩) 0 0) [] := by
 refine ⟨rfl, .inr ⟨w.heap.size, 0, #[], rfl, Nat.le_refl _, ?_, Nat.le_refl _, Nat.zero_le _, rfl, rfl⟩⟩
 show (w.heap.push _)[w.heap.size]? = _
 simp
theorem own_emptyN (X : World) (n base : Nat) (h : X.heap.size = n) (hb : base ≤ n) : OwnT (X.alloc (.cells #[] 9)) base (.slice (some ⟨n, 0, none⟩) 0 0) [] := by
 subst h
 exact (own_emptyT X).mono hb
theorem info_str : (Tryz.prog.info? 9).map (fun i => (i.zero, i.size, i.bytes)) = some (some (.string ⟨#[]⟩), 1, 16) := by kernel_rfl
theorem wp_append_tx {w : World} {o : Oper} {a : Act} {K : Act → World → Prop} {Q : Exit → Act → World → Prop} (s x : Operand)
  (ho : o.op = .call { callee := .builtin .append, args := #[s, x], argTypes := #[102, 102] })
  (base : Nat) (v : Value) (d : List ByteArray) (hs : a.eval s = v) (hown : OwnT w base v d) (xv : Value) (l : List ByteArray) (hx : a.eval x = xv) (hsl : Tl w xv l)
  (hlen : d.length + l.length ≤ 4000000) (hbase : base ≤ w.heap.size)
  (h : ∀ v' w', OwnT w' base v' (d ++ l) → w.grownBy w' v.ownBlock → K (a.put o.dst v') w') : o.wp Tryz.prog a w K Q := by
 obtain ⟨i0, hi, hz0, hz1, hz2⟩ := info_parts info_str
 obtain ⟨ad, cap, rfl, hn, hr⟩ := hsl
 cases ad with
 | none =>
  obtain rfl : cap = 0 := hn rfl
  obtain rfl : l = [] := by
   apply Classical.byContradiction
   intro hne
   obtain ⟨_, _, h, _⟩ := hr hne
   cases h
  have hx' : a.eval x = .slice none 0 0 := hx
  have hrun := run_append_owned_none (P := Tryz.prog) (w := w) base 102 o.type 9 i0 1 Tryz.underlying102 hi v d.length (cellsT d) hown
  unfold Oper.wp
  simp [execOp, ho, resolve, invoke, builtin, hs, hx', hrun, Result.andThen]
  exact (h v w (by rw [List.append_nil]; exact hown) ⟨rfl, rfl, rfl, Nat.le_refl _, fun _ _ _ => rfl⟩)
 | some ad =>
  have hc : ∀ (j : Nat) (u : Value), (cellsT l)[j]? = some u → w.cell? (ad.add j) = some u := by
   intro j u hj
   have hne : l ≠ [] := by rintro rfl; simp [cellsT] at hj
   obtain ⟨g, o', ha, _, hrow⟩ := hr hne
   simp only [Option.some.injEq] at ha
   subst ha
   exact hrow.cells j u hj
  refine wp_append_own w s x 102 ho base 9 i0 (.string ⟨#[]⟩) 1 16 Tryz.underlying102 hi hz0 hz1 hz2 rfl (by decide) v d.length (cellsT d) hs hown ad l.length cap (cellsT l) hx (by rw [cellsT_length]; omega) hc (cellsT_one l) (by unfold maxLen; omega) (by omega) hbase ?_
  intro v' w' h2 h3 _
  refine h v' w' ?_ h3
  show w'.ownsRow base _ 1 v' _ _
  rw [List.length_append, cellsT_append]
  exact h2
theorem step_append_tx {w : World} {ops : Array Oper} {o : Oper} {a : Act} {K : Act → World → Prop} {Q : Exit → Act → World → Prop} {E : Prop} (hgd : o.guard = none) (s x : Operand)
  (ho : o.op = .call { callee := .builtin .append, args := #[s, x], argTypes := #[102, 102] })
  (base : Nat) (v : Value) (d : List ByteArray) (hs : a.eval s = v) (hown : OwnT w base v d) (xv : Value) (l : List ByteArray) (hx : a.eval x = xv) (hsl : Tl w xv l)
  (hlen : d.length + l.length ≤ 4000000) (hbase : base ≤ w.heap.size)
  (h : ∀ v' w', OwnT w' base v' (d ++ l) → w.grownBy w' v.ownBlock → K (a.put o.dst v') w') : if Region.wanted o (yielded ops a.tmps) = true then Oper.wp Tryz.prog o a w K Q else E := by
 have hw : Region.wanted o (yielded ops a.tmps) = true := by simp [Region.wanted, hgd]
 rw [if_pos hw]
 exact wp_append_tx s x ho base v d hs hown xv l hx hsl hlen hbase h
theorem grown_belowT {B base : Nat} {x w w' : World} {v : Value} {d : List ByteArray} (h : Below B x w) (hown : OwnT w base v d) (hB : B ≤ base) (hw : B ≤ w.heap.size) (hg : w.grownBy w' v.ownBlock) : Below B x w' :=
 h.grown hg hw (fun k hk => Nat.le_trans hB (hown.block k hk))
theorem one_newT (X : World) (s : ByteArray) (n : Nat) (h : X.heap.size = n) : Tl (X.alloc (.cells #[.string s] 9)) (.slice (some ⟨n, 0, none⟩) 1 1) [s] := by
 subst h
 refine ⟨_, 1, rfl, fun h => (by cases h), fun _ => ⟨X.heap.size, 0, rfl, by simp, fun i x hi => ?_⟩⟩
 cases i with
 | zero =>
  simp only [List.getElem?_cons_zero, Option.some.injEq] at hi
  subst hi
  exact (box1_new X _ _).c
 | succ i => simp at hi
theorem tl_take {w : World} {a : Option Addr} {n cap : Nat} {l : List ByteArray} (h : Tl w (.slice a n cap) l) (k : Nat) (hk : k ≤ l.length) : Tl w (.slice a k cap) (l.take k) := by
 obtain ⟨a', cap', hv, hn, hr⟩ := h
 simp only [Value.slice.injEq] at hv
 obtain ⟨rfl, rfl, rfl⟩ := hv
 refine ⟨a, cap, by rw [List.length_take, Nat.min_eq_left hk], hn, fun hne => ?_⟩
 have hl : l ≠ [] := by rintro rfl; simp at hne
 obtain ⟨g, o, ha, hg, hrow⟩ := hr hl
 refine ⟨g, o, ha, hg, fun i s hi => hrow i s ?_⟩
 have hik : i < k := by
  have := (List.getElem?_eq_some_iff.1 hi).1
  simp only [List.length_take] at this
  omega
 rwa [List.getElem?_take_of_lt hik] at hi
theorem tl_drop {w : World} {g o n cap : Nat} {l : List ByteArray} (h : Tl w (.slice (some ⟨g, o, none⟩) n cap) l) (k : Nat) (c : Nat) (m : Nat) (hm : m = (l.drop k).length) : Tl w (.slice (some ⟨g, o + k, none⟩) m c) (l.drop k) := by
 obtain ⟨a', cap', hv, hn, hr⟩ := h
 simp only [Value.slice.injEq] at hv
 obtain ⟨rfl, rfl, rfl⟩ := hv
 subst hm
 refine ⟨_, c, rfl, fun h => (by cases h), fun hne => ?_⟩
 have hl : l ≠ [] := by rintro rfl; simp at hne
 obtain ⟨g', o', ha, hg, hrow⟩ := hr hl
 simp only [Option.some.injEq, Addr.mk.injEq, and_true] at ha
 obtain ⟨rfl, rfl⟩ := ha
 refine ⟨g, o + k, rfl, hg, fun i s hi => ?_⟩
 rw [List.getElem?_drop] at hi
 have := hrow (k + i) s hi
 rwa [show o + (k + i) = o + k + i by omega] at this
theorem tl_empty (w : World) (a : Option Addr) (c : Nat) (h : a = none → c = 0) : Tl w (.slice a 0 c) [] := ⟨a, c, rfl, h, fun h => absurd rfl h⟩
theorem tl_grown {w w' : World} {v xv : Value} {a : Option Addr} {n c : Nat} {l : List ByteArray} (h : Tl w xv l) (hv : xv = .slice a n c) (hg : w.grownBy w' v.ownBlock) (hne : ∀ g o, a = some ⟨g, o, none⟩ → v.ownBlock ≠ some g) : Tl w' xv l := by
 obtain ⟨a', cap', hv', hn, hr⟩ := h
 rw [hv] at hv'
 simp only [Value.slice.injEq] at hv'
 obtain ⟨rfl, rfl, rfl⟩ := hv'
 refine ⟨a, c, hv, hn, fun hl => ?_⟩
 obtain ⟨g, o, ha, hgl, hrow⟩ := hr hl
 refine ⟨g, o, ha, Nat.lt_of_lt_of_le hgl hg.size, fun i s hi => ?_⟩
 have hb := hg.block g hgl (fun e => hne g o ha e.symm)
 have := hrow i s hi
 simp only [World.cell?, hb] at *
 exact this

theorem refin_any (s : Sp) (k : ByteArray) (w : World) :
  Calls Tryz.prog 92 #[.agg #[.string s.1, .string s.2], .string k] w fun e w' => e = .returned (.bool (inS s k)) ∧ w' = w.alloc (.cells #[.string s.1, .string s.2] 57) := by
 generalize hv : inS s k = v
 have HV := Lib.hid hv
 clear hv
 cases h1 : ltT k s.1 <;> cases h2 : noT s.2
 ·have hf : inS s k = ltT k s.2 := by simp [inS, h1, h2]
  have HF := Lib.hid (HV.out.symm.trans hf)
  have t1 : Op.bytesLess k.toList s.1.toList = false := h1
  have t2 : s.2.toList.isEmpty = false := h2
  clear h1 h2 hf
  go_enter Tryz.func92, Tryz.ntmps92
  go_wp2
  go_ret
  exact ⟨ret_bool HF.out.symm, rfl⟩
 ·have hf : inS s k = true := by simp [inS, h1, h2]
  have HF := Lib.hid (HV.out.symm.trans hf)
  have t1 : Op.bytesLess k.toList s.1.toList = false := h1
  have t2 : s.2.toList.isEmpty = true := h2
  clear h1 h2 hf
  go_enter Tryz.func92, Tryz.ntmps92
  go_wp2
  go_ret
  exact ⟨ret_bool HF.out.symm, rfl⟩
 all_goals
  have hf : inS s k = false := by simp [inS, h1]
  have HF := Lib.hid (HV.out.symm.trans hf)
  have t1 : Op.bytesLess k.toList s.1.toList = true := h1
  clear h1 h2 hf
  go_enter Tryz.func92, Tryz.ntmps92
  go_wp2
  go_ret
  exact ⟨ret_bool HF.out.symm, rfl⟩
theorem memL_take {l : List Sp} {k : ByteArray} (i : Nat) {s : Sp} (hs : l[i]? = some s) (h : memL (l.take i) k = false) (hn : inS s k = false) : memL (l.take (i + 1)) k = false := by
 rw [List.take_add_one, hs, memL_append, h]
 simp [memL_cons, memL_nil, hn]
theorem memL_found {l : List Sp} {k : ByteArray} {i : Nat} {s : Sp} (hs : l[i]? = some s) (hn : inS s k = true) : memL l k = true := memL_true.2 ⟨s, List.mem_of_getElem? hs, hn⟩
theorem refhas_any (va : Value) (l : List Sp) (k : ByteArray) (w : World) (hlen : l.length ≤ 1000000) (ha : Sl w va l) :
  Calls Tryz.prog 71 #[va, .string k] w fun e w' => e = .returned (.bool (memL l k)) ∧ Below w.heap.size w w' := by
 obtain ⟨aa, ca, rfl⟩ := ha.form
 have HA := Lib.hid ha
 clear ha
 generalize hv : memL l k = v
 have HV := Lib.hid hv
 clear hv
 go_enter Tryz.func71, Tryz.ntmps71
 go_wp2
 go_loopw [5] (fun i wr => ∃ q : Nat, q ≤ l.length ∧ i = .int .i64 q ∧ memL (l.take q) k = false ∧ Below w.heap.size w wr) (fun i _ => l.length - (RowKit.intOf i).toNat)
 case atStart => exact ⟨0, Nat.zero_le _, rfl, rfl, Below.refl _ _⟩
 case round =>
  obtain ⟨q, hq, rfl, hno, hb⟩ := hrel
  have HNO := Lib.hid hno
  have HB := Lib.hid hb
  by_cases hlt : q < l.length
  ·obtain ⟨s, hs⟩ := at_lt hlt
   obtain ⟨g, o, rfl, hg, c0, c1⟩ := HA.out.at hs
   replace c0 := cell_in hb hg c0
   replace c1 := cell_in hb hg c1
   have hgw := Nat.lt_of_lt_of_le hg hb.size
   cases hi : inS s k
   ·have HI := Lib.hid hi
    have HN := Lib.hid (memL_take q hs hno hi)
    clear hs hno hb hi
    go_wp2_with (go_at_call 92; refine (refin_any s k _).mono ?_; rintro e w2 ⟨rfl, rfl⟩; rw [HI.out])
    go_roundw
    case rel => exact ⟨q + 1, hlt, by go_num, HN.out, blAlloc HB.out _⟩
    case measure => simp [RowKit.intOf]; omega
   ·have HI := Lib.hid hi
    have HN := Lib.hid (memL_found hs hi)
    clear hs hno hb hi
    go_wp2_with (go_at_call 92; refine (refin_any s k _).mono ?_; rintro e w2 ⟨rfl, rfl⟩; rw [HI.out])
    go_ret
    exact ⟨ret_bool (HN.out.symm.trans HV.out), blAlloc HB.out _⟩
  ·obtain rfl : q = l.length := by omega
   have HF : Hid (memL l k = false) := by have h := HNO.out; rwa [List.take_length] at h
   clear hno hb
   go_wp2
   go_ret
   exact ⟨ret_bool (HF.out.symm.trans HV.out), HB.out⟩

structure Aft (w : World) where
 x : World
 h : Below w.heap.size w x
instance Aft.some (w : World) : Nonempty (Aft w) := ⟨⟨w, Below.refl _ _⟩⟩
theorem Aft.cell {w : World} (y : Aft w) (n i : Nat) (hn : n < w.heap.size) : y.x.cell? ⟨n, i, none⟩ = w.cell? ⟨n, i, none⟩ := y.h.cell (p := ⟨n, i, none⟩) hn
theorem Aft.frozen {w : World} (y : Aft w) (n i : Nat) (hn : n < w.heap.size) : y.x.frozen? ⟨n, i, none⟩ = w.frozen? ⟨n, i, none⟩ := y.h.frozen (p := ⟨n, i, none⟩) hn
theorem Aft.lt {w : World} (y : Aft w) (n : Nat) (hn : n < w.heap.size) : n < y.x.heap.size := Nat.lt_of_lt_of_le hn y.h.size
attribute [go_sem] Aft.cell Aft.frozen
theorem region_aft {P : Program} {id : Nat} {Q : Exit → Act → World → Prop} {a : Act} {w : World} {l : List Oper} (hm : P.follows .mixedOrders = true) (hB : Region.lexB .any l.toArray = true)
  (h : wpQuiet P l.toArray (fun w' => ∃ y : Aft w, w' = y.x) (fun a' => ∀ w', (∃ y : Aft w, w' = y.x) → Q .normal a' w') l a) : (Code.region id l.toArray true).wp P Q a w :=
 wp_region_quiet (C := fun w' => ∃ y : Aft w, w' = y.x) hm hB ⟨⟨{ w with drawn := w.drawn + 1 }, ⟨rfl, rfl, rfl, Nat.le_refl _, fun _ _ => rfl⟩⟩, rfl⟩ (by simpa using h)
theorem aft_of {P : Program} {f : FuncId} {args : Array Value} {w : World} {y : Aft w} {v : Value} (h : Calls P f args y.x fun e w' => e = .returned v ∧ Below y.x.heap.size y.x w') :
  Calls P f args y.x fun e w'' => e = .returned v ∧ ∃ z : Aft w, w'' = z.x :=
 h.mono fun _ w'' ⟨he, hb⟩ => ⟨he, ⟨w'', y.h.trans (hb.mono y.h.size)⟩, rfl⟩

set_option linter.unusedVariables false
set_option linter.unusedSimpArgs false
theorem Row1.two {W : World} {b : Nat} {x y : ByteArray} (h : W.heap[b]? = some (.cells #[.string x, .string y] 9 (0, 0))) : W.cell? ⟨b, 0, none⟩ = some (.string x) ∧ W.cell? ⟨b, 1, none⟩ = some (.string y) := by
 constructor <;> simp [World.cell?, h]
theorem keepS {w w' : World} {g o i : Nat} {s1 s2 : Value} (h : Below w.heap.size w w') (hg : g < w.heap.size) (c0 : w.cell? ⟨g, o + i * 2, none⟩ = some s1) (c1 : w.cell? ⟨g, o + i * 2 + 1, none⟩ = some s2) :
  Below w.heap.size w w' ∧ w'.cell? ⟨g, o + i * 2, none⟩ = some s1 ∧ w'.cell? ⟨g, o + i * 2 + 1, none⟩ = some s2 := ⟨h, cell_in h hg c0, cell_in h hg c1⟩
theorem keepT {w w' : World} {b i : Nat} {v : Value} (h : Below w.heap.size w w') (hb : b < w.heap.size) (c : w.cell? ⟨b, i, none⟩ = some v) : Below w.heap.size w w' ∧ w'.cell? ⟨b, i, none⟩ = some v := ⟨h, cell_in h hb c⟩
theorem ins_eq (a b : List ByteArray) (x : ByteArray) : [] ++ a ++ [x] ++ b = a ++ ([x] ++ b) := by simp
def midT (m : List ByteArray) (s : Sp) (q : Nat) : List ByteArray := if q = 0 then m else if q = 1 then insT s.1 m else markS m s
theorem midT_len (m : List ByteArray) (s : Sp) (q : Nat) : (midT m s q).length ≤ m.length + 2 := by
 unfold midT
 have h1 := insT_len s.1 m
 have h2 := markS_len m s
 split
 ·omega
 ·split <;> omega
theorem marks_any (va : Value) (l : List Sp) (w : World) (hlen : l.length ≤ 1000000) (ha : Sl w va l) :
  Calls Tryz.prog 70 #[va] w fun e w' => ∃ v, e = .returned v ∧ OwnT w' w.heap.size v (marksL l) ∧ Below w.heap.size w w' := by
 obtain ⟨aa, ca, rfl⟩ := ha.form
 have HA := Lib.hid ha
 clear ha
 go_enter Tryz.func70, Tryz.ntmps70
 go_wp2
 go_loopw [3, 4] (fun v i wr => ∃ k : Nat, k ≤ l.length ∧ i = .int .i64 k ∧ OwnT wr w.heap.size v (marksL (l.take k)) ∧ Below w.heap.size w wr) (fun _ i _ => l.length - (RowKit.intOf i).toNat)
 case atStart => exact ⟨0, Nat.zero_le _, rfl, OwnT.nil _ _, Below.refl _ _⟩
 case round =>
  obtain ⟨k, hk, rfl, ho, hb⟩ := hrel
  have HO := Lib.hid ho
  have HB := Lib.hid hb
  by_cases hlt : k < l.length
  ·obtain ⟨s, hs⟩ := at_lt hlt
   obtain ⟨g, o, rfl, hg, c0, c1⟩ := HA.out.at hs
   replace c0 := cell_in hb hg c0
   replace c1 := cell_in hb hg c1
   have hgw := Nat.lt_of_lt_of_le hg hb.size
   have HM : Hid (marksL (l.take (k + 1)) = markS (marksL (l.take k)) s) := marksL_take hs
   have HML : Hid ((marksL (l.take k)).length ≤ 2000000) := Nat.le_trans (marksL_len _) (by simp; omega)
   have hk0 : (0 : Int) ≤ (k : Int) := by omega
   have hk1 : (k : Int) < (l.length : Int) := by omega
   obtain ⟨av, cv, rfl⟩ := ho.form
   generalize marksL (l.take k) = m at *
   clear hs hb ho
   go_wp2
   go_region_held3 (fun w' => Below wr.heap.size wr w' ∧ w'.cell? ⟨g, o + k * 2, none⟩ = some (.string s.1) ∧ w'.cell? ⟨g, o + k * 2 + 1, none⟩ = some (.string s.2)) ((refine keepS ?_ hgw c0 c1; repeat (first | exact Below.refl _ _ | refine blAlloc ?_ _ | refine blQ ?_ _ | refine Below.drew ?_))) (fail)
   have hbw := (blAlloc (Below.refl wr.heap.size wr) (.cells #[.string s.1, .string s.2] 9)).drew
   have hblk : ((wr.alloc (.cells #[.string s.1, .string s.2] 9)).drew).heap[wr.heap.size]? = some (.cells #[.string s.1, .string s.2] 9 (0, 0)) := by
    show (wr.heap.push _)[wr.heap.size]? = _
    simp
   generalize (wr.alloc (.cells #[.string s.1, .string s.2] 9)).drew = W1 at hbw hblk ⊢
   have HO1 := Lib.hid (HO.out.later hbw)
   have HB1 := Lib.hid (HB.out.trans (hbw.mono HB.out.size))
   obtain ⟨Bb, hBb⟩ : ∃ Bb, wr.heap.size = Bb := ⟨_, rfl⟩
   rw [hBb] at hblk ⊢
   have hBl := lt_of_block hblk
   have HBLK := Lib.hid hblk
   clear hbw hblk hBb c0 c1 HO HB hgw
   go_wp2
   go_loopw [3, 6] (fun v j w2 => ∃ q : Nat, q ≤ 2 ∧ j = .int .i64 q ∧ OwnT w2 w.heap.size v (midT m s q) ∧ Below W1.heap.size W1 w2) (fun _ j _ => 2 - (RowKit.intOf j).toNat)
   case atStart => exact ⟨0, by omega, rfl, HO1.out, Below.refl _ _⟩
   case round =>
    obtain ⟨w2, rfl⟩ : ∃ w2 : World, w2 = wr := ⟨_, rfl⟩
    obtain ⟨q, hq, rfl, ho, hb⟩ := hrel
    have HO2 := Lib.hid ho
    have HB2 := Lib.hid hb
    have hm2 : (midT m s q).length ≤ 2000002 := Nat.le_trans (midT_len m s q) (by have := HML.out; omega)
    obtain ⟨e0, e1⟩ := Row1.two ((hb.block Bb hBl).trans HBLK.out)
    have hBl2 := Nat.lt_of_lt_of_le hBl hb.size
    clear hb ho HO1
    match q, hq with
    | 2, _ =>
     have e2 : midT m s 2 = markS m s := rfl
     rw [e2] at HO2
     obtain ⟨av2, cv2, rfl⟩ := HO2.out.form
     clear e0 e1 hm2
     go_wp2
     go_roundw
     case rel => exact ⟨k + 1, hlt, by go_num, by rw [HM.out]; exact HO2.out, HB1.out.trans (HB2.out.mono HB1.out.size)⟩
     case measure => simp [RowKit.intOf]; omega
    | 0, _ =>
     have HMM : Hid (midT m s 1 = insT s.1 (midT m s 0)) := rfl
     generalize midT m s 0 = mm at *
     obtain ⟨av2, cv2, rfl⟩ := HO2.out.form
     clear e1
     go_wp2
     go_loopw [7] (fun kk w3 => ∃ r : Nat, r ≤ mm.length ∧ kk = .int .i64 r ∧ (∀ (j : Nat) y, j < r → mm[j]? = some y → ltT y s.1 = true) ∧ Below w2.heap.size w2 w3) (fun kk _ => mm.length - (RowKit.intOf kk).toNat)
     case atStart => exact ⟨0, Nat.zero_le _, rfl, fun j y h => absurd h (Nat.not_lt_zero _), Below.refl _ _⟩
     case round =>
      obtain ⟨w3, rfl⟩ : ∃ w3 : World, w3 = wr := ⟨_, rfl⟩
      obtain ⟨r, hr, rfl, hpre, hb3⟩ := hrel
      have HPRE := Lib.hid hpre
      have HB3 := Lib.hid (HB2.out.trans (hb3.mono HB2.out.size))
      have HO3 := Lib.hid (HO2.out.later hb3)
      have HB23 := Lib.hid hb3
      have f0 := cell_in hb3 hBl2 e0
      have hBl3 := Nat.lt_of_lt_of_le hBl2 hb3.size
      clear hpre hb3
      by_cases hrl : r < mm.length
      ·obtain ⟨y, hy⟩ := at_lt hrl
       rcases HO3.out.row with ⟨_, hnil⟩ | ⟨g2, cap, he, hg2, hg2w, hn2, hcm2, hrow⟩
       ·rw [hnil] at hrl
        exact absurd hrl (Nat.not_lt_zero _)
       ·simp only [Value.slice.injEq, true_and] at he
        obtain ⟨rfl, rfl⟩ := he
        have cy := hrow r y hy
        rw [Nat.zero_add] at cy
        have HY := Lib.hid hy
        have hd : decide ((r : Int) < (mm.length : Int)) = true := decide_eq_true (by omega)
        have hr0 : (0 : Int) ≤ (r : Int) := by omega
        have hr1 : (r : Int) < (mm.length : Int) := by omega
        have hreq : ((r : Int) == (mm.length : Int)) = false := by simp; omega
        clear hrow hy
        cases hyx : ltT y s.1
        ·have HINS : Hid (insT s.1 mm = if mm[r]? = some s.1 then mm else mm.take r ++ ([s.1] ++ mm.drop r)) := insT_at s.1 mm r HPRE.out (fun z hz => by
          rw [HY.out] at hz
          cases hz
          exact hyx) hr
         have hlx : Op.bytesLess y.toList s.1.toList = false := hyx
         clear hyx
         go_wp2
         go_quiet (fail)
         have hbQ : Below w3.heap.size w3 (w3.drewN nq) := blQ (Below.refl _ _) nq
         generalize w3.drewN nq = w4 at hbQ ⊢
         clear nq
         have f0' := cell_in hbQ hBl3 f0
         have cy' := cell_in hbQ hg2w cy
         have hBl4 := Nat.lt_of_lt_of_le hBl3 hbQ.size
         have hg2w4 := Nat.lt_of_lt_of_le hg2w hbQ.size
         have HB4 := Lib.hid (HB3.out.trans (hbQ.mono HB3.out.size))
         have HO4 := Lib.hid (HO3.out.later hbQ)
         clear f0 cy hbQ hBl3 hg2w
         cases heq : (y.toList == s.1.toList)
         ·have HIN2 : Hid (insT s.1 mm = mm.take r ++ ([s.1] ++ mm.drop r)) := by
           show _ = _
           rw [HINS.out, if_neg]
           rw [HY.out]
           intro e
           cases e
           simp at heq
          go_wp2
          go_quiet (fail)
          have hbQ : Below w4.heap.size w4 (w4.drewN nq) := blQ (Below.refl _ _) nq
          generalize w4.drewN nq = w5 at hbQ ⊢
          clear nq
          have fx := cell_in hbQ hBl4 f0'
          have hBl5 := Nat.lt_of_lt_of_le hBl4 hbQ.size
          have hg2w5 := Nat.lt_of_lt_of_le hg2w4 hbQ.size
          have HB5 := Lib.hid (HB4.out.trans (hbQ.mono HB4.out.size))
          have HO5 := Lib.hid (HO4.out.later hbQ)
          have hcr : ¬ cv2 = r := by omega
          clear f0' cy' hbQ hBl4 hg2w4 heq
          go_wp2
          have HT1 : Hid (Tl w5 (.slice (some ⟨g2, 0, none⟩) r cv2) (mm.take r)) := tl_take HO5.out.tl r (by omega)
          have HT2 : Hid (Tl w5 (.slice (some ⟨g2, r, none⟩) (mm.length - r) (cv2 - r)) (mm.drop r)) := by have h := tl_drop HO5.out.tl r (cv2 - r) (mm.length - r) (by rw [List.length_drop]); rwa [Nat.zero_add] at h
          have hkc : (r : Int) ≤ (cv2 : Int) := by omega
          have hkl : (r : Int) ≤ (mm.length : Int) := by omega
          have HLT : Hid ((mm.take r).length = r) := by show (mm.take r).length = r; rw [List.length_take]; first | omega | rfl
          have HLD : Hid ((mm.drop r).length = mm.length - r) := by show _ = _; rw [List.length_drop]
          go_region_held3 (fun w' => Below w5.heap.size w5 w' ∧ w'.cell? ⟨Bb, 0, none⟩ = some (.string s.1)) ((refine keepT ?_ hBl5 fx; (repeat (first | assumption | exact Below.refl _ _ | refine blAlloc ?_ _ | refine blQ ?_ _ | refine Below.drew ?_))))
           (first
            | (refine step_append_tx (w := (w5.alloc (.cells #[] 9)).drew) (by rfl) (.tmp 69) (.tmp 72) (by rfl) w5.heap.size _ [] (by rfl) ((own_emptyN w5 w5.heap.size w5.heap.size rfl (Nat.le_refl _)).later (by repeat (first | exact Below.refl _ _ | refine blAlloc ?_ _ | refine blQ ?_ _ | refine Below.drew ?_))) _ (mm.take r) (by rfl) (HT1.out.later (by repeat (first | exact Below.refl _ _ | refine blAlloc ?_ _ | refine blQ ?_ _ | refine Below.drew ?_))) (by have := HLT.out; simp only [List.length_nil]; omega) (by simp <;> omega) ?_; intro v1 w6 h1 h2; have H1 := Lib.hid h1; have hbS : Below w5.heap.size w5 w6 := grown_belowT (B := w5.heap.size) (x := w5) (by repeat (first | exact Below.refl _ _ | refine blAlloc ?_ _ | refine blQ ?_ _ | refine Below.drew ?_)) ((own_emptyN w5 w5.heap.size w5.heap.size rfl (Nat.le_refl _)).later (by repeat (first | exact Below.refl _ _ | refine blAlloc ?_ _ | refine blQ ?_ _ | refine Below.drew ?_))) (Nat.le_refl _) (by simp <;> omega) h2; clear h1 h2)
            | (refine step_append_tx (w := ((w5.alloc (.cells #[] 9)).alloc (.cells #[.string s.1] 9)).drew) (by rfl) (.tmp 69) (.tmp 72) (by rfl) w5.heap.size _ [] (by rfl) ((own_emptyN w5 w5.heap.size w5.heap.size rfl (Nat.le_refl _)).later (by repeat (first | exact Below.refl _ _ | refine blAlloc ?_ _ | refine blQ ?_ _ | refine Below.drew ?_))) _ (mm.take r) (by rfl) (HT1.out.later (by repeat (first | exact Below.refl _ _ | refine blAlloc ?_ _ | refine blQ ?_ _ | refine Below.drew ?_))) (by have := HLT.out; simp only [List.length_nil]; omega) (by simp <;> omega) ?_; intro v1 w6 h1 h2; have H1 := Lib.hid h1; have hbS : Below w5.heap.size w5 w6 := grown_belowT (B := w5.heap.size) (x := w5) (by repeat (first | exact Below.refl _ _ | refine blAlloc ?_ _ | refine blQ ?_ _ | refine Below.drew ?_)) ((own_emptyN w5 w5.heap.size w5.heap.size rfl (Nat.le_refl _)).later (by repeat (first | exact Below.refl _ _ | refine blAlloc ?_ _ | refine blQ ?_ _ | refine Below.drew ?_))) (Nat.le_refl _) (by simp <;> omega) h2; have HX := Lib.hid (tl_grown ((one_newT (w5.alloc (.cells #[] 9)) s.1 (w5.heap.size + 1) (by simp)).later (wr := ((w5.alloc (.cells #[] 9)).alloc (.cells #[.string s.1] 9)).drew) (by repeat (first | exact Below.refl _ _ | refine blAlloc ?_ _ | refine blQ ?_ _ | refine Below.drew ?_))) rfl h2 (fun g o hgo => by simp only [Option.some.injEq, Addr.mk.injEq] at hgo; simp [Value.ownBlock]; omega)); clear h1 h2)
            | (refine step_append_tx (w := ((w5.alloc (.cells #[.string s.1] 9)).alloc (.cells #[] 9)).drew) (by rfl) (.tmp 69) (.tmp 72) (by rfl) w5.heap.size _ [] (by rfl) ((own_emptyN (w5.alloc (.cells #[.string s.1] 9)) (w5.heap.size + 1) w5.heap.size (by simp) (by omega)).later (by repeat (first | exact Below.refl _ _ | refine blAlloc ?_ _ | refine blQ ?_ _ | refine Below.drew ?_))) _ (mm.take r) (by rfl) (HT1.out.later (by repeat (first | exact Below.refl _ _ | refine blAlloc ?_ _ | refine blQ ?_ _ | refine Below.drew ?_))) (by have := HLT.out; simp only [List.length_nil]; omega) (by simp <;> omega) ?_; intro v1 w6 h1 h2; have H1 := Lib.hid h1; have hbS : Below w5.heap.size w5 w6 := grown_belowT (B := w5.heap.size) (x := w5) (by repeat (first | exact Below.refl _ _ | refine blAlloc ?_ _ | refine blQ ?_ _ | refine Below.drew ?_)) ((own_emptyN (w5.alloc (.cells #[.string s.1] 9)) (w5.heap.size + 1) w5.heap.size (by simp) (by omega)).later (by repeat (first | exact Below.refl _ _ | refine blAlloc ?_ _ | refine blQ ?_ _ | refine Below.drew ?_))) (Nat.le_refl _) (by simp <;> omega) h2; have HX := Lib.hid (tl_grown ((one_newT w5 s.1 w5.heap.size rfl).later (wr := ((w5.alloc (.cells #[.string s.1] 9)).alloc (.cells #[] 9)).drew) (by repeat (first | exact Below.refl _ _ | refine blAlloc ?_ _ | refine blQ ?_ _ | refine Below.drew ?_))) rfl h2 (fun g o hgo => by simp only [Option.some.injEq, Addr.mk.injEq] at hgo; simp [Value.ownBlock]; omega)); clear h1 h2)
            | (refine step_append_tx (by rfl) (.tmp 73) (.tmp 78) (by rfl) w5.heap.size _ ([] ++ mm.take r) (by rfl) (H1.out.later (blAlloc (Below.refl w6.heap.size w6) (.cells #[.string s.1] 9))) _ [s.1] (by rfl) (one_newT w6 s.1 _ rfl) (by have := HLT.out; simp only [List.nil_append, List.length_cons, List.length_nil]; omega) (by have := hbS.size; simp; omega) ?_; intro v2 w7 h1 h2; have H2 := Lib.hid h1; have hbS2 : Below w5.heap.size w5 w7 := grown_belowT (B := w5.heap.size) (x := w5) (by first | exact hbS | exact blAlloc hbS _) (H1.out.later (blAlloc (Below.refl w6.heap.size w6) (.cells #[.string s.1] 9))) (Nat.le_refl _) (by have := hbS.size; simp; omega) h2; clear h1 h2)
            | (refine step_append_tx (by rfl) (.tmp 73) (.tmp 78) (by rfl) w5.heap.size _ ([] ++ mm.take r) (by rfl) (H1.out) _ [s.1] (by rfl) (HX.out) (by have := HLT.out; simp only [List.nil_append, List.length_cons, List.length_nil]; omega) (by have := hbS.size; simp; omega) ?_; intro v2 w7 h1 h2; have H2 := Lib.hid h1; have hbS2 : Below w5.heap.size w5 w7 := grown_belowT (B := w5.heap.size) (x := w5) (by first | exact hbS | exact blAlloc hbS _) (H1.out) (Nat.le_refl _) (by have := hbS.size; simp; omega) h2; clear h1 h2)
            | (refine step_append_tx (by rfl) (.tmp 79) (.tmp 82) (by rfl) w5.heap.size _ ([] ++ mm.take r ++ [s.1]) (by rfl) (H2.out) _ (mm.drop r) (by rfl) (HT2.out.later hbS2) (by first | (simp; done) | (have := HLT.out; have := HLD.out; simp only [List.nil_append, List.length_append, List.length_cons, List.length_nil]; omega)) hbS2.size ?_; intro v3 w8 h1 h2; have H3 := Lib.hid h1; have hbS3 : Below w5.heap.size w5 w8 := grown_belowT (B := w5.heap.size) (x := w5) hbS2 H2.out (Nat.le_refl _) hbS2.size h2; clear h1 h2))
          all_goals
           have HFIN : Hid (OwnT w8 w.heap.size v3 (midT m s 1)) := by
            show OwnT _ _ _ _
            rw [HMM.out, HIN2.out]
            have h := H3.out.mono (Nat.le_trans HB1.out.size HB5.out.size)
            rwa [ins_eq] at h
           have HBF := Lib.hid (HB5.out.trans (hbS3.mono HB5.out.size))
           clear hbS hbS2 hbS3
           go_wp2
           go_roundw
           case rel => exact ⟨1, by omega, by go_num, HFIN.out, HBF.out⟩
           case measure => simp [RowKit.intOf]
         ·have HEQ : Hid (insT s.1 mm = mm) := by
           show insT s.1 mm = mm
           have e : y = s.1 := text_ext (by simpa using heq)
           rw [HINS.out, if_pos]
           rw [HY.out, e]
          go_wp2
          go_quiet (fail)
          have hbQ : Below w4.heap.size w4 (w4.drewN nq) := blQ (Below.refl _ _) nq
          generalize w4.drewN nq = w5 at hbQ ⊢
          clear nq
          go_wp2
          go_roundw
          case rel => exact ⟨1, by omega, by go_num, by rw [HMM.out, HEQ.out]; exact HO4.out.later hbQ, HB4.out.trans (hbQ.mono HB4.out.size)⟩
          case measure => simp [RowKit.intOf]
        ·have hlx : Op.bytesLess y.toList s.1.toList = true := hyx
         have HLX := Lib.hid hyx
         clear hyx
         go_wp2
         go_quiet (fail)
         have hbX : Below w2.heap.size w2 (w3.drewN nq) := HB23.out.trans ((blQ (Below.refl _ _) nq).mono HB23.out.size)
         go_wp2
         go_roundw
         case rel => exact ⟨r + 1, hrl, by go_num, fun j u hj hu => by
          rcases Nat.lt_or_ge j r with h | h
          ·exact HPRE.out j u h hu
          ·obtain rfl : j = r := by omega
           rw [HY.out] at hu
           cases hu
           exact HLX.out, hbX⟩
         case measure => simp [RowKit.intOf]; omega
      ·obtain rfl : r = mm.length := by omega
       have HIN2 : Hid (insT s.1 mm = mm.take mm.length ++ ([s.1] ++ mm.drop mm.length)) := by
        show _ = _
        rw [insT_at s.1 mm mm.length HPRE.out (fun z hz => by simp at hz) (Nat.le_refl _), if_neg (by simp)]
       have hd : decide ((mm.length : Int) < (mm.length : Int)) = false := by simp
       have hreq : ((mm.length : Int) == (mm.length : Int)) = true := by simp
       go_wp2
       go_quiet (fail)
       have hbQ : Below w3.heap.size w3 (w3.drewN nq) := blQ (Below.refl _ _) nq
       generalize w3.drewN nq = w4 at hbQ ⊢
       clear nq
       have f0' := cell_in hbQ hBl3 f0
       have hBl4 := Nat.lt_of_lt_of_le hBl3 hbQ.size
       have HB4 := Lib.hid (HB3.out.trans (hbQ.mono HB3.out.size))
       have HO4 := Lib.hid (HO3.out.later hbQ)
       clear f0 hbQ hBl3
       go_wp2
       go_quiet (fail)
       have hbQ : Below w4.heap.size w4 (w4.drewN nq) := blQ (Below.refl _ _) nq
       generalize w4.drewN nq = w5 at hbQ ⊢
       clear nq
       have fx := cell_in hbQ hBl4 f0'
       have hBl5 := Nat.lt_of_lt_of_le hBl4 hbQ.size
       have HB5 := Lib.hid (HB4.out.trans (hbQ.mono HB4.out.size))
       have HO5 := Lib.hid (HO4.out.later hbQ)
       clear f0' hbQ hBl4
       rcases HO5.out.row with ⟨he, hnil⟩ | ⟨g2, cap, he, hg2, hg2w5, hn2, hcm2, _⟩
       ·simp only [Value.slice.injEq] at he
        obtain ⟨rfl, hl0, rfl⟩ := he
        subst hnil
        rw [List.length_nil] at HIN2 HO5 ⊢
        clear hm2 hr hd hreq hrl hl0
        go_wp2
        have HT1 : Hid (Tl w5 (.slice none 0 0) (([] : List ByteArray).take 0)) := tl_empty w5 none 0 (fun _ => rfl)
        have HT2 : Hid (Tl w5 (.slice none 0 0) (([] : List ByteArray).drop 0)) := tl_empty w5 none 0 (fun _ => rfl)
        have HLT : Hid ((([] : List ByteArray).take 0).length = 0) := by show (([] : List ByteArray).take 0).length = 0; rw [List.length_take]; first | omega | rfl
        have HLD : Hid ((([] : List ByteArray).drop 0).length = ([] : List ByteArray).length - 0) := by show _ = _; rw [List.length_drop]
        go_region_held3 (fun w' => Below w5.heap.size w5 w' ∧ w'.cell? ⟨Bb, 0, none⟩ = some (.string s.1)) ((refine keepT ?_ hBl5 fx; (repeat (first | assumption | exact Below.refl _ _ | refine blAlloc ?_ _ | refine blQ ?_ _ | refine Below.drew ?_))))
         (first
          | (refine step_append_tx (w := (w5.alloc (.cells #[] 9)).drew) (by rfl) (.tmp 69) (.tmp 72) (by rfl) w5.heap.size _ [] (by rfl) ((own_emptyN w5 w5.heap.size w5.heap.size rfl (Nat.le_refl _)).later (by repeat (first | exact Below.refl _ _ | refine blAlloc ?_ _ | refine blQ ?_ _ | refine Below.drew ?_))) _ (([] : List ByteArray).take 0) (by rfl) (HT1.out.later (by repeat (first | exact Below.refl _ _ | refine blAlloc ?_ _ | refine blQ ?_ _ | refine Below.drew ?_))) (by have := HLT.out; simp only [List.length_nil]; omega) (by simp <;> omega) ?_; intro v1 w6 h1 h2; have H1 := Lib.hid h1; have hbS : Below w5.heap.size w5 w6 := grown_belowT (B := w5.heap.size) (x := w5) (by repeat (first | exact Below.refl _ _ | refine blAlloc ?_ _ | refine blQ ?_ _ | refine Below.drew ?_)) ((own_emptyN w5 w5.heap.size w5.heap.size rfl (Nat.le_refl _)).later (by repeat (first | exact Below.refl _ _ | refine blAlloc ?_ _ | refine blQ ?_ _ | refine Below.drew ?_))) (Nat.le_refl _) (by simp <;> omega) h2; clear h1 h2)
          | (refine step_append_tx (w := ((w5.alloc (.cells #[] 9)).alloc (.cells #[.string s.1] 9)).drew) (by rfl) (.tmp 69) (.tmp 72) (by rfl) w5.heap.size _ [] (by rfl) ((own_emptyN w5 w5.heap.size w5.heap.size rfl (Nat.le_refl _)).later (by repeat (first | exact Below.refl _ _ | refine blAlloc ?_ _ | refine blQ ?_ _ | refine Below.drew ?_))) _ (([] : List ByteArray).take 0) (by rfl) (HT1.out.later (by repeat (first | exact Below.refl _ _ | refine blAlloc ?_ _ | refine blQ ?_ _ | refine Below.drew ?_))) (by have := HLT.out; simp only [List.length_nil]; omega) (by simp <;> omega) ?_; intro v1 w6 h1 h2; have H1 := Lib.hid h1; have hbS : Below w5.heap.size w5 w6 := grown_belowT (B := w5.heap.size) (x := w5) (by repeat (first | exact Below.refl _ _ | refine blAlloc ?_ _ | refine blQ ?_ _ | refine Below.drew ?_)) ((own_emptyN w5 w5.heap.size w5.heap.size rfl (Nat.le_refl _)).later (by repeat (first | exact Below.refl _ _ | refine blAlloc ?_ _ | refine blQ ?_ _ | refine Below.drew ?_))) (Nat.le_refl _) (by simp <;> omega) h2; have HX := Lib.hid (tl_grown ((one_newT (w5.alloc (.cells #[] 9)) s.1 (w5.heap.size + 1) (by simp)).later (wr := ((w5.alloc (.cells #[] 9)).alloc (.cells #[.string s.1] 9)).drew) (by repeat (first | exact Below.refl _ _ | refine blAlloc ?_ _ | refine blQ ?_ _ | refine Below.drew ?_))) rfl h2 (fun g o hgo => by simp only [Option.some.injEq, Addr.mk.injEq] at hgo; simp [Value.ownBlock]; omega)); clear h1 h2)
          | (refine step_append_tx (w := ((w5.alloc (.cells #[.string s.1] 9)).alloc (.cells #[] 9)).drew) (by rfl) (.tmp 69) (.tmp 72) (by rfl) w5.heap.size _ [] (by rfl) ((own_emptyN (w5.alloc (.cells #[.string s.1] 9)) (w5.heap.size + 1) w5.heap.size (by simp) (by omega)).later (by repeat (first | exact Below.refl _ _ | refine blAlloc ?_ _ | refine blQ ?_ _ | refine Below.drew ?_))) _ (([] : List ByteArray).take 0) (by rfl) (HT1.out.later (by repeat (first | exact Below.refl _ _ | refine blAlloc ?_ _ | refine blQ ?_ _ | refine Below.drew ?_))) (by have := HLT.out; simp only [List.length_nil]; omega) (by simp <;> omega) ?_; intro v1 w6 h1 h2; have H1 := Lib.hid h1; have hbS : Below w5.heap.size w5 w6 := grown_belowT (B := w5.heap.size) (x := w5) (by repeat (first | exact Below.refl _ _ | refine blAlloc ?_ _ | refine blQ ?_ _ | refine Below.drew ?_)) ((own_emptyN (w5.alloc (.cells #[.string s.1] 9)) (w5.heap.size + 1) w5.heap.size (by simp) (by omega)).later (by repeat (first | exact Below.refl _ _ | refine blAlloc ?_ _ | refine blQ ?_ _ | refine Below.drew ?_))) (Nat.le_refl _) (by simp <;> omega) h2; have HX := Lib.hid (tl_grown ((one_newT w5 s.1 w5.heap.size rfl).later (wr := ((w5.alloc (.cells #[.string s.1] 9)).alloc (.cells #[] 9)).drew) (by repeat (first | exact Below.refl _ _ | refine blAlloc ?_ _ | refine blQ ?_ _ | refine Below.drew ?_))) rfl h2 (fun g o hgo => by simp only [Option.some.injEq, Addr.mk.injEq] at hgo; simp [Value.ownBlock]; omega)); clear h1 h2)
          | (refine step_append_tx (by rfl) (.tmp 73) (.tmp 78) (by rfl) w5.heap.size _ ([] ++ ([] : List ByteArray).take 0) (by rfl) (H1.out.later (blAlloc (Below.refl w6.heap.size w6) (.cells #[.string s.1] 9))) _ [s.1] (by rfl) (one_newT w6 s.1 _ rfl) (by have := HLT.out; simp only [List.nil_append, List.length_cons, List.length_nil]; omega) (by have := hbS.size; simp; omega) ?_; intro v2 w7 h1 h2; have H2 := Lib.hid h1; have hbS2 : Below w5.heap.size w5 w7 := grown_belowT (B := w5.heap.size) (x := w5) (by first | exact hbS | exact blAlloc hbS _) (H1.out.later (blAlloc (Below.refl w6.heap.size w6) (.cells #[.string s.1] 9))) (Nat.le_refl _) (by have := hbS.size; simp; omega) h2; clear h1 h2)
          | (refine step_append_tx (by rfl) (.tmp 73) (.tmp 78) (by rfl) w5.heap.size _ ([] ++ ([] : List ByteArray).take 0) (by rfl) (H1.out) _ [s.1] (by rfl) (HX.out) (by have := HLT.out; simp only [List.nil_append, List.length_cons, List.length_nil]; omega) (by have := hbS.size; simp; omega) ?_; intro v2 w7 h1 h2; have H2 := Lib.hid h1; have hbS2 : Below w5.heap.size w5 w7 := grown_belowT (B := w5.heap.size) (x := w5) (by first | exact hbS | exact blAlloc hbS _) (H1.out) (Nat.le_refl _) (by have := hbS.size; simp; omega) h2; clear h1 h2)
          | (refine step_append_tx (by rfl) (.tmp 79) (.tmp 82) (by rfl) w5.heap.size _ ([] ++ ([] : List ByteArray).take 0 ++ [s.1]) (by rfl) (H2.out) _ (([] : List ByteArray).drop 0) (by rfl) (HT2.out.later hbS2) (by first | (simp; done) | (have := HLT.out; have := HLD.out; simp only [List.nil_append, List.length_append, List.length_cons, List.length_nil]; omega)) hbS2.size ?_; intro v3 w8 h1 h2; have H3 := Lib.hid h1; have hbS3 : Below w5.heap.size w5 w8 := grown_belowT (B := w5.heap.size) (x := w5) hbS2 H2.out (Nat.le_refl _) hbS2.size h2; clear h1 h2))
        all_goals
         have HFIN : Hid (OwnT w8 w.heap.size v3 (midT m s 1)) := by
          show OwnT _ _ _ _
          rw [HMM.out, HIN2.out]
          have h := H3.out.mono (Nat.le_trans HB1.out.size HB5.out.size)
          rwa [ins_eq] at h
         have HBF := Lib.hid (HB5.out.trans (hbS3.mono HB5.out.size))
         clear hbS hbS2 hbS3
         go_wp2
         go_roundw
         case rel => exact ⟨1, by omega, by go_num, HFIN.out, HBF.out⟩
         case measure => simp [RowKit.intOf]
       ·simp only [Value.slice.injEq, true_and] at he
        obtain ⟨rfl, rfl⟩ := he
        by_cases hcr : cv2 = mm.length
        ·subst hcr
         go_wp2
         have HT1 : Hid (Tl w5 (.slice (some ⟨g2, 0, none⟩) mm.length mm.length) (mm.take mm.length)) := tl_take HO5.out.tl mm.length (Nat.le_refl _)
         have HT2 : Hid (Tl w5 (.slice (some ⟨g2, 0, none⟩) 0 0) (mm.drop mm.length)) := by show Tl _ _ _; rw [List.drop_length]; exact tl_empty w5 _ 0 (fun _ => rfl)
         have hkl : (mm.length : Int) ≤ (mm.length : Int) := by omega
         have HLT : Hid ((mm.take mm.length).length = mm.length) := by show (mm.take mm.length).length = mm.length; rw [List.length_take]; first | omega | rfl
         have HLD : Hid ((mm.drop mm.length).length = mm.length - mm.length) := by show _ = _; rw [List.length_drop]
         go_region_held3 (fun w' => Below w5.heap.size w5 w' ∧ w'.cell? ⟨Bb, 0, none⟩ = some (.string s.1)) ((refine keepT ?_ hBl5 fx; (repeat (first | assumption | exact Below.refl _ _ | refine blAlloc ?_ _ | refine blQ ?_ _ | refine Below.drew ?_))))
          (first
           | (refine step_append_tx (w := (w5.alloc (.cells #[] 9)).drew) (by rfl) (.tmp 69) (.tmp 72) (by rfl) w5.heap.size _ [] (by rfl) ((own_emptyN w5 w5.heap.size w5.heap.size rfl (Nat.le_refl _)).later (by repeat (first | exact Below.refl _ _ | refine blAlloc ?_ _ | refine blQ ?_ _ | refine Below.drew ?_))) _ (mm.take mm.length) (by rfl) (HT1.out.later (by repeat (first | exact Below.refl _ _ | refine blAlloc ?_ _ | refine blQ ?_ _ | refine Below.drew ?_))) (by have := HLT.out; simp only [List.length_nil]; omega) (by simp <;> omega) ?_; intro v1 w6 h1 h2; have H1 := Lib.hid h1; have hbS : Below w5.heap.size w5 w6 := grown_belowT (B := w5.heap.size) (x := w5) (by repeat (first | exact Below.refl _ _ | refine blAlloc ?_ _ | refine blQ ?_ _ | refine Below.drew ?_)) ((own_emptyN w5 w5.heap.size w5.heap.size rfl (Nat.le_refl _)).later (by repeat (first | exact Below.refl _ _ | refine blAlloc ?_ _ | refine blQ ?_ _ | refine Below.drew ?_))) (Nat.le_refl _) (by simp <;> omega) h2; clear h1 h2)
           | (refine step_append_tx (w := ((w5.alloc (.cells #[] 9)).alloc (.cells #[.string s.1] 9)).drew) (by rfl) (.tmp 69) (.tmp 72) (by rfl) w5.heap.size _ [] (by rfl) ((own_emptyN w5 w5.heap.size w5.heap.size rfl (Nat.le_refl _)).later (by repeat (first | exact Below.refl _ _ | refine blAlloc ?_ _ | refine blQ ?_ _ | refine Below.drew ?_))) _ (mm.take mm.length) (by rfl) (HT1.out.later (by repeat (first | exact Below.refl _ _ | refine blAlloc ?_ _ | refine blQ ?_ _ | refine Below.drew ?_))) (by have := HLT.out; simp only [List.length_nil]; omega) (by simp <;> omega) ?_; intro v1 w6 h1 h2; have H1 := Lib.hid h1; have hbS : Below w5.heap.size w5 w6 := grown_belowT (B := w5.heap.size) (x := w5) (by repeat (first | exact Below.refl _ _ | refine blAlloc ?_ _ | refine blQ ?_ _ | refine Below.drew ?_)) ((own_emptyN w5 w5.heap.size w5.heap.size rfl (Nat.le_refl _)).later (by repeat (first | exact Below.refl _ _ | refine blAlloc ?_ _ | refine blQ ?_ _ | refine Below.drew ?_))) (Nat.le_refl _) (by simp <;> omega) h2; have HX := Lib.hid (tl_grown ((one_newT (w5.alloc (.cells #[] 9)) s.1 (w5.heap.size + 1) (by simp)).later (wr := ((w5.alloc (.cells #[] 9)).alloc (.cells #[.string s.1] 9)).drew) (by repeat (first | exact Below.refl _ _ | refine blAlloc ?_ _ | refine blQ ?_ _ | refine Below.drew ?_))) rfl h2 (fun g o hgo => by simp only [Option.some.injEq, Addr.mk.injEq] at hgo; simp [Value.ownBlock]; omega)); clear h1 h2)
           | (refine step_append_tx (w := ((w5.alloc (.cells #[.string s.1] 9)).alloc (.cells #[] 9)).drew) (by rfl) (.tmp 69) (.tmp 72) (by rfl) w5.heap.size _ [] (by rfl) ((own_emptyN (w5.alloc (.cells #[.string s.1] 9)) (w5.heap.size + 1) w5.heap.size (by simp) (by omega)).later (by repeat (first | exact Below.refl _ _ | refine blAlloc ?_ _ | refine blQ ?_ _ | refine Below.drew ?_))) _ (mm.take mm.length) (by rfl) (HT1.out.later (by repeat (first | exact Below.refl _ _ | refine blAlloc ?_ _ | refine blQ ?_ _ | refine Below.drew ?_))) (by have := HLT.out; simp only [List.length_nil]; omega) (by simp <;> omega) ?_; intro v1 w6 h1 h2; have H1 := Lib.hid h1; have hbS : Below w5.heap.size w5 w6 := grown_belowT (B := w5.heap.size) (x := w5) (by repeat (first | exact Below.refl _ _ | refine blAlloc ?_ _ | refine blQ ?_ _ | refine Below.drew ?_)) ((own_emptyN (w5.alloc (.cells #[.string s.1] 9)) (w5.heap.size + 1) w5.heap.size (by simp) (by omega)).later (by repeat (first | exact Below.refl _ _ | refine blAlloc ?_ _ | refine blQ ?_ _ | refine Below.drew ?_))) (Nat.le_refl _) (by simp <;> omega) h2; have HX := Lib.hid (tl_grown ((one_newT w5 s.1 w5.heap.size rfl).later (wr := ((w5.alloc (.cells #[.string s.1] 9)).alloc (.cells #[] 9)).drew) (by repeat (first | exact Below.refl _ _ | refine blAlloc ?_ _ | refine blQ ?_ _ | refine Below.drew ?_))) rfl h2 (fun g o hgo => by simp only [Option.some.injEq, Addr.mk.injEq] at hgo; simp [Value.ownBlock]; omega)); clear h1 h2)
           | (refine step_append_tx (by rfl) (.tmp 73) (.tmp 78) (by rfl) w5.heap.size _ ([] ++ mm.take mm.length) (by rfl) (H1.out.later (blAlloc (Below.refl w6.heap.size w6) (.cells #[.string s.1] 9))) _ [s.1] (by rfl) (one_newT w6 s.1 _ rfl) (by have := HLT.out; simp only [List.nil_append, List.length_cons, List.length_nil]; omega) (by have := hbS.size; simp; omega) ?_; intro v2 w7 h1 h2; have H2 := Lib.hid h1; have hbS2 : Below w5.heap.size w5 w7 := grown_belowT (B := w5.heap.size) (x := w5) (by first | exact hbS | exact blAlloc hbS _) (H1.out.later (blAlloc (Below.refl w6.heap.size w6) (.cells #[.string s.1] 9))) (Nat.le_refl _) (by have := hbS.size; simp; omega) h2; clear h1 h2)
           | (refine step_append_tx (by rfl) (.tmp 73) (.tmp 78) (by rfl) w5.heap.size _ ([] ++ mm.take mm.length) (by rfl) (H1.out) _ [s.1] (by rfl) (HX.out) (by have := HLT.out; simp only [List.nil_append, List.length_cons, List.length_nil]; omega) (by have := hbS.size; simp; omega) ?_; intro v2 w7 h1 h2; have H2 := Lib.hid h1; have hbS2 : Below w5.heap.size w5 w7 := grown_belowT (B := w5.heap.size) (x := w5) (by first | exact hbS | exact blAlloc hbS _) (H1.out) (Nat.le_refl _) (by have := hbS.size; simp; omega) h2; clear h1 h2)
           | (refine step_append_tx (by rfl) (.tmp 79) (.tmp 82) (by rfl) w5.heap.size _ ([] ++ mm.take mm.length ++ [s.1]) (by rfl) (H2.out) _ (mm.drop mm.length) (by rfl) (HT2.out.later hbS2) (by first | (simp; done) | (have := HLT.out; have := HLD.out; simp only [List.nil_append, List.length_append, List.length_cons, List.length_nil]; omega)) hbS2.size ?_; intro v3 w8 h1 h2; have H3 := Lib.hid h1; have hbS3 : Below w5.heap.size w5 w8 := grown_belowT (B := w5.heap.size) (x := w5) hbS2 H2.out (Nat.le_refl _) hbS2.size h2; clear h1 h2))
         all_goals
          have HFIN : Hid (OwnT w8 w.heap.size v3 (midT m s 1)) := by
           show OwnT _ _ _ _
           rw [HMM.out, HIN2.out]
           have h := H3.out.mono (Nat.le_trans HB1.out.size HB5.out.size)
           rwa [ins_eq] at h
          have HBF := Lib.hid (HB5.out.trans (hbS3.mono HB5.out.size))
          clear hbS hbS2 hbS3
          go_wp2
          go_roundw
          case rel => exact ⟨1, by omega, by go_num, HFIN.out, HBF.out⟩
          case measure => simp [RowKit.intOf]
        ·go_wp2
         have HT1 : Hid (Tl w5 (.slice (some ⟨g2, 0, none⟩) mm.length cv2) (mm.take mm.length)) := tl_take HO5.out.tl mm.length (Nat.le_refl _)
         have HT2 : Hid (Tl w5 (.slice (some ⟨g2, mm.length, none⟩) 0 (cv2 - mm.length)) (mm.drop mm.length)) := by show Tl _ _ _; rw [List.drop_length]; exact tl_empty w5 _ _ (fun h => by cases h)
         have hkc : (mm.length : Int) ≤ (cv2 : Int) := by omega
         have hkl : (mm.length : Int) ≤ (mm.length : Int) := by omega
         have HLT : Hid ((mm.take mm.length).length = mm.length) := by show (mm.take mm.length).length = mm.length; rw [List.length_take]; first | omega | rfl
         have HLD : Hid ((mm.drop mm.length).length = mm.length - mm.length) := by show _ = _; rw [List.length_drop]
         go_region_held3 (fun w' => Below w5.heap.size w5 w' ∧ w'.cell? ⟨Bb, 0, none⟩ = some (.string s.1)) ((refine keepT ?_ hBl5 fx; (repeat (first | assumption | exact Below.refl _ _ | refine blAlloc ?_ _ | refine blQ ?_ _ | refine Below.drew ?_))))
          (first
           | (refine step_append_tx (w := (w5.alloc (.cells #[] 9)).drew) (by rfl) (.tmp 69) (.tmp 72) (by rfl) w5.heap.size _ [] (by rfl) ((own_emptyN w5 w5.heap.size w5.heap.size rfl (Nat.le_refl _)).later (by repeat (first | exact Below.refl _ _ | refine blAlloc ?_ _ | refine blQ ?_ _ | refine Below.drew ?_))) _ (mm.take mm.length) (by rfl) (HT1.out.later (by repeat (first | exact Below.refl _ _ | refine blAlloc ?_ _ | refine blQ ?_ _ | refine Below.drew ?_))) (by have := HLT.out; simp only [List.length_nil]; omega) (by simp <;> omega) ?_; intro v1 w6 h1 h2; have H1 := Lib.hid h1; have hbS : Below w5.heap.size w5 w6 := grown_belowT (B := w5.heap.size) (x := w5) (by repeat (first | exact Below.refl _ _ | refine blAlloc ?_ _ | refine blQ ?_ _ | refine Below.drew ?_)) ((own_emptyN w5 w5.heap.size w5.heap.size rfl (Nat.le_refl _)).later (by repeat (first | exact Below.refl _ _ | refine blAlloc ?_ _ | refine blQ ?_ _ | refine Below.drew ?_))) (Nat.le_refl _) (by simp <;> omega) h2; clear h1 h2)
           | (refine step_append_tx (w := ((w5.alloc (.cells #[] 9)).alloc (.cells #[.string s.1] 9)).drew) (by rfl) (.tmp 69) (.tmp 72) (by rfl) w5.heap.size _ [] (by rfl) ((own_emptyN w5 w5.heap.size w5.heap.size rfl (Nat.le_refl _)).later (by repeat (first | exact Below.refl _ _ | refine blAlloc ?_ _ | refine blQ ?_ _ | refine Below.drew ?_))) _ (mm.take mm.length) (by rfl) (HT1.out.later (by repeat (first | exact Below.refl _ _ | refine blAlloc ?_ _ | refine blQ ?_ _ | refine Below.drew ?_))) (by have := HLT.out; simp only [List.length_nil]; omega) (by simp <;> omega) ?_; intro v1 w6 h1 h2; have H1 := Lib.hid h1; have hbS : Below w5.heap.size w5 w6 := grown_belowT (B := w5.heap.size) (x := w5) (by repeat (first | exact Below.refl _ _ | refine blAlloc ?_ _ | refine blQ ?_ _ | refine Below.drew ?_)) ((own_emptyN w5 w5.heap.size w5.heap.size rfl (Nat.le_refl _)).later (by repeat (first | exact Below.refl _ _ | refine blAlloc ?_ _ | refine blQ ?_ _ | refine Below.drew ?_))) (Nat.le_refl _) (by simp <;> omega) h2; have HX := Lib.hid (tl_grown ((one_newT (w5.alloc (.cells #[] 9)) s.1 (w5.heap.size + 1) (by simp)).later (wr := ((w5.alloc (.cells #[] 9)).alloc (.cells #[.string s.1] 9)).drew) (by repeat (first | exact Below.refl _ _ | refine blAlloc ?_ _ | refine blQ ?_ _ | refine Below.drew ?_))) rfl h2 (fun g o hgo => by simp only [Option.some.injEq, Addr.mk.injEq] at hgo; simp [Value.ownBlock]; omega)); clear h1 h2)
           | (refine step_append_tx (w := ((w5.alloc (.cells #[.string s.1] 9)).alloc (.cells #[] 9)).drew) (by rfl) (.tmp 69) (.tmp 72) (by rfl) w5.heap.size _ [] (by rfl) ((own_emptyN (w5.alloc (.cells #[.string s.1] 9)) (w5.heap.size + 1) w5.heap.size (by simp) (by omega)).later (by repeat (first | exact Below.refl _ _ | refine blAlloc ?_ _ | refine blQ ?_ _ | refine Below.drew ?_))) _ (mm.take mm.length) (by rfl) (HT1.out.later (by repeat (first | exact Below.refl _ _ | refine blAlloc ?_ _ | refine blQ ?_ _ | refine Below.drew ?_))) (by have := HLT.out; simp only [List.length_nil]; omega) (by simp <;> omega) ?_; intro v1 w6 h1 h2; have H1 := Lib.hid h1; have hbS : Below w5.heap.size w5 w6 := grown_belowT (B := w5.heap.size) (x := w5) (by repeat (first | exact Below.refl _ _ | refine blAlloc ?_ _ | refine blQ ?_ _ | refine Below.drew ?_)) ((own_emptyN (w5.alloc (.cells #[.string s.1] 9)) (w5.heap.size + 1) w5.heap.size (by simp) (by omega)).later (by repeat (first | exact Below.refl _ _ | refine blAlloc ?_ _ | refine blQ ?_ _ | refine Below.drew ?_))) (Nat.le_refl _) (by simp <;> omega) h2; have HX := Lib.hid (tl_grown ((one_newT w5 s.1 w5.heap.size rfl).later (wr := ((w5.alloc (.cells #[.string s.1] 9)).alloc (.cells #[] 9)).drew) (by repeat (first | exact Below.refl _ _ | refine blAlloc ?_ _ | refine blQ ?_ _ | refine Below.drew ?_))) rfl h2 (fun g o hgo => by simp only [Option.some.injEq, Addr.mk.injEq] at hgo; simp [Value.ownBlock]; omega)); clear h1 h2)
           | (refine step_append_tx (by rfl) (.tmp 73) (.tmp 78) (by rfl) w5.heap.size _ ([] ++ mm.take mm.length) (by rfl) (H1.out.later (blAlloc (Below.refl w6.heap.size w6) (.cells #[.string s.1] 9))) _ [s.1] (by rfl) (one_newT w6 s.1 _ rfl) (by have := HLT.out; simp only [List.nil_append, List.length_cons, List.length_nil]; omega) (by have := hbS.size; simp; omega) ?_; intro v2 w7 h1 h2; have H2 := Lib.hid h1; have hbS2 : Below w5.heap.size w5 w7 := grown_belowT (B := w5.heap.size) (x := w5) (by first | exact hbS | exact blAlloc hbS _) (H1.out.later (blAlloc (Below.refl w6.heap.size w6) (.cells #[.string s.1] 9))) (Nat.le_refl _) (by have := hbS.size; simp; omega) h2; clear h1 h2)
           | (refine step_append_tx (by rfl) (.tmp 73) (.tmp 78) (by rfl) w5.heap.size _ ([] ++ mm.take mm.length) (by rfl) (H1.out) _ [s.1] (by rfl) (HX.out) (by have := HLT.out; simp only [List.nil_append, List.length_cons, List.length_nil]; omega) (by have := hbS.size; simp; omega) ?_; intro v2 w7 h1 h2; have H2 := Lib.hid h1; have hbS2 : Below w5.heap.size w5 w7 := grown_belowT (B := w5.heap.size) (x := w5) (by first | exact hbS | exact blAlloc hbS _) (H1.out) (Nat.le_refl _) (by have := hbS.size; simp; omega) h2; clear h1 h2)
           | (refine step_append_tx (by rfl) (.tmp 79) (.tmp 82) (by rfl) w5.heap.size _ ([] ++ mm.take mm.length ++ [s.1]) (by rfl) (H2.out) _ (mm.drop mm.length) (by rfl) (HT2.out.later hbS2) (by first | (simp; done) | (have := HLT.out; have := HLD.out; simp only [List.nil_append, List.length_append, List.length_cons, List.length_nil]; omega)) hbS2.size ?_; intro v3 w8 h1 h2; have H3 := Lib.hid h1; have hbS3 : Below w5.heap.size w5 w8 := grown_belowT (B := w5.heap.size) (x := w5) hbS2 H2.out (Nat.le_refl _) hbS2.size h2; clear h1 h2))
         all_goals
          have HFIN : Hid (OwnT w8 w.heap.size v3 (midT m s 1)) := by
           show OwnT _ _ _ _
           rw [HMM.out, HIN2.out]
           have h := H3.out.mono (Nat.le_trans HB1.out.size HB5.out.size)
           rwa [ins_eq] at h
          have HBF := Lib.hid (HB5.out.trans (hbS3.mono HB5.out.size))
          clear hbS hbS2 hbS3
          go_wp2
          go_roundw
          case rel => exact ⟨1, by omega, by go_num, HFIN.out, HBF.out⟩
          case measure => simp [RowKit.intOf]
    | 1, _ =>
     cases hn : noT s.2
     ·have hno : s.2.toList.isEmpty = false := hn
      have HMM : Hid (midT m s 2 = insT s.2 (midT m s 1)) := by
       show markS m s = insT s.2 (insT s.1 m)
       unfold markS
       rw [if_neg (by rw [hn]; simp)]
      clear hn
      generalize midT m s 1 = mm at *
      obtain ⟨av2, cv2, rfl⟩ := HO2.out.form
      clear e0
      go_wp2
      go_loopw [7] (fun kk w3 => ∃ r : Nat, r ≤ mm.length ∧ kk = .int .i64 r ∧ (∀ (j : Nat) y, j < r → mm[j]? = some y → ltT y s.2 = true) ∧ Below w2.heap.size w2 w3) (fun kk _ => mm.length - (RowKit.intOf kk).toNat)
      case atStart => exact ⟨0, Nat.zero_le _, rfl, fun j y h => absurd h (Nat.not_lt_zero _), Below.refl _ _⟩
      case round =>
       obtain ⟨w3, rfl⟩ : ∃ w3 : World, w3 = wr := ⟨_, rfl⟩
       obtain ⟨r, hr, rfl, hpre, hb3⟩ := hrel
       have HPRE := Lib.hid hpre
       have HB3 := Lib.hid (HB2.out.trans (hb3.mono HB2.out.size))
       have HO3 := Lib.hid (HO2.out.later hb3)
       have HB23 := Lib.hid hb3
       have f0 := cell_in hb3 hBl2 e1
       have hBl3 := Nat.lt_of_lt_of_le hBl2 hb3.size
       clear hpre hb3
       by_cases hrl : r < mm.length
       ·obtain ⟨y, hy⟩ := at_lt hrl
        rcases HO3.out.row with ⟨_, hnil⟩ | ⟨g2, cap, he, hg2, hg2w, hn2, hcm2, hrow⟩
        ·rw [hnil] at hrl
         exact absurd hrl (Nat.not_lt_zero _)
        ·simp only [Value.slice.injEq, true_and] at he
         obtain ⟨rfl, rfl⟩ := he
         have cy := hrow r y hy
         rw [Nat.zero_add] at cy
         have HY := Lib.hid hy
         have hd : decide ((r : Int) < (mm.length : Int)) = true := decide_eq_true (by omega)
         have hr0 : (0 : Int) ≤ (r : Int) := by omega
         have hr1 : (r : Int) < (mm.length : Int) := by omega
         have hreq : ((r : Int) == (mm.length : Int)) = false := by simp; omega
         clear hrow hy
         cases hyx : ltT y s.2
         ·have HINS : Hid (insT s.2 mm = if mm[r]? = some s.2 then mm else mm.take r ++ ([s.2] ++ mm.drop r)) := insT_at s.2 mm r HPRE.out (fun z hz => by
           rw [HY.out] at hz
           cases hz
           exact hyx) hr
          have hlx : Op.bytesLess y.toList s.2.toList = false := hyx
          clear hyx
          go_wp2
          go_quiet (fail)
          have hbQ : Below w3.heap.size w3 (w3.drewN nq) := blQ (Below.refl _ _) nq
          generalize w3.drewN nq = w4 at hbQ ⊢
          clear nq
          have f0' := cell_in hbQ hBl3 f0
          have cy' := cell_in hbQ hg2w cy
          have hBl4 := Nat.lt_of_lt_of_le hBl3 hbQ.size
          have hg2w4 := Nat.lt_of_lt_of_le hg2w hbQ.size
          have HB4 := Lib.hid (HB3.out.trans (hbQ.mono HB3.out.size))
          have HO4 := Lib.hid (HO3.out.later hbQ)
          clear f0 cy hbQ hBl3 hg2w
          cases heq : (y.toList == s.2.toList)
          ·have HIN2 : Hid (insT s.2 mm = mm.take r ++ ([s.2] ++ mm.drop r)) := by
            show _ = _
            rw [HINS.out, if_neg]
            rw [HY.out]
            intro e
            cases e
            simp at heq
           go_wp2
           go_quiet (fail)
           have hbQ : Below w4.heap.size w4 (w4.drewN nq) := blQ (Below.refl _ _) nq
           generalize w4.drewN nq = w5 at hbQ ⊢
           clear nq
           have fx := cell_in hbQ hBl4 f0'
           have hBl5 := Nat.lt_of_lt_of_le hBl4 hbQ.size
           have hg2w5 := Nat.lt_of_lt_of_le hg2w4 hbQ.size
           have HB5 := Lib.hid (HB4.out.trans (hbQ.mono HB4.out.size))
           have HO5 := Lib.hid (HO4.out.later hbQ)
           have hcr : ¬ cv2 = r := by omega
           clear f0' cy' hbQ hBl4 hg2w4 heq
           go_wp2
           have HT1 : Hid (Tl w5 (.slice (some ⟨g2, 0, none⟩) r cv2) (mm.take r)) := tl_take HO5.out.tl r (by omega)
           have HT2 : Hid (Tl w5 (.slice (some ⟨g2, r, none⟩) (mm.length - r) (cv2 - r)) (mm.drop r)) := by have h := tl_drop HO5.out.tl r (cv2 - r) (mm.length - r) (by rw [List.length_drop]); rwa [Nat.zero_add] at h
           have hkc : (r : Int) ≤ (cv2 : Int) := by omega
           have hkl : (r : Int) ≤ (mm.length : Int) := by omega
           have HLT : Hid ((mm.take r).length = r) := by show (mm.take r).length = r; rw [List.length_take]; first | omega | rfl
           have HLD : Hid ((mm.drop r).length = mm.length - r) := by show _ = _; rw [List.length_drop]
           go_region_held3 (fun w' => Below w5.heap.size w5 w' ∧ w'.cell? ⟨Bb, 1, none⟩ = some (.string s.2)) ((refine keepT ?_ hBl5 fx; (repeat (first | assumption | exact Below.refl _ _ | refine blAlloc ?_ _ | refine blQ ?_ _ | refine Below.drew ?_))))
            (first
             | (refine step_append_tx (w := (w5.alloc (.cells #[] 9)).drew) (by rfl) (.tmp 69) (.tmp 72) (by rfl) w5.heap.size _ [] (by rfl) ((own_emptyN w5 w5.heap.size w5.heap.size rfl (Nat.le_refl _)).later (by repeat (first | exact Below.refl _ _ | refine blAlloc ?_ _ | refine blQ ?_ _ | refine Below.drew ?_))) _ (mm.take r) (by rfl) (HT1.out.later (by repeat (first | exact Below.refl _ _ | refine blAlloc ?_ _ | refine blQ ?_ _ | refine Below.drew ?_))) (by have := HLT.out; simp only [List.length_nil]; omega) (by simp <;> omega) ?_; intro v1 w6 h1 h2; have H1 := Lib.hid h1; have hbS : Below w5.heap.size w5 w6 := grown_belowT (B := w5.heap.size) (x := w5) (by repeat (first | exact Below.refl _ _ | refine blAlloc ?_ _ | refine blQ ?_ _ | refine Below.drew ?_)) ((own_emptyN w5 w5.heap.size w5.heap.size rfl (Nat.le_refl _)).later (by repeat (first | exact Below.refl _ _ | refine blAlloc ?_ _ | refine blQ ?_ _ | refine Below.drew ?_))) (Nat.le_refl _) (by simp <;> omega) h2; clear h1 h2)
             | (refine step_append_tx (w := ((w5.alloc (.cells #[] 9)).alloc (.cells #[.string s.2] 9)).drew) (by rfl) (.tmp 69) (.tmp 72) (by rfl) w5.heap.size _ [] (by rfl) ((own_emptyN w5 w5.heap.size w5.heap.size rfl (Nat.le_refl _)).later (by repeat (first | exact Below.refl _ _ | refine blAlloc ?_ _ | refine blQ ?_ _ | refine Below.drew ?_))) _ (mm.take r) (by rfl) (HT1.out.later (by repeat (first | exact Below.refl _ _ | refine blAlloc ?_ _ | refine blQ ?_ _ | refine Below.drew ?_))) (by have := HLT.out; simp only [List.length_nil]; omega) (by simp <;> omega) ?_; intro v1 w6 h1 h2; have H1 := Lib.hid h1; have hbS : Below w5.heap.size w5 w6 := grown_belowT (B := w5.heap.size) (x := w5) (by repeat (first | exact Below.refl _ _ | refine blAlloc ?_ _ | refine blQ ?_ _ | refine Below.drew ?_)) ((own_emptyN w5 w5.heap.size w5.heap.size rfl (Nat.le_refl _)).later (by repeat (first | exact Below.refl _ _ | refine blAlloc ?_ _ | refine blQ ?_ _ | refine Below.drew ?_))) (Nat.le_refl _) (by simp <;> omega) h2; have HX := Lib.hid (tl_grown ((one_newT (w5.alloc (.cells #[] 9)) s.2 (w5.heap.size + 1) (by simp)).later (wr := ((w5.alloc (.cells #[] 9)).alloc (.cells #[.string s.2] 9)).drew) (by repeat (first | exact Below.refl _ _ | refine blAlloc ?_ _ | refine blQ ?_ _ | refine Below.drew ?_))) rfl h2 (fun g o hgo => by simp only [Option.some.injEq, Addr.mk.injEq] at hgo; simp [Value.ownBlock]; omega)); clear h1 h2)
             | (refine step_append_tx (w := ((w5.alloc (.cells #[.string s.2] 9)).alloc (.cells #[] 9)).drew) (by rfl) (.tmp 69) (.tmp 72) (by rfl) w5.heap.size _ [] (by rfl) ((own_emptyN (w5.alloc (.cells #[.string s.2] 9)) (w5.heap.size + 1) w5.heap.size (by simp) (by omega)).later (by repeat (first | exact Below.refl _ _ | refine blAlloc ?_ _ | refine blQ ?_ _ | refine Below.drew ?_))) _ (mm.take r) (by rfl) (HT1.out.later (by repeat (first | exact Below.refl _ _ | refine blAlloc ?_ _ | refine blQ ?_ _ | refine Below.drew ?_))) (by have := HLT.out; simp only [List.length_nil]; omega) (by simp <;> omega) ?_; intro v1 w6 h1 h2; have H1 := Lib.hid h1; have hbS : Below w5.heap.size w5 w6 := grown_belowT (B := w5.heap.size) (x := w5) (by repeat (first | exact Below.refl _ _ | refine blAlloc ?_ _ | refine blQ ?_ _ | refine Below.drew ?_)) ((own_emptyN (w5.alloc (.cells #[.string s.2] 9)) (w5.heap.size + 1) w5.heap.size (by simp) (by omega)).later (by repeat (first | exact Below.refl _ _ | refine blAlloc ?_ _ | refine blQ ?_ _ | refine Below.drew ?_))) (Nat.le_refl _) (by simp <;> omega) h2; have HX := Lib.hid (tl_grown ((one_newT w5 s.2 w5.heap.size rfl).later (wr := ((w5.alloc (.cells #[.string s.2] 9)).alloc (.cells #[] 9)).drew) (by repeat (first | exact Below.refl _ _ | refine blAlloc ?_ _ | refine blQ ?_ _ | refine Below.drew ?_))) rfl h2 (fun g o hgo => by simp only [Option.some.injEq, Addr.mk.injEq] at hgo; simp [Value.ownBlock]; omega)); clear h1 h2)
             | (refine step_append_tx (by rfl) (.tmp 73) (.tmp 78) (by rfl) w5.heap.size _ ([] ++ mm.take r) (by rfl) (H1.out.later (blAlloc (Below.refl w6.heap.size w6) (.cells #[.string s.2] 9))) _ [s.2] (by rfl) (one_newT w6 s.2 _ rfl) (by have := HLT.out; simp only [List.nil_append, List.length_cons, List.length_nil]; omega) (by have := hbS.size; simp; omega) ?_; intro v2 w7 h1 h2; have H2 := Lib.hid h1; have hbS2 : Below w5.heap.size w5 w7 := grown_belowT (B := w5.heap.size) (x := w5) (by first | exact hbS | exact blAlloc hbS _) (H1.out.later (blAlloc (Below.refl w6.heap.size w6) (.cells #[.string s.2] 9))) (Nat.le_refl _) (by have := hbS.size; simp; omega) h2; clear h1 h2)
             | (refine step_append_tx (by rfl) (.tmp 73) (.tmp 78) (by rfl) w5.heap.size _ ([] ++ mm.take r) (by rfl) (H1.out) _ [s.2] (by rfl) (HX.out) (by have := HLT.out; simp only [List.nil_append, List.length_cons, List.length_nil]; omega) (by have := hbS.size; simp; omega) ?_; intro v2 w7 h1 h2; have H2 := Lib.hid h1; have hbS2 : Below w5.heap.size w5 w7 := grown_belowT (B := w5.heap.size) (x := w5) (by first | exact hbS | exact blAlloc hbS _) (H1.out) (Nat.le_refl _) (by have := hbS.size; simp; omega) h2; clear h1 h2)
             | (refine step_append_tx (by rfl) (.tmp 79) (.tmp 82) (by rfl) w5.heap.size _ ([] ++ mm.take r ++ [s.2]) (by rfl) (H2.out) _ (mm.drop r) (by rfl) (HT2.out.later hbS2) (by first | (simp; done) | (have := HLT.out; have := HLD.out; simp only [List.nil_append, List.length_append, List.length_cons, List.length_nil]; omega)) hbS2.size ?_; intro v3 w8 h1 h2; have H3 := Lib.hid h1; have hbS3 : Below w5.heap.size w5 w8 := grown_belowT (B := w5.heap.size) (x := w5) hbS2 H2.out (Nat.le_refl _) hbS2.size h2; clear h1 h2))
           all_goals
            have HFIN : Hid (OwnT w8 w.heap.size v3 (midT m s 2)) := by
             show OwnT _ _ _ _
             rw [HMM.out, HIN2.out]
             have h := H3.out.mono (Nat.le_trans HB1.out.size HB5.out.size)
             rwa [ins_eq] at h
            have HBF := Lib.hid (HB5.out.trans (hbS3.mono HB5.out.size))
            clear hbS hbS2 hbS3
            go_wp2
            go_roundw
            case rel => exact ⟨2, by omega, by go_num, HFIN.out, HBF.out⟩
            case measure => simp [RowKit.intOf]
          ·have HEQ : Hid (insT s.2 mm = mm) := by
            show insT s.2 mm = mm
            have e : y = s.2 := text_ext (by simpa using heq)
            rw [HINS.out, if_pos]
            rw [HY.out, e]
           go_wp2
           go_quiet (fail)
           have hbQ : Below w4.heap.size w4 (w4.drewN nq) := blQ (Below.refl _ _) nq
           generalize w4.drewN nq = w5 at hbQ ⊢
           clear nq
           go_wp2
           go_roundw
           case rel => exact ⟨2, by omega, by go_num, by rw [HMM.out, HEQ.out]; exact HO4.out.later hbQ, HB4.out.trans (hbQ.mono HB4.out.size)⟩
           case measure => simp [RowKit.intOf]
         ·have hlx : Op.bytesLess y.toList s.2.toList = true := hyx
          have HLX := Lib.hid hyx
          clear hyx
          go_wp2
          go_quiet (fail)
          have hbX : Below w2.heap.size w2 (w3.drewN nq) := HB23.out.trans ((blQ (Below.refl _ _) nq).mono HB23.out.size)
          go_wp2
          go_roundw
          case rel => exact ⟨r + 1, hrl, by go_num, fun j u hj hu => by
           rcases Nat.lt_or_ge j r with h | h
           ·exact HPRE.out j u h hu
           ·obtain rfl : j = r := by omega
            rw [HY.out] at hu
            cases hu
            exact HLX.out, hbX⟩
          case measure => simp [RowKit.intOf]; omega
       ·obtain rfl : r = mm.length := by omega
        have HIN2 : Hid (insT s.2 mm = mm.take mm.length ++ ([s.2] ++ mm.drop mm.length)) := by
         show _ = _
         rw [insT_at s.2 mm mm.length HPRE.out (fun z hz => by simp at hz) (Nat.le_refl _), if_neg (by simp)]
        have hd : decide ((mm.length : Int) < (mm.length : Int)) = false := by simp
        have hreq : ((mm.length : Int) == (mm.length : Int)) = true := by simp
        go_wp2
        go_quiet (fail)
        have hbQ : Below w3.heap.size w3 (w3.drewN nq) := blQ (Below.refl _ _) nq
        generalize w3.drewN nq = w4 at hbQ ⊢
        clear nq
        have f0' := cell_in hbQ hBl3 f0
        have hBl4 := Nat.lt_of_lt_of_le hBl3 hbQ.size
        have HB4 := Lib.hid (HB3.out.trans (hbQ.mono HB3.out.size))
        have HO4 := Lib.hid (HO3.out.later hbQ)
        clear f0 hbQ hBl3
        go_wp2
        go_quiet (fail)
        have hbQ : Below w4.heap.size w4 (w4.drewN nq) := blQ (Below.refl _ _) nq
        generalize w4.drewN nq = w5 at hbQ ⊢
        clear nq
        have fx := cell_in hbQ hBl4 f0'
        have hBl5 := Nat.lt_of_lt_of_le hBl4 hbQ.size
        have HB5 := Lib.hid (HB4.out.trans (hbQ.mono HB4.out.size))
        have HO5 := Lib.hid (HO4.out.later hbQ)
        clear f0' hbQ hBl4
        rcases HO5.out.row with ⟨he, hnil⟩ | ⟨g2, cap, he, hg2, hg2w5, hn2, hcm2, _⟩
        ·simp only [Value.slice.injEq] at he
         obtain ⟨rfl, hl0, rfl⟩ := he
         subst hnil
         rw [List.length_nil] at HIN2 HO5 ⊢
         clear hm2 hr hd hreq hrl hl0
         go_wp2
         have HT1 : Hid (Tl w5 (.slice none 0 0) (([] : List ByteArray).take 0)) := tl_empty w5 none 0 (fun _ => rfl)
         have HT2 : Hid (Tl w5 (.slice none 0 0) (([] : List ByteArray).drop 0)) := tl_empty w5 none 0 (fun _ => rfl)
         have HLT : Hid ((([] : List ByteArray).take 0).length = 0) := by show (([] : List ByteArray).take 0).length = 0; rw [List.length_take]; first | omega | rfl
         have HLD : Hid ((([] : List ByteArray).drop 0).length = ([] : List ByteArray).length - 0) := by show _ = _; rw [List.length_drop]
         go_region_held3 (fun w' => Below w5.heap.size w5 w' ∧ w'.cell? ⟨Bb, 1, none⟩ = some (.string s.2)) ((refine keepT ?_ hBl5 fx; (repeat (first | assumption | exact Below.refl _ _ | refine blAlloc ?_ _ | refine blQ ?_ _ | refine Below.drew ?_))))
          (first
           | (refine step_append_tx (w := (w5.alloc (.cells #[] 9)).drew) (by rfl) (.tmp 69) (.tmp 72) (by rfl) w5.heap.size _ [] (by rfl) ((own_emptyN w5 w5.heap.size w5.heap.size rfl (Nat.le_refl _)).later (by repeat (first | exact Below.refl _ _ | refine blAlloc ?_ _ | refine blQ ?_ _ | refine Below.drew ?_))) _ (([] : List ByteArray).take 0) (by rfl) (HT1.out.later (by repeat (first | exact Below.refl _ _ | refine blAlloc ?_ _ | refine blQ ?_ _ | refine Below.drew ?_))) (by have := HLT.out; simp only [List.length_nil]; omega) (by simp <;> omega) ?_; intro v1 w6 h1 h2; have H1 := Lib.hid h1; have hbS : Below w5.heap.size w5 w6 := grown_belowT (B := w5.heap.size) (x := w5) (by repeat (first | exact Below.refl _ _ | refine blAlloc ?_ _ | refine blQ ?_ _ | refine Below.drew ?_)) ((own_emptyN w5 w5.heap.size w5.heap.size rfl (Nat.le_refl _)).later (by repeat (first | exact Below.refl _ _ | refine blAlloc ?_ _ | refine blQ ?_ _ | refine Below.drew ?_))) (Nat.le_refl _) (by simp <;> omega) h2; clear h1 h2)
           | (refine step_append_tx (w := ((w5.alloc (.cells #[] 9)).alloc (.cells #[.string s.2] 9)).drew) (by rfl) (.tmp 69) (.tmp 72) (by rfl) w5.heap.size _ [] (by rfl) ((own_emptyN w5 w5.heap.size w5.heap.size rfl (Nat.le_refl _)).later (by repeat (first | exact Below.refl _ _ | refine blAlloc ?_ _ | refine blQ ?_ _ | refine Below.drew ?_))) _ (([] : List ByteArray).take 0) (by rfl) (HT1.out.later (by repeat (first | exact Below.refl _ _ | refine blAlloc ?_ _ | refine blQ ?_ _ | refine Below.drew ?_))) (by have := HLT.out; simp only [List.length_nil]; omega) (by simp <;> omega) ?_; intro v1 w6 h1 h2; have H1 := Lib.hid h1; have hbS : Below w5.heap.size w5 w6 := grown_belowT (B := w5.heap.size) (x := w5) (by repeat (first | exact Below.refl _ _ | refine blAlloc ?_ _ | refine blQ ?_ _ | refine Below.drew ?_)) ((own_emptyN w5 w5.heap.size w5.heap.size rfl (Nat.le_refl _)).later (by repeat (first | exact Below.refl _ _ | refine blAlloc ?_ _ | refine blQ ?_ _ | refine Below.drew ?_))) (Nat.le_refl _) (by simp <;> omega) h2; have HX := Lib.hid (tl_grown ((one_newT (w5.alloc (.cells #[] 9)) s.2 (w5.heap.size + 1) (by simp)).later (wr := ((w5.alloc (.cells #[] 9)).alloc (.cells #[.string s.2] 9)).drew) (by repeat (first | exact Below.refl _ _ | refine blAlloc ?_ _ | refine blQ ?_ _ | refine Below.drew ?_))) rfl h2 (fun g o hgo => by simp only [Option.some.injEq, Addr.mk.injEq] at hgo; simp [Value.ownBlock]; omega)); clear h1 h2)
           | (refine step_append_tx (w := ((w5.alloc (.cells #[.string s.2] 9)).alloc (.cells #[] 9)).drew) (by rfl) (.tmp 69) (.tmp 72) (by rfl) w5.heap.size _ [] (by rfl) ((own_emptyN (w5.alloc (.cells #[.string s.2] 9)) (w5.heap.size + 1) w5.heap.size (by simp) (by omega)).later (by repeat (first | exact Below.refl _ _ | refine blAlloc ?_ _ | refine blQ ?_ _ | refine Below.drew ?_))) _ (([] : List ByteArray).take 0) (by rfl) (HT1.out.later (by repeat (first | exact Below.refl _ _ | refine blAlloc ?_ _ | refine blQ ?_ _ | refine Below.drew ?_))) (by have := HLT.out; simp only [List.length_nil]; omega) (by simp <;> omega) ?_; intro v1 w6 h1 h2; have H1 := Lib.hid h1; have hbS : Below w5.heap.size w5 w6 := grown_belowT (B := w5.heap.size) (x := w5) (by repeat (first | exact Below.refl _ _ | refine blAlloc ?_ _ | refine blQ ?_ _ | refine Below.drew ?_)) ((own_emptyN (w5.alloc (.cells #[.string s.2] 9)) (w5.heap.size + 1) w5.heap.size (by simp) (by omega)).later (by repeat (first | exact Below.refl _ _ | refine blAlloc ?_ _ | refine blQ ?_ _ | refine Below.drew ?_))) (Nat.le_refl _) (by simp <;> omega) h2; have HX := Lib.hid (tl_grown ((one_newT w5 s.2 w5.heap.size rfl).later (wr := ((w5.alloc (.cells #[.string s.2] 9)).alloc (.cells #[] 9)).drew) (by repeat (first | exact Below.refl _ _ | refine blAlloc ?_ _ | refine blQ ?_ _ | refine Below.drew ?_))) rfl h2 (fun g o hgo => by simp only [Option.some.injEq, Addr.mk.injEq] at hgo; simp [Value.ownBlock]; omega)); clear h1 h2)
           | (refine step_append_tx (by rfl) (.tmp 73) (.tmp 78) (by rfl) w5.heap.size _ ([] ++ ([] : List ByteArray).take 0) (by rfl) (H1.out.later (blAlloc (Below.refl w6.heap.size w6) (.cells #[.string s.2] 9))) _ [s.2] (by rfl) (one_newT w6 s.2 _ rfl) (by have := HLT.out; simp only [List.nil_append, List.length_cons, List.length_nil]; omega) (by have := hbS.size; simp; omega) ?_; intro v2 w7 h1 h2; have H2 := Lib.hid h1; have hbS2 : Below w5.heap.size w5 w7 := grown_belowT (B := w5.heap.size) (x := w5) (by first | exact hbS | exact blAlloc hbS _) (H1.out.later (blAlloc (Below.refl w6.heap.size w6) (.cells #[.string s.2] 9))) (Nat.le_refl _) (by have := hbS.size; simp; omega) h2; clear h1 h2)
           | (refine step_append_tx (by rfl) (.tmp 73) (.tmp 78) (by rfl) w5.heap.size _ ([] ++ ([] : List ByteArray).take 0) (by rfl) (H1.out) _ [s.2] (by rfl) (HX.out) (by have := HLT.out; simp only [List.nil_append, List.length_cons, List.length_nil]; omega) (by have := hbS.size; simp; omega) ?_; intro v2 w7 h1 h2; have H2 := Lib.hid h1; have hbS2 : Below w5.heap.size w5 w7 := grown_belowT (B := w5.heap.size) (x := w5) (by first | exact hbS | exact blAlloc hbS _) (H1.out) (Nat.le_refl _) (by have := hbS.size; simp; omega) h2; clear h1 h2)
           | (refine step_append_tx (by rfl) (.tmp 79) (.tmp 82) (by rfl) w5.heap.size _ ([] ++ ([] : List ByteArray).take 0 ++ [s.2]) (by rfl) (H2.out) _ (([] : List ByteArray).drop 0) (by rfl) (HT2.out.later hbS2) (by first | (simp; done) | (have := HLT.out; have := HLD.out; simp only [List.nil_append, List.length_append, List.length_cons, List.length_nil]; omega)) hbS2.size ?_; intro v3 w8 h1 h2; have H3 := Lib.hid h1; have hbS3 : Below w5.heap.size w5 w8 := grown_belowT (B := w5.heap.size) (x := w5) hbS2 H2.out (Nat.le_refl _) hbS2.size h2; clear h1 h2))
         all_goals
          have HFIN : Hid (OwnT w8 w.heap.size v3 (midT m s 2)) := by
           show OwnT _ _ _ _
           rw [HMM.out, HIN2.out]
           have h := H3.out.mono (Nat.le_trans HB1.out.size HB5.out.size)
           rwa [ins_eq] at h
          have HBF := Lib.hid (HB5.out.trans (hbS3.mono HB5.out.size))
          clear hbS hbS2 hbS3
          go_wp2
          go_roundw
          case rel => exact ⟨2, by omega, by go_num, HFIN.out, HBF.out⟩
          case measure => simp [RowKit.intOf]
        ·simp only [Value.slice.injEq, true_and] at he
         obtain ⟨rfl, rfl⟩ := he
         by_cases hcr : cv2 = mm.length
         ·subst hcr
          go_wp2
          have HT1 : Hid (Tl w5 (.slice (some ⟨g2, 0, none⟩) mm.length mm.length) (mm.take mm.length)) := tl_take HO5.out.tl mm.length (Nat.le_refl _)
          have HT2 : Hid (Tl w5 (.slice (some ⟨g2, 0, none⟩) 0 0) (mm.drop mm.length)) := by show Tl _ _ _; rw [List.drop_length]; exact tl_empty w5 _ 0 (fun _ => rfl)
          have hkl : (mm.length : Int) ≤ (mm.length : Int) := by omega
          have HLT : Hid ((mm.take mm.length).length = mm.length) := by show (mm.take mm.length).length = mm.length; rw [List.length_take]; first | omega | rfl
          have HLD : Hid ((mm.drop mm.length).length = mm.length - mm.length) := by show _ = _; rw [List.length_drop]
          go_region_held3 (fun w' => Below w5.heap.size w5 w' ∧ w'.cell? ⟨Bb, 1, none⟩ = some (.string s.2)) ((refine keepT ?_ hBl5 fx; (repeat (first | assumption | exact Below.refl _ _ | refine blAlloc ?_ _ | refine blQ ?_ _ | refine Below.drew ?_))))
           (first
            | (refine step_append_tx (w := (w5.alloc (.cells #[] 9)).drew) (by rfl) (.tmp 69) (.tmp 72) (by rfl) w5.heap.size _ [] (by rfl) ((own_emptyN w5 w5.heap.size w5.heap.size rfl (Nat.le_refl _)).later (by repeat (first | exact Below.refl _ _ | refine blAlloc ?_ _ | refine blQ ?_ _ | refine Below.drew ?_))) _ (mm.take mm.length) (by rfl) (HT1.out.later (by repeat (first | exact Below.refl _ _ | refine blAlloc ?_ _ | refine blQ ?_ _ | refine Below.drew ?_))) (by have := HLT.out; simp only [List.length_nil]; omega) (by simp <;> omega) ?_; intro v1 w6 h1 h2; have H1 := Lib.hid h1; have hbS : Below w5.heap.size w5 w6 := grown_belowT (B := w5.heap.size) (x := w5) (by repeat (first | exact Below.refl _ _ | refine blAlloc ?_ _ | refine blQ ?_ _ | refine Below.drew ?_)) ((own_emptyN w5 w5.heap.size w5.heap.size rfl (Nat.le_refl _)).later (by repeat (first | exact Below.refl _ _ | refine blAlloc ?_ _ | refine blQ ?_ _ | refine Below.drew ?_))) (Nat.le_refl _) (by simp <;> omega) h2; clear h1 h2)
            | (refine step_append_tx (w := ((w5.alloc (.cells #[] 9)).alloc (.cells #[.string s.2] 9)).drew) (by rfl) (.tmp 69) (.tmp 72) (by rfl) w5.heap.size _ [] (by rfl) ((own_emptyN w5 w5.heap.size w5.heap.size rfl (Nat.le_refl _)).later (by repeat (first | exact Below.refl _ _ | refine blAlloc ?_ _ | refine blQ ?_ _ | refine Below.drew ?_))) _ (mm.take mm.length) (by rfl) (HT1.out.later (by repeat (first | exact Below.refl _ _ | refine blAlloc ?_ _ | refine blQ ?_ _ | refine Below.drew ?_))) (by have := HLT.out; simp only [List.length_nil]; omega) (by simp <;> omega) ?_; intro v1 w6 h1 h2; have H1 := Lib.hid h1; have hbS : Below w5.heap.size w5 w6 := grown_belowT (B := w5.heap.size) (x := w5) (by repeat (first | exact Below.refl _ _ | refine blAlloc ?_ _ | refine blQ ?_ _ | refine Below.drew ?_)) ((own_emptyN w5 w5.heap.size w5.heap.size rfl (Nat.le_refl _)).later (by repeat (first | exact Below.refl _ _ | refine blAlloc ?_ _ | refine blQ ?_ _ | refine Below.drew ?_))) (Nat.le_refl _) (by simp <;> omega) h2; have HX := Lib.hid (tl_grown ((one_newT (w5.alloc (.cells #[] 9)) s.2 (w5.heap.size + 1) (by simp)).later (wr := ((w5.alloc (.cells #[] 9)).alloc (.cells #[.string s.2] 9)).drew) (by repeat (first | exact Below.refl _ _ | refine blAlloc ?_ _ | refine blQ ?_ _ | refine Below.drew ?_))) rfl h2 (fun g o hgo => by simp only [Option.some.injEq, Addr.mk.injEq] at hgo; simp [Value.ownBlock]; omega)); clear h1 h2)
            | (refine step_append_tx (w := ((w5.alloc (.cells #[.string s.2] 9)).alloc (.cells #[] 9)).drew) (by rfl) (.tmp 69) (.tmp 72) (by rfl) w5.heap.size _ [] (by rfl) ((own_emptyN (w5.alloc (.cells #[.string s.2] 9)) (w5.heap.size + 1) w5.heap.size (by simp) (by omega)).later (by repeat (first | exact Below.refl _ _ | refine blAlloc ?_ _ | refine blQ ?_ _ | refine Below.drew ?_))) _ (mm.take mm.length) (by rfl) (HT1.out.later (by repeat (first | exact Below.refl _ _ | refine blAlloc ?_ _ | refine blQ ?_ _ | refine Below.drew ?_))) (by have := HLT.out; simp only [List.length_nil]; omega) (by simp <;> omega) ?_; intro v1 w6 h1 h2; have H1 := Lib.hid h1; have hbS : Below w5.heap.size w5 w6 := grown_belowT (B := w5.heap.size) (x := w5) (by repeat (first | exact Below.refl _ _ | refine blAlloc ?_ _ | refine blQ ?_ _ | refine Below.drew ?_)) ((own_emptyN (w5.alloc (.cells #[.string s.2] 9)) (w5.heap.size + 1) w5.heap.size (by simp) (by omega)).later (by repeat (first | exact Below.refl _ _ | refine blAlloc ?_ _ | refine blQ ?_ _ | refine Below.drew ?_))) (Nat.le_refl _) (by simp <;> omega) h2; have HX := Lib.hid (tl_grown ((one_newT w5 s.2 w5.heap.size rfl).later (wr := ((w5.alloc (.cells #[.string s.2] 9)).alloc (.cells #[] 9)).drew) (by repeat (first | exact Below.refl _ _ | refine blAlloc ?_ _ | refine blQ ?_ _ | refine Below.drew ?_))) rfl h2 (fun g o hgo => by simp only [Option.some.injEq, Addr.mk.injEq] at hgo; simp [Value.ownBlock]; omega)); clear h1 h2)
            | (refine step_append_tx (by rfl) (.tmp 73) (.tmp 78) (by rfl) w5.heap.size _ ([] ++ mm.take mm.length) (by rfl) (H1.out.later (blAlloc (Below.refl w6.heap.size w6) (.cells #[.string s.2] 9))) _ [s.2] (by rfl) (one_newT w6 s.2 _ rfl) (by have := HLT.out; simp only [List.nil_append, List.length_cons, List.length_nil]; omega) (by have := hbS.size; simp; omega) ?_; intro v2 w7 h1 h2; have H2 := Lib.hid h1; have hbS2 : Below w5.heap.size w5 w7 := grown_belowT (B := w5.heap.size) (x := w5) (by first | exact hbS | exact blAlloc hbS _) (H1.out.later (blAlloc (Below.refl w6.heap.size w6) (.cells #[.string s.2] 9))) (Nat.le_refl _) (by have := hbS.size; simp; omega) h2; clear h1 h2)
            | (refine step_append_tx (by rfl) (.tmp 73) (.tmp 78) (by rfl) w5.heap.size _ ([] ++ mm.take mm.length) (by rfl) (H1.out) _ [s.2] (by rfl) (HX.out) (by have := HLT.out; simp only [List.nil_append, List.length_cons, List.length_nil]; omega) (by have := hbS.size; simp; omega) ?_; intro v2 w7 h1 h2; have H2 := Lib.hid h1; have hbS2 : Below w5.heap.size w5 w7 := grown_belowT (B := w5.heap.size) (x := w5) (by first | exact hbS | exact blAlloc hbS _) (H1.out) (Nat.le_refl _) (by have := hbS.size; simp; omega) h2; clear h1 h2)
            | (refine step_append_tx (by rfl) (.tmp 79) (.tmp 82) (by rfl) w5.heap.size _ ([] ++ mm.take mm.length ++ [s.2]) (by rfl) (H2.out) _ (mm.drop mm.length) (by rfl) (HT2.out.later hbS2) (by first | (simp; done) | (have := HLT.out; have := HLD.out; simp only [List.nil_append, List.length_append, List.length_cons, List.length_nil]; omega)) hbS2.size ?_; intro v3 w8 h1 h2; have H3 := Lib.hid h1; have hbS3 : Below w5.heap.size w5 w8 := grown_belowT (B := w5.heap.size) (x := w5) hbS2 H2.out (Nat.le_refl _) hbS2.size h2; clear h1 h2))
          all_goals
           have HFIN : Hid (OwnT w8 w.heap.size v3 (midT m s 2)) := by
            show OwnT _ _ _ _
            rw [HMM.out, HIN2.out]
            have h := H3.out.mono (Nat.le_trans HB1.out.size HB5.out.size)
            rwa [ins_eq] at h
           have HBF := Lib.hid (HB5.out.trans (hbS3.mono HB5.out.size))
           clear hbS hbS2 hbS3
           go_wp2
           go_roundw
           case rel => exact ⟨2, by omega, by go_num, HFIN.out, HBF.out⟩
           case measure => simp [RowKit.intOf]
         ·go_wp2
          have HT1 : Hid (Tl w5 (.slice (some ⟨g2, 0, none⟩) mm.length cv2) (mm.take mm.length)) := tl_take HO5.out.tl mm.length (Nat.le_refl _)
          have HT2 : Hid (Tl w5 (.slice (some ⟨g2, mm.length, none⟩) 0 (cv2 - mm.length)) (mm.drop mm.length)) := by show Tl _ _ _; rw [List.drop_length]; exact tl_empty w5 _ _ (fun h => by cases h)
          have hkc : (mm.length : Int) ≤ (cv2 : Int) := by omega
          have hkl : (mm.length : Int) ≤ (mm.length : Int) := by omega
          have HLT : Hid ((mm.take mm.length).length = mm.length) := by show (mm.take mm.length).length = mm.length; rw [List.length_take]; first | omega | rfl
          have HLD : Hid ((mm.drop mm.length).length = mm.length - mm.length) := by show _ = _; rw [List.length_drop]
          go_region_held3 (fun w' => Below w5.heap.size w5 w' ∧ w'.cell? ⟨Bb, 1, none⟩ = some (.string s.2)) ((refine keepT ?_ hBl5 fx; (repeat (first | assumption | exact Below.refl _ _ | refine blAlloc ?_ _ | refine blQ ?_ _ | refine Below.drew ?_))))
           (first
            | (refine step_append_tx (w := (w5.alloc (.cells #[] 9)).drew) (by rfl) (.tmp 69) (.tmp 72) (by rfl) w5.heap.size _ [] (by rfl) ((own_emptyN w5 w5.heap.size w5.heap.size rfl (Nat.le_refl _)).later (by repeat (first | exact Below.refl _ _ | refine blAlloc ?_ _ | refine blQ ?_ _ | refine Below.drew ?_))) _ (mm.take mm.length) (by rfl) (HT1.out.later (by repeat (first | exact Below.refl _ _ | refine blAlloc ?_ _ | refine blQ ?_ _ | refine Below.drew ?_))) (by have := HLT.out; simp only [List.length_nil]; omega) (by simp <;> omega) ?_; intro v1 w6 h1 h2; have H1 := Lib.hid h1; have hbS : Below w5.heap.size w5 w6 := grown_belowT (B := w5.heap.size) (x := w5) (by repeat (first | exact Below.refl _ _ | refine blAlloc ?_ _ | refine blQ ?_ _ | refine Below.drew ?_)) ((own_emptyN w5 w5.heap.size w5.heap.size rfl (Nat.le_refl _)).later (by repeat (first | exact Below.refl _ _ | refine blAlloc ?_ _ | refine blQ ?_ _ | refine Below.drew ?_))) (Nat.le_refl _) (by simp <;> omega) h2; clear h1 h2)
            | (refine step_append_tx (w := ((w5.alloc (.cells #[] 9)).alloc (.cells #[.string s.2] 9)).drew) (by rfl) (.tmp 69) (.tmp 72) (by rfl) w5.heap.size _ [] (by rfl) ((own_emptyN w5 w5.heap.size w5.heap.size rfl (Nat.le_refl _)).later (by repeat (first | exact Below.refl _ _ | refine blAlloc ?_ _ | refine blQ ?_ _ | refine Below.drew ?_))) _ (mm.take mm.length) (by rfl) (HT1.out.later (by repeat (first | exact Below.refl _ _ | refine blAlloc ?_ _ | refine blQ ?_ _ | refine Below.drew ?_))) (by have := HLT.out; simp only [List.length_nil]; omega) (by simp <;> omega) ?_; intro v1 w6 h1 h2; have H1 := Lib.hid h1; have hbS : Below w5.heap.size w5 w6 := grown_belowT (B := w5.heap.size) (x := w5) (by repeat (first | exact Below.refl _ _ | refine blAlloc ?_ _ | refine blQ ?_ _ | refine Below.drew ?_)) ((own_emptyN w5 w5.heap.size w5.heap.size rfl (Nat.le_refl _)).later (by repeat (first | exact Below.refl _ _ | refine blAlloc ?_ _ | refine blQ ?_ _ | refine Below.drew ?_))) (Nat.le_refl _) (by simp <;> omega) h2; have HX := Lib.hid (tl_grown ((one_newT (w5.alloc (.cells #[] 9)) s.2 (w5.heap.size + 1) (by simp)).later (wr := ((w5.alloc (.cells #[] 9)).alloc (.cells #[.string s.2] 9)).drew) (by repeat (first | exact Below.refl _ _ | refine blAlloc ?_ _ | refine blQ ?_ _ | refine Below.drew ?_))) rfl h2 (fun g o hgo => by simp only [Option.some.injEq, Addr.mk.injEq] at hgo; simp [Value.ownBlock]; omega)); clear h1 h2)
            | (refine step_append_tx (w := ((w5.alloc (.cells #[.string s.2] 9)).alloc (.cells #[] 9)).drew) (by rfl) (.tmp 69) (.tmp 72) (by rfl) w5.heap.size _ [] (by rfl) ((own_emptyN (w5.alloc (.cells #[.string s.2] 9)) (w5.heap.size + 1) w5.heap.size (by simp) (by omega)).later (by repeat (first | exact Below.refl _ _ | refine blAlloc ?_ _ | refine blQ ?_ _ | refine Below.drew ?_))) _ (mm.take mm.length) (by rfl) (HT1.out.later (by repeat (first | exact Below.refl _ _ | refine blAlloc ?_ _ | refine blQ ?_ _ | refine Below.drew ?_))) (by have := HLT.out; simp only [List.length_nil]; omega) (by simp <;> omega) ?_; intro v1 w6 h1 h2; have H1 := Lib.hid h1; have hbS : Below w5.heap.size w5 w6 := grown_belowT (B := w5.heap.size) (x := w5) (by repeat (first | exact Below.refl _ _ | refine blAlloc ?_ _ | refine blQ ?_ _ | refine Below.drew ?_)) ((own_emptyN (w5.alloc (.cells #[.string s.2] 9)) (w5.heap.size + 1) w5.heap.size (by simp) (by omega)).later (by repeat (first | exact Below.refl _ _ | refine blAlloc ?_ _ | refine blQ ?_ _ | refine Below.drew ?_))) (Nat.le_refl _) (by simp <;> omega) h2; have HX := Lib.hid (tl_grown ((one_newT w5 s.2 w5.heap.size rfl).later (wr := ((w5.alloc (.cells #[.string s.2] 9)).alloc (.cells #[] 9)).drew) (by repeat (first | exact Below.refl _ _ | refine blAlloc ?_ _ | refine blQ ?_ _ | refine Below.drew ?_))) rfl h2 (fun g o hgo => by simp only [Option.some.injEq, Addr.mk.injEq] at hgo; simp [Value.ownBlock]; omega)); clear h1 h2)
            | (refine step_append_tx (by rfl) (.tmp 73) (.tmp 78) (by rfl) w5.heap.size _ ([] ++ mm.take mm.length) (by rfl) (H1.out.later (blAlloc (Below.refl w6.heap.size w6) (.cells #[.string s.2] 9))) _ [s.2] (by rfl) (one_newT w6 s.2 _ rfl) (by have := HLT.out; simp only [List.nil_append, List.length_cons, List.length_nil]; omega) (by have := hbS.size; simp; omega) ?_; intro v2 w7 h1 h2; have H2 := Lib.hid h1; have hbS2 : Below w5.heap.size w5 w7 := grown_belowT (B := w5.heap.size) (x := w5) (by first | exact hbS | exact blAlloc hbS _) (H1.out.later (blAlloc (Below.refl w6.heap.size w6) (.cells #[.string s.2] 9))) (Nat.le_refl _) (by have := hbS.size; simp; omega) h2; clear h1 h2)
            | (refine step_append_tx (by rfl) (.tmp 73) (.tmp 78) (by rfl) w5.heap.size _ ([] ++ mm.take mm.length) (by rfl) (H1.out) _ [s.2] (by rfl) (HX.out) (by have := HLT.out; simp only [List.nil_append, List.length_cons, List.length_nil]; omega) (by have := hbS.size; simp; omega) ?_; intro v2 w7 h1 h2; have H2 := Lib.hid h1; have hbS2 : Below w5.heap.size w5 w7 := grown_belowT (B := w5.heap.size) (x := w5) (by first | exact hbS | exact blAlloc hbS _) (H1.out) (Nat.le_refl _) (by have := hbS.size; simp; omega) h2; clear h1 h2)
            | (refine step_append_tx (by rfl) (.tmp 79) (.tmp 82) (by rfl) w5.heap.size _ ([] ++ mm.take mm.length ++ [s.2]) (by rfl) (H2.out) _ (mm.drop mm.length) (by rfl) (HT2.out.later hbS2) (by first | (simp; done) | (have := HLT.out; have := HLD.out; simp only [List.nil_append, List.length_append, List.length_cons, List.length_nil]; omega)) hbS2.size ?_; intro v3 w8 h1 h2; have H3 := Lib.hid h1; have hbS3 : Below w5.heap.size w5 w8 := grown_belowT (B := w5.heap.size) (x := w5) hbS2 H2.out (Nat.le_refl _) hbS2.size h2; clear h1 h2))
          all_goals
           have HFIN : Hid (OwnT w8 w.heap.size v3 (midT m s 2)) := by
            show OwnT _ _ _ _
            rw [HMM.out, HIN2.out]
            have h := H3.out.mono (Nat.le_trans HB1.out.size HB5.out.size)
            rwa [ins_eq] at h
           have HBF := Lib.hid (HB5.out.trans (hbS3.mono HB5.out.size))
           clear hbS hbS2 hbS3
           go_wp2
           go_roundw
           case rel => exact ⟨2, by omega, by go_num, HFIN.out, HBF.out⟩
           case measure => simp [RowKit.intOf]
     ·have hno : s.2.toList.isEmpty = true := hn
      have e2 : Hid (midT m s 2 = midT m s 1) := by
       show markS m s = insT s.1 m
       unfold markS
       rw [if_pos hn]
      clear hn
      obtain ⟨av2, cv2, rfl⟩ := HO2.out.form
      go_wp2
      go_roundw
      case rel => exact ⟨2, by omega, by go_num, by rw [e2.out]; exact HO2.out, HB2.out⟩
      case measure => simp [RowKit.intOf]
  ·obtain rfl : k = l.length := by omega
   have HF : Hid (marksL (l.take l.length) = marksL l) := by show _ = _; rw [List.take_length]
   obtain ⟨av, cv, rfl⟩ := ho.form
   rw [HF.out] at HO ⊢
   clear hb ho
   go_wp2
   go_ret
   exact ⟨_, rfl, HO.out, HB.out⟩
end S3
end Go.Proofs.YtpdfcojcmhadnaaGreat
