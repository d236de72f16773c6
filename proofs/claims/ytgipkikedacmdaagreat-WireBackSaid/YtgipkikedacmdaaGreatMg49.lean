/- What a letter asks of its field. Conditions: lists of a size that contracts serve; one of the fourteen letters. -/
import Derived.Deep.WholeRow
import Derived.WalkSpells
import Derived.Test.YtgipkikedacmdaaGreatMg48
import Derived.Test.YtgipkikedacmdaaGreatMg47
import Derived.Test.YtgipkikedacmdaaGreatMg41
import Derived.Test.YtgipkikedacmdaaGreatMg20
set_option maxRecDepth 100000
set_option maxHeartbeats 16000000
set_option linter.unusedVariables false
set_option linter.unusedSimpArgs false
namespace Go.Proofs.YtgipkikedacmdaaGreat
open S3 SN SP
namespace SC
open Go.ChangeShapes Go.WideShapes Go.ChangeAt Go.RowKit Go.Joins Go.Deep
abbrev z22 : Array Value := #[.int .i64 0, .int .i64 0, .slice none 0 0, .int .i64 0, .int .i64 0, .int .i64 0, .int .i64 0, .int .i64 0, .bool false, .slice none 0 0, .int .i64 0, .int .i64 0, .bool false, .int .i64 0, .int .i64 0, .bool false, .int .i64 0, .int .i64 0, .slice none 0 0, .bool false, .slice none 0 0, .slice none 0 0]
abbrev r22 (a : Int) (b : Int) (o : Value) (c : Int) (d : Int) (e : Int) (f : Int) (g : Int) (h : Bool) (s : Value) (i : Int) (j : Int) (k : Bool) (l : Int) (m : Int) (n : Bool) (p : Int) (q : Int) (u : Value) (v : Bool) (w : Value) (x : Value) : Array Value := #[.int .i64 a, .int .i64 b, o, .int .i64 c, .int .i64 d, .int .i64 e, .int .i64 f, .int .i64 g, .bool h, s, .int .i64 i, .int .i64 j, .bool k, .int .i64 l, .int .i64 m, .bool n, .int .i64 p, .int .i64 q, u, .bool v, w, x]
theorem hH {p : Prop} (h : p) : Hid p := Lib.hid h
theorem sA9 {α : Type} (l : List α) (i : Nat) (a : α) : l.toArray.setIfInBounds i a = (l.set i a).toArray := List.setIfInBounds_toArray l i a
theorem sZ9 {α : Type} (a b : α) (l : List α) : (a :: l).set 0 b = b :: l := rfl
theorem sS9 {α : Type} (a b : α) (l : List α) (n : Nat) : (a :: l).set (n + 1) b = a :: l.set n b := rfl
theorem szCmd : (Tryz.prog.info? 31).map (·.size) = some 22 := by kernel_rfl
theorem wpList_unguard {P : Program} {ops : Array Oper} {Q : Exit → Act → World → Prop} {a : Act} {w : World} {rest : List Oper} {o : Oper} (hw : Region.wanted o (yielded ops a.tmps) = true)
  (h : wpList P ops Q ({ o with guard := none } :: rest) a w) : wpList P ops Q (o :: rest) a w := by
 unfold wpList at h ⊢
 rw [if_pos hw]
 rw [if_pos (by simp [Region.wanted])] at h
 exact h
theorem load9 {w : World} {ops : Array Oper} {rest : List Oper} {o : Oper} {a : Act} {Q : Exit → Act → World → Prop} (x : Operand) (ho : o.op = .load 31 x) (hw : Region.wanted o (yielded ops a.tmps) = true) (g : Nat) (hx : a.eval x = .pointer (some ⟨g, 0, none⟩)) {cs : Array Value}
  (hg : w.heap[g]? = some (.cells cs 31 (0, 0))) (hs : cs.size = 22) (h : wpList Tryz.prog ops Q rest (a.put o.dst (.agg cs)) w) : wpList Tryz.prog ops Q (o :: rest) a w :=
 wpList_unguard hw (wpList_load_row rfl 31 x ho g hx 31 cs (0, 0) _ hg Tryz.underlying31 rfl (by rw [hs]; exact szCmd) h)
theorem row_box (W : World) (c : Array Value) (T : TypeId) (Y : World) (h : Below (W.alloc (.cells c T)).heap.size (W.alloc (.cells c T)) Y) : Y.heap[W.heap.size]? = some (.cells c T (0, 0)) := (h.block W.heap.size (by simp)).trans (new_blockC W c T)
theorem nth_box (W : World) : ∀ (os : List Obj) (i : Nat) (o : Obj), os[i]? = some o → (os.foldl World.alloc W).heap[W.heap.size + i]? = some o ∧ W.heap.size + os.length = (os.foldl World.alloc W).heap.size := by
 intro os
 induction os generalizing W with
 | nil => intro i o h; simp at h
 | cons x r ih =>
  intro i o h
  have hs : (W.alloc x).heap.size = W.heap.size + 1 := by simp
  have hsz : ∀ (r : List Obj) (V : World), (r.foldl World.alloc V).heap.size = V.heap.size + r.length := by
   intro r
   induction r with
   | nil => intro V; rfl
   | cons y r ih2 => intro V; rw [List.foldl_cons, ih2]; simp; omega
  have hk : ∀ (r : List Obj) (V : World) (k : Nat), k < V.heap.size → (r.foldl World.alloc V).heap[k]? = V.heap[k]? := by
   intro r
   induction r with
   | nil => intro V k _; rfl
   | cons y r ih2 =>
    intro V k hk
    rw [List.foldl_cons, ih2 _ _ (by simp; omega)]
    show (V.heap.push y)[k]? = _
    rw [Array.getElem?_push, if_neg (by omega)]
  refine ⟨?_, by rw [hsz]⟩
  rw [List.foldl_cons]
  cases i with
  | zero =>
   simp only [List.getElem?_cons_zero, Option.some.injEq] at h
   subst h
   rw [Nat.add_zero, hk _ _ _ (by rw [hs]; omega)]
   show (W.heap.push _)[W.heap.size]? = _
   rw [Array.getElem?_push_size]
  | succ i =>
   rw [List.getElem?_cons_succ] at h
   have := (ih (W.alloc x) i o h).1
   rw [hs] at this
   rw [← this]
   congr 1
   omega
theorem boxes1 (W : World) (a : Obj) : ∃ w0 : World, w0 = (W.alloc a) ∧ W.heap.size + 1 ≤ w0.heap.size ∧ w0.heap[W.heap.size]? = some a ∧ Below W.heap.size W w0 :=
 ⟨(W.alloc a), rfl, Nat.le_of_eq (nth_box W [a] 0 a rfl).2, (nth_box W [a] 0 a rfl).1, (blAlloc (Below.refl _ _) _)⟩
theorem boxes2 (W : World) (a b : Obj) : ∃ w0 : World, w0 = ((W.alloc a).alloc b) ∧ W.heap.size + 2 ≤ w0.heap.size ∧ w0.heap[W.heap.size]? = some a ∧ w0.heap[(W.heap.size + 1)]? = some b ∧ Below W.heap.size W w0 :=
 ⟨((W.alloc a).alloc b), rfl, Nat.le_of_eq (nth_box W [a, b] 0 a rfl).2, (nth_box W [a, b] 0 a rfl).1, (nth_box W [a, b] 1 b rfl).1, (blAlloc (blAlloc (Below.refl _ _) _) _)⟩
theorem below_grown9 {w x y : World} {k : Nat} (h : Below w.heap.size w x) (hg : x.grownBy y (some k)) (hk : w.heap.size ≤ k) : Below w.heap.size w y := h.grown hg h.size (fun j hj => by cases hj; exact hk)
theorem results_cell_tmp9 {P : Program} {fn : Func} {p q : Tmp} {ty : TypeId} (h : fn.results = #[.cell p ty, .tmp q]) (tmps : Array Value) (w : World) (g : Nat) (t : TypeId) (cs : Array Value) (fr : Nat × Nat) (d : TypeDesc)
  (hp : tmps.getD p undef = .pointer (some ⟨g, 0, none⟩)) (hg : w.heap[g]? = some (.cells cs t fr))
  (hu : P.underlying ty = some d) (hd : (match d with | .struct _ | .array _ _ => true | _ => false) = true) (hi : (P.info? ty).map (·.size) = some cs.size) :
  (results fn tmps).run P w = .ok (.tuple #[.agg cs, tmps.getD q undef]) w := by
 have hp' : tmps[p]?.getD undef = .pointer (some ⟨g, 0, none⟩) := by simpa using hp
 simp [results, h, hp', asAddr, run_loadVar_row w g t ty cs fr d hg hu hd hi]
theorem slG_one {α : Type} {E : Enc α} {w : World} {v : Value} {l : List α} (h : SlG E w v l) : v.oneCell' = true := by
 obtain ⟨a, cap, rfl, _⟩ := h
 rfl
theorem dlV_one {w : World} {v : Value} {d : SD.Dd} (h : DlV w v d) : v.oneCell' = true := by
 obtain ⟨a, cap, F, rfl, _⟩ := h
 rfl
theorem grown_other9 {x y : World} {g k : Nat} {o : Obj} (h : x.heap[k]? = some o) (hg : x.grownBy y (some g)) (hk : k < x.heap.size) (hne : k ≠ g) : y.heap[k]? = some o := (hg.block k hk (by intro e; have := Option.some.inj e; omega)).trans h
end SC
end Go.Proofs.YtgipkikedacmdaaGreat

namespace Go.Proofs.YtgipkikedacmdaaGreat
open S3 SC SN SP
namespace SI
open Go.ChangeShapes Go.WideShapes Go.ChangeAt Go.RowKit Go.Joins Go.Deep
structure PlM where
 o : Value
 d : Value
 v : Value
 w : Value
 p : Value
def msV (m : Mg) (l : PlM) : Value := .agg #[.int .i64 m.kind, .int .i64 m.frm, .int .i64 m.dst, .int .i64 m.id.1, .int .i64 m.id.2, .int .i64 m.bal.1, .int .i64 m.bal.2, .int .i64 m.at_.1, .int .i64 m.at_.2, l.o, .bool m.fast, l.d, .bool m.has, .int .i64 m.acc.1, .int .i64 m.acc.2, .bool m.val.1, .int .i64 m.val.2.1.1, .int .i64 m.val.2.1.2, l.v, l.w, l.p]
structure MsAt (W : World) (m : Mg) (l : PlM) : Prop where
 o : SlG eO W l.o m.ops
 d : DlV W l.d m.deps
 v : DlV W l.v m.val.2.2
 w : SlG eW W l.w m.writes
 p : SlG eP W l.p m.pairs
theorem MsAt.later {W X : World} {m : Mg} {l : PlM} (h : MsAt W m l) (hb : Below W.heap.size W X) : MsAt X m l := ⟨h.o.later hb, h.d.later hb, h.v.later hb, h.w.later hb, h.p.later hb⟩
structure FewM (m : Mg) : Prop where
 ops : m.ops.length ≤ 20000
 deps : FewV m.deps
 vdeps : FewV m.val.2.2
 writes : m.writes.length ≤ 20000
 pairs : m.pairs.length ≤ 20000
theorem szMsg : (Tryz.prog.info? 61).map (·.size) = some 21 := by kernel_rfl
theorem loadM {w : World} {ops : Array Oper} {rest : List Oper} {o : Oper} {a : Act} {Q : Exit → Act → World → Prop} (x : Operand) (ho : o.op = .load 61 x) (hw : Region.wanted o (yielded ops a.tmps) = true) (g : Nat) (hx : a.eval x = .pointer (some ⟨g, 0, none⟩)) {cs : Array Value}
  (hg : w.heap[g]? = some (.cells cs 61 (0, 0))) (hs : cs.size = 21) (h : wpList Tryz.prog ops Q rest (a.put o.dst (.agg cs)) w) : wpList Tryz.prog ops Q (o :: rest) a w :=
 wpList_unguard hw (wpList_load_row rfl 61 x ho g hx 61 cs (0, 0) _ hg Tryz.underlying61 rfl (by rw [hs]; exact szMsg) h)
theorem storeM {w : World} {ops : Array Oper} {rest : List Oper} {o : Oper} {a : Act} {Q : Exit → Act → World → Prop} (x y : Operand) (ho : o.op = .store 61 x y) (hw : Region.wanted o (yielded ops a.tmps) = true) (g : Nat) (hx : a.eval x = .pointer (some ⟨g, 0, none⟩)) {cells : Array Value} (hy : a.eval y = .agg cells) {old : Array Value}
  (hg : w.heap[g]? = some (.cells old 61 (0, 0))) (hold : old.size = 21) (hcs : cells.size = 21) (h1 : cells.all (·.oneCell') = true)
  (h : ∀ w', w'.heap[g]? = some (.cells cells 61 (0, 0)) → w.grownBy w' (some g) → wpList Tryz.prog ops Q rest (a.put o.dst undef) w') : wpList Tryz.prog ops Q (o :: rest) a w := by
 refine wpList_unguard hw (wpList_store_row rfl 61 x y ho g cells hx hy 61 old hg (by rw [hcs]; exact szMsg) (by rw [hold, hcs]) h1 (h _ (setRow_heap w g old cells _ _ hg) ?_))
 exact ⟨rfl, rfl, rfl, by simp, fun j hj hne => setRow_other w g j cells (fun e => hne (by rw [e]))⟩
theorem ms_form {W : World} {m : Mg} {l : PlM} (h : MsAt W m l) : ∃ oa oc da dc va vc wa wc pa pc, l = ⟨.slice oa m.ops.length oc, .slice da m.deps.length dc, .slice va m.val.2.2.length vc, .slice wa m.writes.length wc, .slice pa m.pairs.length pc⟩ := by
 obtain ⟨lo, ld, lv, lw, lp⟩ := l
 obtain ⟨oa, oc, h1⟩ := h.o.form
 obtain ⟨da, dc, dF, h2, _, h3, _⟩ := h.d
 obtain ⟨va, vc, vF, h4, _, h5, _⟩ := h.v
 obtain ⟨wa, wc, h6⟩ := h.w.form
 obtain ⟨pa, pc, h7⟩ := h.p.form
 refine ⟨oa, oc, da, dc, va, vc, wa, wc, pa, pc, ?_⟩
 have e1 : dF.length = m.deps.length := by rw [← h3]; simp [SD.toD]
 have e2 : vF.length = m.val.2.2.length := by rw [← h5]; simp [SD.toD]
 simp only at h1 h2 h4 h6 h7
 rw [h1, h2, h4, h6, h7, e1, e2]
theorem node_any (n : Int) (W : World) : Calls Tryz.prog 113 #[.int .i64 n] W fun e w' => e = .returned (.bool (nodeB n)) ∧ W = w' := by
 by_cases h1 : 1 ≤ n
 ·by_cases h2 : n ≤ 7
  ·have hv : nodeB n = true := by unfold nodeB; rw [decide_eq_true h1, decide_eq_true h2]; rfl
   rw [hv]
   have g1 : decide (1 ≤ n) = true := decide_eq_true h1
   have g2 : decide (n ≤ 7) = true := decide_eq_true h2
   go_enter Tryz.func113, Tryz.ntmps113
   go_wp2
   go_ret
   exact ⟨rfl, rfl⟩
  ·have hv : nodeB n = false := by unfold nodeB; rw [decide_eq_true h1, decide_eq_false h2]; rfl
   rw [hv]
   have g1 : decide (1 ≤ n) = true := decide_eq_true h1
   have g2 : decide (n ≤ 7) = false := decide_eq_false h2
   go_enter Tryz.func113, Tryz.ntmps113
   go_wp2
   go_ret
   exact ⟨rfl, rfl⟩
 ·have hv : nodeB n = false := by unfold nodeB; rw [decide_eq_false h1]; rfl
  rw [hv]
  have g1 : decide (1 ≤ n) = false := decide_eq_false h1
  go_enter Tryz.func113, Tryz.ntmps113
  go_wp2
  go_ret
  exact ⟨rfl, rfl⟩
theorem trans_any (va : Value) (o : List Opr) (W : World) (hl : o.length ≤ 20000) (h : SlG eO W va o) : Calls Tryz.prog 166 #[va] W fun e w' => e = .returned (.bool (decide (checkP o = 0))) ∧ Below W.heap.size W w' := by
 by_cases hk : checkP o = 0
 ·rw [decide_eq_true hk]
  go_enter Tryz.func166, Tryz.ntmps166
  go_wp2_with (first | (go_at_call 133; go_must (refine (check8_any va o _ (by omega) h).mono ?_; rw [hk]; rintro e w1 ⟨rfl, h5⟩; have HB1 := Lib.hid h5; clear h5)))
  go_ret
  exact ⟨rfl, HB1.out⟩
 ·rw [decide_eq_false hk]
  have hk2 : (checkP o == 0) = false := by simpa using hk
  go_enter Tryz.func166, Tryz.ntmps166
  go_wp2_with (first | (go_at_call 133; go_must (refine (check8_any va o _ (by omega) h).mono ?_; rintro e w1 ⟨rfl, h5⟩; have HB1 := Lib.hid h5; clear h5)))
  go_ret
  exact ⟨rfl, HB1.out⟩
theorem acc_any (m : Mg) (l : PlM) (W : World) (h : MsAt W m l) (hf : FewM m) : Calls Tryz.prog 165 #[msV m l] W fun e w' => e = .returned (.bool (accB m)) ∧ Below W.heap.size W w' := by
 have HB := Lib.hid (fun (Y : World) => isBallot_any m.acc Y)
 have HN := Lib.hid (fun (Y : World) (hY : Below W.heap.size W Y) => isZeroValue_any m.val l.v Y (h.v.later hY))
 have HV := Lib.hid (fun (Y : World) (hY : Below W.heap.size W Y) => isValue_any m.val l.v Y (h.v.later hY) hf.vdeps)
 generalize hv : accB m = v
 obtain ⟨kind, frm, dst, ⟨id1, id2⟩, ⟨b1, b2⟩, ⟨a1, a2⟩, ops, fast, deps, has, ⟨q1, q2⟩, ⟨gone, ⟨t1, t2⟩, vdeps⟩, writes, pairs⟩ := m
 obtain ⟨lo, ld, lv, lw, lp⟩ := l
 simp only [msV]
 have HC := Lib.hid (cell_box W #[.int .i64 kind, .int .i64 frm, .int .i64 dst, .int .i64 id1, .int .i64 id2, .int .i64 b1, .int .i64 b2, .int .i64 a1, .int .i64 a2, lo, .bool fast, ld, .bool has, .int .i64 q1, .int .i64 q2, .bool gone, .int .i64 t1, .int .i64 t2, lv, lw, lp] 61)
 have HR := Lib.hid (row_box W #[.int .i64 kind, .int .i64 frm, .int .i64 dst, .int .i64 id1, .int .i64 id2, .int .i64 b1, .int .i64 b2, .int .i64 a1, .int .i64 a2, lo, .bool fast, ld, .bool has, .int .i64 q1, .int .i64 q2, .bool gone, .int .i64 t1, .int .i64 t2, lv, lw, lp] 61)
 have KL0 := Lib.hid (new_blockC W #[.int .i64 kind, .int .i64 frm, .int .i64 dst, .int .i64 id1, .int .i64 id2, .int .i64 b1, .int .i64 b2, .int .i64 a1, .int .i64 a2, lo, .bool fast, ld, .bool has, .int .i64 q1, .int .i64 q2, .bool gone, .int .i64 t1, .int .i64 t2, lv, lw, lp] 61)
 simp only [vlV] at HB HN HV
 unfold accB at hv
 cases has
 ·simp only [Bool.false_eq_true, if_false] at hv
  by_cases hq1 : q1 = 0
  ·by_cases hq2 : q2 = 0
   ·subst hq1
    subst hq2
    have hzq1 : decide (((0 : Int), (0 : Int)) = z2) = true := rfl
    rw [hzq1, Bool.true_and] at hv
    rw [hv] at HN
    go_enter Tryz.func165, Tryz.ntmps165
    go_wp2_with (first | (first | go_skip | refine loadM _ rfl rfl _ rfl KL6.out rfl ?_ | refine loadM _ rfl rfl _ rfl KL5.out rfl ?_ | refine loadM _ rfl rfl _ rfl KL4.out rfl ?_ | refine loadM _ rfl rfl _ rfl KL3.out rfl ?_ | refine loadM _ rfl rfl _ rfl KL2.out rfl ?_ | refine loadM _ rfl rfl _ rfl KL1.out rfl ?_ | refine loadM _ rfl rfl _ rfl KL0.out rfl ?_) | (go_at_call 137; go_must (refine (HN.out _ (blAlloc (Below.refl _ _) _)).mono ?_; rintro e w1 ⟨rfl, h5⟩; have HY1 := Lib.hid h5; have hw1 := HY1.out.size; simp only [World.size_alloc] at hw1; have HB1 : Hid (Below W.heap.size W w1) := Lib.hid (blThen (blAlloc (Below.refl _ _) _) HY1.out); clear h5)))
    go_ret
    exact ⟨rfl, HB1.out⟩
   ·subst hq1
    have eq2 : (q2 == 0) = false := by simpa using hq2
    have hzq1 : decide (((0 : Int), q2) = z2) = false := decide_eq_false (fun e => hq2 (congrArg Prod.snd e))
    rw [hzq1] at hv
    obtain rfl : v = false := by rw [← hv]; rfl
    go_enter Tryz.func165, Tryz.ntmps165
    go_wp2_with (first | (first | go_skip | refine loadM _ rfl rfl _ rfl KL6.out rfl ?_ | refine loadM _ rfl rfl _ rfl KL5.out rfl ?_ | refine loadM _ rfl rfl _ rfl KL4.out rfl ?_ | refine loadM _ rfl rfl _ rfl KL3.out rfl ?_ | refine loadM _ rfl rfl _ rfl KL2.out rfl ?_ | refine loadM _ rfl rfl _ rfl KL1.out rfl ?_ | refine loadM _ rfl rfl _ rfl KL0.out rfl ?_))
    go_ret
    exact ⟨rfl, (blAlloc (Below.refl _ _) _)⟩
  ·have eq1 : (q1 == 0) = false := by simpa using hq1
   have hzq1 : decide ((q1, q2) = z2) = false := decide_eq_false (fun e => hq1 (congrArg Prod.fst e))
   rw [hzq1] at hv
   obtain rfl : v = false := by rw [← hv]; rfl
   go_enter Tryz.func165, Tryz.ntmps165
   go_wp2_with (first | (first | go_skip | refine loadM _ rfl rfl _ rfl KL6.out rfl ?_ | refine loadM _ rfl rfl _ rfl KL5.out rfl ?_ | refine loadM _ rfl rfl _ rfl KL4.out rfl ?_ | refine loadM _ rfl rfl _ rfl KL3.out rfl ?_ | refine loadM _ rfl rfl _ rfl KL2.out rfl ?_ | refine loadM _ rfl rfl _ rfl KL1.out rfl ?_ | refine loadM _ rfl rfl _ rfl KL0.out rfl ?_))
   go_ret
   exact ⟨rfl, (blAlloc (Below.refl _ _) _)⟩
 ·simp only [if_true] at hv
  cases hz : ballotB (q1, q2)
  ·rw [hz] at HB hv
   obtain rfl : v = false := by rw [← hv]; rfl
   go_enter Tryz.func165, Tryz.ntmps165
   go_wp2_with (first | (first | go_skip | refine loadM _ rfl rfl _ rfl KL6.out rfl ?_ | refine loadM _ rfl rfl _ rfl KL5.out rfl ?_ | refine loadM _ rfl rfl _ rfl KL4.out rfl ?_ | refine loadM _ rfl rfl _ rfl KL3.out rfl ?_ | refine loadM _ rfl rfl _ rfl KL2.out rfl ?_ | refine loadM _ rfl rfl _ rfl KL1.out rfl ?_ | refine loadM _ rfl rfl _ rfl KL0.out rfl ?_) | (go_at_call 136; go_must (refine (HB.out _).mono ?_; rintro e w1 ⟨rfl, h5⟩; have HY1 := Lib.hid h5; have hw1 := HY1.out.size; simp only [World.size_alloc] at hw1; have HB1 : Hid (Below W.heap.size W w1) := Lib.hid (blThen (blAlloc (Below.refl _ _) _) HY1.out); clear h5)))
   go_ret
   exact ⟨rfl, HB1.out⟩
  ·rw [hz] at HB hv
   rw [Bool.true_and] at hv
   rw [hv] at HV
   go_enter Tryz.func165, Tryz.ntmps165
   go_wp2_with (first | (first | go_skip | refine loadM _ rfl rfl _ rfl KL6.out rfl ?_ | refine loadM _ rfl rfl _ rfl KL5.out rfl ?_ | refine loadM _ rfl rfl _ rfl KL4.out rfl ?_ | refine loadM _ rfl rfl _ rfl KL3.out rfl ?_ | refine loadM _ rfl rfl _ rfl KL2.out rfl ?_ | refine loadM _ rfl rfl _ rfl KL1.out rfl ?_ | refine loadM _ rfl rfl _ rfl KL0.out rfl ?_) | (go_at_call 136; go_must (refine (HB.out _).mono ?_; rintro e w1 ⟨rfl, h5⟩; have HY1 := Lib.hid h5; have c15_1 := HC.out _ HY1.out 15 _ rfl; have c16_1 := HC.out _ HY1.out 16 _ rfl; have c17_1 := HC.out _ HY1.out 17 _ rfl; have c18_1 := HC.out _ HY1.out 18 _ rfl; have hw1 := HY1.out.size; simp only [World.size_alloc] at hw1; have HB1 : Hid (Below W.heap.size W w1) := Lib.hid (blThen (blAlloc (Below.refl _ _) _) HY1.out); clear h5)) | (go_at_call 138; go_must (refine (HV.out _ HB1.out).mono ?_; rintro e w2 ⟨rfl, h5⟩; have HY2 := Lib.hid (blThen HY1.out h5); have hw2 := HY2.out.size; simp only [World.size_alloc] at hw2; have HB2 : Hid (Below W.heap.size W w2) := Lib.hid (blThen (blAlloc (Below.refl _ _) _) HY2.out); clear h5)))
   go_ret
   exact ⟨rfl, HB2.out⟩
theorem bare_any (m : Mg) (l : PlM) (W : World) (h : MsAt W m l) (hf : FewM m) : Calls Tryz.prog 116 #[msV m l] W fun e w' => e = .returned (.bool (bareB m)) ∧ Below W.heap.size W w' := by
 have HN := Lib.hid (fun (Y : World) (hY : Below W.heap.size W Y) => isZeroValue_any m.val l.v Y (h.v.later hY))
 obtain ⟨oa, oc, da, dc, va, vc, wa, wc, pa, pc, hml⟩ := ms_form h
 obtain ⟨f1, ⟨f2, _⟩, _, f4, f5⟩ := hf
 have hlen : decide (m.ops = [] ∧ m.deps = [] ∧ m.writes = [] ∧ m.pairs = []) = decide (m.ops.length + m.deps.length + m.writes.length + m.pairs.length = 0) := by
  have e : (m.ops = [] ∧ m.deps = [] ∧ m.writes = [] ∧ m.pairs = []) ↔ (m.ops.length + m.deps.length + m.writes.length + m.pairs.length = 0) := by
   constructor
   ·rintro ⟨h1, h2, h3, h4⟩; rw [h1, h2, h3, h4]; rfl
   ·intro h; exact ⟨List.eq_nil_of_length_eq_zero (by omega), List.eq_nil_of_length_eq_zero (by omega), List.eq_nil_of_length_eq_zero (by omega), List.eq_nil_of_length_eq_zero (by omega)⟩
  by_cases h : m.ops.length + m.deps.length + m.writes.length + m.pairs.length = 0
  ·rw [decide_eq_true h, decide_eq_true (e.2 h)]
  ·rw [decide_eq_false h, decide_eq_false (fun h2 => h (e.1 h2))]
 generalize hv : bareB m = v
 unfold bareB at hv
 rw [hlen] at hv
 clear hlen
 obtain ⟨kind, frm, dst, ⟨id1, id2⟩, ⟨b1, b2⟩, ⟨a1, a2⟩, ops, fast, deps, has, ⟨q1, q2⟩, ⟨gone, ⟨t1, t2⟩, vdeps⟩, writes, pairs⟩ := m
 obtain ⟨lo, ld, lv, lw, lp⟩ := l
 simp only [msV]
 have HC := Lib.hid (cell_box W #[.int .i64 kind, .int .i64 frm, .int .i64 dst, .int .i64 id1, .int .i64 id2, .int .i64 b1, .int .i64 b2, .int .i64 a1, .int .i64 a2, lo, .bool fast, ld, .bool has, .int .i64 q1, .int .i64 q2, .bool gone, .int .i64 t1, .int .i64 t2, lv, lw, lp] 61)
 have HR := Lib.hid (row_box W #[.int .i64 kind, .int .i64 frm, .int .i64 dst, .int .i64 id1, .int .i64 id2, .int .i64 b1, .int .i64 b2, .int .i64 a1, .int .i64 a2, lo, .bool fast, ld, .bool has, .int .i64 q1, .int .i64 q2, .bool gone, .int .i64 t1, .int .i64 t2, lv, lw, lp] 61)
 have KL0 := Lib.hid (new_blockC W #[.int .i64 kind, .int .i64 frm, .int .i64 dst, .int .i64 id1, .int .i64 id2, .int .i64 b1, .int .i64 b2, .int .i64 a1, .int .i64 a2, lo, .bool fast, ld, .bool has, .int .i64 q1, .int .i64 q2, .bool gone, .int .i64 t1, .int .i64 t2, lv, lw, lp] 61)
 simp only [PlM.mk.injEq] at hml
 obtain ⟨rfl, rfl, rfl, rfl, rfl⟩ := hml
 simp only at hv f1 f2 f4 f5
 simp only [vlV] at HN
 clear h
 generalize ops.length = n1 at *
 generalize deps.length = n2 at *
 generalize writes.length = n3 at *
 generalize pairs.length = n4 at *
 generalize vdeps.length = n5 at *
 generalize hnv : decide ((gone, (t1, t2), vdeps) = val0) = nv at *
 clear hnv
 have s1 : wrap64 ((n1 : Int) + (n2 : Int)) = ((n1 + n2 : Nat) : Int) := by unfold wrap64; omega
 have s2 : wrap64 (((n1 + n2 : Nat) : Int) + (n3 : Int)) = ((n1 + n2 + n3 : Nat) : Int) := by unfold wrap64; omega
 have s3 : wrap64 (((n1 + n2 + n3 : Nat) : Int) + (n4 : Int)) = ((n1 + n2 + n3 + n4 : Nat) : Int) := by unfold wrap64; omega
 have r1 : IntKind.i64.wrap ((n1 : Int) + (n2 : Int)) = ((n1 + n2 : Nat) : Int) := by rw [IntKind.wrap_i64]; omega
 have r2 : IntKind.i64.wrap (((n1 + n2 : Nat) : Int) + (n3 : Int)) = ((n1 + n2 + n3 : Nat) : Int) := by rw [IntKind.wrap_i64]; omega
 have r3 : IntKind.i64.wrap (((n1 + n2 + n3 : Nat) : Int) + (n4 : Int)) = ((n1 + n2 + n3 + n4 : Nat) : Int) := by rw [IntKind.wrap_i64]; omega
 by_cases hb1 : b1 = 0
 ·by_cases hb2 : b2 = 0
  ·subst hb1
   subst hb2
   have hzb1 : decide (((0 : Int), (0 : Int)) = z2) = true := rfl
   by_cases ha1 : a1 = 0
   ·by_cases ha2 : a2 = 0
    ·subst ha1
     subst ha2
     have hza1 : decide (((0 : Int), (0 : Int)) = z2) = true := rfl
     by_cases hq1 : q1 = 0
     ·by_cases hq2 : q2 = 0
      ·subst hq1
       subst hq2
       have hzq1 : decide (((0 : Int), (0 : Int)) = z2) = true := rfl
       cases fast
       ·cases has
        ·cases nv
         ·obtain rfl : v = false := by rw [← hv]; simp
          go_enter Tryz.func116, Tryz.ntmps116
          go_wp2_with (first | (go_at_call 137; go_must (refine (HN.out _ (blAlloc (blAlloc (Below.refl _ _) _) _)).mono ?_; rintro e w1 ⟨rfl, h5⟩; have HB1 : Hid (Below W.heap.size W w1) := Lib.hid (blThen (blAlloc (blAlloc (Below.refl _ _) _) _) h5); clear h5)))
          go_ret
          exact ⟨rfl, HB1.out⟩
         ·by_cases hn : n1 + n2 + n3 + n4 = 0
          ·obtain rfl : v = true := by rw [← hv, decide_eq_true hn, hzb1]; rfl
           obtain rfl : n1 = 0 := by omega
           obtain rfl : n2 = 0 := by omega
           obtain rfl : n3 = 0 := by omega
           obtain rfl : n4 = 0 := by omega
           go_enter Tryz.func116, Tryz.ntmps116
           go_wp2_with (first | (go_at_call 137; go_must (refine (HN.out _ (blAlloc (blAlloc (Below.refl _ _) _) _)).mono ?_; rintro e w1 ⟨rfl, h5⟩; have HB1 : Hid (Below W.heap.size W w1) := Lib.hid (blThen (blAlloc (blAlloc (Below.refl _ _) _) _) h5); clear h5)))
           go_ret
           exact ⟨rfl, HB1.out⟩
          ·obtain rfl : v = false := by rw [← hv, decide_eq_false hn]; simp
           have hn1 : ¬ ((n1 + n2 + n3 + n4 : Nat) : Int) = 0 := by omega
           have hn2 : (((n1 + n2 + n3 + n4 : Nat) : Int) == 0) = false := by simpa using hn1
           generalize n1 + n2 + n3 + n4 = nn at *
           generalize n1 + n2 + n3 = nm at *
           generalize n1 + n2 = nk at *
           go_enter Tryz.func116, Tryz.ntmps116
           go_wp2_with (first | (go_at_call 137; go_must (refine (HN.out _ (blAlloc (blAlloc (Below.refl _ _) _) _)).mono ?_; rintro e w1 ⟨rfl, h5⟩; have HB1 : Hid (Below W.heap.size W w1) := Lib.hid (blThen (blAlloc (blAlloc (Below.refl _ _) _) _) h5); clear h5)))
           go_ret
           exact ⟨rfl, HB1.out⟩
        ·obtain rfl : v = false := by rw [← hv]; simp
         go_enter Tryz.func116, Tryz.ntmps116
         go_wp2
         go_ret
         exact ⟨rfl, (blAlloc (blAlloc (Below.refl _ _) _) _)⟩
       ·obtain rfl : v = false := by rw [← hv]; simp
        go_enter Tryz.func116, Tryz.ntmps116
        go_wp2
        go_ret
        exact ⟨rfl, (blAlloc (blAlloc (Below.refl _ _) _) _)⟩
      ·subst hq1
       have eq2 : (q2 == 0) = false := by simpa using hq2
       have hzq1 : decide (((0 : Int), q2) = z2) = false := decide_eq_false (fun e => hq2 (congrArg Prod.snd e))
       obtain rfl : v = false := by rw [← hv]; simp [hzq1]
       go_enter Tryz.func116, Tryz.ntmps116
       go_wp2
       go_ret
       exact ⟨rfl, (blAlloc (blAlloc (Below.refl _ _) _) _)⟩
     ·have eq1 : (q1 == 0) = false := by simpa using hq1
      have hzq1 : decide ((q1, q2) = z2) = false := decide_eq_false (fun e => hq1 (congrArg Prod.fst e))
      obtain rfl : v = false := by rw [← hv]; simp [hzq1]
      go_enter Tryz.func116, Tryz.ntmps116
      go_wp2
      go_ret
      exact ⟨rfl, (blAlloc (blAlloc (Below.refl _ _) _) _)⟩
    ·subst ha1
     have ea2 : (a2 == 0) = false := by simpa using ha2
     have hza1 : decide (((0 : Int), a2) = z2) = false := decide_eq_false (fun e => ha2 (congrArg Prod.snd e))
     obtain rfl : v = false := by rw [← hv]; simp [hza1]
     go_enter Tryz.func116, Tryz.ntmps116
     go_wp2
     go_ret
     exact ⟨rfl, (blAlloc (blAlloc (Below.refl _ _) _) _)⟩
   ·have ea1 : (a1 == 0) = false := by simpa using ha1
    have hza1 : decide ((a1, a2) = z2) = false := decide_eq_false (fun e => ha1 (congrArg Prod.fst e))
    obtain rfl : v = false := by rw [← hv]; simp [hza1]
    go_enter Tryz.func116, Tryz.ntmps116
    go_wp2
    go_ret
    exact ⟨rfl, (blAlloc (blAlloc (Below.refl _ _) _) _)⟩
  ·subst hb1
   have eb2 : (b2 == 0) = false := by simpa using hb2
   have hzb1 : decide (((0 : Int), b2) = z2) = false := decide_eq_false (fun e => hb2 (congrArg Prod.snd e))
   obtain rfl : v = false := by rw [← hv]; simp [hzb1]
   go_enter Tryz.func116, Tryz.ntmps116
   go_wp2
   go_ret
   exact ⟨rfl, (blAlloc (blAlloc (Below.refl _ _) _) _)⟩
 ·have eb1 : (b1 == 0) = false := by simpa using hb1
  have hzb1 : decide ((b1, b2) = z2) = false := decide_eq_false (fun e => hb1 (congrArg Prod.fst e))
  obtain rfl : v = false := by rw [← hv]; simp [hzb1]
  go_enter Tryz.func116, Tryz.ntmps116
  go_wp2
  go_ret
  exact ⟨rfl, (blAlloc (blAlloc (Below.refl _ _) _) _)⟩

theorem fits_any (m : Mg) (l : PlM) (c : Int) (W : World) (h : MsAt W m l) (hf : FewM m) (hc : c = 97 ∨ c = 65 ∨ c = 98 ∨ c = 66 ∨ c = 100 ∨ c = 104 ∨ c = 111 ∨ c = 103 ∨ c = 79 ∨ c = 112 ∨ c = 118 ∨ c = 86 ∨ c = 119 ∨ c = 102) : Calls Tryz.prog 114 #[msV m l, .int .i32 c] W fun e w' => e = .returned (.bool (fitsB m c)) ∧ Below W.heap.size W w' := by
 have HT := Lib.hid (fun (Y : World) => fitTime_any m.at_ m.id Y)
 have HB := Lib.hid (fun (Y : World) => isBallot_any m.bal Y)
 have HS := Lib.hid (fun (Y : World) => fitStamp_any m.bal Y)
 have HD := Lib.hid (fun (Y : World) (hY : Below W.heap.size W Y) => fitDeps_any l.d m.deps Y (h.d.later hY) hf.deps)
 have HA := Lib.hid (fun (Y : World) (hY : Below W.heap.size W Y) => acc_any m l Y (h.later hY) hf)
 have HO := Lib.hid (fun (Y : World) (hY : Below W.heap.size W Y) => trans_any l.o m.ops Y hf.ops (h.o.later hY))
 have HP := Lib.hid (fun (Y : World) (hY : Below W.heap.size W Y) => areData_any l.p m.pairs Y (by have := hf.pairs; omega) (h.p.later hY))
 have HV := Lib.hid (fun (Y : World) (hY : Below W.heap.size W Y) => isValue_any m.val l.v Y (h.v.later hY) hf.vdeps)
 have HW := Lib.hid (fun (Y : World) (hY : Below W.heap.size W Y) => areWrites_any l.w m.writes Y (by have := hf.writes; omega) (h.w.later hY))
 obtain ⟨oa, oc, hol⟩ := h.o.form
 have HOL := Lib.hid hol
 have HON := Lib.hid (show decide (m.ops = []) = decide (m.ops.length = 0) by
  cases m.ops <;> simp)
 clear hol
 generalize hv : fitsB m c = v
 obtain ⟨kind, frm, dst, ⟨id1, id2⟩, ⟨b1, b2⟩, ⟨a1, a2⟩, ops, fast, deps, has, ⟨q1, q2⟩, ⟨gone, ⟨t1, t2⟩, vdeps⟩, writes, pairs⟩ := m
 obtain ⟨lo, ld, lv, lw, lp⟩ := l
 simp only [msV]
 have HC := Lib.hid (cell_box W #[.int .i64 kind, .int .i64 frm, .int .i64 dst, .int .i64 id1, .int .i64 id2, .int .i64 b1, .int .i64 b2, .int .i64 a1, .int .i64 a2, lo, .bool fast, ld, .bool has, .int .i64 q1, .int .i64 q2, .bool gone, .int .i64 t1, .int .i64 t2, lv, lw, lp] 61)
 have HR := Lib.hid (row_box W #[.int .i64 kind, .int .i64 frm, .int .i64 dst, .int .i64 id1, .int .i64 id2, .int .i64 b1, .int .i64 b2, .int .i64 a1, .int .i64 a2, lo, .bool fast, ld, .bool has, .int .i64 q1, .int .i64 q2, .bool gone, .int .i64 t1, .int .i64 t2, lv, lw, lp] 61)
 have KL0 := Lib.hid (new_blockC W #[.int .i64 kind, .int .i64 frm, .int .i64 dst, .int .i64 id1, .int .i64 id2, .int .i64 b1, .int .i64 b2, .int .i64 a1, .int .i64 a2, lo, .bool fast, ld, .bool has, .int .i64 q1, .int .i64 q2, .bool gone, .int .i64 t1, .int .i64 t2, lv, lw, lp] 61)
 simp only [msV, vlV] at HT HB HS HD HA HO HP HV HW
 simp only at HOL HON
 rcases hc with rfl | rfl | rfl | rfl | rfl | rfl | rfl | rfl | rfl | rfl | rfl | rfl | rfl | rfl
 ·have hv : timeB (a1, a2) (id1, id2) = v := hv
  clear HB HS HD HA HO HP HV HW
  rw [hv] at HT
  go_enter Tryz.func114, Tryz.ntmps114
  go_wp2_with (first | (first | go_skip | refine loadM _ rfl rfl _ rfl KL6.out rfl ?_ | refine loadM _ rfl rfl _ rfl KL5.out rfl ?_ | refine loadM _ rfl rfl _ rfl KL4.out rfl ?_ | refine loadM _ rfl rfl _ rfl KL3.out rfl ?_ | refine loadM _ rfl rfl _ rfl KL2.out rfl ?_ | refine loadM _ rfl rfl _ rfl KL1.out rfl ?_ | refine loadM _ rfl rfl _ rfl KL0.out rfl ?_) | (go_at_call 134; go_must (refine (HT.out _).mono ?_; rintro e w1 ⟨rfl, h5⟩; have HY1 := Lib.hid h5; have hw1 := HY1.out.size; simp only [World.size_alloc] at hw1; have HB1 : Hid (Below W.heap.size W w1) := Lib.hid (blThen (blAlloc (Below.refl _ _) _) HY1.out); clear h5)))
  go_ret
  exact ⟨rfl, HB1.out⟩
 ·have hv : (decide ((a1, a2) = z2) || timeB (a1, a2) (id1, id2)) = v := hv
  clear HB HS HD HA HO HP HV HW
  by_cases ha1 : a1 = 0
  ·by_cases ha2 : a2 = 0
   ·subst ha1
    subst ha2
    have hza1 : decide (((0 : Int), (0 : Int)) = z2) = true := rfl
    rw [hza1, Bool.true_or] at hv
    subst hv
    go_enter Tryz.func114, Tryz.ntmps114
    go_wp2_with (first | (first | go_skip | refine loadM _ rfl rfl _ rfl KL6.out rfl ?_ | refine loadM _ rfl rfl _ rfl KL5.out rfl ?_ | refine loadM _ rfl rfl _ rfl KL4.out rfl ?_ | refine loadM _ rfl rfl _ rfl KL3.out rfl ?_ | refine loadM _ rfl rfl _ rfl KL2.out rfl ?_ | refine loadM _ rfl rfl _ rfl KL1.out rfl ?_ | refine loadM _ rfl rfl _ rfl KL0.out rfl ?_))
    go_ret
    exact ⟨rfl, (blAlloc (Below.refl _ _) _)⟩
   ·subst ha1
    have ea2 : (a2 == 0) = false := by simpa using ha2
    have hza1 : decide (((0 : Int), a2) = z2) = false := decide_eq_false (fun e => ha2 (congrArg Prod.snd e))
    rw [hza1, Bool.false_or] at hv
    rw [hv] at HT
    go_enter Tryz.func114, Tryz.ntmps114
    go_wp2_with (first | (first | go_skip | refine loadM _ rfl rfl _ rfl KL6.out rfl ?_ | refine loadM _ rfl rfl _ rfl KL5.out rfl ?_ | refine loadM _ rfl rfl _ rfl KL4.out rfl ?_ | refine loadM _ rfl rfl _ rfl KL3.out rfl ?_ | refine loadM _ rfl rfl _ rfl KL2.out rfl ?_ | refine loadM _ rfl rfl _ rfl KL1.out rfl ?_ | refine loadM _ rfl rfl _ rfl KL0.out rfl ?_) | (go_at_call 134; go_must (refine (HT.out _).mono ?_; rintro e w1 ⟨rfl, h5⟩; have HY1 := Lib.hid h5; have hw1 := HY1.out.size; simp only [World.size_alloc] at hw1; have HB1 : Hid (Below W.heap.size W w1) := Lib.hid (blThen (blAlloc (Below.refl _ _) _) HY1.out); clear h5)))
    go_ret
    exact ⟨rfl, HB1.out⟩
  ·have ea1 : (a1 == 0) = false := by simpa using ha1
   have hza1 : decide ((a1, a2) = z2) = false := decide_eq_false (fun e => ha1 (congrArg Prod.fst e))
   rw [hza1, Bool.false_or] at hv
   rw [hv] at HT
   go_enter Tryz.func114, Tryz.ntmps114
   go_wp2_with (first | (first | go_skip | refine loadM _ rfl rfl _ rfl KL6.out rfl ?_ | refine loadM _ rfl rfl _ rfl KL5.out rfl ?_ | refine loadM _ rfl rfl _ rfl KL4.out rfl ?_ | refine loadM _ rfl rfl _ rfl KL3.out rfl ?_ | refine loadM _ rfl rfl _ rfl KL2.out rfl ?_ | refine loadM _ rfl rfl _ rfl KL1.out rfl ?_ | refine loadM _ rfl rfl _ rfl KL0.out rfl ?_) | (go_at_call 134; go_must (refine (HT.out _).mono ?_; rintro e w1 ⟨rfl, h5⟩; have HY1 := Lib.hid h5; have hw1 := HY1.out.size; simp only [World.size_alloc] at hw1; have HB1 : Hid (Below W.heap.size W w1) := Lib.hid (blThen (blAlloc (Below.refl _ _) _) HY1.out); clear h5)))
   go_ret
   exact ⟨rfl, HB1.out⟩
 ·have hv : ballotB (b1, b2) = v := hv
  clear HT HS HD HA HO HP HV HW
  rw [hv] at HB
  go_enter Tryz.func114, Tryz.ntmps114
  go_wp2_with (first | (first | go_skip | refine loadM _ rfl rfl _ rfl KL6.out rfl ?_ | refine loadM _ rfl rfl _ rfl KL5.out rfl ?_ | refine loadM _ rfl rfl _ rfl KL4.out rfl ?_ | refine loadM _ rfl rfl _ rfl KL3.out rfl ?_ | refine loadM _ rfl rfl _ rfl KL2.out rfl ?_ | refine loadM _ rfl rfl _ rfl KL1.out rfl ?_ | refine loadM _ rfl rfl _ rfl KL0.out rfl ?_) | (go_at_call 136; go_must (refine (HB.out _).mono ?_; rintro e w1 ⟨rfl, h5⟩; have HY1 := Lib.hid h5; have hw1 := HY1.out.size; simp only [World.size_alloc] at hw1; have HB1 : Hid (Below W.heap.size W w1) := Lib.hid (blThen (blAlloc (Below.refl _ _) _) HY1.out); clear h5)))
  go_ret
  exact ⟨rfl, HB1.out⟩
 ·have hv : S1.isS (b1, b2) = v := hv
  clear HT HB HD HA HO HP HV HW
  rw [hv] at HS
  go_enter Tryz.func114, Tryz.ntmps114
  go_wp2_with (first | (first | go_skip | refine loadM _ rfl rfl _ rfl KL6.out rfl ?_ | refine loadM _ rfl rfl _ rfl KL5.out rfl ?_ | refine loadM _ rfl rfl _ rfl KL4.out rfl ?_ | refine loadM _ rfl rfl _ rfl KL3.out rfl ?_ | refine loadM _ rfl rfl _ rfl KL2.out rfl ?_ | refine loadM _ rfl rfl _ rfl KL1.out rfl ?_ | refine loadM _ rfl rfl _ rfl KL0.out rfl ?_) | (go_at_call 50; go_must (refine (HS.out _).mono ?_; rintro e w1 ⟨rfl, h5⟩; have HY1 := Lib.hid h5; have hw1 := HY1.out.size; simp only [World.size_alloc] at hw1; have HB1 : Hid (Below W.heap.size W w1) := Lib.hid (blThen (blAlloc (Below.refl _ _) _) HY1.out); clear h5)))
  go_ret
  exact ⟨rfl, HB1.out⟩
 ·have hv : decide (SD.checkD deps = 0) = v := hv
  clear HT HB HS HA HO HP HV HW
  rw [hv] at HD
  go_enter Tryz.func114, Tryz.ntmps114
  go_wp2_with (first | (first | go_skip | refine loadM _ rfl rfl _ rfl KL6.out rfl ?_ | refine loadM _ rfl rfl _ rfl KL5.out rfl ?_ | refine loadM _ rfl rfl _ rfl KL4.out rfl ?_ | refine loadM _ rfl rfl _ rfl KL3.out rfl ?_ | refine loadM _ rfl rfl _ rfl KL2.out rfl ?_ | refine loadM _ rfl rfl _ rfl KL1.out rfl ?_ | refine loadM _ rfl rfl _ rfl KL0.out rfl ?_) | (go_at_call 135; go_must (refine (HD.out _ (blAlloc (Below.refl _ _) _)).mono ?_; rintro e w1 ⟨rfl, h5⟩; have HY1 := Lib.hid h5; have hw1 := HY1.out.size; simp only [World.size_alloc] at hw1; have HB1 : Hid (Below W.heap.size W w1) := Lib.hid (blThen (blAlloc (Below.refl _ _) _) HY1.out); clear h5)))
  go_ret
  exact ⟨rfl, HB1.out⟩
 ·have hv : accB ⟨kind, frm, dst, (id1, id2), (b1, b2), (a1, a2), ops, fast, deps, has, (q1, q2), (gone, (t1, t2), vdeps), writes, pairs⟩ = v := hv
  clear HT HB HS HD HO HP HV HW
  rw [hv] at HA
  go_enter Tryz.func114, Tryz.ntmps114
  go_wp2_with (first | (first | go_skip | refine loadM _ rfl rfl _ rfl KL6.out rfl ?_ | refine loadM _ rfl rfl _ rfl KL5.out rfl ?_ | refine loadM _ rfl rfl _ rfl KL4.out rfl ?_ | refine loadM _ rfl rfl _ rfl KL3.out rfl ?_ | refine loadM _ rfl rfl _ rfl KL2.out rfl ?_ | refine loadM _ rfl rfl _ rfl KL1.out rfl ?_ | refine loadM _ rfl rfl _ rfl KL0.out rfl ?_) | (go_at_call 165; go_must (refine (HA.out _ (blAlloc (Below.refl _ _) _)).mono ?_; rintro e w1 ⟨rfl, h5⟩; have HY1 := Lib.hid h5; have hw1 := HY1.out.size; simp only [World.size_alloc] at hw1; have HB1 : Hid (Below W.heap.size W w1) := Lib.hid (blThen (blAlloc (Below.refl _ _) _) HY1.out); clear h5)))
  go_ret
  exact ⟨rfl, HB1.out⟩
 ·have hv : decide (checkP ops = 0) = v := hv
  clear HT HB HS HD HA HP HV HW
  rw [hv] at HO
  go_enter Tryz.func114, Tryz.ntmps114
  go_wp2_with (first | (first | go_skip | refine loadM _ rfl rfl _ rfl KL6.out rfl ?_ | refine loadM _ rfl rfl _ rfl KL5.out rfl ?_ | refine loadM _ rfl rfl _ rfl KL4.out rfl ?_ | refine loadM _ rfl rfl _ rfl KL3.out rfl ?_ | refine loadM _ rfl rfl _ rfl KL2.out rfl ?_ | refine loadM _ rfl rfl _ rfl KL1.out rfl ?_ | refine loadM _ rfl rfl _ rfl KL0.out rfl ?_) | (go_at_call 166; go_must (refine (HO.out _ (blAlloc (Below.refl _ _) _)).mono ?_; rintro e w1 ⟨rfl, h5⟩; have HY1 := Lib.hid h5; have hw1 := HY1.out.size; simp only [World.size_alloc] at hw1; have HB1 : Hid (Below W.heap.size W w1) := Lib.hid (blThen (blAlloc (Below.refl _ _) _) HY1.out); clear h5)))
  go_ret
  exact ⟨rfl, HB1.out⟩
 ·have hv : (decide (checkP ops = 0) || gone && decide (ops = [])) = v := hv
  clear HT HB HS HD HA HP HV HW
  cases hk : decide (checkP ops = 0)
  ·rw [hk, Bool.false_or] at hv
   rw [hk] at HO
   cases gone
   ·rw [Bool.false_and] at hv
    subst hv
    go_enter Tryz.func114, Tryz.ntmps114
    go_wp2_with (first | (first | go_skip | refine loadM _ rfl rfl _ rfl KL6.out rfl ?_ | refine loadM _ rfl rfl _ rfl KL5.out rfl ?_ | refine loadM _ rfl rfl _ rfl KL4.out rfl ?_ | refine loadM _ rfl rfl _ rfl KL3.out rfl ?_ | refine loadM _ rfl rfl _ rfl KL2.out rfl ?_ | refine loadM _ rfl rfl _ rfl KL1.out rfl ?_ | refine loadM _ rfl rfl _ rfl KL0.out rfl ?_) | (go_at_call 166; go_must (refine (HO.out _ (blAlloc (Below.refl _ _) _)).mono ?_; rintro e w1 ⟨rfl, h5⟩; have HY1 := Lib.hid h5; have c15_1 := HC.out _ HY1.out 15 _ rfl; have c9_1 := HC.out _ HY1.out 9 _ rfl; have hw1 := HY1.out.size; simp only [World.size_alloc] at hw1; have HB1 : Hid (Below W.heap.size W w1) := Lib.hid (blThen (blAlloc (Below.refl _ _) _) HY1.out); clear h5)))
    go_ret
    exact ⟨rfl, HB1.out⟩
   ·rw [Bool.true_and] at hv
    rw [HON.out] at hv
    have hol := HOL.out
    subst hol
    generalize ops.length = n at *
    by_cases hn : n = 0
    ·subst hn
     obtain rfl : v = true := by rw [← hv]; rfl
     go_enter Tryz.func114, Tryz.ntmps114
     go_wp2_with (first | (first | go_skip | refine loadM _ rfl rfl _ rfl KL6.out rfl ?_ | refine loadM _ rfl rfl _ rfl KL5.out rfl ?_ | refine loadM _ rfl rfl _ rfl KL4.out rfl ?_ | refine loadM _ rfl rfl _ rfl KL3.out rfl ?_ | refine loadM _ rfl rfl _ rfl KL2.out rfl ?_ | refine loadM _ rfl rfl _ rfl KL1.out rfl ?_ | refine loadM _ rfl rfl _ rfl KL0.out rfl ?_) | (go_at_call 166; go_must (refine (HO.out _ (blAlloc (Below.refl _ _) _)).mono ?_; rintro e w1 ⟨rfl, h5⟩; have HY1 := Lib.hid h5; have c15_1 := HC.out _ HY1.out 15 _ rfl; have c9_1 := HC.out _ HY1.out 9 _ rfl; have hw1 := HY1.out.size; simp only [World.size_alloc] at hw1; have HB1 : Hid (Below W.heap.size W w1) := Lib.hid (blThen (blAlloc (Below.refl _ _) _) HY1.out); clear h5)))
     go_ret
     exact ⟨rfl, HB1.out⟩
    ·obtain rfl : v = false := by rw [← hv, decide_eq_false hn]
     have hn1 : ((n : Int) == 0) = false := by simpa using hn
     have hn2 : ¬ (n : Int) = 0 := by omega
     go_enter Tryz.func114, Tryz.ntmps114
     go_wp2_with (first | (first | go_skip | refine loadM _ rfl rfl _ rfl KL6.out rfl ?_ | refine loadM _ rfl rfl _ rfl KL5.out rfl ?_ | refine loadM _ rfl rfl _ rfl KL4.out rfl ?_ | refine loadM _ rfl rfl _ rfl KL3.out rfl ?_ | refine loadM _ rfl rfl _ rfl KL2.out rfl ?_ | refine loadM _ rfl rfl _ rfl KL1.out rfl ?_ | refine loadM _ rfl rfl _ rfl KL0.out rfl ?_) | (go_at_call 166; go_must (refine (HO.out _ (blAlloc (Below.refl _ _) _)).mono ?_; rintro e w1 ⟨rfl, h5⟩; have HY1 := Lib.hid h5; have c15_1 := HC.out _ HY1.out 15 _ rfl; have c9_1 := HC.out _ HY1.out 9 _ rfl; have hw1 := HY1.out.size; simp only [World.size_alloc] at hw1; have HB1 : Hid (Below W.heap.size W w1) := Lib.hid (blThen (blAlloc (Below.refl _ _) _) HY1.out); clear h5)))
     go_ret
     exact ⟨rfl, HB1.out⟩
  ·rw [hk, Bool.true_or] at hv
   rw [hk] at HO
   subst hv
   go_enter Tryz.func114, Tryz.ntmps114
   go_wp2_with (first | (first | go_skip | refine loadM _ rfl rfl _ rfl KL6.out rfl ?_ | refine loadM _ rfl rfl _ rfl KL5.out rfl ?_ | refine loadM _ rfl rfl _ rfl KL4.out rfl ?_ | refine loadM _ rfl rfl _ rfl KL3.out rfl ?_ | refine loadM _ rfl rfl _ rfl KL2.out rfl ?_ | refine loadM _ rfl rfl _ rfl KL1.out rfl ?_ | refine loadM _ rfl rfl _ rfl KL0.out rfl ?_) | (go_at_call 166; go_must (refine (HO.out _ (blAlloc (Below.refl _ _) _)).mono ?_; rintro e w1 ⟨rfl, h5⟩; have HY1 := Lib.hid h5; have hw1 := HY1.out.size; simp only [World.size_alloc] at hw1; have HB1 : Hid (Below W.heap.size W w1) := Lib.hid (blThen (blAlloc (Below.refl _ _) _) HY1.out); clear h5)))
   go_ret
   exact ⟨rfl, HB1.out⟩
 ·have hv : (decide (checkP ops = 0) || decide (ops = [])) = v := hv
  clear HT HB HS HD HA HP HV HW
  cases hk : decide (checkP ops = 0)
  ·rw [hk, Bool.false_or] at hv
   rw [hk] at HO
   rw [HON.out] at hv
   have hol := HOL.out
   subst hol
   generalize ops.length = n at *
   by_cases hn : n = 0
   ·subst hn
    obtain rfl : v = true := by rw [← hv]; rfl
    go_enter Tryz.func114, Tryz.ntmps114
    go_wp2_with (first | (first | go_skip | refine loadM _ rfl rfl _ rfl KL6.out rfl ?_ | refine loadM _ rfl rfl _ rfl KL5.out rfl ?_ | refine loadM _ rfl rfl _ rfl KL4.out rfl ?_ | refine loadM _ rfl rfl _ rfl KL3.out rfl ?_ | refine loadM _ rfl rfl _ rfl KL2.out rfl ?_ | refine loadM _ rfl rfl _ rfl KL1.out rfl ?_ | refine loadM _ rfl rfl _ rfl KL0.out rfl ?_) | (go_at_call 166; go_must (refine (HO.out _ (blAlloc (Below.refl _ _) _)).mono ?_; rintro e w1 ⟨rfl, h5⟩; have HY1 := Lib.hid h5; have c9_1 := HC.out _ HY1.out 9 _ rfl; have hw1 := HY1.out.size; simp only [World.size_alloc] at hw1; have HB1 : Hid (Below W.heap.size W w1) := Lib.hid (blThen (blAlloc (Below.refl _ _) _) HY1.out); clear h5)))
    go_ret
    exact ⟨rfl, HB1.out⟩
   ·obtain rfl : v = false := by rw [← hv, decide_eq_false hn]
    have hn1 : ((n : Int) == 0) = false := by simpa using hn
    have hn2 : ¬ (n : Int) = 0 := by omega
    go_enter Tryz.func114, Tryz.ntmps114
    go_wp2_with (first | (first | go_skip | refine loadM _ rfl rfl _ rfl KL6.out rfl ?_ | refine loadM _ rfl rfl _ rfl KL5.out rfl ?_ | refine loadM _ rfl rfl _ rfl KL4.out rfl ?_ | refine loadM _ rfl rfl _ rfl KL3.out rfl ?_ | refine loadM _ rfl rfl _ rfl KL2.out rfl ?_ | refine loadM _ rfl rfl _ rfl KL1.out rfl ?_ | refine loadM _ rfl rfl _ rfl KL0.out rfl ?_) | (go_at_call 166; go_must (refine (HO.out _ (blAlloc (Below.refl _ _) _)).mono ?_; rintro e w1 ⟨rfl, h5⟩; have HY1 := Lib.hid h5; have c9_1 := HC.out _ HY1.out 9 _ rfl; have hw1 := HY1.out.size; simp only [World.size_alloc] at hw1; have HB1 : Hid (Below W.heap.size W w1) := Lib.hid (blThen (blAlloc (Below.refl _ _) _) HY1.out); clear h5)))
    go_ret
    exact ⟨rfl, HB1.out⟩
  ·rw [hk, Bool.true_or] at hv
   rw [hk] at HO
   subst hv
   go_enter Tryz.func114, Tryz.ntmps114
   go_wp2_with (first | (first | go_skip | refine loadM _ rfl rfl _ rfl KL6.out rfl ?_ | refine loadM _ rfl rfl _ rfl KL5.out rfl ?_ | refine loadM _ rfl rfl _ rfl KL4.out rfl ?_ | refine loadM _ rfl rfl _ rfl KL3.out rfl ?_ | refine loadM _ rfl rfl _ rfl KL2.out rfl ?_ | refine loadM _ rfl rfl _ rfl KL1.out rfl ?_ | refine loadM _ rfl rfl _ rfl KL0.out rfl ?_) | (go_at_call 166; go_must (refine (HO.out _ (blAlloc (Below.refl _ _) _)).mono ?_; rintro e w1 ⟨rfl, h5⟩; have HY1 := Lib.hid h5; have hw1 := HY1.out.size; simp only [World.size_alloc] at hw1; have HB1 : Hid (Below W.heap.size W w1) := Lib.hid (blThen (blAlloc (Below.refl _ _) _) HY1.out); clear h5)))
   go_ret
   exact ⟨rfl, HB1.out⟩
 ·have hv : dataB none pairs = v := hv
  clear HT HB HS HD HA HO HV HW
  rw [hv] at HP
  go_enter Tryz.func114, Tryz.ntmps114
  go_wp2_with (first | (first | go_skip | refine loadM _ rfl rfl _ rfl KL6.out rfl ?_ | refine loadM _ rfl rfl _ rfl KL5.out rfl ?_ | refine loadM _ rfl rfl _ rfl KL4.out rfl ?_ | refine loadM _ rfl rfl _ rfl KL3.out rfl ?_ | refine loadM _ rfl rfl _ rfl KL2.out rfl ?_ | refine loadM _ rfl rfl _ rfl KL1.out rfl ?_ | refine loadM _ rfl rfl _ rfl KL0.out rfl ?_) | (go_at_call 140; go_must (refine (HP.out _ (blAlloc (Below.refl _ _) _)).mono ?_; rintro e w1 ⟨rfl, h5⟩; have HY1 := Lib.hid h5; have hw1 := HY1.out.size; simp only [World.size_alloc] at hw1; have HB1 : Hid (Below W.heap.size W w1) := Lib.hid (blThen (blAlloc (Below.refl _ _) _) HY1.out); clear h5)))
  go_ret
  exact ⟨rfl, HB1.out⟩
 ·have hv : valueB (gone, (t1, t2), vdeps) = v := hv
  clear HT HB HS HD HA HO HP HW
  rw [hv] at HV
  go_enter Tryz.func114, Tryz.ntmps114
  go_wp2_with (first | (first | go_skip | refine loadM _ rfl rfl _ rfl KL6.out rfl ?_ | refine loadM _ rfl rfl _ rfl KL5.out rfl ?_ | refine loadM _ rfl rfl _ rfl KL4.out rfl ?_ | refine loadM _ rfl rfl _ rfl KL3.out rfl ?_ | refine loadM _ rfl rfl _ rfl KL2.out rfl ?_ | refine loadM _ rfl rfl _ rfl KL1.out rfl ?_ | refine loadM _ rfl rfl _ rfl KL0.out rfl ?_) | (go_at_call 138; go_must (refine (HV.out _ (blAlloc (Below.refl _ _) _)).mono ?_; rintro e w1 ⟨rfl, h5⟩; have HY1 := Lib.hid h5; have hw1 := HY1.out.size; simp only [World.size_alloc] at hw1; have HB1 : Hid (Below W.heap.size W w1) := Lib.hid (blThen (blAlloc (Below.refl _ _) _) HY1.out); clear h5)))
  go_ret
  exact ⟨rfl, HB1.out⟩
 ·have hv : (valueB (gone, (t1, t2), vdeps) && !gone) = v := hv
  clear HT HB HS HD HA HO HP HW
  cases hk : valueB (gone, (t1, t2), vdeps)
  ·rw [hk, Bool.false_and] at hv
   rw [hk] at HV
   subst hv
   go_enter Tryz.func114, Tryz.ntmps114
   go_wp2_with (first | (first | go_skip | refine loadM _ rfl rfl _ rfl KL6.out rfl ?_ | refine loadM _ rfl rfl _ rfl KL5.out rfl ?_ | refine loadM _ rfl rfl _ rfl KL4.out rfl ?_ | refine loadM _ rfl rfl _ rfl KL3.out rfl ?_ | refine loadM _ rfl rfl _ rfl KL2.out rfl ?_ | refine loadM _ rfl rfl _ rfl KL1.out rfl ?_ | refine loadM _ rfl rfl _ rfl KL0.out rfl ?_) | (go_at_call 138; go_must (refine (HV.out _ (blAlloc (Below.refl _ _) _)).mono ?_; rintro e w1 ⟨rfl, h5⟩; have HY1 := Lib.hid h5; have hw1 := HY1.out.size; simp only [World.size_alloc] at hw1; have HB1 : Hid (Below W.heap.size W w1) := Lib.hid (blThen (blAlloc (Below.refl _ _) _) HY1.out); clear h5)))
   go_ret
   exact ⟨rfl, HB1.out⟩
  ·rw [hk, Bool.true_and] at hv
   rw [hk] at HV
   subst hv
   go_enter Tryz.func114, Tryz.ntmps114
   go_wp2_with (first | (first | go_skip | refine loadM _ rfl rfl _ rfl KL6.out rfl ?_ | refine loadM _ rfl rfl _ rfl KL5.out rfl ?_ | refine loadM _ rfl rfl _ rfl KL4.out rfl ?_ | refine loadM _ rfl rfl _ rfl KL3.out rfl ?_ | refine loadM _ rfl rfl _ rfl KL2.out rfl ?_ | refine loadM _ rfl rfl _ rfl KL1.out rfl ?_ | refine loadM _ rfl rfl _ rfl KL0.out rfl ?_) | (go_at_call 138; go_must (refine (HV.out _ (blAlloc (Below.refl _ _) _)).mono ?_; rintro e w1 ⟨rfl, h5⟩; have HY1 := Lib.hid h5; have c15_1 := HC.out _ HY1.out 15 _ rfl; have hw1 := HY1.out.size; simp only [World.size_alloc] at hw1; have HB1 : Hid (Below W.heap.size W w1) := Lib.hid (blThen (blAlloc (Below.refl _ _) _) HY1.out); clear h5)))
   go_ret
   exact ⟨rfl, HB1.out⟩
 ·have hv : writesB none writes = v := hv
  clear HT HB HS HD HA HO HP HV
  rw [hv] at HW
  go_enter Tryz.func114, Tryz.ntmps114
  go_wp2_with (first | (first | go_skip | refine loadM _ rfl rfl _ rfl KL6.out rfl ?_ | refine loadM _ rfl rfl _ rfl KL5.out rfl ?_ | refine loadM _ rfl rfl _ rfl KL4.out rfl ?_ | refine loadM _ rfl rfl _ rfl KL3.out rfl ?_ | refine loadM _ rfl rfl _ rfl KL2.out rfl ?_ | refine loadM _ rfl rfl _ rfl KL1.out rfl ?_ | refine loadM _ rfl rfl _ rfl KL0.out rfl ?_) | (go_at_call 139; go_must (refine (HW.out _ (blAlloc (Below.refl _ _) _)).mono ?_; rintro e w1 ⟨rfl, h5⟩; have HY1 := Lib.hid h5; have hw1 := HY1.out.size; simp only [World.size_alloc] at hw1; have HB1 : Hid (Below W.heap.size W w1) := Lib.hid (blThen (blAlloc (Below.refl _ _) _) HY1.out); clear h5)))
  go_ret
  exact ⟨rfl, HB1.out⟩
 ·have hv : true = v := hv
  clear HT HB HS HD HA HO HP HV HW
  subst hv
  go_enter Tryz.func114, Tryz.ntmps114
  go_wp2_with (first | (first | go_skip | refine loadM _ rfl rfl _ rfl KL6.out rfl ?_ | refine loadM _ rfl rfl _ rfl KL5.out rfl ?_ | refine loadM _ rfl rfl _ rfl KL4.out rfl ?_ | refine loadM _ rfl rfl _ rfl KL3.out rfl ?_ | refine loadM _ rfl rfl _ rfl KL2.out rfl ?_ | refine loadM _ rfl rfl _ rfl KL1.out rfl ?_ | refine loadM _ rfl rfl _ rfl KL0.out rfl ?_))
  go_ret
  exact ⟨rfl, (blAlloc (Below.refl _ _) _)⟩
end SI
end Go.Proofs.YtgipkikedacmdaaGreat
