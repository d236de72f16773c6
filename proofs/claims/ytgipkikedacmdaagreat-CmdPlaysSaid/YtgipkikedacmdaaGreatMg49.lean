/- What is done to a command: Bind of the reference. Conditions: none. -/
import Derived.Deep.WholeRow
import Derived.WalkSpells
import Derived.Test.YtgipkikedacmdaaGreatMg48
import Derived.Test.YtgipkikedacmdaaGreatMg00
import Derived.Test.YtgipkikedacmdaaGreatMg47
import Derived.Test.YtgipkikedacmdaaGreatMg22
import Derived.Test.YtgipkikedacmdaaGreatMg38
import Derived.Test.YtgipkikedacmdaaGreatMg13
set_option maxRecDepth 100000
set_option maxHeartbeats 16000000
set_option linter.unusedVariables false
set_option linter.unusedSimpArgs false
namespace Go.Proofs.YtgipkikedacmdaaGreat
open S3 SN SP
namespace SC
open Go.ChangeShapes Go.WideShapes Go.ChangeAt Go.RowKit Go.Joins Go.Deep
abbrev z22 : Array Value := #[.int .i64 0, .int .i64 0, .slice none 0 0, .int .i64 0, .int .i64 0, .int .i64 0, .int .i64 0, .int .i64 0, .bool false, .slice none 0 0, .int .i64 0, .int .i64 0, .bool false, .int .i64 0, .int .i64 0, .bool false, .int .i64 0, .int .i64 0, .slice none 0 0, .bool false, .slice none 0 0, .slice none 0 0]
abbrev r22 (a : Int) (b : Int) (o : Value) (c : Int) (d : Int) (e : Int) (f : Int) (g : Int) (h : Bool) (s : Value) (i : Int) (j : Int) (k : Bool) (l : Int) (m : Int) (n : Bool) (p : Int) (q : Int) (u : Value) (v : Bool) (w : Value) (x : Value) : Array Value := #[.int .i64 a, .int .i64 b, o, .int .i64 c, .int .i64 d, .int .i64 e, .int .i64 f, .int .i64 g, .bool h, s, .int .i64 i, .int .i64 j, .bool k, .int .i64 l, .int .i64 m, .bool n, .int .i64 p, .int .i64 q, u, .bool v, w, x]
theorem hH {p : Prop} (h : p) : Hid p := Lib.hid h
theorem sA9 {α : Type} (l : List α) (i : Nat) (a : α) : l.toArray.setIfInBounds i a = (l.set i a).toArray := List.setIfInBounds_toArray l i a
theorem sZ9 {α : Type} (a b : α) (l : List α) : (a :: l).set 0 b = b :: l := rfl
theorem sS9 {α : Type} (a b : α) (l : List α) (n : Nat) : (a :: l).set (n + 1) b = a :: l.set n b := rfl
theorem szCmd : (Tryz.prog.info? 31).map (·.size) = some 22 := by kernel_rfl
theorem wpList_unguard {P : Program} {ops : Array Oper} {Q : Exit → Act → World → Prop} {a : Act} {w : World} {rest : List Oper} {o : Oper} (hw : Region.wanted o (yielded ops a.tmps) = true)
  (h : wpList P ops Q ({ o with guard := none } :: rest) a w) : wpList P ops Q (o :: rest) a w := by
 unfold wpList at h ⊢
 rw [if_pos hw]
 rw [if_pos (by simp [Region.wanted])] at h
 exact h
theorem load9 {w : World} {ops : Array Oper} {rest : List Oper} {o : Oper} {a : Act} {Q : Exit → Act → World → Prop} (x : Operand) (ho : o.op = .load 31 x) (hw : Region.wanted o (yielded ops a.tmps) = true) (g : Nat) (hx : a.eval x = .pointer (some ⟨g, 0, none⟩)) {cs : Array Value}
  (hg : w.heap[g]? = some (.cells cs 31 (0, 0))) (hs : cs.size = 22) (h : wpList Tryz.prog ops Q rest (a.put o.dst (.agg cs)) w) : wpList Tryz.prog ops Q (o :: rest) a w :=
 wpList_unguard hw (wpList_load_row rfl 31 x ho g hx 31 cs (0, 0) _ hg Tryz.underlying31 rfl (by rw [hs]; exact szCmd) h)
theorem row_box (W : World) (c : Array Value) (T : TypeId) (Y : World) (h : Below (W.alloc (.cells c T)).heap.size (W.alloc (.cells c T)) Y) : Y.heap[W.heap.size]? = some (.cells c T (0, 0)) := (h.block W.heap.size (by simp)).trans (new_blockC W c T)
theorem nth_box (W : World) : ∀ (os : List Obj) (i : Nat) (o : Obj), os[i]? = some o → (os.foldl World.alloc W).heap[W.heap.size + i]? = some o ∧ W.heap.size + os.length = (os.foldl World.alloc W).heap.size := by
 intro os
 induction os generalizing W with
 | nil => intro i o h; simp at h
 | cons x r ih =>
  intro i o h
  have hs : (W.alloc x).heap.size = W.heap.size + 1 := by simp
  have hsz : ∀ (r : List Obj) (V : World), (r.foldl World.alloc V).heap.size = V.heap.size + r.length := by
   intro r
   induction r with
   | nil => intro V; rfl
   | cons y r ih2 => intro V; rw [List.foldl_cons, ih2]; simp; omega
  have hk : ∀ (r : List Obj) (V : World) (k : Nat), k < V.heap.size → (r.foldl World.alloc V).heap[k]? = V.heap[k]? := by
   intro r
   induction r with
   | nil => intro V k _; rfl
   | cons y r ih2 =>
    intro V k hk
    rw [List.foldl_cons, ih2 _ _ (by simp; omega)]
    show (V.heap.push y)[k]? = _
    rw [Array.getElem?_push, if_neg (by omega)]
  refine ⟨?_, by rw [hsz]⟩
  rw [List.foldl_cons]
  cases i with
  | zero =>
   simp only [List.getElem?_cons_zero, Option.some.injEq] at h
   subst h
   rw [Nat.add_zero, hk _ _ _ (by rw [hs]; omega)]
   show (W.heap.push _)[W.heap.size]? = _
   rw [Array.getElem?_push_size]
  | succ i =>
   rw [List.getElem?_cons_succ] at h
   have := (ih (W.alloc x) i o h).1
   rw [hs] at this
   rw [← this]
   congr 1
   omega
theorem boxes1 (W : World) (a : Obj) : ∃ w0 : World, w0 = (W.alloc a) ∧ W.heap.size + 1 ≤ w0.heap.size ∧ w0.heap[W.heap.size]? = some a ∧ Below W.heap.size W w0 :=
 ⟨(W.alloc a), rfl, Nat.le_of_eq (nth_box W [a] 0 a rfl).2, (nth_box W [a] 0 a rfl).1, (blAlloc (Below.refl _ _) _)⟩
theorem boxes2 (W : World) (a b : Obj) : ∃ w0 : World, w0 = ((W.alloc a).alloc b) ∧ W.heap.size + 2 ≤ w0.heap.size ∧ w0.heap[W.heap.size]? = some a ∧ w0.heap[(W.heap.size + 1)]? = some b ∧ Below W.heap.size W w0 :=
 ⟨((W.alloc a).alloc b), rfl, Nat.le_of_eq (nth_box W [a, b] 0 a rfl).2, (nth_box W [a, b] 0 a rfl).1, (nth_box W [a, b] 1 b rfl).1, (blAlloc (blAlloc (Below.refl _ _) _) _)⟩
theorem boxes3 (W : World) (a b c : Obj) : ∃ w0 : World, w0 = (((W.alloc a).alloc b).alloc c) ∧ W.heap.size + 3 ≤ w0.heap.size ∧ w0.heap[W.heap.size]? = some a ∧ w0.heap[(W.heap.size + 1)]? = some b ∧ w0.heap[(W.heap.size + 2)]? = some c ∧ Below W.heap.size W w0 :=
 ⟨(((W.alloc a).alloc b).alloc c), rfl, Nat.le_of_eq (nth_box W [a, b, c] 0 a rfl).2, (nth_box W [a, b, c] 0 a rfl).1, (nth_box W [a, b, c] 1 b rfl).1, (nth_box W [a, b, c] 2 c rfl).1, (blAlloc (blAlloc (blAlloc (Below.refl _ _) _) _) _)⟩
theorem boxes4 (W : World) (a b c d : Obj) : ∃ w0 : World, w0 = ((((W.alloc a).alloc b).alloc c).alloc d) ∧ W.heap.size + 4 ≤ w0.heap.size ∧ w0.heap[W.heap.size]? = some a ∧ w0.heap[(W.heap.size + 1)]? = some b ∧ w0.heap[(W.heap.size + 2)]? = some c ∧ w0.heap[(W.heap.size + 3)]? = some d ∧ Below W.heap.size W w0 :=
 ⟨((((W.alloc a).alloc b).alloc c).alloc d), rfl, Nat.le_of_eq (nth_box W [a, b, c, d] 0 a rfl).2, (nth_box W [a, b, c, d] 0 a rfl).1, (nth_box W [a, b, c, d] 1 b rfl).1, (nth_box W [a, b, c, d] 2 c rfl).1, (nth_box W [a, b, c, d] 3 d rfl).1, (blAlloc (blAlloc (blAlloc (blAlloc (Below.refl _ _) _) _) _) _)⟩
theorem store9 {w : World} {ops : Array Oper} {rest : List Oper} {o : Oper} {a : Act} {Q : Exit → Act → World → Prop} (x y : Operand) (ho : o.op = .store 31 x y) (hw : Region.wanted o (yielded ops a.tmps) = true) (g : Nat) (hx : a.eval x = .pointer (some ⟨g, 0, none⟩)) {cells : Array Value} (hy : a.eval y = .agg cells) {old : Array Value}
  (hg : w.heap[g]? = some (.cells old 31 (0, 0))) (hold : old.size = 22) (hcs : cells.size = 22) (h1 : cells.all (·.oneCell') = true)
  (h : ∀ w', w'.heap[g]? = some (.cells cells 31 (0, 0)) → w.grownBy w' (some g) → wpList Tryz.prog ops Q rest (a.put o.dst undef) w') : wpList Tryz.prog ops Q (o :: rest) a w := by
 refine wpList_unguard hw (wpList_store_row rfl 31 x y ho g cells hx hy 31 old hg (by rw [hcs]; exact szCmd) (by rw [hold, hcs]) h1 (h _ (setRow_heap w g old cells _ _ hg) ?_))
 exact ⟨rfl, rfl, rfl, by simp, fun j hj hne => setRow_other w g j cells (fun e => hne (by rw [e]))⟩
theorem below_grown9 {w x y : World} {k : Nat} (h : Below w.heap.size w x) (hg : x.grownBy y (some k)) (hk : w.heap.size ≤ k) : Below w.heap.size w y := h.grown hg h.size (fun j hj => by cases hj; exact hk)
theorem results_cell_tmp9 {P : Program} {fn : Func} {p q : Tmp} {ty : TypeId} (h : fn.results = #[.cell p ty, .tmp q]) (tmps : Array Value) (w : World) (g : Nat) (t : TypeId) (cs : Array Value) (fr : Nat × Nat) (d : TypeDesc)
  (hp : tmps.getD p undef = .pointer (some ⟨g, 0, none⟩)) (hg : w.heap[g]? = some (.cells cs t fr))
  (hu : P.underlying ty = some d) (hd : (match d with | .struct _ | .array _ _ => true | _ => false) = true) (hi : (P.info? ty).map (·.size) = some cs.size) :
  (results fn tmps).run P w = .ok (.tuple #[.agg cs, tmps.getD q undef]) w := by
 have hp' : tmps[p]?.getD undef = .pointer (some ⟨g, 0, none⟩) := by simpa using hp
 simp [results, h, hp', asAddr, run_loadVar_row w g t ty cs fr d hg hu hd hi]
theorem set_other9 {w : World} {g k i : Nat} {o : Obj} (h : w.heap[k]? = some o) (hne : k ≠ g) (u : Value) : (w.setCell ⟨g, i, none⟩ u).heap[k]? = some o := (Go.Deep.blk_setCell_other _ _ _ _ hne).trans h
theorem slG_one {α : Type} {E : Enc α} {w : World} {v : Value} {l : List α} (h : SlG E w v l) : v.oneCell' = true := by
 obtain ⟨a, cap, rfl, _⟩ := h
 rfl
theorem dlV_one {w : World} {v : Value} {d : SD.Dd} (h : DlV w v d) : v.oneCell' = true := by
 obtain ⟨a, cap, F, rfl, _⟩ := h
 rfl
theorem one_set {c : Array Value} (h : c.all (·.oneCell') = true) (i : Nat) {u : Value} (hu : u.oneCell' = true) : (c.setIfInBounds i u).all (·.oneCell') = true := by
 rw [Array.all_eq_true_iff_forall_mem] at h ⊢
 intro x hx
 rcases Array.mem_or_eq_of_mem_setIfInBounds hx with hx | rfl
 ·exact h x hx
 ·exact hu
theorem cm_one {w : World} {c : Cm} {l : Pl} (h : CmAt w c l) : (#[.int .i64 c.id.1, .int .i64 c.id.2, l.o, .int .i64 c.phase, .int .i64 c.prom.1, .int .i64 c.prom.2, .int .i64 c.vote.1, .int .i64 c.vote.2, .bool c.fast, l.s, .int .i64 c.bound.1, .int .i64 c.bound.2, .bool c.has, .int .i64 c.ballot.1, .int .i64 c.ballot.2, .bool c.val.1, .int .i64 c.val.2.1.1, .int .i64 c.val.2.1.2, l.d, .bool c.ready, l.w, l.p] : Array Value).all (·.oneCell') = true := by
 have ho := slG_one h.o
 have hs := dlV_one h.s
 have hd := dlV_one h.d
 have hw := slG_one h.w
 have hp := slG_one h.p
 simp [Value.oneCell']
 exact ⟨ho, hs, hd, hw, hp⟩
theorem sl_new2 (w : World) (a b c d : Int) (T : TypeId) : S1.SL (w.alloc (.cells #[.int .i64 a, .int .i64 b, .int .i64 c, .int .i64 d] T)) (some ⟨w.heap.size, 0, none⟩) [(a, b), (c, d)] := by
 intro _
 have hb : (w.alloc (.cells #[.int .i64 a, .int .i64 b, .int .i64 c, .int .i64 d] T)).heap[w.heap.size]? = some (.cells #[.int .i64 a, .int .i64 b, .int .i64 c, .int .i64 d] T (0, 0)) := new_blockC w _ T
 refine ⟨w.heap.size, 0, rfl, by simp, fun i x y hi => ?_⟩
 match i, hi with
 | 0, hi =>
  simp only [List.getElem?_cons_zero, Option.some.injEq, Prod.mk.injEq] at hi
  obtain ⟨rfl, rfl⟩ := hi
  exact ⟨cell_row hb 0 _ rfl, cell_row hb 1 _ rfl⟩
 | 1, hi =>
  simp only [List.getElem?_cons_succ, List.getElem?_cons_zero, Option.some.injEq, Prod.mk.injEq] at hi
  obtain ⟨rfl, rfl⟩ := hi
  exact ⟨cell_row hb 2 _ rfl, cell_row hb 3 _ rfl⟩
 | n + 2, hi => simp at hi
theorem grown_other9 {x y : World} {g k : Nat} {o : Obj} (h : x.heap[k]? = some o) (hg : x.grownBy y (some g)) (hk : k < x.heap.size) (hne : k ≠ g) : y.heap[k]? = some o := (hg.block k hk (by intro e; have := Option.some.inj e; omega)).trans h
def RetB (W : World) (c : Cm) (l : Pl) (b : Bool) (e : Ending) (w' : World) : Prop := e = .returned (.tuple #[cmV c l, .bool b]) ∧ Below W.heap.size W w'
def RetL (W : World) (c : Cm) (l : Pl) (e : Ending) (w' : World) : Prop := e = .returned (cmV c l) ∧ Below W.heap.size W w'
structure FewC (c : Cm) : Prop where
 ops : c.ops.length ≤ 20000
 seen : FewV c.seen
 deps : FewV c.val.2.2
 writes : c.writes.length ≤ 20000
 pairs : c.pairs.length ≤ 20000

theorem promise_any (c : Cm) (l : Pl) (b : Stp) (W : World) (h : CmAt W c l) : Calls Tryz.prog 41 #[cmV c l, .agg #[.int .i64 b.1, .int .i64 b.2]] W (RetB W (proC c b) l (proB c b)) := by
 have HD := hH (fun (Y : World) => isDecided_any c l Y)
 obtain ⟨x, y⟩ := b
 have HK := hH (fun (Y : World) => S1.compare_any x y c.prom.1 c.prom.2 Y)
 have HLT := hH (S1.cmpS_neg x y c.prom.1 c.prom.2)
 generalize hv : proC c (x, y) = cv
 generalize hb : proB c (x, y) = bv
 have ho1 := slG_one h.o
 have hs1 := dlV_one h.s
 have hd1 := dlV_one h.d
 have hw1 := slG_one h.w
 have hp1 := slG_one h.p
 have HO1 := hH ho1
 have HS1 := hH hs1
 have HD1 := hH hd1
 have HW1 := hH hw1
 have HP1 := hH hp1
 clear ho1 hs1 hd1 hw1 hp1
 have HCA := hH h
 clear h
 obtain ⟨⟨id1, id2⟩, ops, phase, ⟨p1, p2⟩, ⟨v1, v2⟩, fast, seen, ⟨b1, b2⟩, has, ⟨q1, q2⟩, ⟨gone, ⟨t1, t2⟩, deps⟩, ready, writes, pairs⟩ := c
 obtain ⟨lo, ls, ld, lw, lp⟩ := l
 simp only [cmV] at HD
 simp only at HK HLT
 simp only at HO1 HS1 HD1 HW1 HP1
 simp only [cmV]
 have HONE : Hid ((#[.int .i64 id1, .int .i64 id2, lo, .int .i64 phase, .int .i64 p1, .int .i64 p2, .int .i64 v1, .int .i64 v2, .bool fast, ls, .int .i64 b1, .int .i64 b2, .bool has, .int .i64 q1, .int .i64 q2, .bool gone, .int .i64 t1, .int .i64 t2, ld, .bool ready, lw, lp] : Array Value).all (·.oneCell') = true) := (by show _ = _; simp [Value.oneCell']; exact ⟨HO1.out, HS1.out, HD1.out, HW1.out, HP1.out⟩)
 clear HO1 HS1 HD1 HW1 HP1
 have HN := hH (fun i o (h : ([(.cells #[.int .i64 id1, .int .i64 id2, lo, .int .i64 phase, .int .i64 p1, .int .i64 p2, .int .i64 v1, .int .i64 v2, .bool fast, ls, .int .i64 b1, .int .i64 b2, .bool has, .int .i64 q1, .int .i64 q2, .bool gone, .int .i64 t1, .int .i64 t2, ld, .bool ready, lw, lp] 31), (.cells #[.int .i64 x, .int .i64 y] 23), (.cells #[.int .i64 0, .int .i64 0, .slice none 0 0, .int .i64 0, .int .i64 0, .int .i64 0, .int .i64 0, .int .i64 0, .bool false, .slice none 0 0, .int .i64 0, .int .i64 0, .bool false, .int .i64 0, .int .i64 0, .bool false, .int .i64 0, .int .i64 0, .slice none 0 0, .bool false, .slice none 0 0, .slice none 0 0] 31)] : List Obj)[i]? = some o) => nth_box W [(.cells #[.int .i64 id1, .int .i64 id2, lo, .int .i64 phase, .int .i64 p1, .int .i64 p2, .int .i64 v1, .int .i64 v2, .bool fast, ls, .int .i64 b1, .int .i64 b2, .bool has, .int .i64 q1, .int .i64 q2, .bool gone, .int .i64 t1, .int .i64 t2, ld, .bool ready, lw, lp] 31), (.cells #[.int .i64 x, .int .i64 y] 23), (.cells #[.int .i64 0, .int .i64 0, .slice none 0 0, .int .i64 0, .int .i64 0, .int .i64 0, .int .i64 0, .int .i64 0, .bool false, .slice none 0 0, .int .i64 0, .int .i64 0, .bool false, .int .i64 0, .int .i64 0, .bool false, .int .i64 0, .int .i64 0, .slice none 0 0, .bool false, .slice none 0 0, .slice none 0 0] 31)] i o h)
 have hWN : Hid ((((W.alloc (.cells #[.int .i64 id1, .int .i64 id2, lo, .int .i64 phase, .int .i64 p1, .int .i64 p2, .int .i64 v1, .int .i64 v2, .bool fast, ls, .int .i64 b1, .int .i64 b2, .bool has, .int .i64 q1, .int .i64 q2, .bool gone, .int .i64 t1, .int .i64 t2, ld, .bool ready, lw, lp] 31)).alloc (.cells #[.int .i64 x, .int .i64 y] 23)).alloc (.cells #[.int .i64 0, .int .i64 0, .slice none 0 0, .int .i64 0, .int .i64 0, .int .i64 0, .int .i64 0, .int .i64 0, .bool false, .slice none 0 0, .int .i64 0, .int .i64 0, .bool false, .int .i64 0, .int .i64 0, .bool false, .int .i64 0, .int .i64 0, .slice none 0 0, .bool false, .slice none 0 0, .slice none 0 0] 31)).heap.size = W.heap.size + 3) := (HN.out 0 _ rfl).2.symm
 have Kc0 : Hid ((((W.alloc (.cells #[.int .i64 id1, .int .i64 id2, lo, .int .i64 phase, .int .i64 p1, .int .i64 p2, .int .i64 v1, .int .i64 v2, .bool fast, ls, .int .i64 b1, .int .i64 b2, .bool has, .int .i64 q1, .int .i64 q2, .bool gone, .int .i64 t1, .int .i64 t2, ld, .bool ready, lw, lp] 31)).alloc (.cells #[.int .i64 x, .int .i64 y] 23)).alloc (.cells #[.int .i64 0, .int .i64 0, .slice none 0 0, .int .i64 0, .int .i64 0, .int .i64 0, .int .i64 0, .int .i64 0, .bool false, .slice none 0 0, .int .i64 0, .int .i64 0, .bool false, .int .i64 0, .int .i64 0, .bool false, .int .i64 0, .int .i64 0, .slice none 0 0, .bool false, .slice none 0 0, .slice none 0 0] 31)).heap[W.heap.size]? = some (.cells #[.int .i64 id1, .int .i64 id2, lo, .int .i64 phase, .int .i64 p1, .int .i64 p2, .int .i64 v1, .int .i64 v2, .bool fast, ls, .int .i64 b1, .int .i64 b2, .bool has, .int .i64 q1, .int .i64 q2, .bool gone, .int .i64 t1, .int .i64 t2, ld, .bool ready, lw, lp] 31 (0, 0))) := (HN.out 0 _ rfl).1
 have Jc : Hid (∀ Y, Below (((W.alloc (.cells #[.int .i64 id1, .int .i64 id2, lo, .int .i64 phase, .int .i64 p1, .int .i64 p2, .int .i64 v1, .int .i64 v2, .bool fast, ls, .int .i64 b1, .int .i64 b2, .bool has, .int .i64 q1, .int .i64 q2, .bool gone, .int .i64 t1, .int .i64 t2, ld, .bool ready, lw, lp] 31)).alloc (.cells #[.int .i64 x, .int .i64 y] 23)).alloc (.cells #[.int .i64 0, .int .i64 0, .slice none 0 0, .int .i64 0, .int .i64 0, .int .i64 0, .int .i64 0, .int .i64 0, .bool false, .slice none 0 0, .int .i64 0, .int .i64 0, .bool false, .int .i64 0, .int .i64 0, .bool false, .int .i64 0, .int .i64 0, .slice none 0 0, .bool false, .slice none 0 0, .slice none 0 0] 31)).heap.size (((W.alloc (.cells #[.int .i64 id1, .int .i64 id2, lo, .int .i64 phase, .int .i64 p1, .int .i64 p2, .int .i64 v1, .int .i64 v2, .bool fast, ls, .int .i64 b1, .int .i64 b2, .bool has, .int .i64 q1, .int .i64 q2, .bool gone, .int .i64 t1, .int .i64 t2, ld, .bool ready, lw, lp] 31)).alloc (.cells #[.int .i64 x, .int .i64 y] 23)).alloc (.cells #[.int .i64 0, .int .i64 0, .slice none 0 0, .int .i64 0, .int .i64 0, .int .i64 0, .int .i64 0, .int .i64 0, .bool false, .slice none 0 0, .int .i64 0, .int .i64 0, .bool false, .int .i64 0, .int .i64 0, .bool false, .int .i64 0, .int .i64 0, .slice none 0 0, .bool false, .slice none 0 0, .slice none 0 0] 31)) Y → Y.heap[W.heap.size]? = some (.cells #[.int .i64 id1, .int .i64 id2, lo, .int .i64 phase, .int .i64 p1, .int .i64 p2, .int .i64 v1, .int .i64 v2, .bool fast, ls, .int .i64 b1, .int .i64 b2, .bool has, .int .i64 q1, .int .i64 q2, .bool gone, .int .i64 t1, .int .i64 t2, ld, .bool ready, lw, lp] 31 (0, 0))) := fun Y hY => (hY.block W.heap.size (by rw [hWN.out]; omega)).trans Kc0.out
 have Kb0 : Hid ((((W.alloc (.cells #[.int .i64 id1, .int .i64 id2, lo, .int .i64 phase, .int .i64 p1, .int .i64 p2, .int .i64 v1, .int .i64 v2, .bool fast, ls, .int .i64 b1, .int .i64 b2, .bool has, .int .i64 q1, .int .i64 q2, .bool gone, .int .i64 t1, .int .i64 t2, ld, .bool ready, lw, lp] 31)).alloc (.cells #[.int .i64 x, .int .i64 y] 23)).alloc (.cells #[.int .i64 0, .int .i64 0, .slice none 0 0, .int .i64 0, .int .i64 0, .int .i64 0, .int .i64 0, .int .i64 0, .bool false, .slice none 0 0, .int .i64 0, .int .i64 0, .bool false, .int .i64 0, .int .i64 0, .bool false, .int .i64 0, .int .i64 0, .slice none 0 0, .bool false, .slice none 0 0, .slice none 0 0] 31)).heap[(W.heap.size + 1)]? = some (.cells #[.int .i64 x, .int .i64 y] 23 (0, 0))) := (HN.out 1 _ rfl).1
 have Jb : Hid (∀ Y, Below (((W.alloc (.cells #[.int .i64 id1, .int .i64 id2, lo, .int .i64 phase, .int .i64 p1, .int .i64 p2, .int .i64 v1, .int .i64 v2, .bool fast, ls, .int .i64 b1, .int .i64 b2, .bool has, .int .i64 q1, .int .i64 q2, .bool gone, .int .i64 t1, .int .i64 t2, ld, .bool ready, lw, lp] 31)).alloc (.cells #[.int .i64 x, .int .i64 y] 23)).alloc (.cells #[.int .i64 0, .int .i64 0, .slice none 0 0, .int .i64 0, .int .i64 0, .int .i64 0, .int .i64 0, .int .i64 0, .bool false, .slice none 0 0, .int .i64 0, .int .i64 0, .bool false, .int .i64 0, .int .i64 0, .bool false, .int .i64 0, .int .i64 0, .slice none 0 0, .bool false, .slice none 0 0, .slice none 0 0] 31)).heap.size (((W.alloc (.cells #[.int .i64 id1, .int .i64 id2, lo, .int .i64 phase, .int .i64 p1, .int .i64 p2, .int .i64 v1, .int .i64 v2, .bool fast, ls, .int .i64 b1, .int .i64 b2, .bool has, .int .i64 q1, .int .i64 q2, .bool gone, .int .i64 t1, .int .i64 t2, ld, .bool ready, lw, lp] 31)).alloc (.cells #[.int .i64 x, .int .i64 y] 23)).alloc (.cells #[.int .i64 0, .int .i64 0, .slice none 0 0, .int .i64 0, .int .i64 0, .int .i64 0, .int .i64 0, .int .i64 0, .bool false, .slice none 0 0, .int .i64 0, .int .i64 0, .bool false, .int .i64 0, .int .i64 0, .bool false, .int .i64 0, .int .i64 0, .slice none 0 0, .bool false, .slice none 0 0, .slice none 0 0] 31)) Y → Y.heap[(W.heap.size + 1)]? = some (.cells #[.int .i64 x, .int .i64 y] 23 (0, 0))) := fun Y hY => (hY.block (W.heap.size + 1) (by rw [hWN.out]; omega)).trans Kb0.out
 have Kr0 : Hid ((((W.alloc (.cells #[.int .i64 id1, .int .i64 id2, lo, .int .i64 phase, .int .i64 p1, .int .i64 p2, .int .i64 v1, .int .i64 v2, .bool fast, ls, .int .i64 b1, .int .i64 b2, .bool has, .int .i64 q1, .int .i64 q2, .bool gone, .int .i64 t1, .int .i64 t2, ld, .bool ready, lw, lp] 31)).alloc (.cells #[.int .i64 x, .int .i64 y] 23)).alloc (.cells #[.int .i64 0, .int .i64 0, .slice none 0 0, .int .i64 0, .int .i64 0, .int .i64 0, .int .i64 0, .int .i64 0, .bool false, .slice none 0 0, .int .i64 0, .int .i64 0, .bool false, .int .i64 0, .int .i64 0, .bool false, .int .i64 0, .int .i64 0, .slice none 0 0, .bool false, .slice none 0 0, .slice none 0 0] 31)).heap[(W.heap.size + 2)]? = some (.cells #[.int .i64 0, .int .i64 0, .slice none 0 0, .int .i64 0, .int .i64 0, .int .i64 0, .int .i64 0, .int .i64 0, .bool false, .slice none 0 0, .int .i64 0, .int .i64 0, .bool false, .int .i64 0, .int .i64 0, .bool false, .int .i64 0, .int .i64 0, .slice none 0 0, .bool false, .slice none 0 0, .slice none 0 0] 31 (0, 0))) := (HN.out 2 _ rfl).1
 have Jr : Hid (∀ Y, Below (((W.alloc (.cells #[.int .i64 id1, .int .i64 id2, lo, .int .i64 phase, .int .i64 p1, .int .i64 p2, .int .i64 v1, .int .i64 v2, .bool fast, ls, .int .i64 b1, .int .i64 b2, .bool has, .int .i64 q1, .int .i64 q2, .bool gone, .int .i64 t1, .int .i64 t2, ld, .bool ready, lw, lp] 31)).alloc (.cells #[.int .i64 x, .int .i64 y] 23)).alloc (.cells #[.int .i64 0, .int .i64 0, .slice none 0 0, .int .i64 0, .int .i64 0, .int .i64 0, .int .i64 0, .int .i64 0, .bool false, .slice none 0 0, .int .i64 0, .int .i64 0, .bool false, .int .i64 0, .int .i64 0, .bool false, .int .i64 0, .int .i64 0, .slice none 0 0, .bool false, .slice none 0 0, .slice none 0 0] 31)).heap.size (((W.alloc (.cells #[.int .i64 id1, .int .i64 id2, lo, .int .i64 phase, .int .i64 p1, .int .i64 p2, .int .i64 v1, .int .i64 v2, .bool fast, ls, .int .i64 b1, .int .i64 b2, .bool has, .int .i64 q1, .int .i64 q2, .bool gone, .int .i64 t1, .int .i64 t2, ld, .bool ready, lw, lp] 31)).alloc (.cells #[.int .i64 x, .int .i64 y] 23)).alloc (.cells #[.int .i64 0, .int .i64 0, .slice none 0 0, .int .i64 0, .int .i64 0, .int .i64 0, .int .i64 0, .int .i64 0, .bool false, .slice none 0 0, .int .i64 0, .int .i64 0, .bool false, .int .i64 0, .int .i64 0, .bool false, .int .i64 0, .int .i64 0, .slice none 0 0, .bool false, .slice none 0 0, .slice none 0 0] 31)) Y → Y.heap[(W.heap.size + 2)]? = some (.cells #[.int .i64 0, .int .i64 0, .slice none 0 0, .int .i64 0, .int .i64 0, .int .i64 0, .int .i64 0, .int .i64 0, .bool false, .slice none 0 0, .int .i64 0, .int .i64 0, .bool false, .int .i64 0, .int .i64 0, .bool false, .int .i64 0, .int .i64 0, .slice none 0 0, .bool false, .slice none 0 0, .slice none 0 0] 31 (0, 0))) := fun Y hY => (hY.block (W.heap.size + 2) (by rw [hWN.out]; omega)).trans Kr0.out
 have HB0 : Hid (Below W.heap.size W (((W.alloc (.cells #[.int .i64 id1, .int .i64 id2, lo, .int .i64 phase, .int .i64 p1, .int .i64 p2, .int .i64 v1, .int .i64 v2, .bool fast, ls, .int .i64 b1, .int .i64 b2, .bool has, .int .i64 q1, .int .i64 q2, .bool gone, .int .i64 t1, .int .i64 t2, ld, .bool ready, lw, lp] 31)).alloc (.cells #[.int .i64 x, .int .i64 y] 23)).alloc (.cells #[.int .i64 0, .int .i64 0, .slice none 0 0, .int .i64 0, .int .i64 0, .int .i64 0, .int .i64 0, .int .i64 0, .bool false, .slice none 0 0, .int .i64 0, .int .i64 0, .bool false, .int .i64 0, .int .i64 0, .bool false, .int .i64 0, .int .i64 0, .slice none 0 0, .bool false, .slice none 0 0, .slice none 0 0] 31))) := hH (blAlloc (blAlloc (blAlloc (Below.refl _ _) _) _) _)
 clear HN
 unfold proC at hv
 unfold proB at hv hb
 simp only at hv hb
 cases hd : decB ⟨(id1, id2), ops, phase, (p1, p2), (v1, v2), fast, seen, (b1, b2), has, (q1, q2), (gone, (t1, t2), deps), ready, writes, pairs⟩
 ·rw [hd] at HD hv hb
  cases hl : S1.ltS (x, y) (p1, p2)
  ·rw [hl] at hv hb
   obtain rfl : bv = true := by rw [← hb]; rfl
   have hcv := hv.symm
   simp only [Bool.false_or, Bool.not_false, if_true] at hcv
   subst hcv
   have hK2 : ¬ S1.cmpS x y p1 p2 < 0 := fun e => by rw [HLT.out.1 e] at hl; cases hl
   have hK3 : decide (S1.cmpS x y p1 p2 < 0) = false := decide_eq_false hK2
   generalize S1.cmpS x y p1 p2 = K at *
   clear hv hb hd hl HLT
   go_enter Tryz.func41, Tryz.ntmps41
   go_wp2_with (first | (first | go_skip | refine load9 _ rfl rfl _ rfl (S1.block_setCell (S1.block_setCell Kc2.out _) _) rfl ?_ | refine load9 _ rfl rfl _ rfl Kc2.out rfl ?_ | refine load9 _ rfl rfl _ rfl Kc1.out rfl ?_ | refine load9 _ rfl rfl _ rfl Kc0.out rfl ?_) | (first | (refine store9 _ _ rfl rfl _ rfl rfl (set_other9 (set_other9 Kr2.out (by omega) _) (by omega) _) rfl rfl (one_set (one_set HONE.out _ rfl) _ rfl) ?_; intro wS hS1 hS2; have KS := hH hS1; have HGS := hH hS2; clear hS1 hS2) | (refine store9 _ _ rfl rfl _ rfl rfl Kr2.out rfl rfl HONE.out ?_; intro wS hS1 hS2; have KS := hH hS1; have HGS := hH hS2; clear hS1 hS2) | (refine store9 _ _ rfl rfl _ rfl rfl Kr1.out rfl rfl HONE.out ?_; intro wS hS1 hS2; have KS := hH hS1; have HGS := hH hS2; clear hS1 hS2)) | (have htok := HY1; clear htok; go_at_call 120; go_must (refine (HK.out _).mono ?_; rintro e w2 ⟨rfl, h5⟩; have HY2 := hH (blThen HY1.out h5); have Kc2 := hH (Jc.out _ HY2.out); have Kb2 := hH (Jb.out _ HY2.out); have Kr2 := hH (Jr.out _ HY2.out); have cb0_2 := cell_row Kb2.out 0 _ rfl; have cb1_2 := cell_row Kb2.out 1 _ rfl; have cc4_2 := cell_row Kc2.out 4 _ rfl; have cc5_2 := cell_row Kc2.out 5 _ rfl; have fc4_2 := frozen_row Kc2.out 4; have fc5_2 := frozen_row Kc2.out 5; have hw2 : W.heap.size + 3 ≤ w2.heap.size := (by have := HY2.out.size; have := hWN.out; omega); have HB2 : Hid (Below W.heap.size W w2) := hH (blThen HB0.out HY2.out); clear h5)) | (go_at_call 119; go_must (refine (HD.out _).mono ?_; rintro e w1 ⟨rfl, h5⟩; have HY1 := hH h5; have Kc1 := hH (Jc.out _ HY1.out); have Kb1 := hH (Jb.out _ HY1.out); have Kr1 := hH (Jr.out _ HY1.out); have cb0_1 := cell_row Kb1.out 0 _ rfl; have cb1_1 := cell_row Kb1.out 1 _ rfl; have cc4_1 := cell_row Kc1.out 4 _ rfl; have cc5_1 := cell_row Kc1.out 5 _ rfl; have hw1 : W.heap.size + 3 ≤ w1.heap.size := (by have := HY1.out.size; have := hWN.out; omega); have HB1 : Hid (Below W.heap.size W w1) := hH (blThen HB0.out HY1.out); clear h5)))
   refine bodyPost_ret (results_cell_tmp9 Tryz.results41 _ _ _ 31 _ (0, 0) _ rfl KS.out Tryz.underlying31 rfl szCmd) rfl ?_
   exact ⟨rfl, below_grown9 (blSet (blSet HB2.out (Nat.le_refl _) _) (Nat.le_refl _) _) HGS.out (by omega)⟩
  ·rw [hl] at hv hb
   obtain rfl : bv = false := by rw [← hb]; rfl
   have hcv := hv.symm
   simp only [Bool.false_or, Bool.not_true, Bool.false_eq_true, if_false] at hcv
   subst hcv
   have hK2 : S1.cmpS x y p1 p2 < 0 := HLT.out.2 hl
   have hK3 : decide (S1.cmpS x y p1 p2 < 0) = true := decide_eq_true hK2
   generalize S1.cmpS x y p1 p2 = K at *
   clear hv hb hd hl HLT
   go_enter Tryz.func41, Tryz.ntmps41
   go_wp2_with (first | (first | go_skip | refine load9 _ rfl rfl _ rfl (S1.block_setCell (S1.block_setCell Kc2.out _) _) rfl ?_ | refine load9 _ rfl rfl _ rfl Kc2.out rfl ?_ | refine load9 _ rfl rfl _ rfl Kc1.out rfl ?_ | refine load9 _ rfl rfl _ rfl Kc0.out rfl ?_) | (first | (refine store9 _ _ rfl rfl _ rfl rfl (set_other9 (set_other9 Kr2.out (by omega) _) (by omega) _) rfl rfl (one_set (one_set HONE.out _ rfl) _ rfl) ?_; intro wS hS1 hS2; have KS := hH hS1; have HGS := hH hS2; clear hS1 hS2) | (refine store9 _ _ rfl rfl _ rfl rfl Kr2.out rfl rfl HONE.out ?_; intro wS hS1 hS2; have KS := hH hS1; have HGS := hH hS2; clear hS1 hS2) | (refine store9 _ _ rfl rfl _ rfl rfl Kr1.out rfl rfl HONE.out ?_; intro wS hS1 hS2; have KS := hH hS1; have HGS := hH hS2; clear hS1 hS2)) | (have htok := HY1; clear htok; go_at_call 120; go_must (refine (HK.out _).mono ?_; rintro e w2 ⟨rfl, h5⟩; have HY2 := hH (blThen HY1.out h5); have Kc2 := hH (Jc.out _ HY2.out); have Kb2 := hH (Jb.out _ HY2.out); have Kr2 := hH (Jr.out _ HY2.out); have cb0_2 := cell_row Kb2.out 0 _ rfl; have cb1_2 := cell_row Kb2.out 1 _ rfl; have hw2 : W.heap.size + 3 ≤ w2.heap.size := (by have := HY2.out.size; have := hWN.out; omega); have HB2 : Hid (Below W.heap.size W w2) := hH (blThen HB0.out HY2.out); clear h5)) | (go_at_call 119; go_must (refine (HD.out _).mono ?_; rintro e w1 ⟨rfl, h5⟩; have HY1 := hH h5; have Kc1 := hH (Jc.out _ HY1.out); have Kb1 := hH (Jb.out _ HY1.out); have Kr1 := hH (Jr.out _ HY1.out); have cb0_1 := cell_row Kb1.out 0 _ rfl; have cb1_1 := cell_row Kb1.out 1 _ rfl; have cc4_1 := cell_row Kc1.out 4 _ rfl; have cc5_1 := cell_row Kc1.out 5 _ rfl; have hw1 : W.heap.size + 3 ≤ w1.heap.size := (by have := HY1.out.size; have := hWN.out; omega); have HB1 : Hid (Below W.heap.size W w1) := hH (blThen HB0.out HY1.out); clear h5)))
   refine bodyPost_ret (results_cell_tmp9 Tryz.results41 _ _ _ 31 _ (0, 0) _ rfl KS.out Tryz.underlying31 rfl szCmd) rfl ?_
   exact ⟨rfl, below_grown9 HB2.out HGS.out (by omega)⟩
 ·rw [hd] at HD hv hb
  obtain rfl : bv = false := by rw [← hb]; rfl
  have hcv := hv.symm
  simp only [Bool.true_or, Bool.not_true, Bool.false_eq_true, if_false] at hcv
  subst hcv
  clear hv hb hd HK HLT
  go_enter Tryz.func41, Tryz.ntmps41
  go_wp2_with (first | (first | go_skip | refine load9 _ rfl rfl _ rfl (S1.block_setCell (S1.block_setCell Kc2.out _) _) rfl ?_ | refine load9 _ rfl rfl _ rfl Kc2.out rfl ?_ | refine load9 _ rfl rfl _ rfl Kc1.out rfl ?_ | refine load9 _ rfl rfl _ rfl Kc0.out rfl ?_) | (first | (refine store9 _ _ rfl rfl _ rfl rfl (set_other9 (set_other9 Kr2.out (by omega) _) (by omega) _) rfl rfl (one_set (one_set HONE.out _ rfl) _ rfl) ?_; intro wS hS1 hS2; have KS := hH hS1; have HGS := hH hS2; clear hS1 hS2) | (refine store9 _ _ rfl rfl _ rfl rfl Kr2.out rfl rfl HONE.out ?_; intro wS hS1 hS2; have KS := hH hS1; have HGS := hH hS2; clear hS1 hS2) | (refine store9 _ _ rfl rfl _ rfl rfl Kr1.out rfl rfl HONE.out ?_; intro wS hS1 hS2; have KS := hH hS1; have HGS := hH hS2; clear hS1 hS2)) | (go_at_call 119; go_must (refine (HD.out _).mono ?_; rintro e w1 ⟨rfl, h5⟩; have HY1 := hH h5; have Kc1 := hH (Jc.out _ HY1.out); have Kb1 := hH (Jb.out _ HY1.out); have Kr1 := hH (Jr.out _ HY1.out); have hw1 : W.heap.size + 3 ≤ w1.heap.size := (by have := HY1.out.size; have := hWN.out; omega); have HB1 : Hid (Below W.heap.size W w1) := hH (blThen HB0.out HY1.out); clear h5)))
  refine bodyPost_ret (results_cell_tmp9 Tryz.results41 _ _ _ 31 _ (0, 0) _ rfl KS.out Tryz.underlying31 rfl szCmd) rfl ?_
  exact ⟨rfl, below_grown9 HB1.out HGS.out (by omega)⟩

theorem bind_any (c : Cm) (l : Pl) (b at_ : Stp) (W : World) (h : CmAt W c l) : Calls Tryz.prog 86 #[cmV c l, .agg #[.int .i64 b.1, .int .i64 b.2], .agg #[.int .i64 at_.1, .int .i64 at_.2]] W (RetB W (binC c b at_) l (proB c b)) := by
 have HP := hH (fun (Y : World) (hY : Below W.heap.size W Y) => promise_any c l b Y (h.later hY))
 obtain ⟨x, y⟩ := b
 obtain ⟨u, v⟩ := at_
 generalize hv : binC c (x, y) (u, v) = cv
 have ho1 := slG_one h.o
 have hs1 := dlV_one h.s
 have hd1 := dlV_one h.d
 have hw1 := slG_one h.w
 have hp1 := slG_one h.p
 have HO1 := hH ho1
 have HS1 := hH hs1
 have HD1 := hH hd1
 have HW1 := hH hw1
 have HP1 := hH hp1
 clear ho1 hs1 hd1 hw1 hp1
 have HCA := hH h
 clear h
 obtain ⟨⟨id1, id2⟩, ops, phase, ⟨p1, p2⟩, ⟨v1, v2⟩, fast, seen, ⟨b1, b2⟩, has, ⟨q1, q2⟩, ⟨gone, ⟨t1, t2⟩, deps⟩, ready, writes, pairs⟩ := c
 obtain ⟨lo, ls, ld, lw, lp⟩ := l
 simp only [cmV] at HP
 simp only at HO1 HS1 HD1 HW1 HP1
 simp only [cmV]
 have HONE : Hid (((r22 id1 id2 lo phase p1 p2 v1 v2 fast ls b1 b2 has q1 q2 gone t1 t2 ld ready lw lp) : Array Value).all (·.oneCell') = true) := (by show _ = _; simp [Value.oneCell']; exact ⟨HO1.out, HS1.out, HD1.out, HW1.out, HP1.out⟩)
 clear HO1 HS1 HD1 HW1 HP1
 have HN := hH (fun i o (h : ([(.cells (r22 id1 id2 lo phase p1 p2 v1 v2 fast ls b1 b2 has q1 q2 gone t1 t2 ld ready lw lp) 31), (.cells #[.int .i64 x, .int .i64 y] 23), (.cells #[.int .i64 u, .int .i64 v] 23), (.cells z22 31)] : List Obj)[i]? = some o) => nth_box W [(.cells (r22 id1 id2 lo phase p1 p2 v1 v2 fast ls b1 b2 has q1 q2 gone t1 t2 ld ready lw lp) 31), (.cells #[.int .i64 x, .int .i64 y] 23), (.cells #[.int .i64 u, .int .i64 v] 23), (.cells z22 31)] i o h)
 have hWN : Hid (((((W.alloc (.cells (r22 id1 id2 lo phase p1 p2 v1 v2 fast ls b1 b2 has q1 q2 gone t1 t2 ld ready lw lp) 31)).alloc (.cells #[.int .i64 x, .int .i64 y] 23)).alloc (.cells #[.int .i64 u, .int .i64 v] 23)).alloc (.cells z22 31)).heap.size = W.heap.size + 4) := (HN.out 0 _ rfl).2.symm
 have Kc0 : Hid (((((W.alloc (.cells (r22 id1 id2 lo phase p1 p2 v1 v2 fast ls b1 b2 has q1 q2 gone t1 t2 ld ready lw lp) 31)).alloc (.cells #[.int .i64 x, .int .i64 y] 23)).alloc (.cells #[.int .i64 u, .int .i64 v] 23)).alloc (.cells z22 31)).heap[W.heap.size]? = some (.cells (r22 id1 id2 lo phase p1 p2 v1 v2 fast ls b1 b2 has q1 q2 gone t1 t2 ld ready lw lp) 31 (0, 0))) := (HN.out 0 _ rfl).1
 have Jc : Hid (∀ Y, Below ((((W.alloc (.cells (r22 id1 id2 lo phase p1 p2 v1 v2 fast ls b1 b2 has q1 q2 gone t1 t2 ld ready lw lp) 31)).alloc (.cells #[.int .i64 x, .int .i64 y] 23)).alloc (.cells #[.int .i64 u, .int .i64 v] 23)).alloc (.cells z22 31)).heap.size ((((W.alloc (.cells (r22 id1 id2 lo phase p1 p2 v1 v2 fast ls b1 b2 has q1 q2 gone t1 t2 ld ready lw lp) 31)).alloc (.cells #[.int .i64 x, .int .i64 y] 23)).alloc (.cells #[.int .i64 u, .int .i64 v] 23)).alloc (.cells z22 31)) Y → Y.heap[W.heap.size]? = some (.cells (r22 id1 id2 lo phase p1 p2 v1 v2 fast ls b1 b2 has q1 q2 gone t1 t2 ld ready lw lp) 31 (0, 0))) := fun Y hY => (hY.block W.heap.size (by rw [hWN.out]; omega)).trans Kc0.out
 have Kb0 : Hid (((((W.alloc (.cells (r22 id1 id2 lo phase p1 p2 v1 v2 fast ls b1 b2 has q1 q2 gone t1 t2 ld ready lw lp) 31)).alloc (.cells #[.int .i64 x, .int .i64 y] 23)).alloc (.cells #[.int .i64 u, .int .i64 v] 23)).alloc (.cells z22 31)).heap[(W.heap.size + 1)]? = some (.cells #[.int .i64 x, .int .i64 y] 23 (0, 0))) := (HN.out 1 _ rfl).1
 have Jb : Hid (∀ Y, Below ((((W.alloc (.cells (r22 id1 id2 lo phase p1 p2 v1 v2 fast ls b1 b2 has q1 q2 gone t1 t2 ld ready lw lp) 31)).alloc (.cells #[.int .i64 x, .int .i64 y] 23)).alloc (.cells #[.int .i64 u, .int .i64 v] 23)).alloc (.cells z22 31)).heap.size ((((W.alloc (.cells (r22 id1 id2 lo phase p1 p2 v1 v2 fast ls b1 b2 has q1 q2 gone t1 t2 ld ready lw lp) 31)).alloc (.cells #[.int .i64 x, .int .i64 y] 23)).alloc (.cells #[.int .i64 u, .int .i64 v] 23)).alloc (.cells z22 31)) Y → Y.heap[(W.heap.size + 1)]? = some (.cells #[.int .i64 x, .int .i64 y] 23 (0, 0))) := fun Y hY => (hY.block (W.heap.size + 1) (by rw [hWN.out]; omega)).trans Kb0.out
 have Ka0 : Hid (((((W.alloc (.cells (r22 id1 id2 lo phase p1 p2 v1 v2 fast ls b1 b2 has q1 q2 gone t1 t2 ld ready lw lp) 31)).alloc (.cells #[.int .i64 x, .int .i64 y] 23)).alloc (.cells #[.int .i64 u, .int .i64 v] 23)).alloc (.cells z22 31)).heap[(W.heap.size + 2)]? = some (.cells #[.int .i64 u, .int .i64 v] 23 (0, 0))) := (HN.out 2 _ rfl).1
 have Ja : Hid (∀ Y, Below ((((W.alloc (.cells (r22 id1 id2 lo phase p1 p2 v1 v2 fast ls b1 b2 has q1 q2 gone t1 t2 ld ready lw lp) 31)).alloc (.cells #[.int .i64 x, .int .i64 y] 23)).alloc (.cells #[.int .i64 u, .int .i64 v] 23)).alloc (.cells z22 31)).heap.size ((((W.alloc (.cells (r22 id1 id2 lo phase p1 p2 v1 v2 fast ls b1 b2 has q1 q2 gone t1 t2 ld ready lw lp) 31)).alloc (.cells #[.int .i64 x, .int .i64 y] 23)).alloc (.cells #[.int .i64 u, .int .i64 v] 23)).alloc (.cells z22 31)) Y → Y.heap[(W.heap.size + 2)]? = some (.cells #[.int .i64 u, .int .i64 v] 23 (0, 0))) := fun Y hY => (hY.block (W.heap.size + 2) (by rw [hWN.out]; omega)).trans Ka0.out
 have Kr0 : Hid (((((W.alloc (.cells (r22 id1 id2 lo phase p1 p2 v1 v2 fast ls b1 b2 has q1 q2 gone t1 t2 ld ready lw lp) 31)).alloc (.cells #[.int .i64 x, .int .i64 y] 23)).alloc (.cells #[.int .i64 u, .int .i64 v] 23)).alloc (.cells z22 31)).heap[(W.heap.size + 3)]? = some (.cells z22 31 (0, 0))) := (HN.out 3 _ rfl).1
 have Jr : Hid (∀ Y, Below ((((W.alloc (.cells (r22 id1 id2 lo phase p1 p2 v1 v2 fast ls b1 b2 has q1 q2 gone t1 t2 ld ready lw lp) 31)).alloc (.cells #[.int .i64 x, .int .i64 y] 23)).alloc (.cells #[.int .i64 u, .int .i64 v] 23)).alloc (.cells z22 31)).heap.size ((((W.alloc (.cells (r22 id1 id2 lo phase p1 p2 v1 v2 fast ls b1 b2 has q1 q2 gone t1 t2 ld ready lw lp) 31)).alloc (.cells #[.int .i64 x, .int .i64 y] 23)).alloc (.cells #[.int .i64 u, .int .i64 v] 23)).alloc (.cells z22 31)) Y → Y.heap[(W.heap.size + 3)]? = some (.cells z22 31 (0, 0))) := fun Y hY => (hY.block (W.heap.size + 3) (by rw [hWN.out]; omega)).trans Kr0.out
 have HB0 : Hid (Below W.heap.size W ((((W.alloc (.cells (r22 id1 id2 lo phase p1 p2 v1 v2 fast ls b1 b2 has q1 q2 gone t1 t2 ld ready lw lp) 31)).alloc (.cells #[.int .i64 x, .int .i64 y] 23)).alloc (.cells #[.int .i64 u, .int .i64 v] 23)).alloc (.cells z22 31))) := hH (blAlloc (blAlloc (blAlloc (blAlloc (Below.refl _ _) _) _) _) _)
 clear HN
 unfold binC at hv
 cases hb : proB ⟨(id1, id2), ops, phase, (p1, p2), (v1, v2), fast, seen, (b1, b2), has, (q1, q2), (gone, (t1, t2), deps), ready, writes, pairs⟩ (x, y)
 ·have hpc : proC ⟨(id1, id2), ops, phase, (p1, p2), (v1, v2), fast, seen, (b1, b2), has, (q1, q2), (gone, (t1, t2), deps), ready, writes, pairs⟩ (x, y) = ⟨(id1, id2), ops, phase, (p1, p2), (v1, v2), fast, seen, (b1, b2), has, (q1, q2), (gone, (t1, t2), deps), ready, writes, pairs⟩ := by unfold proC; rw [hb]; rfl
  rw [hb] at HP hv
  rw [hpc] at HP
  simp only [Bool.false_eq_true, if_false] at hv
  subst hv
  clear hb hpc
  go_enter Tryz.func86, Tryz.ntmps86
  go_wp2_with (first | (first | go_skip | refine load9 _ rfl rfl _ rfl (S1.block_setCell (S1.block_setCell KC2.out _) _) rfl ?_ | refine load9 _ rfl rfl _ rfl KC.out rfl ?_ | refine load9 _ rfl rfl _ rfl Kc0.out rfl ?_) | (first | (refine store9 _ _ rfl rfl _ rfl rfl KrC.out rfl rfl (cm_one (c := ⟨(id1, id2), ops, phase, (p1, p2), (v1, v2), fast, seen, (b1, b2), has, (q1, q2), (gone, (t1, t2), deps), ready, writes, pairs⟩) (l := ⟨lo, ls, ld, lw, lp⟩) ⟨HCA.out.o, HCA.out.s, HCA.out.d, HCA.out.w, HCA.out.p⟩) ?_; intro wS hS1 hS2; have KS := hH hS1; have HGS := hH hS2; clear hS1 hS2)) | (first | (refine store9 _ _ rfl rfl _ rfl rfl Kc1.out rfl rfl (cm_one (c := ⟨(id1, id2), ops, phase, (p1, p2), (v1, v2), fast, seen, (b1, b2), has, (q1, q2), (gone, (t1, t2), deps), ready, writes, pairs⟩) (l := ⟨lo, ls, ld, lw, lp⟩) ⟨HCA.out.o, HCA.out.s, HCA.out.d, HCA.out.w, HCA.out.p⟩) ?_; intro wC hS1 hS2; have KC := hH hS1; have HGC := hH hS2; have hwC : w1.heap.size ≤ wC.heap.size := hS2.size; have KrC := hH (grown_other9 Kr1.out hS2 (by omega) (by omega)); have KaC := hH (grown_other9 Ka1.out hS2 (by omega) (by omega)); have HBC : Hid (Below W.heap.size W wC) := hH (below_grown9 HB1.out hS2 (Nat.le_refl _)); clear hS1 hS2)) | (go_at_call 41; go_must (refine (HP.out _ HB0.out).mono ?_; rintro e w1 ⟨rfl, h5⟩; have HY1 := hH h5; have Kc1 := hH (Jc.out _ HY1.out); have Ka1 := hH (Ja.out _ HY1.out); have Kr1 := hH (Jr.out _ HY1.out); have hw1 : W.heap.size + 4 ≤ w1.heap.size := (by have := HY1.out.size; have := hWN.out; omega); have HB1 : Hid (Below W.heap.size W w1) := hH (blThen HB0.out HY1.out); simp only [cmV]; clear h5)))
  refine bodyPost_ret (results_cell_tmp9 Tryz.results86 _ _ _ 31 _ (0, 0) _ rfl KS.out Tryz.underlying31 rfl szCmd) rfl ?_
  exact ⟨rfl, below_grown9 HBC.out HGS.out (by omega)⟩
 ·have hpc : proC ⟨(id1, id2), ops, phase, (p1, p2), (v1, v2), fast, seen, (b1, b2), has, (q1, q2), (gone, (t1, t2), deps), ready, writes, pairs⟩ (x, y) = ⟨(id1, id2), ops, phase, (x, y), (v1, v2), fast, seen, (b1, b2), has, (q1, q2), (gone, (t1, t2), deps), ready, writes, pairs⟩ := by unfold proC; rw [hb]; rfl
  rw [hb] at HP hv
  rw [hpc] at HP
  simp only [if_true] at hv
  subst hv
  clear hb hpc
  generalize hM : S1.maxL [(b1, b2), (u, v)] = M
  have HM := hH hM
  go_enter Tryz.func86, Tryz.ntmps86
  go_wp2_with (first | (first | go_skip | refine load9 _ rfl rfl _ rfl (S1.block_setCell (S1.block_setCell KC2.out _) _) rfl ?_ | refine load9 _ rfl rfl _ rfl KC.out rfl ?_ | refine load9 _ rfl rfl _ rfl Kc0.out rfl ?_) | (first | (refine store9 _ _ rfl rfl _ rfl rfl (set_other9 (set_other9 Kr2.out (by omega) _) (by omega) _) rfl rfl (cm_one (c := ⟨(id1, id2), ops, phase, (x, y), (v1, v2), fast, seen, M, has, (q1, q2), (gone, (t1, t2), deps), ready, writes, pairs⟩) (l := ⟨lo, ls, ld, lw, lp⟩) ⟨HCA.out.o, HCA.out.s, HCA.out.d, HCA.out.w, HCA.out.p⟩) ?_; intro wS hS1 hS2; have KS := hH hS1; have HGS := hH hS2; clear hS1 hS2)) | (first | (refine store9 _ _ rfl rfl _ rfl rfl Kc1.out rfl rfl (cm_one (c := ⟨(id1, id2), ops, phase, (x, y), (v1, v2), fast, seen, (b1, b2), has, (q1, q2), (gone, (t1, t2), deps), ready, writes, pairs⟩) (l := ⟨lo, ls, ld, lw, lp⟩) ⟨HCA.out.o, HCA.out.s, HCA.out.d, HCA.out.w, HCA.out.p⟩) ?_; intro wC hS1 hS2; have KC := hH hS1; have HGC := hH hS2; have hwC : w1.heap.size ≤ wC.heap.size := hS2.size; have KrC := hH (grown_other9 Kr1.out hS2 (by omega) (by omega)); have KaC := hH (grown_other9 Ka1.out hS2 (by omega) (by omega)); have HBC : Hid (Below W.heap.size W wC) := hH (below_grown9 HB1.out hS2 (Nat.le_refl _)); have cc10 := cell_row KC.out 10 _ rfl; have fc10 := frozen_row KC.out 10; have cc11 := cell_row KC.out 11 _ rfl; have fc11 := frozen_row KC.out 11; have ca0 := cell_row KaC.out 0 _ rfl; have ca1 := cell_row KaC.out 1 _ rfl; clear hS1 hS2)) | (go_at_call 83; go_must (refine (S1.max_any _ 2 [(b1, b2), (u, v)] _ (by simp) (sl_new2 wC b1 b2 u v _)).mono ?_; rw [HM.out]; rintro e w2 ⟨rfl, h5⟩; have h6 := blThen (blAlloc (Below.refl _ _) _) h5; have hw2 := h6.size; have KC2 := hH ((h6.block W.heap.size (by omega)).trans KC.out); have Kr2 := hH ((h6.block (W.heap.size + 3) (by omega)).trans KrC.out); have cd10 := cell_row KC2.out 10 _ rfl; have fd10 := frozen_row KC2.out 10; have cd11 := cell_row KC2.out 11 _ rfl; have fd11 := frozen_row KC2.out 11; have HB2 : Hid (Below W.heap.size W w2) := hH (blThen HBC.out h6); clear h5 h6)) | (go_at_call 41; go_must (refine (HP.out _ HB0.out).mono ?_; rintro e w1 ⟨rfl, h5⟩; have HY1 := hH h5; have Kc1 := hH (Jc.out _ HY1.out); have Ka1 := hH (Ja.out _ HY1.out); have Kr1 := hH (Jr.out _ HY1.out); have hw1 : W.heap.size + 4 ≤ w1.heap.size := (by have := HY1.out.size; have := hWN.out; omega); have HB1 : Hid (Below W.heap.size W w1) := hH (blThen HB0.out HY1.out); simp only [cmV]; clear h5)))
  refine bodyPost_ret (results_cell_tmp9 Tryz.results86 _ _ _ 31 _ (0, 0) _ rfl KS.out Tryz.underlying31 rfl szCmd) rfl ?_
  exact ⟨rfl, below_grown9 (blSet (blSet HB2.out (Nat.le_refl _) _) (Nat.le_refl _) _) HGS.out (by omega)⟩

theorem listsMay_any (c : Cm) (l : Pl) (W : World) (h : CmAt W c l) (hf : FewC c) : Calls Tryz.prog 55 #[cmV c l] W fun e w' => e = .returned (.bool (listsB c)) ∧ Below W.heap.size W w' := by
 have HW := hH (fun (Y : World) (hY : Below W.heap.size W Y) => areWrites_any l.w c.writes Y (by have := hf.writes; omega) (h.w.later hY))
 have HP := hH (fun (Y : World) (hY : Below W.heap.size W Y) => areData_any l.p c.pairs Y (by have := hf.pairs; omega) (h.p.later hY))
 obtain ⟨wa, wc, hwl⟩ := h.w.form
 obtain ⟨pa, pc, hpl⟩ := h.p.form
 have hwn : c.writes = [] ↔ c.writes.length = 0 := ⟨fun e => by rw [e]; rfl, List.eq_nil_of_length_eq_zero⟩
 have hpn : c.pairs = [] ↔ c.pairs.length = 0 := ⟨fun e => by rw [e]; rfl, List.eq_nil_of_length_eq_zero⟩
 generalize hv : listsB c = v
 obtain ⟨⟨id1, id2⟩, ops, phase, ⟨p1, p2⟩, ⟨v1, v2⟩, fast, seen, ⟨b1, b2⟩, has, ⟨q1, q2⟩, ⟨gone, ⟨t1, t2⟩, deps⟩, ready, writes, pairs⟩ := c
 obtain ⟨lo, ls, ld, lw, lp⟩ := l
 simp only [cmV]
 have HC := hH (cell_box W (r22 id1 id2 lo phase p1 p2 v1 v2 fast ls b1 b2 has q1 q2 gone t1 t2 ld ready lw lp) 31)
 have HR := hH (row_box W (r22 id1 id2 lo phase p1 p2 v1 v2 fast ls b1 b2 has q1 q2 gone t1 t2 ld ready lw lp) 31)
 have KL0 := hH (new_blockC W (r22 id1 id2 lo phase p1 p2 v1 v2 fast ls b1 b2 has q1 q2 gone t1 t2 ld ready lw lp) 31)
 simp only at hwl hpl hwn hpn
 subst hwl hpl
 simp only [cmV, vlV] at HW
 simp only [cmV, vlV] at HP
 unfold listsB at hv
 simp only at hv
 generalize hbw : writesB none writes = bw at *
 generalize hbp : dataB none pairs = bp at *
 clear hbw hbp
 have dw : decide (writes = []) = decide (writes.length = 0) := by simp only [hwn]
 have dp : decide (pairs = []) = decide (pairs.length = 0) := by simp only [hpn]
 rw [dw, dp] at hv
 clear dw dp hwn hpn
 generalize writes.length = nw at *
 generalize pairs.length = np at *
 by_cases hw0 : nw = 0
 ·subst hw0
  by_cases hp0 : np = 0
  ·subst hp0
   have hv3 : (bw && bp) = v := by simpa using hv
   clear hv
   cases bw
   ·obtain rfl : v = false := by rw [← hv3]; rfl
    go_enter Tryz.func55, Tryz.ntmps55
    go_wp2_with (first | (first | go_skip | refine load9 _ rfl rfl _ rfl KL0.out rfl ?_) | (go_at_call 139; go_must (refine (HW.out _ (blAlloc (Below.refl _ _) _)).mono ?_; rintro e w1 ⟨rfl, h5⟩; have HY1 := hH h5; have hw1 := HY1.out.size; simp only [World.size_alloc] at hw1; have HB1 : Hid (Below W.heap.size W w1) := hH (blThen (blAlloc (Below.refl _ _) _) HY1.out); clear h5)))
    go_ret
    exact ⟨rfl, HB1.out⟩
   ·obtain rfl : v = bp := by rw [← hv3]; rfl
    go_enter Tryz.func55, Tryz.ntmps55
    go_wp2_with (first | (first | go_skip | refine load9 _ rfl rfl _ rfl KL0.out rfl ?_) | (go_at_call 139; go_must (refine (HW.out _ (blAlloc (Below.refl _ _) _)).mono ?_; rintro e w1 ⟨rfl, h5⟩; have HY1 := hH h5; have c21_1 := HC.out _ HY1.out 21 _ rfl; have hw1 := HY1.out.size; simp only [World.size_alloc] at hw1; have HB1 : Hid (Below W.heap.size W w1) := hH (blThen (blAlloc (Below.refl _ _) _) HY1.out); clear h5)) | (go_at_call 140; go_must (refine (HP.out _ HB1.out).mono ?_; rintro e w2 ⟨rfl, h5⟩; have HY2 := hH (blThen HY1.out h5); have hw2 := HY2.out.size; simp only [World.size_alloc] at hw2; have HB2 : Hid (Below W.heap.size W w2) := hH (blThen (blAlloc (Below.refl _ _) _) HY2.out); clear h5)))
    go_ret
    exact ⟨rfl, HB2.out⟩
  ·have znp : 0 < np := by omega
   have ynp : (0 : Int) < (np : Int) := by omega
   have xnp : decide ((0 : Int) < (np : Int)) = true := decide_eq_true ynp
   by_cases h3 : phase = 3
   ·subst h3
    have hv3 : (bw && bp) = v := by simpa using hv
    clear hv
    cases bw
    ·obtain rfl : v = false := by rw [← hv3]; rfl
     go_enter Tryz.func55, Tryz.ntmps55
     go_wp2_with (first | (first | go_skip | refine load9 _ rfl rfl _ rfl KL0.out rfl ?_) | (go_at_call 139; go_must (refine (HW.out _ (blAlloc (Below.refl _ _) _)).mono ?_; rintro e w1 ⟨rfl, h5⟩; have HY1 := hH h5; have hw1 := HY1.out.size; simp only [World.size_alloc] at hw1; have HB1 : Hid (Below W.heap.size W w1) := hH (blThen (blAlloc (Below.refl _ _) _) HY1.out); clear h5)))
     go_ret
     exact ⟨rfl, HB1.out⟩
    ·obtain rfl : v = bp := by rw [← hv3]; rfl
     go_enter Tryz.func55, Tryz.ntmps55
     go_wp2_with (first | (first | go_skip | refine load9 _ rfl rfl _ rfl KL0.out rfl ?_) | (go_at_call 139; go_must (refine (HW.out _ (blAlloc (Below.refl _ _) _)).mono ?_; rintro e w1 ⟨rfl, h5⟩; have HY1 := hH h5; have c21_1 := HC.out _ HY1.out 21 _ rfl; have hw1 := HY1.out.size; simp only [World.size_alloc] at hw1; have HB1 : Hid (Below W.heap.size W w1) := hH (blThen (blAlloc (Below.refl _ _) _) HY1.out); clear h5)) | (go_at_call 140; go_must (refine (HP.out _ HB1.out).mono ?_; rintro e w2 ⟨rfl, h5⟩; have HY2 := hH (blThen HY1.out h5); have hw2 := HY2.out.size; simp only [World.size_alloc] at hw2; have HB2 : Hid (Below W.heap.size W w2) := hH (blThen (blAlloc (Below.refl _ _) _) HY2.out); clear h5)))
     go_ret
     exact ⟨rfl, HB2.out⟩
   ·have e3 : (phase == 3) = false := by simpa using h3
    have e4 : (phase != 3) = true := by simpa using h3
    obtain rfl : v = false := by rw [← hv, decide_eq_false hp0, decide_eq_false h3]; simp
    go_enter Tryz.func55, Tryz.ntmps55
    go_wp2_with (first | (first | go_skip | refine load9 _ rfl rfl _ rfl KL0.out rfl ?_))
    go_ret
    exact ⟨rfl, (blAlloc (Below.refl _ _) _)⟩
 ·have znw : 0 < nw := by omega
  have ynw : (0 : Int) < (nw : Int) := by omega
  have xnw : decide ((0 : Int) < (nw : Int)) = true := decide_eq_true ynw
  cases ready
  ·obtain rfl : v = false := by rw [← hv, decide_eq_false hw0]; simp
   go_enter Tryz.func55, Tryz.ntmps55
   go_wp2_with (first | (first | go_skip | refine load9 _ rfl rfl _ rfl KL0.out rfl ?_))
   go_ret
   exact ⟨rfl, (blAlloc (Below.refl _ _) _)⟩
  ·by_cases hp0 : np = 0
   ·subst hp0
    have hv3 : (bw && bp) = v := by simpa using hv
    clear hv
    cases bw
    ·obtain rfl : v = false := by rw [← hv3]; rfl
     go_enter Tryz.func55, Tryz.ntmps55
     go_wp2_with (first | (first | go_skip | refine load9 _ rfl rfl _ rfl KL0.out rfl ?_) | (go_at_call 139; go_must (refine (HW.out _ (blAlloc (Below.refl _ _) _)).mono ?_; rintro e w1 ⟨rfl, h5⟩; have HY1 := hH h5; have hw1 := HY1.out.size; simp only [World.size_alloc] at hw1; have HB1 : Hid (Below W.heap.size W w1) := hH (blThen (blAlloc (Below.refl _ _) _) HY1.out); clear h5)))
     go_ret
     exact ⟨rfl, HB1.out⟩
    ·obtain rfl : v = bp := by rw [← hv3]; rfl
     go_enter Tryz.func55, Tryz.ntmps55
     go_wp2_with (first | (first | go_skip | refine load9 _ rfl rfl _ rfl KL0.out rfl ?_) | (go_at_call 139; go_must (refine (HW.out _ (blAlloc (Below.refl _ _) _)).mono ?_; rintro e w1 ⟨rfl, h5⟩; have HY1 := hH h5; have c21_1 := HC.out _ HY1.out 21 _ rfl; have hw1 := HY1.out.size; simp only [World.size_alloc] at hw1; have HB1 : Hid (Below W.heap.size W w1) := hH (blThen (blAlloc (Below.refl _ _) _) HY1.out); clear h5)) | (go_at_call 140; go_must (refine (HP.out _ HB1.out).mono ?_; rintro e w2 ⟨rfl, h5⟩; have HY2 := hH (blThen HY1.out h5); have hw2 := HY2.out.size; simp only [World.size_alloc] at hw2; have HB2 : Hid (Below W.heap.size W w2) := hH (blThen (blAlloc (Below.refl _ _) _) HY2.out); clear h5)))
     go_ret
     exact ⟨rfl, HB2.out⟩
   ·have znp : 0 < np := by omega
    have ynp : (0 : Int) < (np : Int) := by omega
    have xnp : decide ((0 : Int) < (np : Int)) = true := decide_eq_true ynp
    by_cases h3 : phase = 3
    ·subst h3
     have hv3 : (bw && bp) = v := by simpa using hv
     clear hv
     cases bw
     ·obtain rfl : v = false := by rw [← hv3]; rfl
      go_enter Tryz.func55, Tryz.ntmps55
      go_wp2_with (first | (first | go_skip | refine load9 _ rfl rfl _ rfl KL0.out rfl ?_) | (go_at_call 139; go_must (refine (HW.out _ (blAlloc (Below.refl _ _) _)).mono ?_; rintro e w1 ⟨rfl, h5⟩; have HY1 := hH h5; have hw1 := HY1.out.size; simp only [World.size_alloc] at hw1; have HB1 : Hid (Below W.heap.size W w1) := hH (blThen (blAlloc (Below.refl _ _) _) HY1.out); clear h5)))
      go_ret
      exact ⟨rfl, HB1.out⟩
     ·obtain rfl : v = bp := by rw [← hv3]; rfl
      go_enter Tryz.func55, Tryz.ntmps55
      go_wp2_with (first | (first | go_skip | refine load9 _ rfl rfl _ rfl KL0.out rfl ?_) | (go_at_call 139; go_must (refine (HW.out _ (blAlloc (Below.refl _ _) _)).mono ?_; rintro e w1 ⟨rfl, h5⟩; have HY1 := hH h5; have c21_1 := HC.out _ HY1.out 21 _ rfl; have hw1 := HY1.out.size; simp only [World.size_alloc] at hw1; have HB1 : Hid (Below W.heap.size W w1) := hH (blThen (blAlloc (Below.refl _ _) _) HY1.out); clear h5)) | (go_at_call 140; go_must (refine (HP.out _ HB1.out).mono ?_; rintro e w2 ⟨rfl, h5⟩; have HY2 := hH (blThen HY1.out h5); have hw2 := HY2.out.size; simp only [World.size_alloc] at hw2; have HB2 : Hid (Below W.heap.size W w2) := hH (blThen (blAlloc (Below.refl _ _) _) HY2.out); clear h5)))
      go_ret
      exact ⟨rfl, HB2.out⟩
    ·have e3 : (phase == 3) = false := by simpa using h3
     have e4 : (phase != 3) = true := by simpa using h3
     obtain rfl : v = false := by rw [← hv, decide_eq_false hp0, decide_eq_false h3]; simp
     go_enter Tryz.func55, Tryz.ntmps55
     go_wp2_with (first | (first | go_skip | refine load9 _ rfl rfl _ rfl KL0.out rfl ?_))
     go_ret
     exact ⟨rfl, (blAlloc (Below.refl _ _) _)⟩

theorem phaseMay_any (c : Cm) (l : Pl) (W : World) (h : CmAt W c l) : Calls Tryz.prog 54 #[cmV c l] W fun e w' => e = .returned (.bool (phaseB c)) ∧ Below W.heap.size W w' := by
 have HO := hH (fun (Y : World) (hY : Below W.heap.size W Y) => hasOps_any c l Y (h.later hY))
 generalize hv : phaseB c = v
 obtain ⟨⟨id1, id2⟩, ops, phase, ⟨p1, p2⟩, ⟨v1, v2⟩, fast, seen, ⟨b1, b2⟩, has, ⟨q1, q2⟩, ⟨gone, ⟨t1, t2⟩, deps⟩, ready, writes, pairs⟩ := c
 obtain ⟨lo, ls, ld, lw, lp⟩ := l
 simp only [cmV]
 have HC := hH (cell_box W (r22 id1 id2 lo phase p1 p2 v1 v2 fast ls b1 b2 has q1 q2 gone t1 t2 ld ready lw lp) 31)
 have HR := hH (row_box W (r22 id1 id2 lo phase p1 p2 v1 v2 fast ls b1 b2 has q1 q2 gone t1 t2 ld ready lw lp) 31)
 have KL0 := hH (new_blockC W (r22 id1 id2 lo phase p1 p2 v1 v2 fast ls b1 b2 has q1 q2 gone t1 t2 ld ready lw lp) 31)
 simp only [cmV, vlV] at HO
 unfold phaseB at hv
 simp only at hv
 generalize decide (ops = []) = bo at *
 by_cases h0 : phase = 0
 ·subst h0
  rw [if_pos rfl] at hv
  cases bo
  ·obtain rfl : v = false := by rw [← hv]; rfl
   go_enter Tryz.func54, Tryz.ntmps54
   go_wp2_with (first | (first | go_skip | refine load9 _ rfl rfl _ rfl KL0.out rfl ?_) | (go_at_call 121; go_must (refine (HO.out _ (blAlloc (Below.refl _ _) _)).mono ?_; rintro e w1 ⟨rfl, h5⟩; have HY1 := hH h5; have c19_1 := HC.out _ HY1.out 19 _ rfl; have hw1 := HY1.out.size; simp only [World.size_alloc] at hw1; have HB1 : Hid (Below W.heap.size W w1) := hH (blThen (blAlloc (Below.refl _ _) _) HY1.out); clear h5)))
   go_ret
   exact ⟨rfl, HB1.out⟩
  ·obtain rfl : v = !ready := by rw [← hv]; rfl
   cases ready
   ·go_enter Tryz.func54, Tryz.ntmps54
    go_wp2_with (first | (first | go_skip | refine load9 _ rfl rfl _ rfl KL0.out rfl ?_) | (go_at_call 121; go_must (refine (HO.out _ (blAlloc (Below.refl _ _) _)).mono ?_; rintro e w1 ⟨rfl, h5⟩; have HY1 := hH h5; have c19_1 := HC.out _ HY1.out 19 _ rfl; have hw1 := HY1.out.size; simp only [World.size_alloc] at hw1; have HB1 : Hid (Below W.heap.size W w1) := hH (blThen (blAlloc (Below.refl _ _) _) HY1.out); clear h5)))
    go_ret
    exact ⟨rfl, HB1.out⟩
   ·go_enter Tryz.func54, Tryz.ntmps54
    go_wp2_with (first | (first | go_skip | refine load9 _ rfl rfl _ rfl KL0.out rfl ?_) | (go_at_call 121; go_must (refine (HO.out _ (blAlloc (Below.refl _ _) _)).mono ?_; rintro e w1 ⟨rfl, h5⟩; have HY1 := hH h5; have c19_1 := HC.out _ HY1.out 19 _ rfl; have hw1 := HY1.out.size; simp only [World.size_alloc] at hw1; have HB1 : Hid (Below W.heap.size W w1) := hH (blThen (blAlloc (Below.refl _ _) _) HY1.out); clear h5)))
    go_ret
    exact ⟨rfl, HB1.out⟩
 rw [if_neg h0] at hv
 have e0 : (phase == 0) = false := by simpa using h0
 by_cases h1 : phase = 1
 ·subst h1
  rw [if_pos rfl] at hv
  cases bo
  ·obtain rfl : v = !ready := by rw [← hv]; rfl
   cases ready
   ·go_enter Tryz.func54, Tryz.ntmps54
    go_wp2_with (first | (first | go_skip | refine load9 _ rfl rfl _ rfl KL0.out rfl ?_) | (go_at_call 121; go_must (refine (HO.out _ (blAlloc (Below.refl _ _) _)).mono ?_; rintro e w1 ⟨rfl, h5⟩; have HY1 := hH h5; have c19_1 := HC.out _ HY1.out 19 _ rfl; have hw1 := HY1.out.size; simp only [World.size_alloc] at hw1; have HB1 : Hid (Below W.heap.size W w1) := hH (blThen (blAlloc (Below.refl _ _) _) HY1.out); clear h5)))
    go_ret
    exact ⟨rfl, HB1.out⟩
   ·go_enter Tryz.func54, Tryz.ntmps54
    go_wp2_with (first | (first | go_skip | refine load9 _ rfl rfl _ rfl KL0.out rfl ?_) | (go_at_call 121; go_must (refine (HO.out _ (blAlloc (Below.refl _ _) _)).mono ?_; rintro e w1 ⟨rfl, h5⟩; have HY1 := hH h5; have c19_1 := HC.out _ HY1.out 19 _ rfl; have hw1 := HY1.out.size; simp only [World.size_alloc] at hw1; have HB1 : Hid (Below W.heap.size W w1) := hH (blThen (blAlloc (Below.refl _ _) _) HY1.out); clear h5)))
    go_ret
    exact ⟨rfl, HB1.out⟩
  ·obtain rfl : v = false := by rw [← hv]; rfl
   go_enter Tryz.func54, Tryz.ntmps54
   go_wp2_with (first | (first | go_skip | refine load9 _ rfl rfl _ rfl KL0.out rfl ?_) | (go_at_call 121; go_must (refine (HO.out _ (blAlloc (Below.refl _ _) _)).mono ?_; rintro e w1 ⟨rfl, h5⟩; have HY1 := hH h5; have c19_1 := HC.out _ HY1.out 19 _ rfl; have hw1 := HY1.out.size; simp only [World.size_alloc] at hw1; have HB1 : Hid (Below W.heap.size W w1) := hH (blThen (blAlloc (Below.refl _ _) _) HY1.out); clear h5)))
   go_ret
   exact ⟨rfl, HB1.out⟩
 rw [if_neg h1] at hv
 have e1 : (phase == 1) = false := by simpa using h1
 by_cases h2 : phase = 2
 ·subst h2
  rw [if_pos rfl] at hv
  cases has
  ·obtain rfl : v = false := by rw [← hv]; rfl
   go_enter Tryz.func54, Tryz.ntmps54
   go_wp2_with (first | (first | go_skip | refine load9 _ rfl rfl _ rfl KL0.out rfl ?_))
   go_ret
   exact ⟨rfl, (blAlloc (Below.refl _ _) _)⟩
  ·cases gone
   ·obtain rfl : v = !bo := by rw [← hv]; cases bo <;> rfl
    cases bo
    ·go_enter Tryz.func54, Tryz.ntmps54
     go_wp2_with (first | (first | go_skip | refine load9 _ rfl rfl _ rfl KL0.out rfl ?_) | (go_at_call 121; go_must (refine (HO.out _ (blAlloc (Below.refl _ _) _)).mono ?_; rintro e w1 ⟨rfl, h5⟩; have HY1 := hH h5; have hw1 := HY1.out.size; simp only [World.size_alloc] at hw1; have HB1 : Hid (Below W.heap.size W w1) := hH (blThen (blAlloc (Below.refl _ _) _) HY1.out); clear h5)))
     go_ret
     exact ⟨rfl, HB1.out⟩
    ·go_enter Tryz.func54, Tryz.ntmps54
     go_wp2_with (first | (first | go_skip | refine load9 _ rfl rfl _ rfl KL0.out rfl ?_) | (go_at_call 121; go_must (refine (HO.out _ (blAlloc (Below.refl _ _) _)).mono ?_; rintro e w1 ⟨rfl, h5⟩; have HY1 := hH h5; have hw1 := HY1.out.size; simp only [World.size_alloc] at hw1; have HB1 : Hid (Below W.heap.size W w1) := hH (blThen (blAlloc (Below.refl _ _) _) HY1.out); clear h5)))
     go_ret
     exact ⟨rfl, HB1.out⟩
   ·obtain rfl : v = !ready := by rw [← hv]; cases bo <;> cases ready <;> rfl
    cases ready
    ·go_enter Tryz.func54, Tryz.ntmps54
     go_wp2_with (first | (first | go_skip | refine load9 _ rfl rfl _ rfl KL0.out rfl ?_))
     go_ret
     exact ⟨rfl, (blAlloc (Below.refl _ _) _)⟩
    ·go_enter Tryz.func54, Tryz.ntmps54
     go_wp2_with (first | (first | go_skip | refine load9 _ rfl rfl _ rfl KL0.out rfl ?_))
     go_ret
     exact ⟨rfl, (blAlloc (Below.refl _ _) _)⟩
 rw [if_neg h2] at hv
 have e2 : (phase == 2) = false := by simpa using h2
 by_cases h3 : phase = 3
 ·subst h3
  rw [if_pos rfl] at hv
  cases has
  ·obtain rfl : v = false := by rw [← hv]; rfl
   go_enter Tryz.func54, Tryz.ntmps54
   go_wp2_with (first | (first | go_skip | refine load9 _ rfl rfl _ rfl KL0.out rfl ?_))
   go_ret
   exact ⟨rfl, (blAlloc (Below.refl _ _) _)⟩
  ·cases ready
   ·obtain rfl : v = false := by rw [← hv]; rfl
    go_enter Tryz.func54, Tryz.ntmps54
    go_wp2_with (first | (first | go_skip | refine load9 _ rfl rfl _ rfl KL0.out rfl ?_))
    go_ret
    exact ⟨rfl, (blAlloc (Below.refl _ _) _)⟩
   ·cases gone
    ·obtain rfl : v = !bo := by rw [← hv]; rfl
     cases bo
     ·go_enter Tryz.func54, Tryz.ntmps54
      go_wp2_with (first | (first | go_skip | refine load9 _ rfl rfl _ rfl KL0.out rfl ?_) | (go_at_call 121; go_must (refine (HO.out _ (blAlloc (Below.refl _ _) _)).mono ?_; rintro e w1 ⟨rfl, h5⟩; have HY1 := hH h5; have hw1 := HY1.out.size; simp only [World.size_alloc] at hw1; have HB1 : Hid (Below W.heap.size W w1) := hH (blThen (blAlloc (Below.refl _ _) _) HY1.out); clear h5)))
      go_ret
      exact ⟨rfl, HB1.out⟩
     ·go_enter Tryz.func54, Tryz.ntmps54
      go_wp2_with (first | (first | go_skip | refine load9 _ rfl rfl _ rfl KL0.out rfl ?_) | (go_at_call 121; go_must (refine (HO.out _ (blAlloc (Below.refl _ _) _)).mono ?_; rintro e w1 ⟨rfl, h5⟩; have HY1 := hH h5; have hw1 := HY1.out.size; simp only [World.size_alloc] at hw1; have HB1 : Hid (Below W.heap.size W w1) := hH (blThen (blAlloc (Below.refl _ _) _) HY1.out); clear h5)))
      go_ret
      exact ⟨rfl, HB1.out⟩
    ·obtain rfl : v = false := by rw [← hv]; rfl
     go_enter Tryz.func54, Tryz.ntmps54
     go_wp2_with (first | (first | go_skip | refine load9 _ rfl rfl _ rfl KL0.out rfl ?_))
     go_ret
     exact ⟨rfl, (blAlloc (Below.refl _ _) _)⟩
 rw [if_neg h3] at hv
 have e3 : (phase == 3) = false := by simpa using h3
 subst hv
 go_enter Tryz.func54, Tryz.ntmps54
 go_wp2_with (first | (first | go_skip | refine load9 _ rfl rfl _ rfl KL0.out rfl ?_))
 go_ret
 exact ⟨rfl, (blAlloc (Below.refl _ _) _)⟩

theorem valueMay_any (c : Cm) (l : Pl) (W : World) (h : CmAt W c l) (hf : FewC c) : Calls Tryz.prog 53 #[cmV c l] W fun e w' => e = .returned (.bool (valB c)) ∧ Below W.heap.size W w' := by
 have HZ := hH (fun (Y : World) => isZero_any c.ballot Y)
 have HB := hH (fun (Y : World) => isBallot_any c.ballot Y)
 have HN := hH (fun (Y : World) (hY : Below W.heap.size W Y) => isZeroValue_any c.val l.d Y (h.d.later hY))
 have HV := hH (fun (Y : World) (hY : Below W.heap.size W Y) => isValue_any c.val l.d Y (h.d.later hY) hf.deps)
 generalize hv : valB c = v
 obtain ⟨⟨id1, id2⟩, ops, phase, ⟨p1, p2⟩, ⟨v1, v2⟩, fast, seen, ⟨b1, b2⟩, has, ⟨q1, q2⟩, ⟨gone, ⟨t1, t2⟩, deps⟩, ready, writes, pairs⟩ := c
 obtain ⟨lo, ls, ld, lw, lp⟩ := l
 simp only [cmV]
 have HC := hH (cell_box W (r22 id1 id2 lo phase p1 p2 v1 v2 fast ls b1 b2 has q1 q2 gone t1 t2 ld ready lw lp) 31)
 have HR := hH (row_box W (r22 id1 id2 lo phase p1 p2 v1 v2 fast ls b1 b2 has q1 q2 gone t1 t2 ld ready lw lp) 31)
 have KL0 := hH (new_blockC W (r22 id1 id2 lo phase p1 p2 v1 v2 fast ls b1 b2 has q1 q2 gone t1 t2 ld ready lw lp) 31)
 simp only [cmV, vlV] at HZ
 simp only [cmV, vlV] at HB
 simp only [cmV, vlV] at HN
 simp only [cmV, vlV] at HV
 unfold valB at hv
 cases has
 ·simp only [Bool.false_eq_true, if_false] at hv
  cases hz : decide ((q1, q2) = z2)
  ·rw [hz] at HZ hv
   obtain rfl : v = false := by rw [← hv]; rfl
   go_enter Tryz.func53, Tryz.ntmps53
   go_wp2_with (first | (first | go_skip | refine load9 _ rfl rfl _ rfl KL0.out rfl ?_) | (go_at_call 132; go_must (refine (HZ.out _).mono ?_; rintro e w1 ⟨rfl, h5⟩; have HY1 := hH h5; have hw1 := HY1.out.size; simp only [World.size_alloc] at hw1; have HB1 : Hid (Below W.heap.size W w1) := hH (blThen (blAlloc (Below.refl _ _) _) HY1.out); clear h5)))
   go_ret
   exact ⟨rfl, HB1.out⟩
  ·rw [hz] at HZ hv
   rw [Bool.true_and] at hv
   rw [hv] at HN
   go_enter Tryz.func53, Tryz.ntmps53
   go_wp2_with (first | (first | go_skip | refine load9 _ rfl rfl _ rfl KL0.out rfl ?_) | (go_at_call 132; go_must (refine (HZ.out _).mono ?_; rintro e w1 ⟨rfl, h5⟩; have HY1 := hH h5; have c15_1 := HC.out _ HY1.out 15 _ rfl; have c16_1 := HC.out _ HY1.out 16 _ rfl; have c17_1 := HC.out _ HY1.out 17 _ rfl; have c18_1 := HC.out _ HY1.out 18 _ rfl; have hw1 := HY1.out.size; simp only [World.size_alloc] at hw1; have HB1 : Hid (Below W.heap.size W w1) := hH (blThen (blAlloc (Below.refl _ _) _) HY1.out); clear h5)) | (go_at_call 137; go_must (refine (HN.out _ HB1.out).mono ?_; rintro e w2 ⟨rfl, h5⟩; have HY2 := hH (blThen HY1.out h5); have hw2 := HY2.out.size; simp only [World.size_alloc] at hw2; have HB2 : Hid (Below W.heap.size W w2) := hH (blThen (blAlloc (Below.refl _ _) _) HY2.out); clear h5)))
   go_ret
   exact ⟨rfl, HB2.out⟩
 ·simp only [if_true] at hv
  cases hz : ballotB (q1, q2)
  ·rw [hz] at HB hv
   obtain rfl : v = false := by rw [← hv]; rfl
   go_enter Tryz.func53, Tryz.ntmps53
   go_wp2_with (first | (first | go_skip | refine load9 _ rfl rfl _ rfl KL0.out rfl ?_) | (go_at_call 136; go_must (refine (HB.out _).mono ?_; rintro e w1 ⟨rfl, h5⟩; have HY1 := hH h5; have hw1 := HY1.out.size; simp only [World.size_alloc] at hw1; have HB1 : Hid (Below W.heap.size W w1) := hH (blThen (blAlloc (Below.refl _ _) _) HY1.out); clear h5)))
   go_ret
   exact ⟨rfl, HB1.out⟩
  ·rw [hz] at HB hv
   rw [Bool.true_and] at hv
   rw [hv] at HV
   go_enter Tryz.func53, Tryz.ntmps53
   go_wp2_with (first | (first | go_skip | refine load9 _ rfl rfl _ rfl KL0.out rfl ?_) | (go_at_call 136; go_must (refine (HB.out _).mono ?_; rintro e w1 ⟨rfl, h5⟩; have HY1 := hH h5; have c15_1 := HC.out _ HY1.out 15 _ rfl; have c16_1 := HC.out _ HY1.out 16 _ rfl; have c17_1 := HC.out _ HY1.out 17 _ rfl; have c18_1 := HC.out _ HY1.out 18 _ rfl; have hw1 := HY1.out.size; simp only [World.size_alloc] at hw1; have HB1 : Hid (Below W.heap.size W w1) := hH (blThen (blAlloc (Below.refl _ _) _) HY1.out); clear h5)) | (go_at_call 138; go_must (refine (HV.out _ HB1.out).mono ?_; rintro e w2 ⟨rfl, h5⟩; have HY2 := hH (blThen HY1.out h5); have hw2 := HY2.out.size; simp only [World.size_alloc] at hw2; have HB2 : Hid (Below W.heap.size W w2) := hH (blThen (blAlloc (Below.refl _ _) _) HY2.out); clear h5)))
   go_ret
   exact ⟨rfl, HB2.out⟩

theorem seenMay_any (c : Cm) (l : Pl) (W : World) (h : CmAt W c l) (hf : FewC c) : Calls Tryz.prog 51 #[cmV c l] W fun e w' => e = .returned (.bool (seenB c)) ∧ Below W.heap.size W w' := by
 have HO := hH (fun (Y : World) (hY : Below W.heap.size W Y) => hasOps_any c l Y (h.later hY))
 have HZ := hH (fun (Y : World) => isZero_any c.vote Y)
 have HT := hH (fun (Y : World) (hY : Below W.heap.size W Y) => check8_any l.o c.ops Y (by have := hf.ops; omega) (h.o.later hY))
 have HV := hH (fun (Y : World) => fitTime_any c.vote c.id Y)
 have HD := hH (fun (Y : World) (hY : Below W.heap.size W Y) => fitDeps_any l.s c.seen Y (h.s.later hY) hf.seen)
 obtain ⟨sa, scp, hsl⟩ : ∃ a cp, l.s = .slice a c.seen.length cp := by
  obtain ⟨a, cap, Fs, hs, hD, hT, hn⟩ := h.s
  exact ⟨a, cap, by rw [hs, ← hT]; simp [SD.toD]⟩
 have HSL := hH hsl
 clear hsl
 generalize hv : seenB c = v
 obtain ⟨⟨id1, id2⟩, ops, phase, ⟨p1, p2⟩, ⟨v1, v2⟩, fast, seen, ⟨b1, b2⟩, has, ⟨q1, q2⟩, ⟨gone, ⟨t1, t2⟩, deps⟩, ready, writes, pairs⟩ := c
 obtain ⟨lo, ls, ld, lw, lp⟩ := l
 simp only [cmV]
 have HC := hH (cell_box W (r22 id1 id2 lo phase p1 p2 v1 v2 fast ls b1 b2 has q1 q2 gone t1 t2 ld ready lw lp) 31)
 have HR := hH (row_box W (r22 id1 id2 lo phase p1 p2 v1 v2 fast ls b1 b2 has q1 q2 gone t1 t2 ld ready lw lp) 31)
 have KL0 := hH (new_blockC W (r22 id1 id2 lo phase p1 p2 v1 v2 fast ls b1 b2 has q1 q2 gone t1 t2 ld ready lw lp) 31)
 simp only [cmV, vlV] at HO
 simp only [cmV, vlV] at HZ
 simp only [cmV, vlV] at HT
 simp only [cmV, vlV] at HV
 simp only [cmV, vlV] at HD
 simp only at HSL
 by_cases ho : ops = []
 ·have hd : (!decide (ops = [])) = false := by rw [decide_eq_true ho]; rfl
  rw [hd] at HO
  unfold seenB at hv
  simp only at hv
  rw [if_pos ho] at hv
  clear hd HT HV HD
  cases hz : decide ((v1, v2) = z2)
  ·rw [hz] at HZ hv
   obtain rfl : v = false := by rw [← hv]; rfl
   go_enter Tryz.func51, Tryz.ntmps51
   go_wp2_with (first | (first | go_skip | refine load9 _ rfl rfl _ rfl KL0.out rfl ?_) | (go_at_call 121; go_must (refine (HO.out _ (blAlloc (Below.refl _ _) _)).mono ?_; rintro e w1 ⟨rfl, h5⟩; have HY1 := hH h5; have c6_1 := HC.out _ HY1.out 6 _ rfl; have c7_1 := HC.out _ HY1.out 7 _ rfl; have hw1 := HY1.out.size; simp only [World.size_alloc] at hw1; have HB1 : Hid (Below W.heap.size W w1) := hH (blThen (blAlloc (Below.refl _ _) _) HY1.out); clear h5)) | (go_at_call 132; go_must (refine (HZ.out _).mono ?_; rintro e w2 ⟨rfl, h5⟩; have HY2 := hH (blThen HY1.out h5); have hw2 := HY2.out.size; simp only [World.size_alloc] at hw2; have HB2 : Hid (Below W.heap.size W w2) := hH (blThen (blAlloc (Below.refl _ _) _) HY2.out); clear h5)))
   go_ret
   exact ⟨rfl, HB2.out⟩
  ·rw [hz] at HZ hv
   cases fast
   ·by_cases hs : seen = []
    ·obtain rfl : v = true := by rw [← hv, decide_eq_true hs]; rfl
     have e0 : seen.length = 0 := by rw [hs]; rfl
     rw [e0] at HSL
     have HSL2 := HSL.out
     subst HSL2
     go_enter Tryz.func51, Tryz.ntmps51
     go_wp2_with (first | (first | go_skip | refine load9 _ rfl rfl _ rfl KL0.out rfl ?_) | (go_at_call 121; go_must (refine (HO.out _ (blAlloc (Below.refl _ _) _)).mono ?_; rintro e w1 ⟨rfl, h5⟩; have HY1 := hH h5; have c6_1 := HC.out _ HY1.out 6 _ rfl; have c7_1 := HC.out _ HY1.out 7 _ rfl; have hw1 := HY1.out.size; simp only [World.size_alloc] at hw1; have HB1 : Hid (Below W.heap.size W w1) := hH (blThen (blAlloc (Below.refl _ _) _) HY1.out); clear h5)) | (go_at_call 132; go_must (refine (HZ.out _).mono ?_; rintro e w2 ⟨rfl, h5⟩; have HY2 := hH (blThen HY1.out h5); have c8_2 := HC.out _ HY2.out 8 _ rfl; have c9_2 := HC.out _ HY2.out 9 _ rfl; have hw2 := HY2.out.size; simp only [World.size_alloc] at hw2; have HB2 : Hid (Below W.heap.size W w2) := hH (blThen (blAlloc (Below.refl _ _) _) HY2.out); clear h5)))
     go_ret
     exact ⟨rfl, HB2.out⟩
    ·obtain rfl : v = false := by rw [← hv, decide_eq_false hs]; rfl
     have e0 : ¬ seen.length = 0 := fun e => hs (List.eq_nil_of_length_eq_zero e)
     generalize seen.length = nS at *
     have e1 : ((nS : Int) == 0) = false := by simpa using e0
     have e2 : ¬ (nS : Int) = 0 := by omega
     have HSL2 := HSL.out
     subst HSL2
     go_enter Tryz.func51, Tryz.ntmps51
     go_wp2_with (first | (first | go_skip | refine load9 _ rfl rfl _ rfl KL0.out rfl ?_) | (go_at_call 121; go_must (refine (HO.out _ (blAlloc (Below.refl _ _) _)).mono ?_; rintro e w1 ⟨rfl, h5⟩; have HY1 := hH h5; have c6_1 := HC.out _ HY1.out 6 _ rfl; have c7_1 := HC.out _ HY1.out 7 _ rfl; have hw1 := HY1.out.size; simp only [World.size_alloc] at hw1; have HB1 : Hid (Below W.heap.size W w1) := hH (blThen (blAlloc (Below.refl _ _) _) HY1.out); clear h5)) | (go_at_call 132; go_must (refine (HZ.out _).mono ?_; rintro e w2 ⟨rfl, h5⟩; have HY2 := hH (blThen HY1.out h5); have c8_2 := HC.out _ HY2.out 8 _ rfl; have c9_2 := HC.out _ HY2.out 9 _ rfl; have hw2 := HY2.out.size; simp only [World.size_alloc] at hw2; have HB2 : Hid (Below W.heap.size W w2) := hH (blThen (blAlloc (Below.refl _ _) _) HY2.out); clear h5)))
     go_ret
     exact ⟨rfl, HB2.out⟩
   ·obtain rfl : v = false := by rw [← hv]; rfl
    go_enter Tryz.func51, Tryz.ntmps51
    go_wp2_with (first | (first | go_skip | refine load9 _ rfl rfl _ rfl KL0.out rfl ?_) | (go_at_call 121; go_must (refine (HO.out _ (blAlloc (Below.refl _ _) _)).mono ?_; rintro e w1 ⟨rfl, h5⟩; have HY1 := hH h5; have c6_1 := HC.out _ HY1.out 6 _ rfl; have c7_1 := HC.out _ HY1.out 7 _ rfl; have hw1 := HY1.out.size; simp only [World.size_alloc] at hw1; have HB1 : Hid (Below W.heap.size W w1) := hH (blThen (blAlloc (Below.refl _ _) _) HY1.out); clear h5)) | (go_at_call 132; go_must (refine (HZ.out _).mono ?_; rintro e w2 ⟨rfl, h5⟩; have HY2 := hH (blThen HY1.out h5); have c8_2 := HC.out _ HY2.out 8 _ rfl; have c9_2 := HC.out _ HY2.out 9 _ rfl; have hw2 := HY2.out.size; simp only [World.size_alloc] at hw2; have HB2 : Hid (Below W.heap.size W w2) := hH (blThen (blAlloc (Below.refl _ _) _) HY2.out); clear h5)))
    go_ret
    exact ⟨rfl, HB2.out⟩
 ·have hd : (!decide (ops = [])) = true := by rw [decide_eq_false ho]; rfl
  rw [hd] at HO
  unfold seenB at hv
  simp only at hv
  rw [if_neg ho] at hv
  have hv2 : (decide (checkP ops = 0) && voteB (v1, v2) (id1, id2) && decide (SD.checkD seen = 0)) = v := hv
  clear hd hv HSL
  by_cases hk : checkP ops = 0
  ·rw [hk] at HT
   rw [decide_eq_true hk, Bool.true_and] at hv2
   clear hk
   have HVB : Hid (voteB (v1, v2) (id1, id2) = (decide ((v1, v2) = z2) || timeB (v1, v2) (id1, id2))) := hH rfl
   cases hz : decide ((v1, v2) = z2)
   ·rw [hz] at HZ
    cases hw : timeB (v1, v2) (id1, id2)
    ·rw [hw] at HV
     rw [HVB.out, hz, hw] at hv2
     obtain rfl : v = false := by rw [← hv2]; rfl
     go_enter Tryz.func51, Tryz.ntmps51
     go_wp2_with (first | (first | go_skip | refine load9 _ rfl rfl _ rfl KL0.out rfl ?_) | (go_at_call 121; go_must (refine (HO.out _ (blAlloc (Below.refl _ _) _)).mono ?_; rintro e w1 ⟨rfl, h5⟩; have HY1 := hH h5; have c2_1 := HC.out _ HY1.out 2 _ rfl; have hw1 := HY1.out.size; simp only [World.size_alloc] at hw1; have HB1 : Hid (Below W.heap.size W w1) := hH (blThen (blAlloc (Below.refl _ _) _) HY1.out); clear h5)) | (go_at_call 133; go_must (refine (HT.out _ HB1.out).mono ?_; rintro e w2 ⟨rfl, h5⟩; have HY2 := hH (blThen HY1.out h5); have c0_2 := HC.out _ HY2.out 0 _ rfl; have c1_2 := HC.out _ HY2.out 1 _ rfl; have c6_2 := HC.out _ HY2.out 6 _ rfl; have c7_2 := HC.out _ HY2.out 7 _ rfl; have hw2 := HY2.out.size; simp only [World.size_alloc] at hw2; have HB2 : Hid (Below W.heap.size W w2) := hH (blThen (blAlloc (Below.refl _ _) _) HY2.out); clear h5)) | (go_at_call 132; go_must (refine (HZ.out _).mono ?_; rintro e w3 ⟨rfl, h5⟩; have HY3 := hH (blThen HY2.out h5); have c0_3 := HC.out _ HY3.out 0 _ rfl; have c1_3 := HC.out _ HY3.out 1 _ rfl; have c6_3 := HC.out _ HY3.out 6 _ rfl; have c7_3 := HC.out _ HY3.out 7 _ rfl; have hw3 := HY3.out.size; simp only [World.size_alloc] at hw3; have HB3 : Hid (Below W.heap.size W w3) := hH (blThen (blAlloc (Below.refl _ _) _) HY3.out); clear h5)) | (go_at_call 134; go_must (refine (HV.out _).mono ?_; rintro e w4 ⟨rfl, h5⟩; have HY4 := hH (blThen HY3.out h5); have hw4 := HY4.out.size; simp only [World.size_alloc] at hw4; have HB4 : Hid (Below W.heap.size W w4) := hH (blThen (blAlloc (Below.refl _ _) _) HY4.out); clear h5)))
     go_ret
     exact ⟨rfl, HB4.out⟩
    ·rw [hw] at HV
     rw [HVB.out, hz, hw] at hv2
     generalize decide (SD.checkD seen = 0) = bs at *
     obtain rfl : v = bs := by rw [← hv2]; simp
     cases v
     ·go_enter Tryz.func51, Tryz.ntmps51
      go_wp2_with (first | (first | go_skip | refine load9 _ rfl rfl _ rfl KL0.out rfl ?_) | (go_at_call 121; go_must (refine (HO.out _ (blAlloc (Below.refl _ _) _)).mono ?_; rintro e w1 ⟨rfl, h5⟩; have HY1 := hH h5; have c2_1 := HC.out _ HY1.out 2 _ rfl; have hw1 := HY1.out.size; simp only [World.size_alloc] at hw1; have HB1 : Hid (Below W.heap.size W w1) := hH (blThen (blAlloc (Below.refl _ _) _) HY1.out); clear h5)) | (go_at_call 133; go_must (refine (HT.out _ HB1.out).mono ?_; rintro e w2 ⟨rfl, h5⟩; have HY2 := hH (blThen HY1.out h5); have c0_2 := HC.out _ HY2.out 0 _ rfl; have c1_2 := HC.out _ HY2.out 1 _ rfl; have c6_2 := HC.out _ HY2.out 6 _ rfl; have c7_2 := HC.out _ HY2.out 7 _ rfl; have hw2 := HY2.out.size; simp only [World.size_alloc] at hw2; have HB2 : Hid (Below W.heap.size W w2) := hH (blThen (blAlloc (Below.refl _ _) _) HY2.out); clear h5)) | (go_at_call 132; go_must (refine (HZ.out _).mono ?_; rintro e w3 ⟨rfl, h5⟩; have HY3 := hH (blThen HY2.out h5); have c0_3 := HC.out _ HY3.out 0 _ rfl; have c1_3 := HC.out _ HY3.out 1 _ rfl; have c6_3 := HC.out _ HY3.out 6 _ rfl; have c7_3 := HC.out _ HY3.out 7 _ rfl; have hw3 := HY3.out.size; simp only [World.size_alloc] at hw3; have HB3 : Hid (Below W.heap.size W w3) := hH (blThen (blAlloc (Below.refl _ _) _) HY3.out); clear h5)) | (go_at_call 134; go_must (refine (HV.out _).mono ?_; rintro e w4 ⟨rfl, h5⟩; have HY4 := hH (blThen HY3.out h5); have c9_4 := HC.out _ HY4.out 9 _ rfl; have hw4 := HY4.out.size; simp only [World.size_alloc] at hw4; have HB4 : Hid (Below W.heap.size W w4) := hH (blThen (blAlloc (Below.refl _ _) _) HY4.out); clear h5)) | (go_at_call 135; go_must (refine (HD.out _ HB4.out).mono ?_; rintro e w5 ⟨rfl, h5⟩; have HY5 := hH (blThen HY4.out h5); have hw5 := HY5.out.size; simp only [World.size_alloc] at hw5; have HB5 : Hid (Below W.heap.size W w5) := hH (blThen (blAlloc (Below.refl _ _) _) HY5.out); clear h5)))
      go_ret
      exact ⟨rfl, HB5.out⟩
     ·go_enter Tryz.func51, Tryz.ntmps51
      go_wp2_with (first | (first | go_skip | refine load9 _ rfl rfl _ rfl KL0.out rfl ?_) | (go_at_call 121; go_must (refine (HO.out _ (blAlloc (Below.refl _ _) _)).mono ?_; rintro e w1 ⟨rfl, h5⟩; have HY1 := hH h5; have c2_1 := HC.out _ HY1.out 2 _ rfl; have hw1 := HY1.out.size; simp only [World.size_alloc] at hw1; have HB1 : Hid (Below W.heap.size W w1) := hH (blThen (blAlloc (Below.refl _ _) _) HY1.out); clear h5)) | (go_at_call 133; go_must (refine (HT.out _ HB1.out).mono ?_; rintro e w2 ⟨rfl, h5⟩; have HY2 := hH (blThen HY1.out h5); have c0_2 := HC.out _ HY2.out 0 _ rfl; have c1_2 := HC.out _ HY2.out 1 _ rfl; have c6_2 := HC.out _ HY2.out 6 _ rfl; have c7_2 := HC.out _ HY2.out 7 _ rfl; have hw2 := HY2.out.size; simp only [World.size_alloc] at hw2; have HB2 : Hid (Below W.heap.size W w2) := hH (blThen (blAlloc (Below.refl _ _) _) HY2.out); clear h5)) | (go_at_call 132; go_must (refine (HZ.out _).mono ?_; rintro e w3 ⟨rfl, h5⟩; have HY3 := hH (blThen HY2.out h5); have c0_3 := HC.out _ HY3.out 0 _ rfl; have c1_3 := HC.out _ HY3.out 1 _ rfl; have c6_3 := HC.out _ HY3.out 6 _ rfl; have c7_3 := HC.out _ HY3.out 7 _ rfl; have hw3 := HY3.out.size; simp only [World.size_alloc] at hw3; have HB3 : Hid (Below W.heap.size W w3) := hH (blThen (blAlloc (Below.refl _ _) _) HY3.out); clear h5)) | (go_at_call 134; go_must (refine (HV.out _).mono ?_; rintro e w4 ⟨rfl, h5⟩; have HY4 := hH (blThen HY3.out h5); have c9_4 := HC.out _ HY4.out 9 _ rfl; have hw4 := HY4.out.size; simp only [World.size_alloc] at hw4; have HB4 : Hid (Below W.heap.size W w4) := hH (blThen (blAlloc (Below.refl _ _) _) HY4.out); clear h5)) | (go_at_call 135; go_must (refine (HD.out _ HB4.out).mono ?_; rintro e w5 ⟨rfl, h5⟩; have HY5 := hH (blThen HY4.out h5); have hw5 := HY5.out.size; simp only [World.size_alloc] at hw5; have HB5 : Hid (Below W.heap.size W w5) := hH (blThen (blAlloc (Below.refl _ _) _) HY5.out); clear h5)))
      go_ret
      exact ⟨rfl, HB5.out⟩
   ·rw [hz] at HZ
    rw [HVB.out, hz] at hv2
    generalize decide (SD.checkD seen = 0) = bs at *
    obtain rfl : v = bs := by rw [← hv2]; simp
    cases v
    ·go_enter Tryz.func51, Tryz.ntmps51
     go_wp2_with (first | (first | go_skip | refine load9 _ rfl rfl _ rfl KL0.out rfl ?_) | (go_at_call 121; go_must (refine (HO.out _ (blAlloc (Below.refl _ _) _)).mono ?_; rintro e w1 ⟨rfl, h5⟩; have HY1 := hH h5; have c2_1 := HC.out _ HY1.out 2 _ rfl; have hw1 := HY1.out.size; simp only [World.size_alloc] at hw1; have HB1 : Hid (Below W.heap.size W w1) := hH (blThen (blAlloc (Below.refl _ _) _) HY1.out); clear h5)) | (go_at_call 133; go_must (refine (HT.out _ HB1.out).mono ?_; rintro e w2 ⟨rfl, h5⟩; have HY2 := hH (blThen HY1.out h5); have c0_2 := HC.out _ HY2.out 0 _ rfl; have c1_2 := HC.out _ HY2.out 1 _ rfl; have c6_2 := HC.out _ HY2.out 6 _ rfl; have c7_2 := HC.out _ HY2.out 7 _ rfl; have hw2 := HY2.out.size; simp only [World.size_alloc] at hw2; have HB2 : Hid (Below W.heap.size W w2) := hH (blThen (blAlloc (Below.refl _ _) _) HY2.out); clear h5)) | (go_at_call 132; go_must (refine (HZ.out _).mono ?_; rintro e w3 ⟨rfl, h5⟩; have HY3 := hH (blThen HY2.out h5); have c9_3 := HC.out _ HY3.out 9 _ rfl; have hw3 := HY3.out.size; simp only [World.size_alloc] at hw3; have HB3 : Hid (Below W.heap.size W w3) := hH (blThen (blAlloc (Below.refl _ _) _) HY3.out); clear h5)) | (go_at_call 135; go_must (refine (HD.out _ HB3.out).mono ?_; rintro e w4 ⟨rfl, h5⟩; have HY4 := hH (blThen HY3.out h5); have hw4 := HY4.out.size; simp only [World.size_alloc] at hw4; have HB4 : Hid (Below W.heap.size W w4) := hH (blThen (blAlloc (Below.refl _ _) _) HY4.out); clear h5)))
     go_ret
     exact ⟨rfl, HB4.out⟩
    ·go_enter Tryz.func51, Tryz.ntmps51
     go_wp2_with (first | (first | go_skip | refine load9 _ rfl rfl _ rfl KL0.out rfl ?_) | (go_at_call 121; go_must (refine (HO.out _ (blAlloc (Below.refl _ _) _)).mono ?_; rintro e w1 ⟨rfl, h5⟩; have HY1 := hH h5; have c2_1 := HC.out _ HY1.out 2 _ rfl; have hw1 := HY1.out.size; simp only [World.size_alloc] at hw1; have HB1 : Hid (Below W.heap.size W w1) := hH (blThen (blAlloc (Below.refl _ _) _) HY1.out); clear h5)) | (go_at_call 133; go_must (refine (HT.out _ HB1.out).mono ?_; rintro e w2 ⟨rfl, h5⟩; have HY2 := hH (blThen HY1.out h5); have c0_2 := HC.out _ HY2.out 0 _ rfl; have c1_2 := HC.out _ HY2.out 1 _ rfl; have c6_2 := HC.out _ HY2.out 6 _ rfl; have c7_2 := HC.out _ HY2.out 7 _ rfl; have hw2 := HY2.out.size; simp only [World.size_alloc] at hw2; have HB2 : Hid (Below W.heap.size W w2) := hH (blThen (blAlloc (Below.refl _ _) _) HY2.out); clear h5)) | (go_at_call 132; go_must (refine (HZ.out _).mono ?_; rintro e w3 ⟨rfl, h5⟩; have HY3 := hH (blThen HY2.out h5); have c9_3 := HC.out _ HY3.out 9 _ rfl; have hw3 := HY3.out.size; simp only [World.size_alloc] at hw3; have HB3 : Hid (Below W.heap.size W w3) := hH (blThen (blAlloc (Below.refl _ _) _) HY3.out); clear h5)) | (go_at_call 135; go_must (refine (HD.out _ HB3.out).mono ?_; rintro e w4 ⟨rfl, h5⟩; have HY4 := hH (blThen HY3.out h5); have hw4 := HY4.out.size; simp only [World.size_alloc] at hw4; have HB4 : Hid (Below W.heap.size W w4) := hH (blThen (blAlloc (Below.refl _ _) _) HY4.out); clear h5)))
     go_ret
     exact ⟨rfl, HB4.out⟩
  ·have e1 : (checkP ops == 0) = false := by simpa using hk
   rw [decide_eq_false hk] at hv2
   obtain rfl : v = false := by rw [← hv2]; rfl
   clear hv2 HD HV HZ
   generalize checkP ops = nC at *
   go_enter Tryz.func51, Tryz.ntmps51
   go_wp2_with (first | (first | go_skip | refine load9 _ rfl rfl _ rfl KL0.out rfl ?_) | (go_at_call 121; go_must (refine (HO.out _ (blAlloc (Below.refl _ _) _)).mono ?_; rintro e w1 ⟨rfl, h5⟩; have HY1 := hH h5; have c2_1 := HC.out _ HY1.out 2 _ rfl; have hw1 := HY1.out.size; simp only [World.size_alloc] at hw1; have HB1 : Hid (Below W.heap.size W w1) := hH (blThen (blAlloc (Below.refl _ _) _) HY1.out); clear h5)) | (go_at_call 133; go_must (refine (HT.out _ HB1.out).mono ?_; rintro e w2 ⟨rfl, h5⟩; have HY2 := hH (blThen HY1.out h5); have hw2 := HY2.out.size; simp only [World.size_alloc] at hw2; have HB2 : Hid (Below W.heap.size W w2) := hH (blThen (blAlloc (Below.refl _ _) _) HY2.out); clear h5)))
   go_ret
   exact ⟨rfl, HB2.out⟩

theorem check9_any (c : Cm) (l : Pl) (W : World) (h : CmAt W c l) (hf : FewC c) : Calls Tryz.prog 14 #[cmV c l] W fun e w' => e = .returned (.int .i64 (checkC c)) ∧ Below W.heap.size W w' := by
 have H1 := hH (fun (Y : World) => fitStamp_any c.id Y)
 have H2 := hH (fun (Y : World) (hY : Below W.heap.size W Y) => seenMay_any c l Y (h.later hY) hf)
 have H3 := hH (fun (Y : World) => promises_any c l Y)
 have H4 := hH (fun (Y : World) (hY : Below W.heap.size W Y) => valueMay_any c l Y (h.later hY) hf)
 have H5 := hH (fun (Y : World) (hY : Below W.heap.size W Y) => phaseMay_any c l Y (h.later hY))
 have H6 := hH (fun (Y : World) (hY : Below W.heap.size W Y) => listsMay_any c l Y (h.later hY) hf)
 have HV : Hid (checkC c = if (S1.isS c.id && seenB c && promB c && valB c && phaseB c && listsB c) = true then 0 else 90) := rfl
 generalize S1.isS c.id = u1 at *
 generalize seenB c = u2 at *
 generalize promB c = u3 at *
 generalize valB c = u4 at *
 generalize phaseB c = u5 at *
 generalize listsB c = u6 at *
 generalize hv : checkC c = v
 obtain ⟨⟨id1, id2⟩, ops, phase, ⟨p1, p2⟩, ⟨v1, v2⟩, fast, seen, ⟨b1, b2⟩, has, ⟨q1, q2⟩, ⟨gone, ⟨t1, t2⟩, deps⟩, ready, writes, pairs⟩ := c
 obtain ⟨lo, ls, ld, lw, lp⟩ := l
 simp only [cmV]
 have HC := hH (cell_box W (r22 id1 id2 lo phase p1 p2 v1 v2 fast ls b1 b2 has q1 q2 gone t1 t2 ld ready lw lp) 31)
 have HR := hH (row_box W (r22 id1 id2 lo phase p1 p2 v1 v2 fast ls b1 b2 has q1 q2 gone t1 t2 ld ready lw lp) 31)
 have KL0 := hH (new_blockC W (r22 id1 id2 lo phase p1 p2 v1 v2 fast ls b1 b2 has q1 q2 gone t1 t2 ld ready lw lp) 31)
 simp only [cmV, vlV] at H1
 simp only [cmV, vlV] at H2
 simp only [cmV, vlV] at H3
 simp only [cmV, vlV] at H4
 simp only [cmV, vlV] at H5
 simp only [cmV, vlV] at H6
 rw [hv] at HV
 have hv2 := HV.out
 clear hv HV
 cases u1
 ·obtain rfl : v = 90 := by simpa using hv2
  clear hv2
  go_enter Tryz.func14, Tryz.ntmps14
  go_wp2_with (first | (first | go_skip | refine load9 _ rfl rfl _ rfl KL6.out rfl ?_ | refine load9 _ rfl rfl _ rfl KL5.out rfl ?_ | refine load9 _ rfl rfl _ rfl KL4.out rfl ?_ | refine load9 _ rfl rfl _ rfl KL3.out rfl ?_ | refine load9 _ rfl rfl _ rfl KL2.out rfl ?_ | refine load9 _ rfl rfl _ rfl KL1.out rfl ?_ | refine load9 _ rfl rfl _ rfl KL0.out rfl ?_) | (go_at_call 50; go_must (refine (H1.out _).mono ?_; rintro e w1 ⟨rfl, h5⟩; have HY1 := hH h5; have KL1 := hH (HR.out _ HY1.out); have hw1 := HY1.out.size; simp only [World.size_alloc] at hw1; have HB1 : Hid (Below W.heap.size W w1) := hH (blThen (blAlloc (Below.refl _ _) _) HY1.out); clear h5)))
  go_ret
  exact ⟨rfl, HB1.out⟩
 ·cases u2
  ·obtain rfl : v = 90 := by simpa using hv2
   clear hv2
   go_enter Tryz.func14, Tryz.ntmps14
   go_wp2_with (first | (first | go_skip | refine load9 _ rfl rfl _ rfl KL6.out rfl ?_ | refine load9 _ rfl rfl _ rfl KL5.out rfl ?_ | refine load9 _ rfl rfl _ rfl KL4.out rfl ?_ | refine load9 _ rfl rfl _ rfl KL3.out rfl ?_ | refine load9 _ rfl rfl _ rfl KL2.out rfl ?_ | refine load9 _ rfl rfl _ rfl KL1.out rfl ?_ | refine load9 _ rfl rfl _ rfl KL0.out rfl ?_) | (go_at_call 50; go_must (refine (H1.out _).mono ?_; rintro e w1 ⟨rfl, h5⟩; have HY1 := hH h5; have KL1 := hH (HR.out _ HY1.out); have hw1 := HY1.out.size; simp only [World.size_alloc] at hw1; have HB1 : Hid (Below W.heap.size W w1) := hH (blThen (blAlloc (Below.refl _ _) _) HY1.out); clear h5)) | (go_at_call 51; go_must (refine (H2.out _ HB1.out).mono ?_; rintro e w2 ⟨rfl, h5⟩; have HY2 := hH (blThen HY1.out h5); have KL2 := hH (HR.out _ HY2.out); have hw2 := HY2.out.size; simp only [World.size_alloc] at hw2; have HB2 : Hid (Below W.heap.size W w2) := hH (blThen (blAlloc (Below.refl _ _) _) HY2.out); clear h5)))
   go_ret
   exact ⟨rfl, HB2.out⟩
  ·cases u3
   ·obtain rfl : v = 90 := by simpa using hv2
    clear hv2
    go_enter Tryz.func14, Tryz.ntmps14
    go_wp2_with (first | (first | go_skip | refine load9 _ rfl rfl _ rfl KL6.out rfl ?_ | refine load9 _ rfl rfl _ rfl KL5.out rfl ?_ | refine load9 _ rfl rfl _ rfl KL4.out rfl ?_ | refine load9 _ rfl rfl _ rfl KL3.out rfl ?_ | refine load9 _ rfl rfl _ rfl KL2.out rfl ?_ | refine load9 _ rfl rfl _ rfl KL1.out rfl ?_ | refine load9 _ rfl rfl _ rfl KL0.out rfl ?_) | (go_at_call 50; go_must (refine (H1.out _).mono ?_; rintro e w1 ⟨rfl, h5⟩; have HY1 := hH h5; have KL1 := hH (HR.out _ HY1.out); have hw1 := HY1.out.size; simp only [World.size_alloc] at hw1; have HB1 : Hid (Below W.heap.size W w1) := hH (blThen (blAlloc (Below.refl _ _) _) HY1.out); clear h5)) | (go_at_call 51; go_must (refine (H2.out _ HB1.out).mono ?_; rintro e w2 ⟨rfl, h5⟩; have HY2 := hH (blThen HY1.out h5); have KL2 := hH (HR.out _ HY2.out); have hw2 := HY2.out.size; simp only [World.size_alloc] at hw2; have HB2 : Hid (Below W.heap.size W w2) := hH (blThen (blAlloc (Below.refl _ _) _) HY2.out); clear h5)) | (go_at_call 52; go_must (refine (H3.out _).mono ?_; rintro e w3 ⟨rfl, h5⟩; have HY3 := hH (blThen HY2.out h5); have KL3 := hH (HR.out _ HY3.out); have hw3 := HY3.out.size; simp only [World.size_alloc] at hw3; have HB3 : Hid (Below W.heap.size W w3) := hH (blThen (blAlloc (Below.refl _ _) _) HY3.out); clear h5)))
    go_ret
    exact ⟨rfl, HB3.out⟩
   ·cases u4
    ·obtain rfl : v = 90 := by simpa using hv2
     clear hv2
     go_enter Tryz.func14, Tryz.ntmps14
     go_wp2_with (first | (first | go_skip | refine load9 _ rfl rfl _ rfl KL6.out rfl ?_ | refine load9 _ rfl rfl _ rfl KL5.out rfl ?_ | refine load9 _ rfl rfl _ rfl KL4.out rfl ?_ | refine load9 _ rfl rfl _ rfl KL3.out rfl ?_ | refine load9 _ rfl rfl _ rfl KL2.out rfl ?_ | refine load9 _ rfl rfl _ rfl KL1.out rfl ?_ | refine load9 _ rfl rfl _ rfl KL0.out rfl ?_) | (go_at_call 50; go_must (refine (H1.out _).mono ?_; rintro e w1 ⟨rfl, h5⟩; have HY1 := hH h5; have KL1 := hH (HR.out _ HY1.out); have hw1 := HY1.out.size; simp only [World.size_alloc] at hw1; have HB1 : Hid (Below W.heap.size W w1) := hH (blThen (blAlloc (Below.refl _ _) _) HY1.out); clear h5)) | (go_at_call 51; go_must (refine (H2.out _ HB1.out).mono ?_; rintro e w2 ⟨rfl, h5⟩; have HY2 := hH (blThen HY1.out h5); have KL2 := hH (HR.out _ HY2.out); have hw2 := HY2.out.size; simp only [World.size_alloc] at hw2; have HB2 : Hid (Below W.heap.size W w2) := hH (blThen (blAlloc (Below.refl _ _) _) HY2.out); clear h5)) | (go_at_call 52; go_must (refine (H3.out _).mono ?_; rintro e w3 ⟨rfl, h5⟩; have HY3 := hH (blThen HY2.out h5); have KL3 := hH (HR.out _ HY3.out); have hw3 := HY3.out.size; simp only [World.size_alloc] at hw3; have HB3 : Hid (Below W.heap.size W w3) := hH (blThen (blAlloc (Below.refl _ _) _) HY3.out); clear h5)) | (go_at_call 53; go_must (refine (H4.out _ HB3.out).mono ?_; rintro e w4 ⟨rfl, h5⟩; have HY4 := hH (blThen HY3.out h5); have KL4 := hH (HR.out _ HY4.out); have hw4 := HY4.out.size; simp only [World.size_alloc] at hw4; have HB4 : Hid (Below W.heap.size W w4) := hH (blThen (blAlloc (Below.refl _ _) _) HY4.out); clear h5)))
     go_ret
     exact ⟨rfl, HB4.out⟩
    ·cases u5
     ·obtain rfl : v = 90 := by simpa using hv2
      clear hv2
      go_enter Tryz.func14, Tryz.ntmps14
      go_wp2_with (first | (first | go_skip | refine load9 _ rfl rfl _ rfl KL6.out rfl ?_ | refine load9 _ rfl rfl _ rfl KL5.out rfl ?_ | refine load9 _ rfl rfl _ rfl KL4.out rfl ?_ | refine load9 _ rfl rfl _ rfl KL3.out rfl ?_ | refine load9 _ rfl rfl _ rfl KL2.out rfl ?_ | refine load9 _ rfl rfl _ rfl KL1.out rfl ?_ | refine load9 _ rfl rfl _ rfl KL0.out rfl ?_) | (go_at_call 50; go_must (refine (H1.out _).mono ?_; rintro e w1 ⟨rfl, h5⟩; have HY1 := hH h5; have KL1 := hH (HR.out _ HY1.out); have hw1 := HY1.out.size; simp only [World.size_alloc] at hw1; have HB1 : Hid (Below W.heap.size W w1) := hH (blThen (blAlloc (Below.refl _ _) _) HY1.out); clear h5)) | (go_at_call 51; go_must (refine (H2.out _ HB1.out).mono ?_; rintro e w2 ⟨rfl, h5⟩; have HY2 := hH (blThen HY1.out h5); have KL2 := hH (HR.out _ HY2.out); have hw2 := HY2.out.size; simp only [World.size_alloc] at hw2; have HB2 : Hid (Below W.heap.size W w2) := hH (blThen (blAlloc (Below.refl _ _) _) HY2.out); clear h5)) | (go_at_call 52; go_must (refine (H3.out _).mono ?_; rintro e w3 ⟨rfl, h5⟩; have HY3 := hH (blThen HY2.out h5); have KL3 := hH (HR.out _ HY3.out); have hw3 := HY3.out.size; simp only [World.size_alloc] at hw3; have HB3 : Hid (Below W.heap.size W w3) := hH (blThen (blAlloc (Below.refl _ _) _) HY3.out); clear h5)) | (go_at_call 53; go_must (refine (H4.out _ HB3.out).mono ?_; rintro e w4 ⟨rfl, h5⟩; have HY4 := hH (blThen HY3.out h5); have KL4 := hH (HR.out _ HY4.out); have hw4 := HY4.out.size; simp only [World.size_alloc] at hw4; have HB4 : Hid (Below W.heap.size W w4) := hH (blThen (blAlloc (Below.refl _ _) _) HY4.out); clear h5)) | (go_at_call 54; go_must (refine (H5.out _ HB4.out).mono ?_; rintro e w5 ⟨rfl, h5⟩; have HY5 := hH (blThen HY4.out h5); have KL5 := hH (HR.out _ HY5.out); have hw5 := HY5.out.size; simp only [World.size_alloc] at hw5; have HB5 : Hid (Below W.heap.size W w5) := hH (blThen (blAlloc (Below.refl _ _) _) HY5.out); clear h5)))
      go_ret
      exact ⟨rfl, HB5.out⟩
     ·cases u6
      ·obtain rfl : v = 90 := by simpa using hv2
       clear hv2
       go_enter Tryz.func14, Tryz.ntmps14
       go_wp2_with (first | (first | go_skip | refine load9 _ rfl rfl _ rfl KL6.out rfl ?_ | refine load9 _ rfl rfl _ rfl KL5.out rfl ?_ | refine load9 _ rfl rfl _ rfl KL4.out rfl ?_ | refine load9 _ rfl rfl _ rfl KL3.out rfl ?_ | refine load9 _ rfl rfl _ rfl KL2.out rfl ?_ | refine load9 _ rfl rfl _ rfl KL1.out rfl ?_ | refine load9 _ rfl rfl _ rfl KL0.out rfl ?_) | (go_at_call 50; go_must (refine (H1.out _).mono ?_; rintro e w1 ⟨rfl, h5⟩; have HY1 := hH h5; have KL1 := hH (HR.out _ HY1.out); have hw1 := HY1.out.size; simp only [World.size_alloc] at hw1; have HB1 : Hid (Below W.heap.size W w1) := hH (blThen (blAlloc (Below.refl _ _) _) HY1.out); clear h5)) | (go_at_call 51; go_must (refine (H2.out _ HB1.out).mono ?_; rintro e w2 ⟨rfl, h5⟩; have HY2 := hH (blThen HY1.out h5); have KL2 := hH (HR.out _ HY2.out); have hw2 := HY2.out.size; simp only [World.size_alloc] at hw2; have HB2 : Hid (Below W.heap.size W w2) := hH (blThen (blAlloc (Below.refl _ _) _) HY2.out); clear h5)) | (go_at_call 52; go_must (refine (H3.out _).mono ?_; rintro e w3 ⟨rfl, h5⟩; have HY3 := hH (blThen HY2.out h5); have KL3 := hH (HR.out _ HY3.out); have hw3 := HY3.out.size; simp only [World.size_alloc] at hw3; have HB3 : Hid (Below W.heap.size W w3) := hH (blThen (blAlloc (Below.refl _ _) _) HY3.out); clear h5)) | (go_at_call 53; go_must (refine (H4.out _ HB3.out).mono ?_; rintro e w4 ⟨rfl, h5⟩; have HY4 := hH (blThen HY3.out h5); have KL4 := hH (HR.out _ HY4.out); have hw4 := HY4.out.size; simp only [World.size_alloc] at hw4; have HB4 : Hid (Below W.heap.size W w4) := hH (blThen (blAlloc (Below.refl _ _) _) HY4.out); clear h5)) | (go_at_call 54; go_must (refine (H5.out _ HB4.out).mono ?_; rintro e w5 ⟨rfl, h5⟩; have HY5 := hH (blThen HY4.out h5); have KL5 := hH (HR.out _ HY5.out); have hw5 := HY5.out.size; simp only [World.size_alloc] at hw5; have HB5 : Hid (Below W.heap.size W w5) := hH (blThen (blAlloc (Below.refl _ _) _) HY5.out); clear h5)) | (go_at_call 55; go_must (refine (H6.out _ HB5.out).mono ?_; rintro e w6 ⟨rfl, h5⟩; have HY6 := hH (blThen HY5.out h5); have KL6 := hH (HR.out _ HY6.out); have hw6 := HY6.out.size; simp only [World.size_alloc] at hw6; have HB6 : Hid (Below W.heap.size W w6) := hH (blThen (blAlloc (Below.refl _ _) _) HY6.out); clear h5)))
       go_ret
       exact ⟨rfl, HB6.out⟩
      ·obtain rfl : v = 0 := by simpa using hv2
       clear hv2
       go_enter Tryz.func14, Tryz.ntmps14
       go_wp2_with (first | (first | go_skip | refine load9 _ rfl rfl _ rfl KL6.out rfl ?_ | refine load9 _ rfl rfl _ rfl KL5.out rfl ?_ | refine load9 _ rfl rfl _ rfl KL4.out rfl ?_ | refine load9 _ rfl rfl _ rfl KL3.out rfl ?_ | refine load9 _ rfl rfl _ rfl KL2.out rfl ?_ | refine load9 _ rfl rfl _ rfl KL1.out rfl ?_ | refine load9 _ rfl rfl _ rfl KL0.out rfl ?_) | (go_at_call 50; go_must (refine (H1.out _).mono ?_; rintro e w1 ⟨rfl, h5⟩; have HY1 := hH h5; have KL1 := hH (HR.out _ HY1.out); have hw1 := HY1.out.size; simp only [World.size_alloc] at hw1; have HB1 : Hid (Below W.heap.size W w1) := hH (blThen (blAlloc (Below.refl _ _) _) HY1.out); clear h5)) | (go_at_call 51; go_must (refine (H2.out _ HB1.out).mono ?_; rintro e w2 ⟨rfl, h5⟩; have HY2 := hH (blThen HY1.out h5); have KL2 := hH (HR.out _ HY2.out); have hw2 := HY2.out.size; simp only [World.size_alloc] at hw2; have HB2 : Hid (Below W.heap.size W w2) := hH (blThen (blAlloc (Below.refl _ _) _) HY2.out); clear h5)) | (go_at_call 52; go_must (refine (H3.out _).mono ?_; rintro e w3 ⟨rfl, h5⟩; have HY3 := hH (blThen HY2.out h5); have KL3 := hH (HR.out _ HY3.out); have hw3 := HY3.out.size; simp only [World.size_alloc] at hw3; have HB3 : Hid (Below W.heap.size W w3) := hH (blThen (blAlloc (Below.refl _ _) _) HY3.out); clear h5)) | (go_at_call 53; go_must (refine (H4.out _ HB3.out).mono ?_; rintro e w4 ⟨rfl, h5⟩; have HY4 := hH (blThen HY3.out h5); have KL4 := hH (HR.out _ HY4.out); have hw4 := HY4.out.size; simp only [World.size_alloc] at hw4; have HB4 : Hid (Below W.heap.size W w4) := hH (blThen (blAlloc (Below.refl _ _) _) HY4.out); clear h5)) | (go_at_call 54; go_must (refine (H5.out _ HB4.out).mono ?_; rintro e w5 ⟨rfl, h5⟩; have HY5 := hH (blThen HY4.out h5); have KL5 := hH (HR.out _ HY5.out); have hw5 := HY5.out.size; simp only [World.size_alloc] at hw5; have HB5 : Hid (Below W.heap.size W w5) := hH (blThen (blAlloc (Below.refl _ _) _) HY5.out); clear h5)) | (go_at_call 55; go_must (refine (H6.out _ HB5.out).mono ?_; rintro e w6 ⟨rfl, h5⟩; have HY6 := hH (blThen HY5.out h5); have KL6 := hH (HR.out _ HY6.out); have hw6 := HY6.out.size; simp only [World.size_alloc] at hw6; have HB6 : Hid (Below W.heap.size W w6) := hH (blThen (blAlloc (Below.refl _ _) _) HY6.out); clear h5)))
       go_ret
       exact ⟨rfl, HB6.out⟩

theorem rpromise_any (c : Cm) (l : Pl) (b : Stp) (W : World) (h : CmAt W c l) : Calls Tryz.prog 90 #[cmV c l, .agg #[.int .i64 b.1, .int .i64 b.2]] W (RetB W (proC c b) l (proB c b)) := by
 have HD := hH (fun (Y : World) => rdecided_any c l Y)
 obtain ⟨x, y⟩ := b
 have HK := hH (fun (Y : World) => S1.less_any x y c.prom.1 c.prom.2 Y)
 have HLT := hH (S1.cmpS_neg x y c.prom.1 c.prom.2)
 generalize hv : proC c (x, y) = cv
 generalize hb : proB c (x, y) = bv
 have ho1 := slG_one h.o
 have hs1 := dlV_one h.s
 have hd1 := dlV_one h.d
 have hw1 := slG_one h.w
 have hp1 := slG_one h.p
 have HO1 := hH ho1
 have HS1 := hH hs1
 have HD1 := hH hd1
 have HW1 := hH hw1
 have HP1 := hH hp1
 clear ho1 hs1 hd1 hw1 hp1
 have HCA := hH h
 clear h
 obtain ⟨⟨id1, id2⟩, ops, phase, ⟨p1, p2⟩, ⟨v1, v2⟩, fast, seen, ⟨b1, b2⟩, has, ⟨q1, q2⟩, ⟨gone, ⟨t1, t2⟩, deps⟩, ready, writes, pairs⟩ := c
 obtain ⟨lo, ls, ld, lw, lp⟩ := l
 simp only [cmV] at HD
 simp only at HK HLT
 simp only at HO1 HS1 HD1 HW1 HP1
 simp only [cmV]
 have HONE : Hid ((#[.int .i64 id1, .int .i64 id2, lo, .int .i64 phase, .int .i64 p1, .int .i64 p2, .int .i64 v1, .int .i64 v2, .bool fast, ls, .int .i64 b1, .int .i64 b2, .bool has, .int .i64 q1, .int .i64 q2, .bool gone, .int .i64 t1, .int .i64 t2, ld, .bool ready, lw, lp] : Array Value).all (·.oneCell') = true) := (by show _ = _; simp [Value.oneCell']; exact ⟨HO1.out, HS1.out, HD1.out, HW1.out, HP1.out⟩)
 clear HO1 HS1 HD1 HW1 HP1
 have HN := hH (fun i o (h : ([(.cells #[.int .i64 id1, .int .i64 id2, lo, .int .i64 phase, .int .i64 p1, .int .i64 p2, .int .i64 v1, .int .i64 v2, .bool fast, ls, .int .i64 b1, .int .i64 b2, .bool has, .int .i64 q1, .int .i64 q2, .bool gone, .int .i64 t1, .int .i64 t2, ld, .bool ready, lw, lp] 31), (.cells #[.int .i64 x, .int .i64 y] 23), (.cells #[.int .i64 0, .int .i64 0, .slice none 0 0, .int .i64 0, .int .i64 0, .int .i64 0, .int .i64 0, .int .i64 0, .bool false, .slice none 0 0, .int .i64 0, .int .i64 0, .bool false, .int .i64 0, .int .i64 0, .bool false, .int .i64 0, .int .i64 0, .slice none 0 0, .bool false, .slice none 0 0, .slice none 0 0] 31)] : List Obj)[i]? = some o) => nth_box W [(.cells #[.int .i64 id1, .int .i64 id2, lo, .int .i64 phase, .int .i64 p1, .int .i64 p2, .int .i64 v1, .int .i64 v2, .bool fast, ls, .int .i64 b1, .int .i64 b2, .bool has, .int .i64 q1, .int .i64 q2, .bool gone, .int .i64 t1, .int .i64 t2, ld, .bool ready, lw, lp] 31), (.cells #[.int .i64 x, .int .i64 y] 23), (.cells #[.int .i64 0, .int .i64 0, .slice none 0 0, .int .i64 0, .int .i64 0, .int .i64 0, .int .i64 0, .int .i64 0, .bool false, .slice none 0 0, .int .i64 0, .int .i64 0, .bool false, .int .i64 0, .int .i64 0, .bool false, .int .i64 0, .int .i64 0, .slice none 0 0, .bool false, .slice none 0 0, .slice none 0 0] 31)] i o h)
 have hWN : Hid ((((W.alloc (.cells #[.int .i64 id1, .int .i64 id2, lo, .int .i64 phase, .int .i64 p1, .int .i64 p2, .int .i64 v1, .int .i64 v2, .bool fast, ls, .int .i64 b1, .int .i64 b2, .bool has, .int .i64 q1, .int .i64 q2, .bool gone, .int .i64 t1, .int .i64 t2, ld, .bool ready, lw, lp] 31)).alloc (.cells #[.int .i64 x, .int .i64 y] 23)).alloc (.cells #[.int .i64 0, .int .i64 0, .slice none 0 0, .int .i64 0, .int .i64 0, .int .i64 0, .int .i64 0, .int .i64 0, .bool false, .slice none 0 0, .int .i64 0, .int .i64 0, .bool false, .int .i64 0, .int .i64 0, .bool false, .int .i64 0, .int .i64 0, .slice none 0 0, .bool false, .slice none 0 0, .slice none 0 0] 31)).heap.size = W.heap.size + 3) := (HN.out 0 _ rfl).2.symm
 have Kc0 : Hid ((((W.alloc (.cells #[.int .i64 id1, .int .i64 id2, lo, .int .i64 phase, .int .i64 p1, .int .i64 p2, .int .i64 v1, .int .i64 v2, .bool fast, ls, .int .i64 b1, .int .i64 b2, .bool has, .int .i64 q1, .int .i64 q2, .bool gone, .int .i64 t1, .int .i64 t2, ld, .bool ready, lw, lp] 31)).alloc (.cells #[.int .i64 x, .int .i64 y] 23)).alloc (.cells #[.int .i64 0, .int .i64 0, .slice none 0 0, .int .i64 0, .int .i64 0, .int .i64 0, .int .i64 0, .int .i64 0, .bool false, .slice none 0 0, .int .i64 0, .int .i64 0, .bool false, .int .i64 0, .int .i64 0, .bool false, .int .i64 0, .int .i64 0, .slice none 0 0, .bool false, .slice none 0 0, .slice none 0 0] 31)).heap[W.heap.size]? = some (.cells #[.int .i64 id1, .int .i64 id2, lo, .int .i64 phase, .int .i64 p1, .int .i64 p2, .int .i64 v1, .int .i64 v2, .bool fast, ls, .int .i64 b1, .int .i64 b2, .bool has, .int .i64 q1, .int .i64 q2, .bool gone, .int .i64 t1, .int .i64 t2, ld, .bool ready, lw, lp] 31 (0, 0))) := (HN.out 0 _ rfl).1
 have Jc : Hid (∀ Y, Below (((W.alloc (.cells #[.int .i64 id1, .int .i64 id2, lo, .int .i64 phase, .int .i64 p1, .int .i64 p2, .int .i64 v1, .int .i64 v2, .bool fast, ls, .int .i64 b1, .int .i64 b2, .bool has, .int .i64 q1, .int .i64 q2, .bool gone, .int .i64 t1, .int .i64 t2, ld, .bool ready, lw, lp] 31)).alloc (.cells #[.int .i64 x, .int .i64 y] 23)).alloc (.cells #[.int .i64 0, .int .i64 0, .slice none 0 0, .int .i64 0, .int .i64 0, .int .i64 0, .int .i64 0, .int .i64 0, .bool false, .slice none 0 0, .int .i64 0, .int .i64 0, .bool false, .int .i64 0, .int .i64 0, .bool false, .int .i64 0, .int .i64 0, .slice none 0 0, .bool false, .slice none 0 0, .slice none 0 0] 31)).heap.size (((W.alloc (.cells #[.int .i64 id1, .int .i64 id2, lo, .int .i64 phase, .int .i64 p1, .int .i64 p2, .int .i64 v1, .int .i64 v2, .bool fast, ls, .int .i64 b1, .int .i64 b2, .bool has, .int .i64 q1, .int .i64 q2, .bool gone, .int .i64 t1, .int .i64 t2, ld, .bool ready, lw, lp] 31)).alloc (.cells #[.int .i64 x, .int .i64 y] 23)).alloc (.cells #[.int .i64 0, .int .i64 0, .slice none 0 0, .int .i64 0, .int .i64 0, .int .i64 0, .int .i64 0, .int .i64 0, .bool false, .slice none 0 0, .int .i64 0, .int .i64 0, .bool false, .int .i64 0, .int .i64 0, .bool false, .int .i64 0, .int .i64 0, .slice none 0 0, .bool false, .slice none 0 0, .slice none 0 0] 31)) Y → Y.heap[W.heap.size]? = some (.cells #[.int .i64 id1, .int .i64 id2, lo, .int .i64 phase, .int .i64 p1, .int .i64 p2, .int .i64 v1, .int .i64 v2, .bool fast, ls, .int .i64 b1, .int .i64 b2, .bool has, .int .i64 q1, .int .i64 q2, .bool gone, .int .i64 t1, .int .i64 t2, ld, .bool ready, lw, lp] 31 (0, 0))) := fun Y hY => (hY.block W.heap.size (by rw [hWN.out]; omega)).trans Kc0.out
 have Kb0 : Hid ((((W.alloc (.cells #[.int .i64 id1, .int .i64 id2, lo, .int .i64 phase, .int .i64 p1, .int .i64 p2, .int .i64 v1, .int .i64 v2, .bool fast, ls, .int .i64 b1, .int .i64 b2, .bool has, .int .i64 q1, .int .i64 q2, .bool gone, .int .i64 t1, .int .i64 t2, ld, .bool ready, lw, lp] 31)).alloc (.cells #[.int .i64 x, .int .i64 y] 23)).alloc (.cells #[.int .i64 0, .int .i64 0, .slice none 0 0, .int .i64 0, .int .i64 0, .int .i64 0, .int .i64 0, .int .i64 0, .bool false, .slice none 0 0, .int .i64 0, .int .i64 0, .bool false, .int .i64 0, .int .i64 0, .bool false, .int .i64 0, .int .i64 0, .slice none 0 0, .bool false, .slice none 0 0, .slice none 0 0] 31)).heap[(W.heap.size + 1)]? = some (.cells #[.int .i64 x, .int .i64 y] 23 (0, 0))) := (HN.out 1 _ rfl).1
 have Jb : Hid (∀ Y, Below (((W.alloc (.cells #[.int .i64 id1, .int .i64 id2, lo, .int .i64 phase, .int .i64 p1, .int .i64 p2, .int .i64 v1, .int .i64 v2, .bool fast, ls, .int .i64 b1, .int .i64 b2, .bool has, .int .i64 q1, .int .i64 q2, .bool gone, .int .i64 t1, .int .i64 t2, ld, .bool ready, lw, lp] 31)).alloc (.cells #[.int .i64 x, .int .i64 y] 23)).alloc (.cells #[.int .i64 0, .int .i64 0, .slice none 0 0, .int .i64 0, .int .i64 0, .int .i64 0, .int .i64 0, .int .i64 0, .bool false, .slice none 0 0, .int .i64 0, .int .i64 0, .bool false, .int .i64 0, .int .i64 0, .bool false, .int .i64 0, .int .i64 0, .slice none 0 0, .bool false, .slice none 0 0, .slice none 0 0] 31)).heap.size (((W.alloc (.cells #[.int .i64 id1, .int .i64 id2, lo, .int .i64 phase, .int .i64 p1, .int .i64 p2, .int .i64 v1, .int .i64 v2, .bool fast, ls, .int .i64 b1, .int .i64 b2, .bool has, .int .i64 q1, .int .i64 q2, .bool gone, .int .i64 t1, .int .i64 t2, ld, .bool ready, lw, lp] 31)).alloc (.cells #[.int .i64 x, .int .i64 y] 23)).alloc (.cells #[.int .i64 0, .int .i64 0, .slice none 0 0, .int .i64 0, .int .i64 0, .int .i64 0, .int .i64 0, .int .i64 0, .bool false, .slice none 0 0, .int .i64 0, .int .i64 0, .bool false, .int .i64 0, .int .i64 0, .bool false, .int .i64 0, .int .i64 0, .slice none 0 0, .bool false, .slice none 0 0, .slice none 0 0] 31)) Y → Y.heap[(W.heap.size + 1)]? = some (.cells #[.int .i64 x, .int .i64 y] 23 (0, 0))) := fun Y hY => (hY.block (W.heap.size + 1) (by rw [hWN.out]; omega)).trans Kb0.out
 have Kr0 : Hid ((((W.alloc (.cells #[.int .i64 id1, .int .i64 id2, lo, .int .i64 phase, .int .i64 p1, .int .i64 p2, .int .i64 v1, .int .i64 v2, .bool fast, ls, .int .i64 b1, .int .i64 b2, .bool has, .int .i64 q1, .int .i64 q2, .bool gone, .int .i64 t1, .int .i64 t2, ld, .bool ready, lw, lp] 31)).alloc (.cells #[.int .i64 x, .int .i64 y] 23)).alloc (.cells #[.int .i64 0, .int .i64 0, .slice none 0 0, .int .i64 0, .int .i64 0, .int .i64 0, .int .i64 0, .int .i64 0, .bool false, .slice none 0 0, .int .i64 0, .int .i64 0, .bool false, .int .i64 0, .int .i64 0, .bool false, .int .i64 0, .int .i64 0, .slice none 0 0, .bool false, .slice none 0 0, .slice none 0 0] 31)).heap[(W.heap.size + 2)]? = some (.cells #[.int .i64 0, .int .i64 0, .slice none 0 0, .int .i64 0, .int .i64 0, .int .i64 0, .int .i64 0, .int .i64 0, .bool false, .slice none 0 0, .int .i64 0, .int .i64 0, .bool false, .int .i64 0, .int .i64 0, .bool false, .int .i64 0, .int .i64 0, .slice none 0 0, .bool false, .slice none 0 0, .slice none 0 0] 31 (0, 0))) := (HN.out 2 _ rfl).1
 have Jr : Hid (∀ Y, Below (((W.alloc (.cells #[.int .i64 id1, .int .i64 id2, lo, .int .i64 phase, .int .i64 p1, .int .i64 p2, .int .i64 v1, .int .i64 v2, .bool fast, ls, .int .i64 b1, .int .i64 b2, .bool has, .int .i64 q1, .int .i64 q2, .bool gone, .int .i64 t1, .int .i64 t2, ld, .bool ready, lw, lp] 31)).alloc (.cells #[.int .i64 x, .int .i64 y] 23)).alloc (.cells #[.int .i64 0, .int .i64 0, .slice none 0 0, .int .i64 0, .int .i64 0, .int .i64 0, .int .i64 0, .int .i64 0, .bool false, .slice none 0 0, .int .i64 0, .int .i64 0, .bool false, .int .i64 0, .int .i64 0, .bool false, .int .i64 0, .int .i64 0, .slice none 0 0, .bool false, .slice none 0 0, .slice none 0 0] 31)).heap.size (((W.alloc (.cells #[.int .i64 id1, .int .i64 id2, lo, .int .i64 phase, .int .i64 p1, .int .i64 p2, .int .i64 v1, .int .i64 v2, .bool fast, ls, .int .i64 b1, .int .i64 b2, .bool has, .int .i64 q1, .int .i64 q2, .bool gone, .int .i64 t1, .int .i64 t2, ld, .bool ready, lw, lp] 31)).alloc (.cells #[.int .i64 x, .int .i64 y] 23)).alloc (.cells #[.int .i64 0, .int .i64 0, .slice none 0 0, .int .i64 0, .int .i64 0, .int .i64 0, .int .i64 0, .int .i64 0, .bool false, .slice none 0 0, .int .i64 0, .int .i64 0, .bool false, .int .i64 0, .int .i64 0, .bool false, .int .i64 0, .int .i64 0, .slice none 0 0, .bool false, .slice none 0 0, .slice none 0 0] 31)) Y → Y.heap[(W.heap.size + 2)]? = some (.cells #[.int .i64 0, .int .i64 0, .slice none 0 0, .int .i64 0, .int .i64 0, .int .i64 0, .int .i64 0, .int .i64 0, .bool false, .slice none 0 0, .int .i64 0, .int .i64 0, .bool false, .int .i64 0, .int .i64 0, .bool false, .int .i64 0, .int .i64 0, .slice none 0 0, .bool false, .slice none 0 0, .slice none 0 0] 31 (0, 0))) := fun Y hY => (hY.block (W.heap.size + 2) (by rw [hWN.out]; omega)).trans Kr0.out
 have HB0 : Hid (Below W.heap.size W (((W.alloc (.cells #[.int .i64 id1, .int .i64 id2, lo, .int .i64 phase, .int .i64 p1, .int .i64 p2, .int .i64 v1, .int .i64 v2, .bool fast, ls, .int .i64 b1, .int .i64 b2, .bool has, .int .i64 q1, .int .i64 q2, .bool gone, .int .i64 t1, .int .i64 t2, ld, .bool ready, lw, lp] 31)).alloc (.cells #[.int .i64 x, .int .i64 y] 23)).alloc (.cells #[.int .i64 0, .int .i64 0, .slice none 0 0, .int .i64 0, .int .i64 0, .int .i64 0, .int .i64 0, .int .i64 0, .bool false, .slice none 0 0, .int .i64 0, .int .i64 0, .bool false, .int .i64 0, .int .i64 0, .bool false, .int .i64 0, .int .i64 0, .slice none 0 0, .bool false, .slice none 0 0, .slice none 0 0] 31))) := hH (blAlloc (blAlloc (blAlloc (Below.refl _ _) _) _) _)
 clear HN
 unfold proC at hv
 unfold proB at hv hb
 simp only at hv hb
 cases hd : decB ⟨(id1, id2), ops, phase, (p1, p2), (v1, v2), fast, seen, (b1, b2), has, (q1, q2), (gone, (t1, t2), deps), ready, writes, pairs⟩
 ·rw [hd] at HD hv hb
  cases hl : S1.ltS (x, y) (p1, p2)
  ·rw [hl] at hv hb
   obtain rfl : bv = true := by rw [← hb]; rfl
   have hcv := hv.symm
   simp only [Bool.false_or, Bool.not_false, if_true] at hcv
   subst hcv
   rw [hl] at HK
   clear hv hb hd hl HLT
   go_enter Tryz.func90, Tryz.ntmps90
   go_wp2_with (first | (first | go_skip | refine load9 _ rfl rfl _ rfl (S1.block_setCell (S1.block_setCell Kc2.out _) _) rfl ?_ | refine load9 _ rfl rfl _ rfl Kc2.out rfl ?_ | refine load9 _ rfl rfl _ rfl Kc1.out rfl ?_ | refine load9 _ rfl rfl _ rfl Kc0.out rfl ?_) | (first | (refine store9 _ _ rfl rfl _ rfl rfl (set_other9 (set_other9 Kr2.out (by omega) _) (by omega) _) rfl rfl (one_set (one_set HONE.out _ rfl) _ rfl) ?_; intro wS hS1 hS2; have KS := hH hS1; have HGS := hH hS2; clear hS1 hS2) | (refine store9 _ _ rfl rfl _ rfl rfl Kr2.out rfl rfl HONE.out ?_; intro wS hS1 hS2; have KS := hH hS1; have HGS := hH hS2; clear hS1 hS2) | (refine store9 _ _ rfl rfl _ rfl rfl Kr1.out rfl rfl HONE.out ?_; intro wS hS1 hS2; have KS := hH hS1; have HGS := hH hS2; clear hS1 hS2)) | (have htok := HY1; clear htok; go_at_call 28; go_must (refine (HK.out _).mono ?_; rintro e w2 ⟨rfl, h5⟩; have h5 := below_grow (Below.refl _ _) h5; have HY2 := hH (blThen HY1.out h5); have Kc2 := hH (Jc.out _ HY2.out); have Kb2 := hH (Jb.out _ HY2.out); have Kr2 := hH (Jr.out _ HY2.out); have cb0_2 := cell_row Kb2.out 0 _ rfl; have cb1_2 := cell_row Kb2.out 1 _ rfl; have cc4_2 := cell_row Kc2.out 4 _ rfl; have cc5_2 := cell_row Kc2.out 5 _ rfl; have fc4_2 := frozen_row Kc2.out 4; have fc5_2 := frozen_row Kc2.out 5; have hw2 : W.heap.size + 3 ≤ w2.heap.size := (by have := HY2.out.size; have := hWN.out; omega); have HB2 : Hid (Below W.heap.size W w2) := hH (blThen HB0.out HY2.out); clear h5)) | (go_at_call 157; go_must (refine (HD.out _).mono ?_; rintro e w1 ⟨rfl, h5⟩; have HY1 := hH h5; have Kc1 := hH (Jc.out _ HY1.out); have Kb1 := hH (Jb.out _ HY1.out); have Kr1 := hH (Jr.out _ HY1.out); have cb0_1 := cell_row Kb1.out 0 _ rfl; have cb1_1 := cell_row Kb1.out 1 _ rfl; have cc4_1 := cell_row Kc1.out 4 _ rfl; have cc5_1 := cell_row Kc1.out 5 _ rfl; have hw1 : W.heap.size + 3 ≤ w1.heap.size := (by have := HY1.out.size; have := hWN.out; omega); have HB1 : Hid (Below W.heap.size W w1) := hH (blThen HB0.out HY1.out); clear h5)))
   refine bodyPost_ret (results_cell_tmp9 Tryz.results90 _ _ _ 31 _ (0, 0) _ rfl KS.out Tryz.underlying31 rfl szCmd) rfl ?_
   exact ⟨rfl, below_grown9 (blSet (blSet HB2.out (Nat.le_refl _) _) (Nat.le_refl _) _) HGS.out (by omega)⟩
  ·rw [hl] at hv hb
   obtain rfl : bv = false := by rw [← hb]; rfl
   have hcv := hv.symm
   simp only [Bool.false_or, Bool.not_true, Bool.false_eq_true, if_false] at hcv
   subst hcv
   rw [hl] at HK
   clear hv hb hd hl HLT
   go_enter Tryz.func90, Tryz.ntmps90
   go_wp2_with (first | (first | go_skip | refine load9 _ rfl rfl _ rfl (S1.block_setCell (S1.block_setCell Kc2.out _) _) rfl ?_ | refine load9 _ rfl rfl _ rfl Kc2.out rfl ?_ | refine load9 _ rfl rfl _ rfl Kc1.out rfl ?_ | refine load9 _ rfl rfl _ rfl Kc0.out rfl ?_) | (first | (refine store9 _ _ rfl rfl _ rfl rfl (set_other9 (set_other9 Kr2.out (by omega) _) (by omega) _) rfl rfl (one_set (one_set HONE.out _ rfl) _ rfl) ?_; intro wS hS1 hS2; have KS := hH hS1; have HGS := hH hS2; clear hS1 hS2) | (refine store9 _ _ rfl rfl _ rfl rfl Kr2.out rfl rfl HONE.out ?_; intro wS hS1 hS2; have KS := hH hS1; have HGS := hH hS2; clear hS1 hS2) | (refine store9 _ _ rfl rfl _ rfl rfl Kr1.out rfl rfl HONE.out ?_; intro wS hS1 hS2; have KS := hH hS1; have HGS := hH hS2; clear hS1 hS2)) | (have htok := HY1; clear htok; go_at_call 28; go_must (refine (HK.out _).mono ?_; rintro e w2 ⟨rfl, h5⟩; have h5 := below_grow (Below.refl _ _) h5; have HY2 := hH (blThen HY1.out h5); have Kc2 := hH (Jc.out _ HY2.out); have Kb2 := hH (Jb.out _ HY2.out); have Kr2 := hH (Jr.out _ HY2.out); have cb0_2 := cell_row Kb2.out 0 _ rfl; have cb1_2 := cell_row Kb2.out 1 _ rfl; have hw2 : W.heap.size + 3 ≤ w2.heap.size := (by have := HY2.out.size; have := hWN.out; omega); have HB2 : Hid (Below W.heap.size W w2) := hH (blThen HB0.out HY2.out); clear h5)) | (go_at_call 157; go_must (refine (HD.out _).mono ?_; rintro e w1 ⟨rfl, h5⟩; have HY1 := hH h5; have Kc1 := hH (Jc.out _ HY1.out); have Kb1 := hH (Jb.out _ HY1.out); have Kr1 := hH (Jr.out _ HY1.out); have cb0_1 := cell_row Kb1.out 0 _ rfl; have cb1_1 := cell_row Kb1.out 1 _ rfl; have cc4_1 := cell_row Kc1.out 4 _ rfl; have cc5_1 := cell_row Kc1.out 5 _ rfl; have hw1 : W.heap.size + 3 ≤ w1.heap.size := (by have := HY1.out.size; have := hWN.out; omega); have HB1 : Hid (Below W.heap.size W w1) := hH (blThen HB0.out HY1.out); clear h5)))
   refine bodyPost_ret (results_cell_tmp9 Tryz.results90 _ _ _ 31 _ (0, 0) _ rfl KS.out Tryz.underlying31 rfl szCmd) rfl ?_
   exact ⟨rfl, below_grown9 HB2.out HGS.out (by omega)⟩
 ·rw [hd] at HD hv hb
  obtain rfl : bv = false := by rw [← hb]; rfl
  have hcv := hv.symm
  simp only [Bool.true_or, Bool.not_true, Bool.false_eq_true, if_false] at hcv
  subst hcv
  clear hv hb hd HK HLT
  go_enter Tryz.func90, Tryz.ntmps90
  go_wp2_with (first | (first | go_skip | refine load9 _ rfl rfl _ rfl (S1.block_setCell (S1.block_setCell Kc2.out _) _) rfl ?_ | refine load9 _ rfl rfl _ rfl Kc2.out rfl ?_ | refine load9 _ rfl rfl _ rfl Kc1.out rfl ?_ | refine load9 _ rfl rfl _ rfl Kc0.out rfl ?_) | (first | (refine store9 _ _ rfl rfl _ rfl rfl (set_other9 (set_other9 Kr2.out (by omega) _) (by omega) _) rfl rfl (one_set (one_set HONE.out _ rfl) _ rfl) ?_; intro wS hS1 hS2; have KS := hH hS1; have HGS := hH hS2; clear hS1 hS2) | (refine store9 _ _ rfl rfl _ rfl rfl Kr2.out rfl rfl HONE.out ?_; intro wS hS1 hS2; have KS := hH hS1; have HGS := hH hS2; clear hS1 hS2) | (refine store9 _ _ rfl rfl _ rfl rfl Kr1.out rfl rfl HONE.out ?_; intro wS hS1 hS2; have KS := hH hS1; have HGS := hH hS2; clear hS1 hS2)) | (go_at_call 157; go_must (refine (HD.out _).mono ?_; rintro e w1 ⟨rfl, h5⟩; have HY1 := hH h5; have Kc1 := hH (Jc.out _ HY1.out); have Kb1 := hH (Jb.out _ HY1.out); have Kr1 := hH (Jr.out _ HY1.out); have hw1 : W.heap.size + 3 ≤ w1.heap.size := (by have := HY1.out.size; have := hWN.out; omega); have HB1 : Hid (Below W.heap.size W w1) := hH (blThen HB0.out HY1.out); clear h5)))
  refine bodyPost_ret (results_cell_tmp9 Tryz.results90 _ _ _ 31 _ (0, 0) _ rfl KS.out Tryz.underlying31 rfl szCmd) rfl ?_
  exact ⟨rfl, below_grown9 HB1.out HGS.out (by omega)⟩

theorem rbind_any (c : Cm) (l : Pl) (b at_ : Stp) (W : World) (h : CmAt W c l) : Calls Tryz.prog 91 #[cmV c l, .agg #[.int .i64 b.1, .int .i64 b.2], .agg #[.int .i64 at_.1, .int .i64 at_.2]] W (RetB W (binC c b at_) l (proB c b)) := by
 have HP := hH (fun (Y : World) (hY : Below W.heap.size W Y) => rpromise_any c l b Y (h.later hY))
 obtain ⟨x, y⟩ := b
 obtain ⟨u, v⟩ := at_
 generalize hv : binC c (x, y) (u, v) = cv
 have ho1 := slG_one h.o
 have hs1 := dlV_one h.s
 have hd1 := dlV_one h.d
 have hw1 := slG_one h.w
 have hp1 := slG_one h.p
 have HO1 := hH ho1
 have HS1 := hH hs1
 have HD1 := hH hd1
 have HW1 := hH hw1
 have HP1 := hH hp1
 clear ho1 hs1 hd1 hw1 hp1
 have HCA := hH h
 clear h
 obtain ⟨⟨id1, id2⟩, ops, phase, ⟨p1, p2⟩, ⟨v1, v2⟩, fast, seen, ⟨b1, b2⟩, has, ⟨q1, q2⟩, ⟨gone, ⟨t1, t2⟩, deps⟩, ready, writes, pairs⟩ := c
 obtain ⟨lo, ls, ld, lw, lp⟩ := l
 simp only [cmV] at HP
 simp only at HO1 HS1 HD1 HW1 HP1
 simp only [cmV]
 have HONE : Hid (((r22 id1 id2 lo phase p1 p2 v1 v2 fast ls b1 b2 has q1 q2 gone t1 t2 ld ready lw lp) : Array Value).all (·.oneCell') = true) := (by show _ = _; simp [Value.oneCell']; exact ⟨HO1.out, HS1.out, HD1.out, HW1.out, HP1.out⟩)
 clear HO1 HS1 HD1 HW1 HP1
 have HN := hH (fun i o (h : ([(.cells (r22 id1 id2 lo phase p1 p2 v1 v2 fast ls b1 b2 has q1 q2 gone t1 t2 ld ready lw lp) 31), (.cells #[.int .i64 x, .int .i64 y] 23), (.cells #[.int .i64 u, .int .i64 v] 23), (.cells z22 31)] : List Obj)[i]? = some o) => nth_box W [(.cells (r22 id1 id2 lo phase p1 p2 v1 v2 fast ls b1 b2 has q1 q2 gone t1 t2 ld ready lw lp) 31), (.cells #[.int .i64 x, .int .i64 y] 23), (.cells #[.int .i64 u, .int .i64 v] 23), (.cells z22 31)] i o h)
 have hWN : Hid (((((W.alloc (.cells (r22 id1 id2 lo phase p1 p2 v1 v2 fast ls b1 b2 has q1 q2 gone t1 t2 ld ready lw lp) 31)).alloc (.cells #[.int .i64 x, .int .i64 y] 23)).alloc (.cells #[.int .i64 u, .int .i64 v] 23)).alloc (.cells z22 31)).heap.size = W.heap.size + 4) := (HN.out 0 _ rfl).2.symm
 have Kc0 : Hid (((((W.alloc (.cells (r22 id1 id2 lo phase p1 p2 v1 v2 fast ls b1 b2 has q1 q2 gone t1 t2 ld ready lw lp) 31)).alloc (.cells #[.int .i64 x, .int .i64 y] 23)).alloc (.cells #[.int .i64 u, .int .i64 v] 23)).alloc (.cells z22 31)).heap[W.heap.size]? = some (.cells (r22 id1 id2 lo phase p1 p2 v1 v2 fast ls b1 b2 has q1 q2 gone t1 t2 ld ready lw lp) 31 (0, 0))) := (HN.out 0 _ rfl).1
 have Jc : Hid (∀ Y, Below ((((W.alloc (.cells (r22 id1 id2 lo phase p1 p2 v1 v2 fast ls b1 b2 has q1 q2 gone t1 t2 ld ready lw lp) 31)).alloc (.cells #[.int .i64 x, .int .i64 y] 23)).alloc (.cells #[.int .i64 u, .int .i64 v] 23)).alloc (.cells z22 31)).heap.size ((((W.alloc (.cells (r22 id1 id2 lo phase p1 p2 v1 v2 fast ls b1 b2 has q1 q2 gone t1 t2 ld ready lw lp) 31)).alloc (.cells #[.int .i64 x, .int .i64 y] 23)).alloc (.cells #[.int .i64 u, .int .i64 v] 23)).alloc (.cells z22 31)) Y → Y.heap[W.heap.size]? = some (.cells (r22 id1 id2 lo phase p1 p2 v1 v2 fast ls b1 b2 has q1 q2 gone t1 t2 ld ready lw lp) 31 (0, 0))) := fun Y hY => (hY.block W.heap.size (by rw [hWN.out]; omega)).trans Kc0.out
 have Kb0 : Hid (((((W.alloc (.cells (r22 id1 id2 lo phase p1 p2 v1 v2 fast ls b1 b2 has q1 q2 gone t1 t2 ld ready lw lp) 31)).alloc (.cells #[.int .i64 x, .int .i64 y] 23)).alloc (.cells #[.int .i64 u, .int .i64 v] 23)).alloc (.cells z22 31)).heap[(W.heap.size + 1)]? = some (.cells #[.int .i64 x, .int .i64 y] 23 (0, 0))) := (HN.out 1 _ rfl).1
 have Jb : Hid (∀ Y, Below ((((W.alloc (.cells (r22 id1 id2 lo phase p1 p2 v1 v2 fast ls b1 b2 has q1 q2 gone t1 t2 ld ready lw lp) 31)).alloc (.cells #[.int .i64 x, .int .i64 y] 23)).alloc (.cells #[.int .i64 u, .int .i64 v] 23)).alloc (.cells z22 31)).heap.size ((((W.alloc (.cells (r22 id1 id2 lo phase p1 p2 v1 v2 fast ls b1 b2 has q1 q2 gone t1 t2 ld ready lw lp) 31)).alloc (.cells #[.int .i64 x, .int .i64 y] 23)).alloc (.cells #[.int .i64 u, .int .i64 v] 23)).alloc (.cells z22 31)) Y → Y.heap[(W.heap.size + 1)]? = some (.cells #[.int .i64 x, .int .i64 y] 23 (0, 0))) := fun Y hY => (hY.block (W.heap.size + 1) (by rw [hWN.out]; omega)).trans Kb0.out
 have Ka0 : Hid (((((W.alloc (.cells (r22 id1 id2 lo phase p1 p2 v1 v2 fast ls b1 b2 has q1 q2 gone t1 t2 ld ready lw lp) 31)).alloc (.cells #[.int .i64 x, .int .i64 y] 23)).alloc (.cells #[.int .i64 u, .int .i64 v] 23)).alloc (.cells z22 31)).heap[(W.heap.size + 2)]? = some (.cells #[.int .i64 u, .int .i64 v] 23 (0, 0))) := (HN.out 2 _ rfl).1
 have Ja : Hid (∀ Y, Below ((((W.alloc (.cells (r22 id1 id2 lo phase p1 p2 v1 v2 fast ls b1 b2 has q1 q2 gone t1 t2 ld ready lw lp) 31)).alloc (.cells #[.int .i64 x, .int .i64 y] 23)).alloc (.cells #[.int .i64 u, .int .i64 v] 23)).alloc (.cells z22 31)).heap.size ((((W.alloc (.cells (r22 id1 id2 lo phase p1 p2 v1 v2 fast ls b1 b2 has q1 q2 gone t1 t2 ld ready lw lp) 31)).alloc (.cells #[.int .i64 x, .int .i64 y] 23)).alloc (.cells #[.int .i64 u, .int .i64 v] 23)).alloc (.cells z22 31)) Y → Y.heap[(W.heap.size + 2)]? = some (.cells #[.int .i64 u, .int .i64 v] 23 (0, 0))) := fun Y hY => (hY.block (W.heap.size + 2) (by rw [hWN.out]; omega)).trans Ka0.out
 have Kr0 : Hid (((((W.alloc (.cells (r22 id1 id2 lo phase p1 p2 v1 v2 fast ls b1 b2 has q1 q2 gone t1 t2 ld ready lw lp) 31)).alloc (.cells #[.int .i64 x, .int .i64 y] 23)).alloc (.cells #[.int .i64 u, .int .i64 v] 23)).alloc (.cells z22 31)).heap[(W.heap.size + 3)]? = some (.cells z22 31 (0, 0))) := (HN.out 3 _ rfl).1
 have Jr : Hid (∀ Y, Below ((((W.alloc (.cells (r22 id1 id2 lo phase p1 p2 v1 v2 fast ls b1 b2 has q1 q2 gone t1 t2 ld ready lw lp) 31)).alloc (.cells #[.int .i64 x, .int .i64 y] 23)).alloc (.cells #[.int .i64 u, .int .i64 v] 23)).alloc (.cells z22 31)).heap.size ((((W.alloc (.cells (r22 id1 id2 lo phase p1 p2 v1 v2 fast ls b1 b2 has q1 q2 gone t1 t2 ld ready lw lp) 31)).alloc (.cells #[.int .i64 x, .int .i64 y] 23)).alloc (.cells #[.int .i64 u, .int .i64 v] 23)).alloc (.cells z22 31)) Y → Y.heap[(W.heap.size + 3)]? = some (.cells z22 31 (0, 0))) := fun Y hY => (hY.block (W.heap.size + 3) (by rw [hWN.out]; omega)).trans Kr0.out
 have HB0 : Hid (Below W.heap.size W ((((W.alloc (.cells (r22 id1 id2 lo phase p1 p2 v1 v2 fast ls b1 b2 has q1 q2 gone t1 t2 ld ready lw lp) 31)).alloc (.cells #[.int .i64 x, .int .i64 y] 23)).alloc (.cells #[.int .i64 u, .int .i64 v] 23)).alloc (.cells z22 31))) := hH (blAlloc (blAlloc (blAlloc (blAlloc (Below.refl _ _) _) _) _) _)
 clear HN
 unfold binC at hv
 cases hb : proB ⟨(id1, id2), ops, phase, (p1, p2), (v1, v2), fast, seen, (b1, b2), has, (q1, q2), (gone, (t1, t2), deps), ready, writes, pairs⟩ (x, y)
 ·have hpc : proC ⟨(id1, id2), ops, phase, (p1, p2), (v1, v2), fast, seen, (b1, b2), has, (q1, q2), (gone, (t1, t2), deps), ready, writes, pairs⟩ (x, y) = ⟨(id1, id2), ops, phase, (p1, p2), (v1, v2), fast, seen, (b1, b2), has, (q1, q2), (gone, (t1, t2), deps), ready, writes, pairs⟩ := by unfold proC; rw [hb]; rfl
  rw [hb] at HP hv
  rw [hpc] at HP
  simp only [Bool.false_eq_true, if_false] at hv
  subst hv
  clear hb hpc
  go_enter Tryz.func91, Tryz.ntmps91
  go_wp2_with (first | (first | go_skip | refine load9 _ rfl rfl _ rfl (S1.block_setCell (S1.block_setCell KC2.out _) _) rfl ?_ | refine load9 _ rfl rfl _ rfl KC.out rfl ?_ | refine load9 _ rfl rfl _ rfl Kc0.out rfl ?_) | (first | (refine store9 _ _ rfl rfl _ rfl rfl KrC.out rfl rfl (cm_one (c := ⟨(id1, id2), ops, phase, (p1, p2), (v1, v2), fast, seen, (b1, b2), has, (q1, q2), (gone, (t1, t2), deps), ready, writes, pairs⟩) (l := ⟨lo, ls, ld, lw, lp⟩) ⟨HCA.out.o, HCA.out.s, HCA.out.d, HCA.out.w, HCA.out.p⟩) ?_; intro wS hS1 hS2; have KS := hH hS1; have HGS := hH hS2; clear hS1 hS2)) | (first | (refine store9 _ _ rfl rfl _ rfl rfl Kc1.out rfl rfl (cm_one (c := ⟨(id1, id2), ops, phase, (p1, p2), (v1, v2), fast, seen, (b1, b2), has, (q1, q2), (gone, (t1, t2), deps), ready, writes, pairs⟩) (l := ⟨lo, ls, ld, lw, lp⟩) ⟨HCA.out.o, HCA.out.s, HCA.out.d, HCA.out.w, HCA.out.p⟩) ?_; intro wC hS1 hS2; have KC := hH hS1; have HGC := hH hS2; have hwC : w1.heap.size ≤ wC.heap.size := hS2.size; have KrC := hH (grown_other9 Kr1.out hS2 (by omega) (by omega)); have KaC := hH (grown_other9 Ka1.out hS2 (by omega) (by omega)); have HBC : Hid (Below W.heap.size W wC) := hH (below_grown9 HB1.out hS2 (Nat.le_refl _)); clear hS1 hS2)) | (go_at_call 90; go_must (refine (HP.out _ HB0.out).mono ?_; rintro e w1 ⟨rfl, h5⟩; have HY1 := hH h5; have Kc1 := hH (Jc.out _ HY1.out); have Ka1 := hH (Ja.out _ HY1.out); have Kr1 := hH (Jr.out _ HY1.out); have hw1 : W.heap.size + 4 ≤ w1.heap.size := (by have := HY1.out.size; have := hWN.out; omega); have HB1 : Hid (Below W.heap.size W w1) := hH (blThen HB0.out HY1.out); simp only [cmV]; clear h5)))
  refine bodyPost_ret (results_cell_tmp9 Tryz.results91 _ _ _ 31 _ (0, 0) _ rfl KS.out Tryz.underlying31 rfl szCmd) rfl ?_
  exact ⟨rfl, below_grown9 HBC.out HGS.out (by omega)⟩
 ·have hpc : proC ⟨(id1, id2), ops, phase, (p1, p2), (v1, v2), fast, seen, (b1, b2), has, (q1, q2), (gone, (t1, t2), deps), ready, writes, pairs⟩ (x, y) = ⟨(id1, id2), ops, phase, (x, y), (v1, v2), fast, seen, (b1, b2), has, (q1, q2), (gone, (t1, t2), deps), ready, writes, pairs⟩ := by unfold proC; rw [hb]; rfl
  rw [hb] at HP hv
  rw [hpc] at HP
  simp only [if_true] at hv
  subst hv
  clear hb hpc
  generalize hM : S1.maxL [(b1, b2), (u, v)] = M
  have HM := hH hM
  go_enter Tryz.func91, Tryz.ntmps91
  go_wp2_with (first | (first | go_skip | refine load9 _ rfl rfl _ rfl (S1.block_setCell (S1.block_setCell KC2.out _) _) rfl ?_ | refine load9 _ rfl rfl _ rfl KC.out rfl ?_ | refine load9 _ rfl rfl _ rfl Kc0.out rfl ?_) | (first | (refine store9 _ _ rfl rfl _ rfl rfl (set_other9 (set_other9 Kr2.out (by omega) _) (by omega) _) rfl rfl (cm_one (c := ⟨(id1, id2), ops, phase, (x, y), (v1, v2), fast, seen, M, has, (q1, q2), (gone, (t1, t2), deps), ready, writes, pairs⟩) (l := ⟨lo, ls, ld, lw, lp⟩) ⟨HCA.out.o, HCA.out.s, HCA.out.d, HCA.out.w, HCA.out.p⟩) ?_; intro wS hS1 hS2; have KS := hH hS1; have HGS := hH hS2; clear hS1 hS2)) | (first | (refine store9 _ _ rfl rfl _ rfl rfl Kc1.out rfl rfl (cm_one (c := ⟨(id1, id2), ops, phase, (x, y), (v1, v2), fast, seen, (b1, b2), has, (q1, q2), (gone, (t1, t2), deps), ready, writes, pairs⟩) (l := ⟨lo, ls, ld, lw, lp⟩) ⟨HCA.out.o, HCA.out.s, HCA.out.d, HCA.out.w, HCA.out.p⟩) ?_; intro wC hS1 hS2; have KC := hH hS1; have HGC := hH hS2; have hwC : w1.heap.size ≤ wC.heap.size := hS2.size; have KrC := hH (grown_other9 Kr1.out hS2 (by omega) (by omega)); have KaC := hH (grown_other9 Ka1.out hS2 (by omega) (by omega)); have HBC : Hid (Below W.heap.size W wC) := hH (below_grown9 HB1.out hS2 (Nat.le_refl _)); have cc10 := cell_row KC.out 10 _ rfl; have fc10 := frozen_row KC.out 10; have cc11 := cell_row KC.out 11 _ rfl; have fc11 := frozen_row KC.out 11; have ca0 := cell_row KaC.out 0 _ rfl; have ca1 := cell_row KaC.out 1 _ rfl; clear hS1 hS2)) | (go_at_call 84; go_must (refine (S1.refmax_any _ 2 [(b1, b2), (u, v)] _ (by simp) (sl_new2 wC b1 b2 u v _)).mono ?_; rw [HM.out]; rintro e w2 ⟨rfl, h5⟩; have h6 := blThen (blAlloc (Below.refl _ _) _) h5; have hw2 := h6.size; have KC2 := hH ((h6.block W.heap.size (by omega)).trans KC.out); have Kr2 := hH ((h6.block (W.heap.size + 3) (by omega)).trans KrC.out); have cd10 := cell_row KC2.out 10 _ rfl; have fd10 := frozen_row KC2.out 10; have cd11 := cell_row KC2.out 11 _ rfl; have fd11 := frozen_row KC2.out 11; have HB2 : Hid (Below W.heap.size W w2) := hH (blThen HBC.out h6); clear h5 h6)) | (go_at_call 90; go_must (refine (HP.out _ HB0.out).mono ?_; rintro e w1 ⟨rfl, h5⟩; have HY1 := hH h5; have Kc1 := hH (Jc.out _ HY1.out); have Ka1 := hH (Ja.out _ HY1.out); have Kr1 := hH (Jr.out _ HY1.out); have hw1 : W.heap.size + 4 ≤ w1.heap.size := (by have := HY1.out.size; have := hWN.out; omega); have HB1 : Hid (Below W.heap.size W w1) := hH (blThen HB0.out HY1.out); simp only [cmV]; clear h5)))
  refine bodyPost_ret (results_cell_tmp9 Tryz.results91 _ _ _ 31 _ (0, 0) _ rfl KS.out Tryz.underlying31 rfl szCmd) rfl ?_
  exact ⟨rfl, below_grown9 (blSet (blSet HB2.out (Nat.le_refl _) _) (Nat.le_refl _) _) HGS.out (by omega)⟩
end SC
end Go.Proofs.YtgipkikedacmdaaGreat
