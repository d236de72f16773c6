/- lay: things laid by a pen and by hand are the same bytes. Conditions: things that are few and light enough. -/
import Derived.Test.YtjojjpfjennnoaaGc
namespace Go.Proofs.Ytjojjpfjennnoaa
open Go.ChangeShapes Go.WideShapes Go.ChangeAt Go.RowKit Go.Joins Go.Deep

/-- A thing's bytes. -/
def layB (x : Th) : List UInt8 := if x.k = 0 then i8 x.n else if x.k = 1 then tx x.s else if x.k = 2 then tb x.b else if x.k = 3 then st x.t else if x.k = 4 then sts x.l else []
theorem layB_len (x : Th) : (layB x).length ≤ 16 + wt x := by
  have h1 := i8_length x.n
  have h2 := tx_length x.s
  have h3 : (tb x.b).length = 1 := low_length _ _
  have h4 := st_length x.t
  have h5 := sts_len x.l
  unfold layB wt
  split
  · omega
  · split
    · omega
    · split
      · omega
      · split
        · omega
        · split
          · omega
          · simp
theorem lay_len (l : List Th) : (l.flatMap layB).length ≤ 16 * l.length + wsum l := by
  induction l with
  | nil => simp
  | cons x r ih =>
    have := layB_len x
    rw [List.flatMap_cons, List.length_append, List.length_cons]
    simp only [wsum]
    omega
theorem wsum_prefix (l : List Th) (j : Nat) : wsum (l.take j) ≤ wsum l := by
  have h := wsum_append (l.take j) (l.drop j)
  rw [List.take_append_drop] at h
  omega

/-- A pen and a row that hold the same bytes, apart from each other. -/
structure Lay (w : World) (S : Nat) (rp rb : Option Nat) (v : Value) (L : List UInt8) : Prop where
  pen : PenAt w S rp L
  row : Row w rb v L
  pr : ∀ k, rp = some k → S < k
  br : ∀ k, rb = some k → S < k
  ap : ∀ k, rp = some k → rb ≠ some k
theorem Lay.before {w x : World} {S : Nat} {rp rb : Option Nat} {v : Value} {L : List UInt8} (h : Lay w S rp rb v L) (k : Keeps (fun _ => False) w x) : Lay x S rp rb v L :=
  ⟨h.pen.before k, h.row.before k, h.pr, h.br, h.ap⟩
/-- The pen has laid, the row not yet. -/
structure Mid (w : World) (S : Nat) (rp rb : Option Nat) (v : Value) (L M : List UInt8) : Prop where
  pen : PenAt w S rp M
  row : Row w rb v L
  pr : ∀ k, rp = some k → S < k
  br : ∀ k, rb = some k → S < k
  ap : ∀ k, rp = some k → rb ≠ some k
theorem Lay.mid {w w2 : World} {S : Nat} {rp rp' rb : Option Nat} {v : Value} {L M : List UInt8} (h : Lay w S rp rb v L) (hp : PenAt w2 S rp' M) (hs : PenStep S rp rp' w w2) : Mid w2 S rp' rb v L M := by
  have hS := h.pen.lt
  refine ⟨hp, h.row.keep hs.keeps fun x hx e => ?_, fun k hk => ?_, h.br, fun k hk hb => ?_⟩
  · rcases e with e | e
    · have := h.br x hx; omega
    · exact h.ap x e hx
  · rcases hs.row with e | e
    · exact h.pr k (by rw [← e]; exact hk)
    · have := e k hk; omega
  · rcases hs.row with e | e
    · exact h.ap k (by rw [← e]; exact hk) hb
    · have h1 := e k hk
      have h2 := h.row.lt hb
      omega
theorem Mid.lay {w w3 : World} {S : Nat} {rp rb rb' : Option Nat} {v v' : Value} {L M : List UInt8} (h : Mid w S rp rb v L M) (hr : Row w3 rb' v' M) (hs : RowStep rb rb' w w3) : Lay w3 S rp rb' v' M := by
  have hS := h.pen.lt
  refine ⟨h.pen.keep hs.keeps (fun e => by have := h.br _ e; omega) (fun x hx e => h.ap x hx e), hr, h.pr, fun k hk => ?_, fun k hk hb => ?_⟩
  · rcases hs.row with e | e
    · exact h.br k (by rw [← e]; exact hk)
    · have := e k hk; omega
  · rcases hs.row with e | e
    · exact h.ap k hk (by rw [← e]; exact hb)
    · have h1 := e k hb
      have h2 := h.pen.rowLt hk
      omega

theorem SL.cells {w : World} {g : Nat} {b : Addr} {l : List (Int × Int)} (h : SL w g (some b) l) : ∀ (j : Nat) (u : Value), (cellsL l)[j]? = some u → w.cell? (b.add j) = some u := by
  intro j u hj
  have hlt : j < l.length * 2 := by
    have := (List.getElem?_eq_some_iff.1 hj).1
    rwa [cellsL_length] at this
  obtain ⟨⟨x, y⟩, hxy⟩ := get_lt (l := l) (j := j / 2) (by omega)
  obtain ⟨o, hb, hc⟩ := h (not_nil (j := j / 2) (by omega))
  simp only [Option.some.injEq] at hb
  subst hb
  obtain ⟨c1, c2⟩ := cellsL_at l (j / 2) x y hxy
  obtain ⟨h1, h2⟩ := hc (j / 2) x y hxy
  rw [Go.WideShapes.add_plain]
  rcases Nat.mod_two_eq_zero_or_one j with hm | hm
  · have e : j / 2 * 2 = j := by omega
    rw [e] at c1 h1
    rw [h1, ← c1, hj]
  · have e : j / 2 * 2 + 1 = j := by omega
    rw [e] at c2
    rw [show o + j / 2 * 2 + 1 = o + j by omega] at h2
    rw [h2, ← c2, hj]
/-- append of stamps to an empty list of the call's own. -/
theorem app_sts {w : World} {X g : Nat} {a : Option Addr} {c : Nat} {l : List (Int × Int)} (hl : SL w g a l) (hna : a = none → l = []) (hlen : l.length ≤ 400000) (ty : TypeId) :
    ∃ a' c' w' g', (Builtin.append_ #[52, 52] ty #[.slice (some ⟨X, 0, none⟩) 0 0, .slice a l.length c]).run Try.prog w = .ok (.slice a' l.length c') w' ∧ SL w' g' a' l ∧ Keeps (fun _ => False) w w' ∧ (g' = X ∨ (w.heap.size ≤ g' ∧ g' < w'.heap.size)) := by
  obtain ⟨i0, hi, hz0, hz1, hz2⟩ := info_parts info_st
  have hsrc : Src Try.prog i0.size 52 (.slice a l.length c) l.length (cellsL l) w := by
    rw [hz1]
    cases a with
    | none =>
      obtain rfl := hna rfl
      exact Src.ofNil w Try.underlying52 c
    | some a => exact Src.ofSlice w Try.underlying52 a l.length c (cellsL l) (cellsL_length l) hl.cells (cellsL_one l)
  by_cases hne : l = []
  · subst hne
    exact ⟨_, _, w, X, run_append_nothing w 52 52 ty 49 i0 Try.underlying52 hi (some ⟨X, 0, none⟩) 0 0 (Nat.le_refl _) _ hsrc, fun h => absurd rfl h, Keeps.refl _ _, .inl rfl⟩
  · have hpos : 0 < l.length := List.length_pos_iff.2 hne
    have hold : (Builtin.firstCells i0.size 0 (.slice (some ⟨X, 0, none⟩) 0 0)).run Try.prog w.drew = .ok ([] : List Value).toArray w.drew := run_firstCells_some (P := Try.prog) w.drew i0.size 0 ⟨X, 0, none⟩ 0 0 [] (by simp) (fun j u h => by simp at h)
    have hrun := run_append_grow_src w 52 52 ty 49 i0 (.agg #[.int .i64 0, .int .i64 0]) Try.underlying52 hi hz0 (some ⟨X, 0, none⟩) 0 0 [] hold _ l.length (cellsL l) hsrc (by omega) (by omega) (growslice_fits (by omega) (by rw [hz2]; omega))
    rw [Nat.zero_add] at hrun
    refine ⟨_, _, _, w.heap.size, hrun, fun _ => ⟨0, rfl, fun j x y hj => ?_⟩, (Keeps.drew _ _).then (Keeps.alloc _ _ _), .inr ⟨Nat.le_refl _, by simp⟩⟩
    obtain ⟨c1, c2⟩ := cellsL_at l j x y hj
    have hjl := (List.getElem?_eq_some_iff.1 hj).1
    have hll := cellsL_length l
    have hcell := cell_of_row _ w.heap.size (j * 2) _ _ _ (heap_alloc_new w.drew (.cells ((([] : List Value) ++ cellsL l).toArray ++ Builtin.zeroCells (Value.agg #[Value.int .i64 0, Value.int .i64 0]).cells (grownCap w l.length 0 49 - l.length)) 49))
    have hcell2 := cell_of_row _ w.heap.size (j * 2 + 1) _ _ _ (heap_alloc_new w.drew (.cells ((([] : List Value) ++ cellsL l).toArray ++ Builtin.zeroCells (Value.agg #[Value.int .i64 0, Value.int .i64 0]).cells (grownCap w l.length 0 49 - l.length)) 49))
    constructor
    · rw [Nat.zero_add]
      refine hcell.trans ?_
      rw [Array.getElem?_append_left (by simp; omega)]
      simpa using c1
    · rw [Nat.zero_add]
      refine hcell2.trans ?_
      rw [Array.getElem?_append_left (by simp; omega)]
      simpa using c2
theorem wpList_app_sts {w : World} {ops : Array Oper} {rest : List Oper} {o : Oper} {a : Act} {Q : Exit → Act → World → Prop} (hgd : o.guard = none) (s x : Operand)
    (ho : o.op = .call { callee := .builtin .append, args := #[s, x], argTypes := #[52, 52] }) {X g : Nat} {b : Option Addr} {c : Nat} {l : List (Int × Int)} (hs : a.eval s = .slice (some ⟨X, 0, none⟩) 0 0) (hx : a.eval x = .slice b l.length c)
    (hl : SL w g b l) (hna : b = none → l = []) (hlen : l.length ≤ 400000)
    (h : ∀ a' c' w' g', SL w' g' a' l → Keeps (fun _ => False) w w' → (g' = X ∨ (w.heap.size ≤ g' ∧ g' < w'.heap.size)) → wpList Try.prog ops Q rest (a.put o.dst (.slice a' l.length c')) w') : wpList Try.prog ops Q (o :: rest) a w := by
  obtain ⟨a', c', w', g', hrun, h1, h2, h3⟩ := app_sts (X := X) (c := c) hl hna hlen o.type
  refine wpList_plain hgd fun K hK => ?_
  unfold Oper.wp
  simp [execOp, ho, resolve, invoke, builtin, hs, hx, hrun, Result.andThen]
  exact hK _ _ (h a' c' w' g' h1 h2 h3)

theorem stamp_newG (w : World) (x y : Int) (b : Nat) (hb : b = w.heap.size) (W : World) (hW : W.heap = (w.alloc (.cells #[.int .i64 x, .int .i64 y] 49)).heap) : SL W b (some ⟨b, 0, none⟩) [(x, y)] := by
  subst hb
  have h : W.heap[w.heap.size]? = some (.cells #[.int .i64 x, .int .i64 y] 49 (0, 0)) := by rw [hW]; exact heap_alloc_new w _
  intro _
  refine ⟨0, rfl, fun j p q hz => ?_⟩
  match j, hz with
  | 0, hz =>
    simp only [List.getElem?_cons_zero, Option.some.injEq, Prod.mk.injEq] at hz
    obtain ⟨rfl, rfl⟩ := hz
    exact ⟨by rw [cell_of_row W _ _ _ _ _ h]; rfl, by rw [cell_of_row W _ _ _ _ _ h]; rfl⟩
theorem SL.later {w x : World} {g : Nat} {a : Option Addr} {l : List (Int × Int)} (h : SL w g a l) (hg : l ≠ [] → g < w.heap.size) (hb : Below w.heap.size w x) : SL x g a l := by
  intro hne
  exact h.keep (ofB (S := fun k => w.heap.size ≤ k) hb) (fun e => by have := hg hne; omega) hne
theorem SL.low {w x : World} {g : Nat} {a : Option Addr} {l : List (Int × Int)} (h : SL w g a l) (hg : l ≠ [] → g < w.heap.size) (hb : Below w.heap.size w x) : ∃ g', SL x g' a l ∧ g' ≤ w.heap.size := by
  by_cases hne : l = []
  · subst hne; exact ⟨0, fun h => absurd rfl h, Nat.zero_le _⟩
  · exact ⟨g, h.later hg hb, Nat.le_of_lt (hg hne)⟩
theorem SL.nil_of {w : World} {g : Nat} {a : Option Addr} {l : List (Int × Int)} (h : SL w g a l) (ha : a = none) : l = [] := by
  apply Classical.byContradiction
  intro hne
  obtain ⟨_, h, _⟩ := h hne
  rw [ha] at h
  cases h

/-- What lay comes to. -/
def LaidBoth (w : World) (L : List UInt8) (e : Ending) (w' : World) : Prop :=
  ∃ v1 g1 v2 g2, e = .returned (.tuple #[v1, v2]) ∧ Row w' g1 v1 L ∧ Row w' g2 v2 L ∧ New w g1 ∧ New w g2 ∧ Below w.heap.size w w'

set_option maxRecDepth 100000 in
set_option maxHeartbeats 8000000 in
theorem lay_any (w : World) (g : Nat) (a : Option Addr) (c : Nat) (l : List Th) (hm : l.length ≤ 60) (hw : wsum l ≤ 20000) (hl : Ths w g a l) :
    Calls Try.prog 14 #[.slice a l.length c] w (LaidBoth w (l.flatMap layB)) := by
  have HL := Lib.hid hl
  clear hl
  go_enter Try.func14, Try.ntmps14
  go_wp2_with fail
  go_loopw [5, 6] (fun v i wr => ∃ j : Nat, j ≤ l.length ∧ i = .int .i64 j ∧ ∃ rp rb, Lay wr w.heap.size rp rb v ((l.take j).flatMap layB) ∧ Below w.heap.size w wr) (fun _ i _ => l.length - (intOf i).toNat)
  case atStart => exact ⟨0, Nat.zero_le _, rfl, none, none, ⟨pen_new w, Row.nil _, (fun _ h => by cases h), (fun _ h => by cases h), (fun _ h => by cases h)⟩, (Below.refl _ _).alloc (Nat.le_refl _) _⟩
  case round =>
    obtain ⟨j, hj, rfl, rp, rb, hlay, hb⟩ := hrel
    have HB := Lib.hid hb
    obtain ⟨av, nv, cv, rfl⟩ := hlay.row.form
    have HY := Lib.hid hlay
    clear hb hlay
    by_cases hlt : j < l.length
    · obtain ⟨x, hx⟩ := get_lt hlt
      obtain ⟨hg, o, rfl, hall⟩ := HL.out (not_nil hlt)
      obtain ⟨hat, hok, hsl, hsg⟩ := hall j x hx
      have hat' := hat.later HB.out hg
      have q0 := hat'.k
      have q1 := hat'.n
      have q2 := hat'.s
      have q3 := hat'.b
      have q4 := hat'.t1
      have q5 := hat'.t2
      have q6 := hat'.l
      have hwx := wsum_mem l hx
      unfold wt at hwx
      have hs1 : x.s.size ≤ 20000 := by omega
      have hl1 : x.l.length ≤ 1250 := by omega
      have HLN : Hid (((l.take j).flatMap layB).length ≤ 30000) := by
        have h1 := lay_len (l.take j)
        have h2 := wsum_prefix l j
        rw [List.length_take] at h1
        show _ ≤ _
        omega
      have HLE : Hid ((l.take j).flatMap layB ++ layB x = (l.take (j + 1)).flatMap layB) := (take_flat layB l hx).symm
      have HSL := Lib.hid hsl
      have HSG := Lib.hid hsg
      generalize (l.take j).flatMap layB = L at HY HLN HLE
      clear hall hat hat' hok hx hsl hsg hwx
      obtain ⟨k, n, s, b, ⟨t1, t2⟩, xl, xa, xc, xg⟩ := x
      simp only at q0 q1 q2 q3 q4 q5 q6 hs1 hl1
      have hX : (wr.alloc (Obj.cells #[Value.int IntKind.i64 k, Value.int IntKind.i64 n, Value.string s, Value.bool b, Value.int IntKind.i64 t1, Value.int IntKind.i64 t2, Value.slice xa xl.length xc] 62)).heap[wr.heap.size]? = some (.cells #[Value.int IntKind.i64 k, Value.int IntKind.i64 n, Value.string s, Value.bool b, Value.int IntKind.i64 t1, Value.int IntKind.i64 t2, Value.slice xa xl.length xc] 62 (0, 0)) := heap_alloc_new wr _
      have HX := Lib.hid hX
      have HSR := Lib.hid HB.out.size
      clear hX
      by_cases k0 : k = 0
      · subst k0
        have HTL : Hid (layB ⟨0, n, s, b, (t1, t2), xl, xa, xc, xg⟩ = i8 n) := by show _ = _; simp [layB]
        rw [HTL.out] at HLE
        go_wp2_with fail
        have HK1 : Hid (Keeps (fun _ => False) wr (wr.alloc (Obj.cells #[Value.int IntKind.i64 0, Value.int IntKind.i64 n, Value.string s, Value.bool b, Value.int IntKind.i64 t1, Value.int IntKind.i64 t2, Value.slice xa xl.length xc] 62))) := Keeps.alloc _ _ _
        have HSZ : Hid ((wr.alloc (Obj.cells #[Value.int IntKind.i64 0, Value.int IntKind.i64 n, Value.string s, Value.bool b, Value.int IntKind.i64 t1, Value.int IntKind.i64 t2, Value.slice xa xl.length xc] 62)).heap.size = wr.heap.size + 1) := by show _ = _; simp
        generalize wr.alloc (Obj.cells #[Value.int IntKind.i64 0, Value.int IntKind.i64 n, Value.string s, Value.bool b, Value.int IntKind.i64 t1, Value.int IntKind.i64 t2, Value.slice xa xl.length xc] 62) = W1 at *
        have hY1 := HY.out.before HK1.out
        refine (int_any _ w.heap.size rp L (wr.heap.size + 1) _ 1 [n] (hY1.pen.before (Keeps.alloc _ _ _)) (one_new W1 n _ HSZ.out.symm _ rfl) (by have h := hY1.pen.apart (g := wr.heap.size + 1) (Nat.le_of_eq HSZ.out); exact h) (by have := HLN.out; simp; omega)).mono ?_
        rintro e w2 ⟨rfl, rp2, hp2', hs2'⟩
        have hs2 := hs2'.before (w := wr) (HK1.out.then (Keeps.alloc _ _ _))
        have hp2 : PenAt w2 w.heap.size rp2 (L ++ i8 n) := by simpa using hp2'
        rw [HLE.out] at hp2
        have HM := Lib.hid (HY.out.mid hp2 hs2)
        have hX2 := (hs2'.keeps.block wr.heap.size (by rw [World.size_alloc, HSZ.out]; omega) (HY.out.pen.apart (Nat.le_refl _))).trans ((Below.heap_alloc _ _ _ (by rw [HSZ.out]; omega)).trans HX.out)
        have HB2 : Hid (Below w.heap.size w w2) := HB.out.trans (hs2.below HSR.out (Nat.le_refl _) (fun q hq => Nat.le_of_lt (HY.out.pr q hq)))
        have x1 : w2.cell? ⟨wr.heap.size, 1, none⟩ = some (.int .i64 n) := by rw [cell_of_row _ _ _ _ _ _ hX2]; rfl
        clear hX2 hp2 hp2' hs2 hs2' hY1
        go_wp2_with fail
        refine (rint_any _ rb _ L n HM.out.row (by have := HLN.out; omega)).mono ?_
        rintro e w3 ⟨v3, rb3, rfl, h1, h2⟩
        obtain ⟨a3, n3, c3, rfl⟩ := h1.form
        rw [HLE.out] at h1
        have HY3 := Lib.hid (HM.out.lay h1 h2)
        have HB3 : Hid (Below w.heap.size w w3) := HB2.out.trans (h2.below HB2.out.size (fun q hq => Nat.le_of_lt (HY.out.br q hq)))
        clear h1 h2
        go_wp2
        go_roundw
        case rel => exact ⟨j + 1, hlt, by go_num, rp2, rb3, HY3.out, HB3.out⟩
        case measure => simp [intOf]; omega
      · skip
        by_cases k1 : k = 1
        · subst k1
          have HTL : Hid (layB ⟨1, n, s, b, (t1, t2), xl, xa, xc, xg⟩ = tx s) := by show _ = _; simp [layB]
          rw [HTL.out] at HLE
          go_wp2_with fail
          have HK1 : Hid (Keeps (fun _ => False) wr (wr.alloc (Obj.cells #[Value.int IntKind.i64 1, Value.int IntKind.i64 n, Value.string s, Value.bool b, Value.int IntKind.i64 t1, Value.int IntKind.i64 t2, Value.slice xa xl.length xc] 62))) := Keeps.alloc _ _ _
          have HSZ : Hid ((wr.alloc (Obj.cells #[Value.int IntKind.i64 1, Value.int IntKind.i64 n, Value.string s, Value.bool b, Value.int IntKind.i64 t1, Value.int IntKind.i64 t2, Value.slice xa xl.length xc] 62)).heap.size = wr.heap.size + 1) := by show _ = _; simp
          generalize wr.alloc (Obj.cells #[Value.int IntKind.i64 1, Value.int IntKind.i64 n, Value.string s, Value.bool b, Value.int IntKind.i64 t1, Value.int IntKind.i64 t2, Value.slice xa xl.length xc] 62) = W1 at *
          have hY1 := HY.out.before HK1.out
          refine (text_any _ w.heap.size rp L (wr.heap.size + 1) _ 1 [s] (hY1.pen.before (Keeps.alloc _ _ _)) (text_new W1 s _ HSZ.out.symm _ rfl) (by have h := hY1.pen.apart (g := wr.heap.size + 1) (Nat.le_of_eq HSZ.out); exact h) (fun i y hy => by match i, hy with | 0, hy => simp at hy; subst hy; omega) (by simp) (by have := HLN.out; simp [txSum]; omega)).mono ?_
          rintro e w2 ⟨rfl, rp2, hp2', hs2'⟩
          have hs2 := hs2'.before (w := wr) (HK1.out.then (Keeps.alloc _ _ _))
          have hp2 : PenAt w2 w.heap.size rp2 (L ++ tx s) := by simpa using hp2'
          rw [HLE.out] at hp2
          have HM := Lib.hid (HY.out.mid hp2 hs2)
          have hX2 := (hs2'.keeps.block wr.heap.size (by rw [World.size_alloc, HSZ.out]; omega) (HY.out.pen.apart (Nat.le_refl _))).trans ((Below.heap_alloc _ _ _ (by rw [HSZ.out]; omega)).trans HX.out)
          have HB2 : Hid (Below w.heap.size w w2) := HB.out.trans (hs2.below HSR.out (Nat.le_refl _) (fun q hq => Nat.le_of_lt (HY.out.pr q hq)))
          have x2 : w2.cell? ⟨wr.heap.size, 2, none⟩ = some (.string s) := by rw [cell_of_row _ _ _ _ _ _ hX2]; rfl
          clear hX2 hp2 hp2' hs2 hs2' hY1
          go_wp2_with fail
          refine (rtext_any _ rb _ L s HM.out.row (by omega) (by have := HLN.out; omega)).mono ?_
          rintro e w3 ⟨v3, rb3, rfl, h1, h2⟩
          obtain ⟨a3, n3, c3, rfl⟩ := h1.form
          rw [HLE.out] at h1
          have HY3 := Lib.hid (HM.out.lay h1 h2)
          have HB3 : Hid (Below w.heap.size w w3) := HB2.out.trans (h2.below HB2.out.size (fun q hq => Nat.le_of_lt (HY.out.br q hq)))
          clear h1 h2
          go_wp2
          go_roundw
          case rel => exact ⟨j + 1, hlt, by go_num, rp2, rb3, HY3.out, HB3.out⟩
          case measure => simp [intOf]; omega
        · skip
          by_cases k2 : k = 2
          · subst k2
            have HTL : Hid (layB ⟨2, n, s, b, (t1, t2), xl, xa, xc, xg⟩ = tb b) := by show _ = _; simp [layB]
            rw [HTL.out] at HLE
            go_wp2_with fail
            have HK1 : Hid (Keeps (fun _ => False) wr (wr.alloc (Obj.cells #[Value.int IntKind.i64 2, Value.int IntKind.i64 n, Value.string s, Value.bool b, Value.int IntKind.i64 t1, Value.int IntKind.i64 t2, Value.slice xa xl.length xc] 62))) := Keeps.alloc _ _ _
            have HSZ : Hid ((wr.alloc (Obj.cells #[Value.int IntKind.i64 2, Value.int IntKind.i64 n, Value.string s, Value.bool b, Value.int IntKind.i64 t1, Value.int IntKind.i64 t2, Value.slice xa xl.length xc] 62)).heap.size = wr.heap.size + 1) := by show _ = _; simp
            generalize wr.alloc (Obj.cells #[Value.int IntKind.i64 2, Value.int IntKind.i64 n, Value.string s, Value.bool b, Value.int IntKind.i64 t1, Value.int IntKind.i64 t2, Value.slice xa xl.length xc] 62) = W1 at *
            have hY1 := HY.out.before HK1.out
            refine (bool_any _ w.heap.size rp L b hY1.pen (by have := HLN.out; omega)).mono ?_
            rintro e w2 ⟨rfl, rp2, hp2', hs2'⟩
            have hs2 := hs2'.before (w := wr) HK1.out
            have hp2 : PenAt w2 w.heap.size rp2 (L ++ tb b) := by simpa using hp2'
            rw [HLE.out] at hp2
            have HM := Lib.hid (HY.out.mid hp2 hs2)
            have hX2 := (hs2'.keeps.block wr.heap.size (by rw [HSZ.out]; omega) (HY.out.pen.apart (Nat.le_refl _))).trans HX.out
            have HB2 : Hid (Below w.heap.size w w2) := HB.out.trans (hs2.below HSR.out (Nat.le_refl _) (fun q hq => Nat.le_of_lt (HY.out.pr q hq)))
            have x3 : w2.cell? ⟨wr.heap.size, 3, none⟩ = some (.bool b) := by rw [cell_of_row _ _ _ _ _ _ hX2]; rfl
            clear hX2 hp2 hp2' hs2 hs2' hY1
            go_wp2_with fail
            refine (rbool_any _ rb _ L b HM.out.row (by have := HLN.out; omega)).mono ?_
            rintro e w3 ⟨v3, rb3, rfl, h1, h2⟩
            obtain ⟨a3, n3, c3, rfl⟩ := h1.form
            rw [HLE.out] at h1
            have HY3 := Lib.hid (HM.out.lay h1 h2)
            have HB3 : Hid (Below w.heap.size w w3) := HB2.out.trans (h2.below HB2.out.size (fun q hq => Nat.le_of_lt (HY.out.br q hq)))
            clear h1 h2
            go_wp2
            go_roundw
            case rel => exact ⟨j + 1, hlt, by go_num, rp2, rb3, HY3.out, HB3.out⟩
            case measure => simp [intOf]; omega
          · skip
            by_cases k3 : k = 3
            · subst k3
              have HTL : Hid (layB ⟨3, n, s, b, (t1, t2), xl, xa, xc, xg⟩ = st (t1, t2)) := by show _ = _; simp [layB]
              rw [HTL.out] at HLE
              go_wp2_with fail
              have HK1 : Hid (Keeps (fun _ => False) wr (wr.alloc (Obj.cells #[Value.int IntKind.i64 3, Value.int IntKind.i64 n, Value.string s, Value.bool b, Value.int IntKind.i64 t1, Value.int IntKind.i64 t2, Value.slice xa xl.length xc] 62))) := Keeps.alloc _ _ _
              have HSZ : Hid ((wr.alloc (Obj.cells #[Value.int IntKind.i64 3, Value.int IntKind.i64 n, Value.string s, Value.bool b, Value.int IntKind.i64 t1, Value.int IntKind.i64 t2, Value.slice xa xl.length xc] 62)).heap.size = wr.heap.size + 1) := by show _ = _; simp
              generalize wr.alloc (Obj.cells #[Value.int IntKind.i64 3, Value.int IntKind.i64 n, Value.string s, Value.bool b, Value.int IntKind.i64 t1, Value.int IntKind.i64 t2, Value.slice xa xl.length xc] 62) = W1 at *
              have hY1 := HY.out.before HK1.out
              refine (stamp_any _ w.heap.size rp L (wr.heap.size + 1) _ 1 [(t1, t2)] (hY1.pen.before (Keeps.alloc _ _ _)) (stamp_newG W1 t1 t2 _ HSZ.out.symm _ rfl) (by have h := hY1.pen.apart (g := wr.heap.size + 1) (Nat.le_of_eq HSZ.out); exact h) (by have := HLN.out; simp; omega)).mono ?_
              rintro e w2 ⟨rfl, rp2, hp2', hs2'⟩
              have hs2 := hs2'.before (w := wr) (HK1.out.then (Keeps.alloc _ _ _))
              have hp2 : PenAt w2 w.heap.size rp2 (L ++ st (t1, t2)) := by simpa using hp2'
              rw [HLE.out] at hp2
              have HM := Lib.hid (HY.out.mid hp2 hs2)
              have hX2 := (hs2'.keeps.block wr.heap.size (by rw [World.size_alloc, HSZ.out]; omega) (HY.out.pen.apart (Nat.le_refl _))).trans ((Below.heap_alloc _ _ _ (by rw [HSZ.out]; omega)).trans HX.out)
              have HB2 : Hid (Below w.heap.size w w2) := HB.out.trans (hs2.below HSR.out (Nat.le_refl _) (fun q hq => Nat.le_of_lt (HY.out.pr q hq)))
              have x4 : w2.cell? ⟨wr.heap.size, 4, none⟩ = some (.int .i64 t1) := by rw [cell_of_row _ _ _ _ _ _ hX2]; rfl
              have x5 : w2.cell? ⟨wr.heap.size, 5, none⟩ = some (.int .i64 t2) := by rw [cell_of_row _ _ _ _ _ _ hX2]; rfl
              clear hX2 hp2 hp2' hs2 hs2' hY1
              go_wp2_with fail
              refine (rstamp_any _ rb _ L t1 t2 HM.out.row (by have := HLN.out; omega)).mono ?_
              rintro e w3 ⟨v3, rb3, rfl, h1, h2⟩
              obtain ⟨a3, n3, c3, rfl⟩ := h1.form
              rw [HLE.out] at h1
              have HY3 := Lib.hid (HM.out.lay h1 h2)
              have HB3 : Hid (Below w.heap.size w w3) := HB2.out.trans (h2.below HB2.out.size (fun q hq => Nat.le_of_lt (HY.out.br q hq)))
              clear h1 h2
              go_wp2
              go_roundw
              case rel => exact ⟨j + 1, hlt, by go_num, rp2, rb3, HY3.out, HB3.out⟩
              case measure => simp [intOf]; omega
            · skip
              by_cases k4 : k = 4
              · subst k4
                have HTL : Hid (layB ⟨4, n, s, b, (t1, t2), xl, xa, xc, xg⟩ = sts xl) := by show _ = _; simp [layB]
                rw [HTL.out] at HLE
                have HK1 : Hid (Keeps (fun _ => False) wr (wr.alloc (Obj.cells #[Value.int IntKind.i64 4, Value.int IntKind.i64 n, Value.string s, Value.bool b, Value.int IntKind.i64 t1, Value.int IntKind.i64 t2, Value.slice xa xl.length xc] 62))) := Keeps.alloc _ _ _
                have HSZ : Hid ((wr.alloc (Obj.cells #[Value.int IntKind.i64 4, Value.int IntKind.i64 n, Value.string s, Value.bool b, Value.int IntKind.i64 t1, Value.int IntKind.i64 t2, Value.slice xa xl.length xc] 62)).heap.size = wr.heap.size + 1) := by show _ = _; simp
                have HB0 : Hid (Below w.heap.size w ((wr.alloc (Obj.cells #[Value.int IntKind.i64 4, Value.int IntKind.i64 n, Value.string s, Value.bool b, Value.int IntKind.i64 t1, Value.int IntKind.i64 t2, Value.slice xa xl.length xc] 62)).alloc (Obj.cells #[] 49))) := (HB.out.alloc HB.out.size _).alloc (by have := HB.out.size; simp; omega) _
                go_wp2_with (at_builtin; refine wpList_app_sts rfl (.tmp 68) (.tmp 70) rfl (X := wr.heap.size + 1) (b := xa) (c := xc) (l := xl) rfl rfl (HSL.out.later HSG.out HB0.out) (fun h => HSL.out.nil_of h) (by omega) ?_; intro a6 c6 w6 g6 h1 h2 h3; have H1 := Lib.hid h1; have H2 := Lib.hid h2; have H3 := Lib.hid h3; clear h1 h2 h3)
                have HK6 : Hid (Keeps (fun _ => False) wr w6) := (HK1.out.then (Keeps.alloc _ _ _)).then H2.out
                have hY6 := HY.out.before HK6.out
                have hg6 : wr.heap.size + 1 ≤ g6 ∧ g6 < w6.heap.size := by
                  have hs6 := H2.out.size
                  rw [World.size_alloc, HSZ.out] at hs6
                  rcases H3.out with h | h
                  · omega
                  · have := h.1; rw [World.size_alloc, HSZ.out] at this; omega
                refine (stamps_any w6 w.heap.size rp L g6 a6 c6 xl hY6.pen H1.out (HY.out.pen.apart (by omega)) hg6.2 (by have := HLN.out; omega)).mono ?_
                rintro e w2 ⟨rfl, rp2, hp2', hs2'⟩
                have hs2 := hs2'.before (w := wr) HK6.out
                have hp2 : PenAt w2 w.heap.size rp2 (L ++ sts xl) := hp2'
                rw [HLE.out] at hp2
                have HM := Lib.hid (HY.out.mid hp2 hs2)
                have hX2 := (hs2'.keeps.block wr.heap.size (by have := HK6.out.size; omega) (HY.out.pen.apart (Nat.le_refl _))).trans ((H2.out.block wr.heap.size (by rw [World.size_alloc, HSZ.out]; omega) (fun h => h)).trans ((Below.heap_alloc _ _ _ (by rw [HSZ.out]; omega)).trans HX.out))
                have HB2 : Hid (Below w.heap.size w w2) := HB.out.trans (hs2.below HSR.out (Nat.le_refl _) (fun q hq => Nat.le_of_lt (HY.out.pr q hq)))
                have x6 : w2.cell? ⟨wr.heap.size, 6, none⟩ = some (.slice xa xl.length xc) := by rw [cell_of_row _ _ _ _ _ _ hX2]; rfl
                clear hX2 hp2 hp2' hs2 hs2' hY6
                obtain ⟨g7, hsl7, hg7⟩ := HSL.out.low HSG.out HB2.out
                have H7 := Lib.hid hsl7
                clear hsl7
                go_wp2_with fail
                refine (rstamps_any w2 rb _ L g7 xa xc xl HM.out.row H7.out (fun h => by have := HY.out.br g7 h; omega) (by have := HLN.out; omega)).mono ?_
                rintro e w3 ⟨v3, rb3, rfl, h1, h2⟩
                obtain ⟨a3, n3, c3, rfl⟩ := h1.form
                rw [HLE.out] at h1
                have HY3 := Lib.hid (HM.out.lay h1 h2)
                have HB3 : Hid (Below w.heap.size w w3) := HB2.out.trans (h2.below HB2.out.size (fun q hq => Nat.le_of_lt (HY.out.br q hq)))
                clear h1 h2
                go_wp2
                go_roundw
                case rel => exact ⟨j + 1, hlt, by go_num, rp2, rb3, HY3.out, HB3.out⟩
                case measure => simp [intOf]; omega
              · skip
                have HTL : Hid (layB ⟨k, n, s, b, (t1, t2), xl, xa, xc, xg⟩ = []) := by show _ = _; simp [layB, k0, k1, k2, k3, k4]
                rw [HTL.out] at HLE
                have y0 : (k == 0) = false := by simpa using k0
                have y1 : (k == 1) = false := by simpa using k1
                have y2 : (k == 2) = false := by simpa using k2
                have y3 : (k == 3) = false := by simpa using k3
                have y4 : (k == 4) = false := by simpa using k4
                go_wp2_with fail
                go_roundw
                case rel => exact ⟨j + 1, hlt, by go_num, rp, rb, by rw [← HLE.out, List.append_nil]; exact HY.out.before (Keeps.alloc _ _ _), HB.out.alloc HB.out.size _⟩
                case measure => simp [intOf]; omega
    · obtain rfl : j = l.length := by omega
      have HT : Hid (l.take l.length = l) := List.take_length
      rw [HT.out] at HY
      have hlen : (l.flatMap layB).length ≤ 1099511627776 := by have := lay_len l; omega
      generalize l.flatMap layB = L at *
      go_wp2_with (go_at_call 19; refine (bytes_any _ w.heap.size rp _ HY.out.pen hlen).mono ?_; rintro e w2 ⟨v2, g2, rfl, h1, h2, h3⟩; have H1 := Lib.hid h1; have H2 := Lib.hid h2; have H3 := Lib.hid h3; clear h1 h2 h3)
      go_ret2
      exact ⟨_, g2, _, rb, rfl, H1.out, HY.out.row.before (ofB H3.out), (fun q hq => Nat.le_trans HB.out.size (H2.out q hq)), (fun q hq => Nat.le_of_lt (HY.out.br q hq)), HB.out.trans (H3.out.mono HB.out.size)⟩

end Go.Proofs.Ytjojjpfjennnoaa
