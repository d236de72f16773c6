/- The reference's eye: Bool, Stamp, Done, Open. Conditions: as each theorem states. -/
import Derived.Deep.Draws
import Derived.Test.YtjlkgbejldcklaaGreatMg25
import Derived.Test.YtjlkgbejldcklaaGreatMg26
/- small: whether things are few and light enough. Conditions: none. -/
namespace Go.Proofs.YtjlkgbejldcklaaGreat
namespace S2
open Go.ChangeShapes Go.WideShapes Go.ChangeAt Go.RowKit Go.Joins Go.Deep

def wt (x : Th) : Nat := x.s.size + 16 * x.l.length
def wsum : List Th → Nat
  | [] => 0
  | x :: r => wt x + wsum r
theorem wsum_append (l m : List Th) : wsum (l ++ m) = wsum l + wsum m := by
  induction l with
  | nil => simp [wsum]
  | cons s r ih => rw [List.cons_append]; simp only [wsum]; omega
theorem wsum_take (l : List Th) {j : Nat} {x : Th} (h : l[j]? = some x) : wsum (l.take (j + 1)) = wsum (l.take j) + wt x := by
  obtain ⟨hj, rfl⟩ := List.getElem?_eq_some_iff.1 h
  rw [List.take_succ_eq_append_getElem hj, wsum_append]
  simp [wsum]
theorem wsum_mem (l : List Th) {j : Nat} {x : Th} (h : l[j]? = some x) : wt x ≤ wsum l := by
  induction l generalizing j with
  | nil => simp at h
  | cons y r ih =>
    cases j with
    | zero => simp only [List.getElem?_cons_zero, Option.some.injEq] at h; subst h; simp only [wsum]; omega
    | succ j => have := ih (j := j) (by simpa using h); simp only [wsum]; omega
theorem wsum_le (l : List Th) (B : Nat) (h : ∀ (j : Nat) (x : Th), l[j]? = some x → wt x ≤ B) : wsum l ≤ B * l.length := by
  induction l with
  | nil => simp [wsum]
  | cons x r ih =>
    have h1 := h 0 x rfl
    have h2 := ih fun j s hj => h (j + 1) s (by simpa using hj)
    simp only [wsum, List.length_cons, Nat.mul_succ]
    omega
def smallT (l : List Th) : Bool := decide (l.length ≤ 60 ∧ wsum l ≤ 20000)
theorem ThAt.later {w w' : World} {g o : Nat} {x : Th} (h : ThAt w g o x) (hb : Below w.heap.size w w') (hg : g < w.heap.size) : ThAt w' g o x :=
  ⟨(hb.cell (p := ⟨g, o, none⟩) hg).trans h.k, (hb.cell (p := ⟨g, o + 1, none⟩) hg).trans h.n, (hb.cell (p := ⟨g, o + 2, none⟩) hg).trans h.s, (hb.cell (p := ⟨g, o + 3, none⟩) hg).trans h.b,
    (hb.cell (p := ⟨g, o + 4, none⟩) hg).trans h.t1, (hb.cell (p := ⟨g, o + 5, none⟩) hg).trans h.t2, (hb.cell (p := ⟨g, o + 6, none⟩) hg).trans h.l⟩
theorem below_drewN {w x : World} {B : Nat} (h : Below B w x) (n : Nat) : Below B w (x.drewN n) := ⟨h.os, h.tape, h.output, h.size, h.block⟩

end S2
end Go.Proofs.YtjlkgbejldcklaaGreat

/- lay: things laid by a pen and by hand are the same bytes. Conditions: things that are few and light enough. -/
namespace Go.Proofs.YtjlkgbejldcklaaGreat
namespace S2
open Go.ChangeShapes Go.WideShapes Go.ChangeAt Go.RowKit Go.Joins Go.Deep

/-- A thing's bytes. -/
def layB (x : Th) : List UInt8 := if x.k = 0 then i8 x.n else if x.k = 1 then tx x.s else if x.k = 2 then tb x.b else if x.k = 3 then st x.t else if x.k = 4 then sts x.l else []
theorem layB_len (x : Th) : (layB x).length ≤ 16 + wt x := by
  have h1 := i8_length x.n
  have h2 := tx_length x.s
  have h3 : (tb x.b).length = 1 := low_length _ _
  have h4 := st_length x.t
  have h5 := sts_len x.l
  unfold layB wt
  split
  · omega
  · split
    · omega
    · split
      · omega
      · split
        · omega
        · split
          · omega
          · simp
theorem lay_len (l : List Th) : (l.flatMap layB).length ≤ 16 * l.length + wsum l := by
  induction l with
  | nil => simp
  | cons x r ih =>
    have := layB_len x
    rw [List.flatMap_cons, List.length_append, List.length_cons]
    simp only [wsum]
    omega
theorem wsum_prefix (l : List Th) (j : Nat) : wsum (l.take j) ≤ wsum l := by
  have h := wsum_append (l.take j) (l.drop j)
  rw [List.take_append_drop] at h
  omega

/-- A pen and a row that hold the same bytes, apart from each other. -/
structure Lay (w : World) (S : Nat) (rp rb : Option Nat) (v : Value) (L : List UInt8) : Prop where
  pen : PenAt w S rp L
  row : Row w rb v L
  pr : ∀ k, rp = some k → S < k
  br : ∀ k, rb = some k → S < k
  ap : ∀ k, rp = some k → rb ≠ some k
theorem Lay.before {w x : World} {S : Nat} {rp rb : Option Nat} {v : Value} {L : List UInt8} (h : Lay w S rp rb v L) (k : Keeps (fun _ => False) w x) : Lay x S rp rb v L :=
  ⟨h.pen.before k, h.row.before k, h.pr, h.br, h.ap⟩
/-- The pen has laid, the row not yet. -/
structure Mid (w : World) (S : Nat) (rp rb : Option Nat) (v : Value) (L M : List UInt8) : Prop where
  pen : PenAt w S rp M
  row : Row w rb v L
  pr : ∀ k, rp = some k → S < k
  br : ∀ k, rb = some k → S < k
  ap : ∀ k, rp = some k → rb ≠ some k
theorem Lay.mid {w w2 : World} {S : Nat} {rp rp' rb : Option Nat} {v : Value} {L M : List UInt8} (h : Lay w S rp rb v L) (hp : PenAt w2 S rp' M) (hs : PenStep S rp rp' w w2) : Mid w2 S rp' rb v L M := by
  have hS := h.pen.lt
  refine ⟨hp, h.row.keep hs.keeps fun x hx e => ?_, fun k hk => ?_, h.br, fun k hk hb => ?_⟩
  · rcases e with e | e
    · have := h.br x hx; omega
    · exact h.ap x e hx
  · rcases hs.row with e | e
    · exact h.pr k (by rw [← e]; exact hk)
    · have := e k hk; omega
  · rcases hs.row with e | e
    · exact h.ap k (by rw [← e]; exact hk) hb
    · have h1 := e k hk
      have h2 := h.row.lt hb
      omega
theorem Mid.lay {w w3 : World} {S : Nat} {rp rb rb' : Option Nat} {v v' : Value} {L M : List UInt8} (h : Mid w S rp rb v L M) (hr : Row w3 rb' v' M) (hs : RowStep rb rb' w w3) : Lay w3 S rp rb' v' M := by
  have hS := h.pen.lt
  refine ⟨h.pen.keep hs.keeps (fun e => by have := h.br _ e; omega) (fun x hx e => h.ap x hx e), hr, h.pr, fun k hk => ?_, fun k hk hb => ?_⟩
  · rcases hs.row with e | e
    · exact h.br k (by rw [← e]; exact hk)
    · have := e k hk; omega
  · rcases hs.row with e | e
    · exact h.ap k hk (by rw [← e]; exact hb)
    · have h1 := e k hb
      have h2 := h.pen.rowLt hk
      omega

theorem SL.cells {w : World} {g : Nat} {b : Addr} {l : List (Int × Int)} (h : SL w g (some b) l) : ∀ (j : Nat) (u : Value), (cellsL l)[j]? = some u → w.cell? (b.add j) = some u := by
  intro j u hj
  have hlt : j < l.length * 2 := by
    have := (List.getElem?_eq_some_iff.1 hj).1
    rwa [cellsL_length] at this
  obtain ⟨⟨x, y⟩, hxy⟩ := get_lt (l := l) (j := j / 2) (by omega)
  obtain ⟨o, hb, hc⟩ := h (not_nil (j := j / 2) (by omega))
  simp only [Option.some.injEq] at hb
  subst hb
  obtain ⟨c1, c2⟩ := cellsL_at l (j / 2) x y hxy
  obtain ⟨h1, h2⟩ := hc (j / 2) x y hxy
  rw [Go.WideShapes.add_plain]
  rcases Nat.mod_two_eq_zero_or_one j with hm | hm
  · have e : j / 2 * 2 = j := by omega
    rw [e] at c1 h1
    rw [h1, ← c1, hj]
  · have e : j / 2 * 2 + 1 = j := by omega
    rw [e] at c2
    rw [show o + j / 2 * 2 + 1 = o + j by omega] at h2
    rw [h2, ← c2, hj]
/-- append of stamps to an empty list of the call's own. -/
theorem app_sts {w : World} {X g : Nat} {a : Option Addr} {c : Nat} {l : List (Int × Int)} (hl : SL w g a l) (hna : a = none → l = []) (hlen : l.length ≤ 400000) (ty : TypeId) :
    ∃ a' c' w' g', (Builtin.append_ #[24, 24] ty #[.slice (some ⟨X, 0, none⟩) 0 0, .slice a l.length c]).run Tryz.prog w = .ok (.slice a' l.length c') w' ∧ SL w' g' a' l ∧ Keeps (fun _ => False) w w' ∧ (g' = X ∨ (w.heap.size ≤ g' ∧ g' < w'.heap.size)) := by
  obtain ⟨i0, hi, hz0, hz1, hz2⟩ := info_parts info_st
  have hsrc : Src Tryz.prog i0.size 24 (.slice a l.length c) l.length (cellsL l) w := by
    rw [hz1]
    cases a with
    | none =>
      obtain rfl := hna rfl
      exact Src.ofNil w Tryz.underlying24 c
    | some a => exact Src.ofSlice w Tryz.underlying24 a l.length c (cellsL l) (cellsL_length l) hl.cells (cellsL_one l)
  by_cases hne : l = []
  · subst hne
    exact ⟨_, _, w, X, run_append_nothing w 24 24 ty 42 i0 Tryz.underlying24 hi (some ⟨X, 0, none⟩) 0 0 (Nat.le_refl _) _ hsrc, fun h => absurd rfl h, Keeps.refl _ _, .inl rfl⟩
  · have hpos : 0 < l.length := List.length_pos_iff.2 hne
    have hold : (Builtin.firstCells i0.size 0 (.slice (some ⟨X, 0, none⟩) 0 0)).run Tryz.prog w.drew = .ok ([] : List Value).toArray w.drew := run_firstCells_some (P := Tryz.prog) w.drew i0.size 0 ⟨X, 0, none⟩ 0 0 [] (by simp) (fun j u h => by simp at h)
    have hrun := run_append_grow_src w 24 24 ty 42 i0 (.agg #[.int .i64 0, .int .i64 0]) Tryz.underlying24 hi hz0 (some ⟨X, 0, none⟩) 0 0 [] hold _ l.length (cellsL l) hsrc (by omega) (by omega) (growslice_fits (by omega) (by rw [hz2]; omega))
    rw [Nat.zero_add] at hrun
    refine ⟨_, _, _, w.heap.size, hrun, fun _ => ⟨0, rfl, fun j x y hj => ?_⟩, (Keeps.drew _ _).then (Keeps.alloc _ _ _), .inr ⟨Nat.le_refl _, by simp⟩⟩
    obtain ⟨c1, c2⟩ := cellsL_at l j x y hj
    have hjl := (List.getElem?_eq_some_iff.1 hj).1
    have hll := cellsL_length l
    have hcell := cell_of_row _ w.heap.size (j * 2) _ _ _ (heap_alloc_new w.drew (.cells ((([] : List Value) ++ cellsL l).toArray ++ Builtin.zeroCells (Value.agg #[Value.int .i64 0, Value.int .i64 0]).cells (grownCap w l.length 0 42 - l.length)) 42))
    have hcell2 := cell_of_row _ w.heap.size (j * 2 + 1) _ _ _ (heap_alloc_new w.drew (.cells ((([] : List Value) ++ cellsL l).toArray ++ Builtin.zeroCells (Value.agg #[Value.int .i64 0, Value.int .i64 0]).cells (grownCap w l.length 0 42 - l.length)) 42))
    constructor
    · rw [Nat.zero_add]
      refine hcell.trans ?_
      rw [Array.getElem?_append_left (by simp; omega)]
      simpa using c1
    · rw [Nat.zero_add]
      refine hcell2.trans ?_
      rw [Array.getElem?_append_left (by simp; omega)]
      simpa using c2
theorem wpList_app_sts {w : World} {ops : Array Oper} {rest : List Oper} {o : Oper} {a : Act} {Q : Exit → Act → World → Prop} (hgd : o.guard = none) (s x : Operand)
    (ho : o.op = .call { callee := .builtin .append, args := #[s, x], argTypes := #[24, 24] }) {X g : Nat} {b : Option Addr} {c : Nat} {l : List (Int × Int)} (hs : a.eval s = .slice (some ⟨X, 0, none⟩) 0 0) (hx : a.eval x = .slice b l.length c)
    (hl : SL w g b l) (hna : b = none → l = []) (hlen : l.length ≤ 400000)
    (h : ∀ a' c' w' g', SL w' g' a' l → Keeps (fun _ => False) w w' → (g' = X ∨ (w.heap.size ≤ g' ∧ g' < w'.heap.size)) → wpList Tryz.prog ops Q rest (a.put o.dst (.slice a' l.length c')) w') : wpList Tryz.prog ops Q (o :: rest) a w := by
  obtain ⟨a', c', w', g', hrun, h1, h2, h3⟩ := app_sts (X := X) (c := c) hl hna hlen o.type
  refine wpList_plain hgd fun K hK => ?_
  unfold Oper.wp
  simp [execOp, ho, resolve, invoke, builtin, hs, hx, hrun, Result.andThen]
  exact hK _ _ (h a' c' w' g' h1 h2 h3)

theorem stamp_newG (w : World) (x y : Int) (b : Nat) (hb : b = w.heap.size) (W : World) (hW : W.heap = (w.alloc (.cells #[.int .i64 x, .int .i64 y] 42)).heap) : SL W b (some ⟨b, 0, none⟩) [(x, y)] := by
  subst hb
  have h : W.heap[w.heap.size]? = some (.cells #[.int .i64 x, .int .i64 y] 42 (0, 0)) := by rw [hW]; exact heap_alloc_new w _
  intro _
  refine ⟨0, rfl, fun j p q hz => ?_⟩
  match j, hz with
  | 0, hz =>
    simp only [List.getElem?_cons_zero, Option.some.injEq, Prod.mk.injEq] at hz
    obtain ⟨rfl, rfl⟩ := hz
    exact ⟨by rw [cell_of_row W _ _ _ _ _ h]; rfl, by rw [cell_of_row W _ _ _ _ _ h]; rfl⟩
theorem SL.later {w x : World} {g : Nat} {a : Option Addr} {l : List (Int × Int)} (h : SL w g a l) (hg : l ≠ [] → g < w.heap.size) (hb : Below w.heap.size w x) : SL x g a l := by
  intro hne
  exact h.keep (ofB (S := fun k => w.heap.size ≤ k) hb) (fun e => by have := hg hne; omega) hne
theorem SL.low {w x : World} {g : Nat} {a : Option Addr} {l : List (Int × Int)} (h : SL w g a l) (hg : l ≠ [] → g < w.heap.size) (hb : Below w.heap.size w x) : ∃ g', SL x g' a l ∧ g' ≤ w.heap.size := by
  by_cases hne : l = []
  · subst hne; exact ⟨0, fun h => absurd rfl h, Nat.zero_le _⟩
  · exact ⟨g, h.later hg hb, Nat.le_of_lt (hg hne)⟩
theorem SL.nil_of {w : World} {g : Nat} {a : Option Addr} {l : List (Int × Int)} (h : SL w g a l) (ha : a = none) : l = [] := by
  apply Classical.byContradiction
  intro hne
  obtain ⟨_, h, _⟩ := h hne
  rw [ha] at h
  cases h

/-- What lay comes to. -/
def LaidBoth (w : World) (L : List UInt8) (e : Ending) (w' : World) : Prop :=
  ∃ v1 g1 v2 g2, e = .returned (.tuple #[v1, v2]) ∧ Row w' g1 v1 L ∧ Row w' g2 v2 L ∧ New w g1 ∧ New w g2 ∧ Below w.heap.size w w'

end S2
end Go.Proofs.YtjlkgbejldcklaaGreat

/- What is laid is read: numbers, texts, truths, stamps, lists at the front of bytes; and of bytes that end within, nothing. Conditions: as each theorem states. -/
namespace Go.Proofs.YtjlkgbejldcklaaGreat
namespace S2
open Go.RowKit

theorem leN_low (n k : Nat) : leN (low n k) = n % 2 ^ (8 * k) := by
  induction k with
  | zero => rw [low_zero]; simp [leN, Nat.mod_one]
  | succ k ih =>
    rw [low_succ, leN_snoc, ih, low_length]
    have e : 2 ^ (8 * (k + 1)) = 2 ^ (8 * k) * 256 := by rw [Nat.mul_add, Nat.pow_add]
    have e2 : (UInt8.ofNat (n >>> (8 * k))).toNat = n / 2 ^ (8 * k) % 256 := by rw [Nat.shiftRight_eq_div_pow]; simp
    rw [e, e2, Nat.mod_mul, Nat.mul_comm (2 ^ (8 * k))]
theorem wrap_back (n : Int) (h1 : -9223372036854775808 ≤ n) (h2 : n ≤ 9223372036854775807) : wrap64 ((IntKind.u64.wrap n).toNat : Int) = n := by
  have e : IntKind.u64.wrap n = n % 18446744073709551616 := rfl
  rw [e]
  unfold wrap64
  omega
theorem wf_i64 {n : Int} (h : (Lit.int .i64 n).wf = true) : -9223372036854775808 ≤ n ∧ n ≤ 9223372036854775807 := by
  simp only [Lit.wf, Bool.and_eq_true, decide_eq_true_eq] at h
  have e1 : IntKind.i64.min = -9223372036854775808 := rfl
  have e2 : IntKind.i64.max = 9223372036854775807 := rfl
  rw [e1, e2] at h
  exact h
theorem u64_lt (n : Int) : (IntKind.u64.wrap n).toNat < 18446744073709551616 := by
  have e : IntKind.u64.wrap n = n % 18446744073709551616 := rfl
  rw [e]
  omega
theorem take_app {α : Type} (a b : List α) (n : Nat) (h : a.length = n) : (a ++ b).take n = a := by subst h; exact List.take_left
theorem drop_app {α : Type} (a b : List α) (n : Nat) (h : a.length = n) : (a ++ b).drop n = b := by subst h; exact List.drop_left
theorem rd_i8 (n : Int) (h : (Lit.int .i64 n).wf = true) (r : List UInt8) : rd (i8 n ++ r) = n := by
  obtain ⟨h1, h2⟩ := wf_i64 h
  unfold rd
  rw [take_app _ _ 8 (i8_length n)]
  unfold i8
  rw [leN_low, Nat.mod_eq_of_lt (u64_lt n)]
  exact wrap_back n h1 h2

theorem read_i (n : Int) (h : (Lit.int .i64 n).wf = true) (r : List UInt8) : okI (i8 n ++ r) false = true ∧ valI (i8 n ++ r) false = n ∧ behind true 8 (i8 n ++ r) = r := by
  have hok : okI (i8 n ++ r) false = true := by
    have := i8_length n
    simp [okI, this]
  exact ⟨hok, by unfold valI; rw [if_pos hok]; exact rd_i8 n h r, by rw [behind_yes]; exact drop_app _ _ 8 (i8_length n)⟩
theorem tx_take (s : ByteArray) (hs : s.size ≤ 1048576) (r : List UInt8) : leN ((tx s ++ r).take 4) = s.size := by
  have e : tx s ++ r = low s.size 4 ++ (s.data.toList ++ r) := by unfold tx; rw [List.append_assoc]
  rw [e, take_app _ _ 4 (low_length _ _), leN_low]
  exact Nat.mod_eq_of_lt (by omega)
theorem read_t (s : ByteArray) (hs : s.size ≤ 1048576) (r : List UInt8) : okT (tx s ++ r) false = true ∧ valT (tx s ++ r) false = s ∧ behind true (4 + leN ((tx s ++ r).take 4)) (tx s ++ r) = r := by
  have h1 := tx_take s hs r
  have hl := tx_length s
  have hok : okT (tx s ++ r) false = true := by
    unfold okT
    rw [h1]
    simp only [Bool.not_false, Bool.true_and, decide_eq_true_eq, List.length_drop, List.length_append]
    omega
  refine ⟨hok, ?_, ?_⟩
  · unfold valT
    rw [if_pos hok]
    unfold atT
    rw [h1]
    have e : tx s ++ r = low s.size 4 ++ (s.data.toList ++ r) := by unfold tx; rw [List.append_assoc]
    rw [e, drop_app _ _ 4 (low_length _ _), take_app _ _ _ (ba_len s)]
  · rw [behind_yes, h1]
    exact drop_app _ _ _ hl
theorem read_b (b : Bool) (r : List UInt8) : okB (tb b ++ r) false = true ∧ valB (tb b ++ r) false = b ∧ behind true 1 (tb b ++ r) = r := by
  cases b
  · exact ⟨by simp [okB, tb, low, leN], by simp [valB, okB, tb, low, leN], by rw [behind_yes]; rfl⟩
  · exact ⟨by simp [okB, tb, low, leN], by simp [valB, okB, tb, low, leN], by rw [behind_yes]; rfl⟩
theorem rdS_st (t : Int × Int) (h1 : (Lit.int .i64 t.1).wf = true) (h2 : (Lit.int .i64 t.2).wf = true) (r : List UInt8) : rdS (st t ++ r) = t := by
  unfold rdS st
  rw [List.append_assoc, rd_i8 _ h1, drop_app _ _ 8 (i8_length _), rd_i8 _ h2]
theorem read_s (t : Int × Int) (h1 : (Lit.int .i64 t.1).wf = true) (h2 : (Lit.int .i64 t.2).wf = true) (r : List UInt8) : okS (st t ++ r) false = true ∧ valS (st t ++ r) false = t ∧ behind true 16 (st t ++ r) = r := by
  have hl := st_length t
  have hok : okS (st t ++ r) false = true := by simp [okS, hl]
  exact ⟨hok, by unfold valS; rw [if_pos hok]; exact rdS_st t h1 h2 r, by rw [behind_yes]; exact drop_app _ _ _ hl⟩
theorem rdL_at (l : List (Int × Int)) (h : ∀ s ∈ l, (Lit.int .i64 s.1).wf = true ∧ (Lit.int .i64 s.2).wf = true) (p r : List UInt8) (hp : p.length = 8) : rdL (p ++ (l.flatMap st ++ r)) l.length = l := by
  apply List.ext_getElem?
  intro j
  by_cases hj : j < l.length
  · have e1 : (rdL (p ++ (l.flatMap st ++ r)) l.length)[j]? = some (rdS ((p ++ (l.flatMap st ++ r)).drop (8 + 16 * j))) := by simp [rdL, hj]
    have e2 : l.flatMap st = (l.take j).flatMap st ++ (st l[j] ++ (l.drop (j + 1)).flatMap st) := by
      rw [← List.flatMap_cons, ← List.flatMap_append, List.getElem_cons_drop, List.take_append_drop]
    have e3 : ((l.take j).flatMap st).length = 16 * j := by rw [flat_length st 16 st_length, List.length_take]; congr 1; omega
    rw [e1, ← List.drop_drop, drop_app _ _ 8 hp, e2, List.append_assoc, drop_app _ _ _ e3, List.append_assoc]
    obtain ⟨w1, w2⟩ := h l[j] (List.getElem_mem hj)
    rw [rdS_st _ w1 w2, List.getElem?_eq_getElem hj]
  · rw [List.getElem?_eq_none (by rw [rdL_length]; omega), List.getElem?_eq_none (by omega)]
theorem len_wf {n : Nat} (h : n ≤ 1250) : (Lit.int .i64 (n : Int)).wf = true := by
  simp only [Lit.wf, Bool.and_eq_true, decide_eq_true_eq]
  have e1 : IntKind.i64.min = -9223372036854775808 := rfl
  have e2 : IntKind.i64.max = 9223372036854775807 := rfl
  rw [e1, e2]
  omega
theorem rd_sts (l : List (Int × Int)) (hl : l.length ≤ 1250) (r : List UInt8) : rd (sts l ++ r) = l.length := by
  unfold sts
  rw [List.append_assoc]
  exact rd_i8 _ (len_wf hl) _
theorem read_l (l : List (Int × Int)) (h : ∀ s ∈ l, (Lit.int .i64 s.1).wf = true ∧ (Lit.int .i64 s.2).wf = true) (hl : l.length ≤ 1250) (r : List UInt8) :
    okL (sts l ++ r) false = true ∧ valL (sts l ++ r) false = l ∧ behind true (8 + 16 * (rd (sts l ++ r)).toNat) (sts l ++ r) = r := by
  have h1 := rd_sts l hl r
  have h2 := sts_len l
  have hok : okL (sts l ++ r) false = true := by
    have hh : hasL (sts l ++ r) := by
      unfold hasL
      rw [h1]
      simp only [List.length_append, Int.toNat_natCast]
      omega
    simp [okL, hh]
  refine ⟨hok, ?_, ?_⟩
  · unfold valL
    rw [if_pos hok, h1, Int.toNat_natCast]
    unfold sts
    rw [List.append_assoc]
    exact rdL_at l h _ r (i8_length _)
  · rw [behind_yes, h1, Int.toNat_natCast]
    exact drop_app _ _ _ h2

end S2
end Go.Proofs.YtjlkgbejldcklaaGreat

/- An eye upon what was laid; upon what was laid and then cut; two lists of stamps that are the same. Conditions: as each theorem states. -/
namespace Go.Proofs.YtjlkgbejldcklaaGreat
namespace S2
open Go.RowKit Go.Deep

theorem frontI (w : World) (b g : Nat) (n : Int) (R : List UInt8) (he : EyeAt w b g (i8 n ++ R) false) (hw : (Lit.int .i64 n).wf = true) : Calls Tryz.prog 231 #[.pointer (some ⟨b, 0, none⟩)] w (Seen w b g false (.int .i64 n) R) := by
  have h := eyeInt_any w b g _ false he
  obtain ⟨h1, h2, h3⟩ := read_i n hw R
  rw [h1, h2, h3] at h
  exact h
theorem frontT (w : World) (b g : Nat) (s : ByteArray) (R : List UInt8) (he : EyeAt w b g (tx s ++ R) false) (hs : s.size ≤ 1048576) : Calls Tryz.prog 263 #[.pointer (some ⟨b, 0, none⟩)] w (Seen w b g false (.string s) R) := by
  have h := eyeText_any w b g _ false he
  obtain ⟨h1, h2, h3⟩ := read_t s hs R
  rw [h1, h2, h3] at h
  exact h
theorem frontB (w : World) (b g : Nat) (t : Bool) (R : List UInt8) (he : EyeAt w b g (tb t ++ R) false) : Calls Tryz.prog 232 #[.pointer (some ⟨b, 0, none⟩)] w (Seen w b g false (.bool t) R) := by
  have h := eyeBool_any w b g _ false he
  obtain ⟨h1, h2, h3⟩ := read_b t R
  rw [h1, h2, h3] at h
  exact h
theorem frontS (w : World) (b g : Nat) (x y : Int) (R : List UInt8) (he : EyeAt w b g (st (x, y) ++ R) false) (h1 : (Lit.int .i64 x).wf = true) (h2 : (Lit.int .i64 y).wf = true) : Calls Tryz.prog 230 #[.pointer (some ⟨b, 0, none⟩)] w (Seen w b g false (.agg #[.int .i64 x, .int .i64 y]) R) := by
  have h := eyeStamp_any w b g _ false he
  obtain ⟨r1, r2, r3⟩ := read_s (x, y) h1 h2 R
  rw [r1, r2, r3] at h
  exact h
theorem frontL (w : World) (b g : Nat) (l : List (Int × Int)) (R : List UInt8) (he : EyeAt w b g (sts l ++ R) false) (hl : l.length ≤ 1250) (hw : ∀ s ∈ l, (Lit.int .i64 s.1).wf = true ∧ (Lit.int .i64 s.2).wf = true) (hlen : (sts l ++ R).length ≤ 1000000) :
    Calls Tryz.prog 256 #[.pointer (some ⟨b, 0, none⟩)] w (SeenSl w b g false l R) := by
  have h := eyeStamps_any w b g _ false he hlen
  obtain ⟨r1, r2, r3⟩ := read_l l hw hl R
  rw [r1, r2, r3] at h
  exact h

/-- An eye is blind, or what it has before it is less than all of R, and R's beginning. -/
def Cut (r : List UInt8) (bl : Bool) (R : List UInt8) : Prop := bl = true ∨ ∃ t, t ≠ [] ∧ r ++ t = R
theorem Cut.blind {r : List UInt8} {R : List UInt8} : Cut r true R := .inl rfl
theorem cut_end {r : List UInt8} {bl : Bool} (h : Cut r bl []) : bl = true := by
  rcases h with h | ⟨t, ht, h⟩
  · exact h
  · exact absurd (List.append_eq_nil_iff.1 h).2 ht
theorem cut_step {r t M R : List UInt8} (h : r ++ t = M ++ R) (hr : M.length ≤ r.length) : r.drop M.length ++ t = R := by
  have h1 : (r ++ t).drop M.length = (M ++ R).drop M.length := by rw [h]
  rw [List.drop_append_of_le_length hr, List.drop_left] at h1
  exact h1
theorem cut_take {r t M : List UInt8} (h : r ++ t = M) (k : Nat) (hr : k ≤ r.length) : r.take k = M.take k := by rw [← h, List.take_append_of_le_length hr]
/-- What a reading of a cut eye comes to. -/
def CutTo (w : World) (b g m : Nat) (R : List UInt8) (e : Ending) (w' : World) : Prop :=
  ∃ v, e = .returned v ∧ ∃ r' bl', EyeAt w' b g r' bl' ∧ r'.length ≤ m ∧ Cut r' bl' R ∧ Keeps (Only b) w w'
theorem behind_len (ok : Bool) (k : Nat) (l : List UInt8) : (behind ok k l).length ≤ l.length := by
  cases ok
  · rw [behind_no]; exact Nat.le_refl _
  · rw [behind_yes, List.length_drop]; omega
theorem cut_of {r M R : List UInt8} {bl : Bool} (ok : Bool) (k : Nat) (h : Cut r bl (M ++ R)) (hb : bl = true → ok = false) (hk : ∀ t, r ++ t = M ++ R → ok = true → k = M.length ∧ k ≤ r.length) : Cut (behind ok k r) (!ok) R := by
  cases ok
  · exact .inl rfl
  · rcases h with h | ⟨t, ht, h⟩
    · exact absurd (hb h) (by simp)
    · obtain ⟨rfl, h2⟩ := hk t h rfl
      right
      refine ⟨t, ht, ?_⟩
      rw [behind_yes]
      exact cut_step h h2
theorem cutI (w : World) (b g : Nat) (r : List UInt8) (bl : Bool) (n : Int) (R : List UInt8) (m : Nat) (he : EyeAt w b g r bl) (hm : r.length ≤ m) (h : Cut r bl (i8 n ++ R)) : Calls Tryz.prog 231 #[.pointer (some ⟨b, 0, none⟩)] w (CutTo w b g m R) :=
  (eyeInt_any w b g r bl he).mono fun _ _ ⟨h1, h2, h3⟩ => ⟨_, h1, _, _, h2, Nat.le_trans (behind_len _ _ _) hm, cut_of _ _ h (fun e => by rw [e]; rfl) (fun t _ ok => by
    unfold okI at ok
    simp only [Bool.and_eq_true, decide_eq_true_eq] at ok
    exact ⟨(i8_length n).symm, ok.2⟩), h3⟩
theorem cutB (w : World) (b g : Nat) (r : List UInt8) (bl : Bool) (n : Bool) (R : List UInt8) (m : Nat) (he : EyeAt w b g r bl) (hm : r.length ≤ m) (h : Cut r bl (tb n ++ R)) : Calls Tryz.prog 232 #[.pointer (some ⟨b, 0, none⟩)] w (CutTo w b g m R) :=
  (eyeBool_any w b g r bl he).mono fun _ _ ⟨h1, h2, h3⟩ => ⟨_, h1, _, _, h2, Nat.le_trans (behind_len _ _ _) hm, cut_of _ _ h (fun e => by rw [e]; rfl) (fun t _ ok => by
    unfold okB at ok
    simp only [Bool.and_eq_true, decide_eq_true_eq] at ok
    exact ⟨(low_length _ _).symm, ok.2.1⟩), h3⟩
theorem cutS (w : World) (b g : Nat) (r : List UInt8) (bl : Bool) (n : Int × Int) (R : List UInt8) (m : Nat) (he : EyeAt w b g r bl) (hm : r.length ≤ m) (h : Cut r bl (st n ++ R)) : Calls Tryz.prog 230 #[.pointer (some ⟨b, 0, none⟩)] w (CutTo w b g m R) :=
  (eyeStamp_any w b g r bl he).mono fun _ _ ⟨h1, h2, h3⟩ => ⟨_, h1, _, _, h2, Nat.le_trans (behind_len _ _ _) hm, cut_of _ _ h (fun e => by rw [e]; rfl) (fun t _ ok => by
    unfold okS at ok
    simp only [Bool.and_eq_true, decide_eq_true_eq] at ok
    exact ⟨(st_length n).symm, ok.2⟩), h3⟩
theorem cutT (w : World) (b g : Nat) (r : List UInt8) (bl : Bool) (s : ByteArray) (hs : s.size ≤ 1048576) (R : List UInt8) (m : Nat) (he : EyeAt w b g r bl) (hm : r.length ≤ m) (h : Cut r bl (tx s ++ R)) : Calls Tryz.prog 263 #[.pointer (some ⟨b, 0, none⟩)] w (CutTo w b g m R) :=
  (eyeText_any w b g r bl he).mono fun _ _ ⟨h1, h2, h3⟩ => ⟨_, h1, _, _, h2, Nat.le_trans (behind_len _ _ _) hm, cut_of _ _ h (fun e => by rw [e]; rfl) (fun t ht ok => by
    unfold okT at ok
    simp only [Bool.and_eq_true, decide_eq_true_eq, List.length_drop] at ok
    obtain ⟨_, o1, _, o2⟩ := ok
    have e := tx_take s hs R
    rw [← cut_take ht 4 o1] at e
    rw [tx_length]
    omega), h3⟩
theorem cutL (w : World) (b g : Nat) (r : List UInt8) (bl : Bool) (l : List (Int × Int)) (hl : l.length ≤ 1250) (R : List UInt8) (m : Nat) (he : EyeAt w b g r bl) (hm : r.length ≤ m) (hm2 : m ≤ 1000000) (h : Cut r bl (sts l ++ R)) : Calls Tryz.prog 256 #[.pointer (some ⟨b, 0, none⟩)] w (CutTo w b g m R) :=
  (eyeStamps_any w b g r bl he (Nat.le_trans hm hm2)).mono fun _ _ ⟨_, _, _, h1, _, _, h2, h3⟩ => ⟨_, h1, _, _, h2, Nat.le_trans (behind_len _ _ _) hm, cut_of _ _ h (fun e => by rw [e]; rfl) (fun t ht ok => by
    unfold okL at ok
    simp only [Bool.and_eq_true, decide_eq_true_eq] at ok
    obtain ⟨_, ok⟩ := ok
    unfold hasL at ok
    obtain ⟨o1, _, o2⟩ := ok
    have e := rd_sts l hl R
    have e2 : rd r = rd (sts l ++ R) := by unfold rd; rw [cut_take ht 8 o1]
    rw [← e2] at e
    rw [sts_len, e, Int.toNat_natCast]
    rw [e, Int.toNat_natCast] at o2
    omega), h3⟩

set_option maxRecDepth 100000 in
set_option maxHeartbeats 1000000 in
theorem same_any (g g' : Nat) (a a' : Option Addr) (cap cap' : Nat) (l : List (Int × Int)) (w : World) (hlen : l.length ≤ 1000000) (hl : SL w g a l) (hl' : SL w g' a' l) (hg : l ≠ [] → g < w.heap.size) (hg' : l ≠ [] → g' < w.heap.size) :
    Calls Tryz.prog 28 #[.slice a l.length cap, .slice a' l.length cap'] w fun e w' => e = .returned (.bool true) ∧ Below w.heap.size w w' := by
  have HL := Lib.hid hl
  have HL' := Lib.hid hl'
  have HG := Lib.hid hg
  have HG' := Lib.hid hg'
  clear hl hl' hg hg'
  go_enter Tryz.func28, Tryz.ntmps28
  go_wp2
  go_loopw [5] (fun i wr => ∃ k : Nat, k ≤ l.length ∧ i = .int .i64 k ∧ Below w.heap.size w wr) (fun i _ => l.length - (intOf i).toNat)
  case atStart => exact ⟨0, Nat.zero_le _, rfl, Below.refl _ _⟩
  case round =>
    obtain ⟨k, hk, rfl, hbel⟩ := hrel
    have HB := Lib.hid hbel
    by_cases hlt : k < l.length
    · obtain ⟨⟨x, y⟩, hxy⟩ := get_lt hlt
      have hb := HG.out (not_nil hlt)
      have hb' := HG'.out (not_nil hlt)
      obtain ⟨o, rfl, hc⟩ := HL.out (not_nil hlt)
      obtain ⟨o', rfl, hc'⟩ := HL'.out (not_nil hlt)
      have hx := (hbel.cell (p := ⟨g, o + k * 2, none⟩) hb).trans (hc k x y hxy).1
      have hy := (hbel.cell (p := ⟨g, o + k * 2 + 1, none⟩) hb).trans (hc k x y hxy).2
      have hx' := (hbel.cell (p := ⟨g', o' + k * 2, none⟩) hb').trans (hc' k x y hxy).1
      have hy' := (hbel.cell (p := ⟨g', o' + k * 2 + 1, none⟩) hb').trans (hc' k x y hxy).2
      have hbw : g < wr.heap.size := Nat.lt_of_lt_of_le hb HB.out.size
      have hbw' : g' < wr.heap.size := Nat.lt_of_lt_of_le hb' HB.out.size
      clear hc hc' hxy hbel
      go_wp2_with fail
      refine region_aft (by kernel_rfl) (by kernel_rfl) ?_
      repeat (go_big_quiet_step (fail))
      refine wpQuiet_nil ?_
      rintro w2 ⟨z, rfl⟩
      go_wp2
      go_roundw
      case rel => exact ⟨k + 1, hlt, by go_num, HB.out.trans (z.h.mono HB.out.size)⟩
      case measure => simp [intOf]; omega
    · go_wp2
      go_ret
      exact ⟨rfl, HB.out⟩

end S2
end Go.Proofs.YtjlkgbejldcklaaGreat

/- The reference's eye: taking, numbers, opening, the sum. Conditions: as each theorem states. -/
namespace Go.Proofs.YtjlkgbejldcklaaGreat
namespace S2
open Go.RowKit Go.Deep

/-- The reference's eye: in block b, upon the bytes B in block g, at the i-th. -/
def RAt (w : World) (b g : Nat) (B : List UInt8) (i : Nat) (bl : Bool) : Prop :=
  ∃ v, w.heap[b]? = some (.cells #[v, .int .i64 (i : Int), .bool bl] 233 (0, 0)) ∧ Bs w g v B ∧ i ≤ B.length ∧ B.length ≤ 20000 ∧ (B ≠ [] → g ≠ b)
theorem RAt.lt {w : World} {b g : Nat} {B : List UInt8} {i : Nat} {bl : Bool} (h : RAt w b g B i bl) : b < w.heap.size := by
  obtain ⟨v, hv, _⟩ := h
  exact lt_of_block hv
theorem RAt.keep {S : Nat → Prop} {w w' : World} {b g : Nat} {B : List UInt8} {i : Nat} {bl : Bool} (h : RAt w b g B i bl) (k : Keeps S w w') (hb : ¬ S b) (hg : B ≠ [] → ¬ S g) : RAt w' b g B i bl := by
  obtain ⟨v, hv, h1, h2⟩ := h
  exact ⟨v, (k.block b (lt_of_block hv) hb).trans hv, h1.keep k hg, h2⟩
theorem RAt.before {w x : World} {b g : Nat} {B : List UInt8} {i : Nat} {bl : Bool} (h : RAt w b g B i bl) (k : Keeps (fun _ => False) w x) : RAt x b g B i bl := h.keep k (fun h => h) (fun _ h => h)
theorem RAt.set {w : World} {b g : Nat} {B : List UInt8} {i : Nat} {bl : Bool} (h : RAt w b g B i bl) (j : Nat) (hj : j ≤ B.length) : RAt (w.setCell ⟨b, 1, none⟩ (.int .i64 (j : Int))) b g B j bl := by
  obtain ⟨v, hv, h1, _, h3, h4⟩ := h
  exact ⟨v, block_setCell hv _, h1.keep (S := Only b) (Keeps.setCell (S := Only b) (p := ⟨b, 1, none⟩) (fun _ => rfl) _) (fun hne e => h4 hne e), hj, h3, h4⟩
theorem RAt.dim {w : World} {b g : Nat} {B : List UInt8} {i : Nat} {bl : Bool} (h : RAt w b g B i bl) : RAt (w.setCell ⟨b, 2, none⟩ (.bool true)) b g B i true := by
  obtain ⟨v, hv, h1, h2, h3, h4⟩ := h
  exact ⟨v, block_setCell hv _, h1.keep (S := Only b) (Keeps.setCell (S := Only b) (p := ⟨b, 2, none⟩) (fun _ => rfl) _) (fun hne e => h4 hne e), h2, h3, h4⟩
/-- The eye's three cells. -/
theorem RAt.cells {w : World} {b g : Nat} {B : List UInt8} {i : Nat} {bl : Bool} (h : RAt w b g B i bl) :
    ∃ a c, Bs w g (.slice a B.length c) B ∧ w.cell? ⟨b, 0, none⟩ = some (.slice a B.length c) ∧ w.cell? ⟨b, 1, none⟩ = some (.int .i64 (i : Int)) ∧ w.cell? ⟨b, 2, none⟩ = some (.bool bl) ∧ w.frozen? ⟨b, 1, none⟩ = false ∧ w.frozen? ⟨b, 2, none⟩ = false ∧ b < w.heap.size ∧ i ≤ B.length ∧ B.length ≤ 20000 := by
  obtain ⟨v, hv, h1, h2, h3, h4⟩ := h
  have hf : ∃ a c, v = .slice a B.length c := by
    rcases h1 with ⟨rfl, rfl⟩ | ⟨o, cap, rfl, _⟩
    · exact ⟨_, _, rfl⟩
    · exact ⟨_, _, rfl⟩
  obtain ⟨a, c, rfl⟩ := hf
  exact ⟨a, c, h1, by rw [cell_of_row _ _ _ _ _ _ hv]; rfl, by rw [cell_of_row _ _ _ _ _ _ hv]; rfl, by rw [cell_of_row _ _ _ _ _ _ hv]; rfl, frozen_of_row _ _ _ _ _ hv, frozen_of_row _ _ _ _ _ hv, lt_of_block hv, h2, h3⟩

theorem leN_cons (x : UInt8) (r : List UInt8) (h : r.length < 8) : bits .or .u64 (IntKind.u64.wrap ((leN r : Int) * 2 ^ 8)) (IntKind.u64.wrap (x.toNat : Int)) = (leN (x :: r) : Int) := by
  have hx : x.toNat < 256 := x.toNat_lt
  have h1 := leN_lt r
  have h2 : leN r * 256 < 18446744073709551616 := by
    have h5 := pow_le64 (k := r.length + 1) (by omega)
    have e3 : 2 ^ (8 * (r.length + 1)) = 256 * 2 ^ (8 * r.length) := by rw [Nat.mul_add, Nat.pow_add, Nat.mul_comm]
    omega
  have e1 : IntKind.u64.wrap ((leN r : Int) * 2 ^ 8) = ((leN r * 256 : Nat) : Int) := by
    have e : IntKind.u64.wrap ((leN r : Int) * 2 ^ 8) = ((leN r : Int) * 2 ^ 8) % 18446744073709551616 := rfl
    rw [e]
    omega
  rw [wrap_byte, e1, u64_or_nat _ _ h2 (by omega)]
  have := Nat.shiftLeft_add_eq_or_of_lt (i := 8) (b := x.toNat) (by omega) (leN r)
  rw [Nat.shiftLeft_eq] at this
  simp only [leN]
  have e8 : (2 : Nat) ^ 8 = 256 := rfl
  rw [e8] at this
  rw [← this]
  omega

set_option maxRecDepth 100000 in
set_option maxHeartbeats 1000000 in
theorem rnumber_any (w : World) (g : Nat) (v : Value) (l : List UInt8) (h : Bs w g v l) (h8 : l.length ≤ 8) : Calls Tryz.prog 258 #[v] w fun e w' => e = .returned (.int .u64 (leN l)) ∧ w = w' := by
  have HB := Lib.hid h
  have hf : ∃ a c, v = .slice a l.length c := by
    rcases h with ⟨rfl, rfl⟩ | ⟨o, cap, rfl, _⟩
    · exact ⟨_, _, rfl⟩
    · exact ⟨_, _, rfl⟩
  obtain ⟨a, c, rfl⟩ := hf
  clear h
  go_enter Tryz.func258, Tryz.ntmps258
  go_wp2
  go_loop [3, 4] (fun n i => ∃ j : Nat, j ≤ l.length ∧ i = .int .i64 ((j : Int) - 1) ∧ n = .int .u64 (leN (l.drop j))) (fun _ i => (intOf i + 1).toNat)
  case atStart => exact ⟨l.length, Nat.le_refl _, by go_num, by rw [List.drop_length]; rfl⟩
  case round =>
    obtain ⟨j, hj, rfl, rfl⟩ := hrel
    by_cases hlt : 0 < j
    · obtain ⟨j, rfl⟩ : ∃ k, j = k + 1 := ⟨j - 1, by omega⟩
      have e1 : (((j + 1 : Nat) : Int) - 1) = (j : Int) := by omega
      rw [e1]
      obtain ⟨x, hx⟩ := get_lt (l := l) (j := j) (by omega)
      rcases HB.out with ⟨_, h0⟩ | ⟨o, cap, he, _, _, h3⟩
      · rw [h0] at hj; simp at hj
      · simp only [Value.slice.injEq, true_and] at he
        obtain ⟨rfl, rfl⟩ := he
        have cx := h3 j x hx
        unfold bv at cx
        have hor := leN_cons x (l.drop (j + 1)) (by rw [List.length_drop]; omega)
        have hd : x :: l.drop (j + 1) = l.drop j := by
          obtain ⟨hj', rfl⟩ := List.getElem?_eq_some_iff.1 hx
          exact List.getElem_cons_drop hj'
        rw [hd] at hor
        have HO := Lib.hid hor
        clear h3 hx hor hd e1
        go_wp2_with fail
        go_round
        case rel => exact ⟨j, by omega, by go_num, by rw [← HO.out]; first | rfl | go_num⟩
        case measure => simp [intOf]
    · obtain rfl : j = 0 := by omega
      go_wp2
      go_ret
      exact ⟨rfl, rfl⟩

/-- What the reference's take comes to. -/
def RTook (w : World) (b g : Nat) (B : List UInt8) (i n : Nat) (e : Ending) (w' : World) : Prop :=
  ∃ v, e = .returned (.tuple #[v, .bool true]) ∧ Bs w' g v ((B.drop i).take n) ∧ RAt w' b g B (i + n) false ∧ Keeps (Only b) w w'
def RNot (w : World) (b g : Nat) (B : List UInt8) (i : Nat) (e : Ending) (w' : World) : Prop :=
  e = .returned (.tuple #[.slice none 0 0, .bool false]) ∧ RAt w' b g B i true ∧ Keeps (Only b) w w'
theorem aftK {S : Nat → Prop} {w : World} (z : Aft w) : Keeps S w z.x := .ofBelow z.h

set_option maxRecDepth 100000 in
set_option maxHeartbeats 2000000 in
theorem rtake_blind (w : World) (b g : Nat) (B : List UInt8) (i n : Nat) (he : RAt w b g B i true) :
    Calls Tryz.prog 257 #[.pointer (some ⟨b, 0, none⟩), .int .i64 n] w (RNot w b g B i) := by
  have HE := Lib.hid he
  obtain ⟨a, c, hbs, c0, c1, c2, f1, f2, hlt, hi, hB⟩ := he.cells
  clear he hbs
  go_enter Tryz.func257, Tryz.ntmps257
  go_wp2_with fail
  refine region_aft (by kernel_rfl) (by kernel_rfl) ?_
  repeat (go_big_quiet_step (fail))
  refine wpQuiet_nil ?_
  rintro w2 ⟨z, rfl⟩
  have HE2 := Lib.hid ((HE.out.before (aftK z)).dim)
  have HK2 : Hid (Keeps (Only b) w (z.x.setCell ⟨b, 2, none⟩ (.bool true))) := (aftK z).then (Keeps.setCell (S := Only b) (p := ⟨b, 2, none⟩) (fun _ => rfl) _)
  go_wp2
  go_ret2
  exact ⟨rfl, HE2.out, HK2.out⟩

set_option maxRecDepth 100000 in
set_option maxHeartbeats 2000000 in
theorem rtake_no (w : World) (b g : Nat) (B : List UInt8) (i n : Nat) (he : RAt w b g B i false) (h : B.length < i + n) :
    Calls Tryz.prog 257 #[.pointer (some ⟨b, 0, none⟩), .int .i64 n] w (RNot w b g B i) := by
  have HE := Lib.hid he
  obtain ⟨a, c, hbs, c0, c1, c2, f1, f2, hlt, hi, hB⟩ := he.cells
  have hd : decide ((B.length : Int) - (i : Int) < (n : Int)) = true := by simp; omega
  clear he hbs h
  go_enter Tryz.func257, Tryz.ntmps257
  go_wp2_with fail
  refine region_aft (by kernel_rfl) (by kernel_rfl) ?_
  repeat (go_big_quiet_step (fail))
  refine wpQuiet_nil ?_
  rintro w2 ⟨z, rfl⟩
  have HE2 := Lib.hid ((HE.out.before (aftK z)).dim)
  have HK2 : Hid (Keeps (Only b) w (z.x.setCell ⟨b, 2, none⟩ (.bool true))) := (aftK z).then (Keeps.setCell (S := Only b) (p := ⟨b, 2, none⟩) (fun _ => rfl) _)
  go_wp2
  go_ret2
  exact ⟨rfl, HE2.out, HK2.out⟩

theorem bs_mid {w : World} {g o cap : Nat} {l : List UInt8} {i n : Nat} (h1 : l.length ≤ cap) (h2 : cap ≤ maxLen) (h3 : ∀ (j : Nat) (x : UInt8), l[j]? = some x → w.cell? ⟨g, o + j, none⟩ = some (bv x)) (hn : i + n ≤ l.length) :
    Bs w g (.slice (some ⟨g, o + i, none⟩) n (cap - i)) ((l.drop i).take n) := by
  have hl : ((l.drop i).take n).length = n := by rw [List.length_take, List.length_drop]; omega
  refine .inr ⟨o + i, cap - i, by rw [hl], by omega, by omega, fun j x hx => ?_⟩
  have hj : j < n := by
    have := (List.getElem?_eq_some_iff.1 hx).1
    omega
  rw [List.getElem?_take_of_lt hj, List.getElem?_drop] at hx
  have := h3 (i + j) x hx
  rwa [← Nat.add_assoc] at this

set_option maxRecDepth 100000 in
set_option maxHeartbeats 2000000 in
theorem rtake_yes (w : World) (b g : Nat) (B : List UInt8) (i n : Nat) (he : RAt w b g B i false) (hn : n ≤ 1048576) (h : i + n ≤ B.length) :
    Calls Tryz.prog 257 #[.pointer (some ⟨b, 0, none⟩), .int .i64 n] w (RTook w b g B i n) := by
  have HE := Lib.hid he
  obtain ⟨a, c, hbs, c0, c1, c2, f1, f2, hlt, hi, hB⟩ := he.cells
  have hd : decide ((B.length : Int) - (i : Int) < (n : Int)) = false := by simp; omega
  have HBS := Lib.hid hbs
  clear he hbs
  go_enter Tryz.func257, Tryz.ntmps257
  go_wp2_with fail
  refine region_aft (by kernel_rfl) (by kernel_rfl) ?_
  repeat (go_big_quiet_step (fail))
  refine wpQuiet_nil ?_
  rintro w2 ⟨z, rfl⟩
  have HE2 : Hid (RAt (z.x.setCell ⟨b, 1, none⟩ (.int .i64 ((i : Int) + (n : Int)))) b g B (i + n) false) := by
    have h2 := (HE.out.before (aftK z)).set (i + n) h
    rwa [Int.natCast_add] at h2
  have HK2 : Hid (Keeps (Only b) w (z.x.setCell ⟨b, 1, none⟩ (.int .i64 ((i : Int) + (n : Int))))) := (aftK z).then (Keeps.setCell (S := Only b) (p := ⟨b, 1, none⟩) (fun _ => rfl) _)
  go_wp2_with fail
  clear hd c0 c1 c2 f1 f2 hlt hi hB HBS HE
  generalize z.x.setCell ⟨b, 1, none⟩ (.int .i64 ((i : Int) + (n : Int))) = W at *
  obtain ⟨a2, c2, hbs, d0, d1, d2, _, _, hlt, hi, hB⟩ := HE2.out.cells
  rw [Int.natCast_add] at d1
  have HBS := Lib.hid hbs
  clear hbs
  rcases HBS.out with ⟨hnil, h0⟩ | ⟨o, cap, hv, h1, h2, h3⟩
  · simp only [Value.slice.injEq] at hnil
    obtain ⟨rfl, hbl, rfl⟩ := hnil
    obtain rfl : i = 0 := by omega
    obtain rfl : n = 0 := by omega
    rw [hbl] at d0
    refine region_aft (by kernel_rfl) (by kernel_rfl) ?_
    repeat (go_big_quiet_step (fail))
    refine wpQuiet_nil ?_
    rintro w2 ⟨y, rfl⟩
    go_wp2
    go_ret2
    exact ⟨_, rfl, .inl ⟨rfl, by simp⟩, HE2.out.before (aftK y), HK2.out.then (aftK y)⟩
  · simp only [Value.slice.injEq, true_and] at hv
    obtain ⟨rfl, rfl⟩ := hv
    have HM : Hid (Bs W g (.slice (some ⟨g, o + i, none⟩) (i + n - i) (c2 - i)) ((B.drop i).take n)) := by show Bs _ _ _ _; rw [Nat.add_sub_cancel_left]; exact bs_mid h1 h2 h3 h
    unfold maxLen at h2
    clear h3
    by_cases hc : c2 = i
    · subst hc
      obtain rfl : n = 0 := by omega
      refine region_aft (by kernel_rfl) (by kernel_rfl) ?_
      repeat (go_big_quiet_step (fail))
      refine wpQuiet_nil ?_
      rintro w2 ⟨y, rfl⟩
      go_wp2
      go_ret2
      exact ⟨_, rfl, bs_none (by simp) _ (by omega), HE2.out.before (aftK y), HK2.out.then (aftK y)⟩
    · refine region_aft (by kernel_rfl) (by kernel_rfl) ?_
      repeat (go_big_quiet_step (fail))
      refine wpQuiet_nil ?_
      rintro w2 ⟨y, rfl⟩
      go_wp2
      go_ret2
      exact ⟨_, rfl, HM.out.keep (S := fun _ => False) (aftK y) (fun _ h => h), HE2.out.before (aftK y), HK2.out.then (aftK y)⟩

end S2
end Go.Proofs.YtjlkgbejldcklaaGreat

/- The reference's eye: Int, Text, Bool, Stamp, Done, Open. Conditions: as each theorem states. -/
namespace Go.Proofs.YtjlkgbejldcklaaGreat
namespace S2
open Go.RowKit Go.Deep

def stepN (ok : Bool) (k i : Nat) : Nat := if ok then i + k else i
theorem behind_step (ok : Bool) (k i : Nat) (B : List UInt8) : behind ok k (B.drop i) = B.drop (stepN ok k i) := by
  cases ok
  · simp [behind, stepN]
  · simp [behind, stepN, List.drop_drop]
/-- What a reading of the reference's eye comes to. -/
def RSeen (w : World) (b g : Nat) (B : List UInt8) (bl : Bool) (v : Value) (i : Nat) (e : Ending) (w' : World) : Prop := e = .returned v ∧ RAt w' b g B i bl ∧ Keeps (Only b) w w'

set_option maxRecDepth 100000 in
set_option maxHeartbeats 1000000 in
theorem rInt_any (w : World) (b g : Nat) (B : List UInt8) (i : Nat) (bl : Bool) (he : RAt w b g B i bl) :
    Calls Tryz.prog 193 #[.pointer (some ⟨b, 0, none⟩)] w (RSeen w b g B (!okI (B.drop i) bl) (.int .i64 (valI (B.drop i) bl)) (stepN (okI (B.drop i) bl) 8 i)) := by
  have HE := Lib.hid he
  obtain ⟨_, _, _, _, _, _, _, _, _, hiB, _⟩ := he.cells
  clear he
  have hl : (B.drop i).length = B.length - i := List.length_drop
  cases bl
  · by_cases h : 8 ≤ (B.drop i).length
    · have hok : okI (B.drop i) false = true := by simp only [okI, Bool.not_false, Bool.true_and, decide_eq_true_eq]; exact h
      have hv : valI (B.drop i) false = rd (B.drop i) := by simp [valI, hok]
      have hs : stepN true 8 i = i + 8 := rfl
      rw [hv, hok, hs]
      unfold rd
      clear hv hok hs
      go_enter Tryz.func193, Tryz.ntmps193
      go_wp2_with (first | (go_at_call 257; refine (rtake_yes _ b g B i 8 HE.out (by omega) (by omega)).mono ?_; rintro e w1 ⟨v1, rfl, hb1, he1, hk1⟩; obtain ⟨a1, n1, cc1, rfl⟩ := hb1.form; have HB1 := Lib.hid hb1; have HE1 := Lib.hid he1; have HK1 := Lib.hid hk1; clear he1 hk1; clear hb1) | (go_at_call 258; refine (rnumber_any _ g _ _ HB1.out (by simp; omega)).mono ?_; rintro e w ⟨rfl, rfl⟩))
      go_ret
      exact ⟨rfl, HE1.out, HK1.out⟩
    · have hok : okI (B.drop i) false = false := by simp only [okI, Bool.not_false, Bool.true_and, decide_eq_false_iff_not]; exact h
      have hv : valI (B.drop i) false = 0 := by simp [valI, hok]
      have hs : stepN false 8 i = i := rfl
      rw [hv, hok, hs]
      clear hv hok hs
      go_enter Tryz.func193, Tryz.ntmps193
      go_wp2_with (go_at_call 257; refine (rtake_no _ b g B i 8 HE.out (by omega)).mono ?_; rintro e w1 ⟨rfl, he1, hk1⟩; have HE1 := Lib.hid he1; have HK1 := Lib.hid hk1; clear he1 hk1)
      go_ret
      exact ⟨rfl, HE1.out, HK1.out⟩
  · have hok : okI (B.drop i) true = false := by simp [okI]
    have hv : valI (B.drop i) true = 0 := by simp [valI, hok]
    have hs : stepN false 8 i = i := rfl
    rw [hv, hok, hs]
    clear hv hok hs
    go_enter Tryz.func193, Tryz.ntmps193
    go_wp2_with (go_at_call 257; refine (rtake_blind _ b g B i 8 HE.out).mono ?_; rintro e w1 ⟨rfl, he1, hk1⟩; have HE1 := Lib.hid he1; have HK1 := Lib.hid hk1; clear he1 hk1)
    go_ret
    exact ⟨rfl, HE1.out, HK1.out⟩

theorem resetDim {w w1 : World} {b g : Nat} {B : List UInt8} {i j : Nat} {bl : Bool} (h : RAt w1 b g B j bl) (hi : i ≤ B.length) (k : Keeps (Only b) w w1) :
    RAt ((w1.setCell ⟨b, 1, none⟩ (.int .i64 (i : Int))).setCell ⟨b, 2, none⟩ (.bool true)) b g B i true ∧ Keeps (Only b) w ((w1.setCell ⟨b, 1, none⟩ (.int .i64 (i : Int))).setCell ⟨b, 2, none⟩ (.bool true)) :=
  ⟨(h.set i hi).dim, (k.then (Keeps.setCell (S := Only b) (p := ⟨b, 1, none⟩) (fun _ => rfl) _)).then (Keeps.setCell (S := Only b) (p := ⟨b, 2, none⟩) (fun _ => rfl) _)⟩

set_option maxRecDepth 100000 in
set_option maxHeartbeats 2000000 in
theorem rText_far (w : World) (b g : Nat) (B : List UInt8) (i n : Nat) (he : RAt w b g B i false) (h4 : i + 4 ≤ B.length) (hn : leN ((B.drop i).take 4) = n) (h : 1048576 < n ∨ B.length < i + 4 + n) :
    Calls Tryz.prog 206 #[.pointer (some ⟨b, 0, none⟩)] w (RSeen w b g B true (.string ⟨#[]⟩) i) := by
  have HE := Lib.hid he
  obtain ⟨a, c, _, c0, c1, c2, f1, f2, hlt, hi, hB⟩ := he.cells
  have hn4 : n < 4294967296 := by
    have h1 := leN_lt ((B.drop i).take 4)
    rw [hn, List.length_take, List.length_drop] at h1
    have h2 : 2 ^ (8 * min 4 (B.length - i)) = 4294967296 := by rw [show min 4 (B.length - i) = 4 by omega]
    omega
  have HN := Lib.hid hn
  clear he hn
  by_cases hbig : 1048576 < n
  · have hd1 : decide ((1048576 : Int) < (n : Int)) = true := by simp; omega
    clear h hbig
    go_enter Tryz.func206, Tryz.ntmps206
    go_wp2_with (first | (go_at_call 257; refine (rtake_yes _ b g B i 4 HE.out (by omega) (by omega)).mono ?_; rintro e w1 ⟨v1, rfl, hb1, he1, hk1⟩; obtain ⟨a1, n1, cc1, rfl⟩ := hb1.form; have HB1 := Lib.hid hb1; have HE1 := Lib.hid he1; have HK1 := Lib.hid hk1; clear he1 hk1; clear hb1) | (go_at_call 258; refine (rnumber_any _ g _ _ HB1.out (by simp; omega)).mono ?_; rintro e w ⟨rfl, rfl⟩; rw [HN.out]))
    clear c0 c1 c2 f1 f2 hlt
    obtain ⟨a3, c3, _, c0, c1, c2, f1, f2, hlt, _, _⟩ := HE1.out.cells
    refine region_aft (by kernel_rfl) (by kernel_rfl) ?_
    repeat (go_big_quiet_step (fail))
    refine wpQuiet_nil ?_
    rintro w2 ⟨z, rfl⟩
    obtain ⟨hx, hk⟩ := resetDim (HE1.out.before (aftK z)) hi (HK1.out.then (aftK z))
    have HX := Lib.hid hx
    have HK := Lib.hid hk
    clear hx hk
    go_wp2
    go_ret
    exact ⟨rfl, HX.out, HK.out⟩
  · have hd1 : decide ((1048576 : Int) < (n : Int)) = false := by simp; omega
    have hd2 : decide ((B.length : Int) - ((i : Int) + 4) < (n : Int)) = true := by simp; omega
    clear h
    go_enter Tryz.func206, Tryz.ntmps206
    go_wp2_with (first | (go_at_call 257; refine (rtake_yes _ b g B i 4 HE.out (by omega) (by omega)).mono ?_; rintro e w1 ⟨v1, rfl, hb1, he1, hk1⟩; obtain ⟨a1, n1, cc1, rfl⟩ := hb1.form; have HB1 := Lib.hid hb1; have HE1 := Lib.hid he1; have HK1 := Lib.hid hk1; clear he1 hk1; clear hb1) | (go_at_call 258; refine (rnumber_any _ g _ _ HB1.out (by simp; omega)).mono ?_; rintro e w ⟨rfl, rfl⟩; rw [HN.out]))
    clear c0 c1 c2 f1 f2 hlt
    obtain ⟨a3, c3, _, c0, c1, c2, f1, f2, hlt, _, _⟩ := HE1.out.cells
    rw [Int.natCast_add] at c1
    refine region_aft (by kernel_rfl) (by kernel_rfl) ?_
    repeat (go_big_quiet_step (fail))
    refine wpQuiet_nil ?_
    rintro w2 ⟨z, rfl⟩
    obtain ⟨hx, hk⟩ := resetDim (HE1.out.before (aftK z)) hi (HK1.out.then (aftK z))
    have HX := Lib.hid hx
    have HK := Lib.hid hk
    clear hx hk
    go_wp2
    go_ret
    exact ⟨rfl, HX.out, HK.out⟩

set_option maxRecDepth 100000 in
set_option maxHeartbeats 2000000 in
theorem rText_yes (w : World) (b g : Nat) (B : List UInt8) (i n : Nat) (he : RAt w b g B i false) (h4 : i + 4 + n ≤ B.length) (hn : leN ((B.drop i).take 4) = n) (h1 : n ≤ 1048576) :
    Calls Tryz.prog 206 #[.pointer (some ⟨b, 0, none⟩)] w (RSeen w b g B false (.string ⟨((B.drop (i + 4)).take n).toArray⟩) (i + 4 + n)) := by
  have HE := Lib.hid he
  obtain ⟨a, c, _, c0, c1, c2, f1, f2, hlt, hi, hB⟩ := he.cells
  have HN := Lib.hid hn
  clear he hn
  have hd1 : decide ((1048576 : Int) < (n : Int)) = false := by simp; omega
  have hd2 : decide ((B.length : Int) - ((i : Int) + 4) < (n : Int)) = false := by simp; omega
  go_enter Tryz.func206, Tryz.ntmps206
  go_wp2_with (first | (go_at_call 257; refine (rtake_yes _ b g B i 4 HE.out (by omega) (by omega)).mono ?_; rintro e w1 ⟨v1, rfl, hb1, he1, hk1⟩; obtain ⟨a1, n1, cc1, rfl⟩ := hb1.form; have HB1 := Lib.hid hb1; have HE1 := Lib.hid he1; have HK1 := Lib.hid hk1; clear he1 hk1; clear hb1) | (go_at_call 258; refine (rnumber_any _ g _ _ HB1.out (by simp; omega)).mono ?_; rintro e w ⟨rfl, rfl⟩; rw [HN.out]))
  clear c0 c1 c2 f1 f2 hlt
  obtain ⟨a3, c3, _, c0, c1, c2, f1, f2, hlt, _, _⟩ := HE1.out.cells
  rw [Int.natCast_add] at c1
  refine region_aft (by kernel_rfl) (by kernel_rfl) ?_
  repeat (go_big_quiet_step (fail))
  refine wpQuiet_nil ?_
  rintro w2 ⟨z, rfl⟩
  have HE2 := Lib.hid (HE1.out.before (aftK z))
  have HK2 : Hid (Keeps (Only b) w z.x) := HK1.out.then (aftK z)
  clear c0 c1 c2 f1 f2 hlt
  go_wp2_with (go_at_call 257; refine (rtake_yes _ b g B (i + 4) n HE2.out (by omega) (by omega)).mono ?_; rintro e w3 ⟨v3, rfl, hb3, he3, hk3⟩; have hstr := hb3.str; obtain ⟨a4, n4, c4, rfl⟩ := hb3.form; have HE3 := Lib.hid he3; have HK3 := Lib.hid (HK2.out.then hk3); clear he3 hk3 hb3)
  go_ret
  exact ⟨rfl, HE3.out, HK3.out⟩

set_option maxHeartbeats 1000000 in
theorem rText_any (w : World) (b g : Nat) (B : List UInt8) (i : Nat) (bl : Bool) (he : RAt w b g B i bl) :
    Calls Tryz.prog 206 #[.pointer (some ⟨b, 0, none⟩)] w (RSeen w b g B (!okT (B.drop i) bl) (.string (valT (B.drop i) bl)) (stepN (okT (B.drop i) bl) (4 + leN ((B.drop i).take 4)) i)) := by
  have HE := Lib.hid he
  obtain ⟨a, c, _, c0, c1, c2, f1, f2, hlt, hiB, hB⟩ := he.cells
  clear he
  have hl : (B.drop i).length = B.length - i := List.length_drop
  have hl4 : ((B.drop i).drop 4).length = B.length - (i + 4) := by rw [List.drop_drop, List.length_drop]
  cases bl
  · by_cases h : 4 ≤ (B.drop i).length ∧ leN ((B.drop i).take 4) ≤ 1048576 ∧ leN ((B.drop i).take 4) ≤ ((B.drop i).drop 4).length
    · have hok : okT (B.drop i) false = true := by simp only [okT, Bool.not_false, Bool.true_and, decide_eq_true_eq]; exact h
      have hv : valT (B.drop i) false = atT (B.drop i) := by simp [valT, hok]
      have hs : stepN true (4 + leN ((B.drop i).take 4)) i = i + 4 + leN ((B.drop i).take 4) := by rw [Nat.add_assoc]; rfl
      have ha : atT (B.drop i) = ⟨((B.drop (i + 4)).take (leN ((B.drop i).take 4))).toArray⟩ := by unfold atT; rw [List.drop_drop]
      rw [hv, hok, hs, ha]
      exact rText_yes w b g B i _ HE.out (by omega) rfl h.2.1
    · have hok : okT (B.drop i) false = false := by simp only [okT, Bool.not_false, Bool.true_and, decide_eq_false_iff_not]; exact h
      have hv : valT (B.drop i) false = ⟨#[]⟩ := by simp [valT, hok]
      have hs : stepN false (4 + leN ((B.drop i).take 4)) i = i := rfl
      rw [hv, hok, hs]
      clear hv hok hs
      by_cases h4 : 4 ≤ (B.drop i).length
      · exact rText_far w b g B i _ HE.out (by omega) rfl (by omega)
      · clear h hl4
        go_enter Tryz.func206, Tryz.ntmps206
        go_wp2_with (go_at_call 257; refine (rtake_no _ b g B i 4 HE.out (by omega)).mono ?_; rintro e w1 ⟨rfl, he1, hk1⟩; have HE1 := Lib.hid he1; have HK1 := Lib.hid hk1; clear he1 hk1)
        go_ret
        exact ⟨rfl, HE1.out, HK1.out⟩
  · have hok : okT (B.drop i) true = false := by simp [okT]
    have hv : valT (B.drop i) true = ⟨#[]⟩ := by simp [valT, hok]
    have hs : stepN false (4 + leN ((B.drop i).take 4)) i = i := rfl
    rw [hv, hok, hs]
    clear hv hok hs
    go_enter Tryz.func206, Tryz.ntmps206
    go_wp2_with (go_at_call 257; refine (rtake_blind _ b g B i 4 HE.out).mono ?_; rintro e w1 ⟨rfl, he1, hk1⟩; have HE1 := Lib.hid he1; have HK1 := Lib.hid hk1; clear he1 hk1)
    go_ret
    exact ⟨rfl, HE1.out, HK1.out⟩

end S2
end Go.Proofs.YtjlkgbejldcklaaGreat

/- The reference's eye: Bool, Stamp, Done, Open. Conditions: as each theorem states. -/
namespace Go.Proofs.YtjlkgbejldcklaaGreat
namespace S2
open Go.RowKit Go.Deep

theorem take_one {B : List UInt8} {i : Nat} {x : UInt8} (h : B[i]? = some x) : (B.drop i).take 1 = [x] := by
  obtain ⟨hi, rfl⟩ := List.getElem?_eq_some_iff.1 h
  rw [← List.getElem_cons_drop (h := hi)]
  rfl

theorem one_of {w : World} {g : Nat} {v : Value} {x : UInt8} (h : Bs w g v [x]) : ∃ o c, v = .slice (some ⟨g, o, none⟩) 1 c ∧ 1 ≤ c ∧ c ≤ 9223372036854775807 ∧ w.cell? ⟨g, o, none⟩ = some (.int .u8 (x.toNat : Int)) := by
  rcases h with ⟨_, h⟩ | ⟨o, cap, hv, h1, h2, h3⟩
  · cases h
  · exact ⟨o, cap, hv, h1, h2, h3 0 x rfl⟩

set_option maxRecDepth 100000 in
set_option maxHeartbeats 1000000 in
theorem rBool_any (w : World) (b g : Nat) (B : List UInt8) (i : Nat) (bl : Bool) (he : RAt w b g B i bl) :
    Calls Tryz.prog 237 #[.pointer (some ⟨b, 0, none⟩)] w (RSeen w b g B (!okB (B.drop i) bl) (.bool (valB (B.drop i) bl)) (stepN (okB (B.drop i) bl) 1 i)) := by
  have HE := Lib.hid he
  obtain ⟨a, c, _, c0, c1, c2, f1, f2, hlt, hiB, hB⟩ := he.cells
  clear he
  have hl : (B.drop i).length = B.length - i := List.length_drop
  cases bl
  · by_cases h : 1 ≤ (B.drop i).length
    · obtain ⟨x, hx⟩ := get_lt (l := B) (j := i) (by omega)
      have ht := take_one hx
      have hn : leN [x] = x.toNat := by simp [leN]
      by_cases h1 : 1 < x.toNat
      · have hok : okB (B.drop i) false = false := by unfold okB; rw [ht, hn]; simp; omega
        have hv : valB (B.drop i) false = false := by simp [valB, hok]
        have hs : stepN false 1 i = i := rfl
        rw [hv, hok, hs]
        clear hv hok hs
        have hd : decide ((1 : Int) < (x.toNat : Int)) = true := by simp; omega
        have HT := Lib.hid ht
        clear ht
        go_enter Tryz.func237, Tryz.ntmps237
        go_wp2_with (go_at_call 257; refine (rtake_yes _ b g B i 1 HE.out (by omega) (by omega)).mono ?_; rintro e w1 ⟨v1, rfl, hb1, he1, hk1⟩; rw [HT.out] at hb1; obtain ⟨o1, cc1, rfl, _, _, hcx⟩ := one_of hb1; have HB1 := Lib.hid hb1; have HE1 := Lib.hid he1; have HK1 := Lib.hid hk1; clear he1 hk1; obtain ⟨a3, c3, _, d0, d1, d2, r1, r2, hlt3, _, _⟩ := HE1.out.cells; clear hb1)
        obtain ⟨hx9, hk9⟩ := resetDim HE1.out hiB HK1.out
        have HX := Lib.hid hx9
        have HK := Lib.hid hk9
        clear hx9 hk9
        go_ret
        exact ⟨rfl, HX.out, HK.out⟩
      · have hok : okB (B.drop i) false = true := by unfold okB; rw [ht, hn]; simp; omega
        have hs : stepN true 1 i = i + 1 := rfl
        have hv : valB (B.drop i) false = decide (x.toNat = 1) := by unfold valB; rw [hok, ht, hn]; rfl
        rw [hv, hok, hs]
        clear hv hok hs
        have HT := Lib.hid ht
        clear ht
        obtain ⟨q, hq⟩ : ∃ q, x.toNat = q := ⟨_, rfl⟩
        rw [hq] at h1 ⊢
        have hqq : q = 0 ∨ q = 1 := by omega
        rcases hqq with rfl | rfl
        · go_enter Tryz.func237, Tryz.ntmps237
          go_wp2_with (go_at_call 257; refine (rtake_yes _ b g B i 1 HE.out (by omega) (by omega)).mono ?_; rintro e w1 ⟨v1, rfl, hb1, he1, hk1⟩; rw [HT.out] at hb1; obtain ⟨o1, cc1, rfl, _, _, hcx⟩ := one_of hb1; rw [hq] at hcx; have HB1 := Lib.hid hb1; have HE1 := Lib.hid he1; have HK1 := Lib.hid hk1; clear he1 hk1; clear hb1)
          go_ret
          exact ⟨rfl, HE1.out, HK1.out⟩
        · go_enter Tryz.func237, Tryz.ntmps237
          go_wp2_with (go_at_call 257; refine (rtake_yes _ b g B i 1 HE.out (by omega) (by omega)).mono ?_; rintro e w1 ⟨v1, rfl, hb1, he1, hk1⟩; rw [HT.out] at hb1; obtain ⟨o1, cc1, rfl, _, _, hcx⟩ := one_of hb1; rw [hq] at hcx; have HB1 := Lib.hid hb1; have HE1 := Lib.hid he1; have HK1 := Lib.hid hk1; clear he1 hk1; clear hb1)
          go_ret
          exact ⟨rfl, HE1.out, HK1.out⟩
    · have hok : okB (B.drop i) false = false := by unfold okB; simp; omega
      have hv : valB (B.drop i) false = false := by simp [valB, hok]
      have hs : stepN false 1 i = i := rfl
      rw [hv, hok, hs]
      clear hv hok hs
      go_enter Tryz.func237, Tryz.ntmps237
      go_wp2_with (go_at_call 257; refine (rtake_no _ b g B i 1 HE.out (by omega)).mono ?_; rintro e w1 ⟨rfl, he1, hk1⟩; have HE1 := Lib.hid he1; have HK1 := Lib.hid hk1; clear he1 hk1)
      go_ret
      exact ⟨rfl, HE1.out, HK1.out⟩
  · have hok : okB (B.drop i) true = false := by simp [okB]
    have hv : valB (B.drop i) true = false := by simp [valB, hok]
    have hs : stepN false 1 i = i := rfl
    rw [hv, hok, hs]
    clear hv hok hs
    go_enter Tryz.func237, Tryz.ntmps237
    go_wp2_with (go_at_call 257; refine (rtake_blind _ b g B i 1 HE.out).mono ?_; rintro e w1 ⟨rfl, he1, hk1⟩; have HE1 := Lib.hid he1; have HK1 := Lib.hid hk1; clear he1 hk1)
    go_ret
    exact ⟨rfl, HE1.out, HK1.out⟩

set_option maxRecDepth 100000 in
set_option maxHeartbeats 1000000 in
theorem rDone_any (w : World) (b g : Nat) (B : List UInt8) (i : Nat) (bl : Bool) (he : RAt w b g B i bl) :
    Calls Tryz.prog 100 #[.pointer (some ⟨b, 0, none⟩)] w fun e w' => e = .returned (.int .i64 (doneN (B.drop i) bl)) ∧ Below w.heap.size w w' := by
  obtain ⟨a, c, _, c0, c1, c2, f1, f2, hlt, hiB, hB⟩ := he.cells
  clear he
  cases bl
  · by_cases h : i < B.length
    · have hd : doneN (B.drop i) false = 20 := by
        have h1 : (B.drop i).isEmpty = false := by rw [List.isEmpty_eq_false_iff]; intro h2; have := List.drop_eq_nil_iff.1 h2; omega
        simp [doneN, h1]
      rw [hd]
      have hg : decide ((i : Int) < (B.length : Int)) = true := by simp; omega
      clear hd
      go_enter Tryz.func100, Tryz.ntmps100
      go_wp2_with fail
      refine region_aft (by kernel_rfl) (by kernel_rfl) ?_
      repeat (go_big_quiet_step (fail))
      refine wpQuiet_nil ?_
      rintro w2 ⟨z, rfl⟩
      go_wp2
      go_ret
      exact ⟨rfl, z.h⟩
    · have hd : doneN (B.drop i) false = 0 := by
        have h1 : B.drop i = [] := List.drop_eq_nil_of_le (by omega)
        simp [doneN, h1]
      rw [hd]
      have hg : decide ((i : Int) < (B.length : Int)) = false := by simp; omega
      clear hd
      go_enter Tryz.func100, Tryz.ntmps100
      go_wp2_with fail
      refine region_aft (by kernel_rfl) (by kernel_rfl) ?_
      repeat (go_big_quiet_step (fail))
      refine wpQuiet_nil ?_
      rintro w2 ⟨z, rfl⟩
      go_wp2
      go_ret
      exact ⟨rfl, z.h⟩
  · have hd : doneN (B.drop i) true = 20 := rfl
    rw [hd]
    clear hd
    go_enter Tryz.func100, Tryz.ntmps100
    go_wp2_with fail
    refine region_aft (by kernel_rfl) (by kernel_rfl) ?_
    repeat (go_big_quiet_step (fail))
    refine wpQuiet_nil ?_
    rintro w2 ⟨z, rfl⟩
    go_wp2
    go_ret
    exact ⟨rfl, z.h⟩

def ROpened (w : World) (l : List UInt8) (e : Ending) (w' : World) : Prop :=
  ∃ b g, e = .returned (.pointer (some ⟨b, 0, none⟩)) ∧ RAt w' b g l 0 false ∧ w.heap.size ≤ b ∧ (l ≠ [] → w.heap.size ≤ g) ∧ Below w.heap.size w w'
set_option maxRecDepth 100000 in
set_option maxHeartbeats 1000000 in
theorem rOpen_w (w : World) (g : Nat) (v : Value) (l : List UInt8) (h : Bw w g v l) (hlen : l.length ≤ 20000) : Calls Tryz.prog 98 #[v] w (ROpened w l) := by
  have HB := Lib.hid h
  obtain ⟨a, c, rfl, _, _, _⟩ := h
  go_enter Tryz.func98, Tryz.ntmps98
  go_wp2_with (at_builtin; refine wpList_app rfl (.tmp 3) (.tmp 4) 23 rfl rfl rfl (row_empty _) (HB.out.keep (S := fun _ => False) (Keeps.alloc _ _ _) (fun _ h => h)).src (by simp; omega) ?_; intro v' w' g' h1 h2 h3; obtain ⟨av, nv, cv, rfl⟩ := h1.form; have H1 := Lib.hid h1; have H2 := Lib.hid h2; have H3 := Lib.hid h3; clear h1 h2 h3)
  go_ret
  have hb : Below w.heap.size w w' := ((Below.refl _ _).alloc (Nat.le_refl _) _).grown H2.out (by simp) (fun k hk => by cases hk; exact Nat.le_refl _)
  have hrow : Row w' g' (.slice av nv cv) l := by simpa using H1.out
  have hnew : New w g' := by
    rcases H3.out with e | e
    · rw [e]; intro k hk; cases hk; exact Nat.le_refl _
    · exact e.later (Keeps.alloc (fun _ => False) _ _)
  refine ⟨w'.heap.size, g'.getD 0, rfl, ⟨_, heap_alloc_new w' _, hrow.bs.keep (Keeps.alloc (fun _ => False) _ _) (fun _ h => h), Nat.zero_le _, hlen, fun hne => ?_⟩, hb.size, fun hne => ?_, hb.alloc hb.size _⟩
  · obtain ⟨k, rfl⟩ := hrow.some_of hne
    exact Nat.ne_of_lt (hrow.lt rfl)
  · obtain ⟨k, rfl⟩ := hrow.some_of hne
    exact hnew k rfl

end S2
end Go.Proofs.YtjlkgbejldcklaaGreat
