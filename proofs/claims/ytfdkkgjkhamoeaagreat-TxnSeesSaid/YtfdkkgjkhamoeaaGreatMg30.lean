/- An eye upon what was laid; upon what was laid and then cut; two lists of stamps that are the same. Conditions: as each theorem states. -/
import Derived.Deep.Draws
import Derived.Test.YtfdkkgjkhamoeaaGreatMg28
import Derived.Test.YtfdkkgjkhamoeaaGreatMg29
/- small: whether things are few and light enough. Conditions: none. -/
namespace Go.Proofs.YtfdkkgjkhamoeaaGreat
namespace S2
open Go.ChangeShapes Go.WideShapes Go.ChangeAt Go.RowKit Go.Joins Go.Deep

def wt (x : Th) : Nat := x.s.size + 16 * x.l.length
def wsum : List Th → Nat
  | [] => 0
  | x :: r => wt x + wsum r
theorem wsum_append (l m : List Th) : wsum (l ++ m) = wsum l + wsum m := by
  induction l with
  | nil => simp [wsum]
  | cons s r ih => rw [List.cons_append]; simp only [wsum]; omega
theorem wsum_take (l : List Th) {j : Nat} {x : Th} (h : l[j]? = some x) : wsum (l.take (j + 1)) = wsum (l.take j) + wt x := by
  obtain ⟨hj, rfl⟩ := List.getElem?_eq_some_iff.1 h
  rw [List.take_succ_eq_append_getElem hj, wsum_append]
  simp [wsum]
theorem wsum_mem (l : List Th) {j : Nat} {x : Th} (h : l[j]? = some x) : wt x ≤ wsum l := by
  induction l generalizing j with
  | nil => simp at h
  | cons y r ih =>
    cases j with
    | zero => simp only [List.getElem?_cons_zero, Option.some.injEq] at h; subst h; simp only [wsum]; omega
    | succ j => have := ih (j := j) (by simpa using h); simp only [wsum]; omega
theorem wsum_le (l : List Th) (B : Nat) (h : ∀ (j : Nat) (x : Th), l[j]? = some x → wt x ≤ B) : wsum l ≤ B * l.length := by
  induction l with
  | nil => simp [wsum]
  | cons x r ih =>
    have h1 := h 0 x rfl
    have h2 := ih fun j s hj => h (j + 1) s (by simpa using hj)
    simp only [wsum, List.length_cons, Nat.mul_succ]
    omega
def smallT (l : List Th) : Bool := decide (l.length ≤ 60 ∧ wsum l ≤ 20000)
theorem ThAt.later {w w' : World} {g o : Nat} {x : Th} (h : ThAt w g o x) (hb : Below w.heap.size w w') (hg : g < w.heap.size) : ThAt w' g o x :=
  ⟨(hb.cell (p := ⟨g, o, none⟩) hg).trans h.k, (hb.cell (p := ⟨g, o + 1, none⟩) hg).trans h.n, (hb.cell (p := ⟨g, o + 2, none⟩) hg).trans h.s, (hb.cell (p := ⟨g, o + 3, none⟩) hg).trans h.b,
    (hb.cell (p := ⟨g, o + 4, none⟩) hg).trans h.t1, (hb.cell (p := ⟨g, o + 5, none⟩) hg).trans h.t2, (hb.cell (p := ⟨g, o + 6, none⟩) hg).trans h.l⟩
theorem below_drewN {w x : World} {B : Nat} (h : Below B w x) (n : Nat) : Below B w (x.drewN n) := ⟨h.os, h.tape, h.output, h.size, h.block⟩

end S2
end Go.Proofs.YtfdkkgjkhamoeaaGreat

/- lay: things laid by a pen and by hand are the same bytes. Conditions: things that are few and light enough. -/
namespace Go.Proofs.YtfdkkgjkhamoeaaGreat
namespace S2
open Go.ChangeShapes Go.WideShapes Go.ChangeAt Go.RowKit Go.Joins Go.Deep

/-- A thing's bytes. -/
def layB (x : Th) : List UInt8 := if x.k = 0 then i8 x.n else if x.k = 1 then tx x.s else if x.k = 2 then tb x.b else if x.k = 3 then st x.t else if x.k = 4 then sts x.l else []
theorem layB_len (x : Th) : (layB x).length ≤ 16 + wt x := by
  have h1 := i8_length x.n
  have h2 := tx_length x.s
  have h3 : (tb x.b).length = 1 := low_length _ _
  have h4 := st_length x.t
  have h5 := sts_len x.l
  unfold layB wt
  split
  · omega
  · split
    · omega
    · split
      · omega
      · split
        · omega
        · split
          · omega
          · simp
theorem lay_len (l : List Th) : (l.flatMap layB).length ≤ 16 * l.length + wsum l := by
  induction l with
  | nil => simp
  | cons x r ih =>
    have := layB_len x
    rw [List.flatMap_cons, List.length_append, List.length_cons]
    simp only [wsum]
    omega
theorem wsum_prefix (l : List Th) (j : Nat) : wsum (l.take j) ≤ wsum l := by
  have h := wsum_append (l.take j) (l.drop j)
  rw [List.take_append_drop] at h
  omega

/-- A pen and a row that hold the same bytes, apart from each other. -/
structure Lay (w : World) (S : Nat) (rp rb : Option Nat) (v : Value) (L : List UInt8) : Prop where
  pen : PenAt w S rp L
  row : Row w rb v L
  pr : ∀ k, rp = some k → S < k
  br : ∀ k, rb = some k → S < k
  ap : ∀ k, rp = some k → rb ≠ some k
theorem Lay.before {w x : World} {S : Nat} {rp rb : Option Nat} {v : Value} {L : List UInt8} (h : Lay w S rp rb v L) (k : Keeps (fun _ => False) w x) : Lay x S rp rb v L :=
  ⟨h.pen.before k, h.row.before k, h.pr, h.br, h.ap⟩
/-- The pen has laid, the row not yet. -/
structure Mid (w : World) (S : Nat) (rp rb : Option Nat) (v : Value) (L M : List UInt8) : Prop where
  pen : PenAt w S rp M
  row : Row w rb v L
  pr : ∀ k, rp = some k → S < k
  br : ∀ k, rb = some k → S < k
  ap : ∀ k, rp = some k → rb ≠ some k
theorem Lay.mid {w w2 : World} {S : Nat} {rp rp' rb : Option Nat} {v : Value} {L M : List UInt8} (h : Lay w S rp rb v L) (hp : PenAt w2 S rp' M) (hs : PenStep S rp rp' w w2) : Mid w2 S rp' rb v L M := by
  have hS := h.pen.lt
  refine ⟨hp, h.row.keep hs.keeps fun x hx e => ?_, fun k hk => ?_, h.br, fun k hk hb => ?_⟩
  · rcases e with e | e
    · have := h.br x hx; omega
    · exact h.ap x e hx
  · rcases hs.row with e | e
    · exact h.pr k (by rw [← e]; exact hk)
    · have := e k hk; omega
  · rcases hs.row with e | e
    · exact h.ap k (by rw [← e]; exact hk) hb
    · have h1 := e k hk
      have h2 := h.row.lt hb
      omega
theorem Mid.lay {w w3 : World} {S : Nat} {rp rb rb' : Option Nat} {v v' : Value} {L M : List UInt8} (h : Mid w S rp rb v L M) (hr : Row w3 rb' v' M) (hs : RowStep rb rb' w w3) : Lay w3 S rp rb' v' M := by
  have hS := h.pen.lt
  refine ⟨h.pen.keep hs.keeps (fun e => by have := h.br _ e; omega) (fun x hx e => h.ap x hx e), hr, h.pr, fun k hk => ?_, fun k hk hb => ?_⟩
  · rcases hs.row with e | e
    · exact h.br k (by rw [← e]; exact hk)
    · have := e k hk; omega
  · rcases hs.row with e | e
    · exact h.ap k hk (by rw [← e]; exact hb)
    · have h1 := e k hb
      have h2 := h.pen.rowLt hk
      omega

theorem SL.cells {w : World} {g : Nat} {b : Addr} {l : List (Int × Int)} (h : SL w g (some b) l) : ∀ (j : Nat) (u : Value), (cellsL l)[j]? = some u → w.cell? (b.add j) = some u := by
  intro j u hj
  have hlt : j < l.length * 2 := by
    have := (List.getElem?_eq_some_iff.1 hj).1
    rwa [cellsL_length] at this
  obtain ⟨⟨x, y⟩, hxy⟩ := get_lt (l := l) (j := j / 2) (by omega)
  obtain ⟨o, hb, hc⟩ := h (not_nil (j := j / 2) (by omega))
  simp only [Option.some.injEq] at hb
  subst hb
  obtain ⟨c1, c2⟩ := cellsL_at l (j / 2) x y hxy
  obtain ⟨h1, h2⟩ := hc (j / 2) x y hxy
  rw [Go.WideShapes.add_plain]
  rcases Nat.mod_two_eq_zero_or_one j with hm | hm
  · have e : j / 2 * 2 = j := by omega
    rw [e] at c1 h1
    rw [h1, ← c1, hj]
  · have e : j / 2 * 2 + 1 = j := by omega
    rw [e] at c2
    rw [show o + j / 2 * 2 + 1 = o + j by omega] at h2
    rw [h2, ← c2, hj]
theorem SL.later {w x : World} {g : Nat} {a : Option Addr} {l : List (Int × Int)} (h : SL w g a l) (hg : l ≠ [] → g < w.heap.size) (hb : Below w.heap.size w x) : SL x g a l := by
  intro hne
  exact h.keep (ofB (S := fun k => w.heap.size ≤ k) hb) (fun e => by have := hg hne; omega) hne
theorem SL.low {w x : World} {g : Nat} {a : Option Addr} {l : List (Int × Int)} (h : SL w g a l) (hg : l ≠ [] → g < w.heap.size) (hb : Below w.heap.size w x) : ∃ g', SL x g' a l ∧ g' ≤ w.heap.size := by
  by_cases hne : l = []
  · subst hne; exact ⟨0, fun h => absurd rfl h, Nat.zero_le _⟩
  · exact ⟨g, h.later hg hb, Nat.le_of_lt (hg hne)⟩
theorem SL.nil_of {w : World} {g : Nat} {a : Option Addr} {l : List (Int × Int)} (h : SL w g a l) (ha : a = none) : l = [] := by
  apply Classical.byContradiction
  intro hne
  obtain ⟨_, h, _⟩ := h hne
  rw [ha] at h
  cases h

/-- What lay comes to. -/
def LaidBoth (w : World) (L : List UInt8) (e : Ending) (w' : World) : Prop :=
  ∃ v1 g1 v2 g2, e = .returned (.tuple #[v1, v2]) ∧ Row w' g1 v1 L ∧ Row w' g2 v2 L ∧ New w g1 ∧ New w g2 ∧ Below w.heap.size w w'

end S2
end Go.Proofs.YtfdkkgjkhamoeaaGreat

/- What is laid is read: numbers, texts, truths, stamps, lists at the front of bytes; and of bytes that end within, nothing. Conditions: as each theorem states. -/
namespace Go.Proofs.YtfdkkgjkhamoeaaGreat
namespace S2
open Go.RowKit

theorem leN_low (n k : Nat) : leN (low n k) = n % 2 ^ (8 * k) := by
  induction k with
  | zero => rw [low_zero]; simp [leN, Nat.mod_one]
  | succ k ih =>
    rw [low_succ, leN_snoc, ih, low_length]
    have e : 2 ^ (8 * (k + 1)) = 2 ^ (8 * k) * 256 := by rw [Nat.mul_add, Nat.pow_add]
    have e2 : (UInt8.ofNat (n >>> (8 * k))).toNat = n / 2 ^ (8 * k) % 256 := by rw [Nat.shiftRight_eq_div_pow]; simp
    rw [e, e2, Nat.mod_mul, Nat.mul_comm (2 ^ (8 * k))]
theorem wrap_back (n : Int) (h1 : -9223372036854775808 ≤ n) (h2 : n ≤ 9223372036854775807) : wrap64 ((IntKind.u64.wrap n).toNat : Int) = n := by
  have e : IntKind.u64.wrap n = n % 18446744073709551616 := rfl
  rw [e]
  unfold wrap64
  omega
theorem wf_i64 {n : Int} (h : (Lit.int .i64 n).wf = true) : -9223372036854775808 ≤ n ∧ n ≤ 9223372036854775807 := by
  simp only [Lit.wf, Bool.and_eq_true, decide_eq_true_eq] at h
  have e1 : IntKind.i64.min = -9223372036854775808 := rfl
  have e2 : IntKind.i64.max = 9223372036854775807 := rfl
  rw [e1, e2] at h
  exact h
theorem u64_lt (n : Int) : (IntKind.u64.wrap n).toNat < 18446744073709551616 := by
  have e : IntKind.u64.wrap n = n % 18446744073709551616 := rfl
  rw [e]
  omega
theorem take_app {α : Type} (a b : List α) (n : Nat) (h : a.length = n) : (a ++ b).take n = a := by subst h; exact List.take_left
theorem drop_app {α : Type} (a b : List α) (n : Nat) (h : a.length = n) : (a ++ b).drop n = b := by subst h; exact List.drop_left
theorem rd_i8 (n : Int) (h : (Lit.int .i64 n).wf = true) (r : List UInt8) : rd (i8 n ++ r) = n := by
  obtain ⟨h1, h2⟩ := wf_i64 h
  unfold rd
  rw [take_app _ _ 8 (i8_length n)]
  unfold i8
  rw [leN_low, Nat.mod_eq_of_lt (u64_lt n)]
  exact wrap_back n h1 h2

theorem read_i (n : Int) (h : (Lit.int .i64 n).wf = true) (r : List UInt8) : okI (i8 n ++ r) false = true ∧ valI (i8 n ++ r) false = n ∧ behind true 8 (i8 n ++ r) = r := by
  have hok : okI (i8 n ++ r) false = true := by
    have := i8_length n
    simp [okI, this]
  exact ⟨hok, by unfold valI; rw [if_pos hok]; exact rd_i8 n h r, by rw [behind_yes]; exact drop_app _ _ 8 (i8_length n)⟩
theorem tx_take (s : ByteArray) (hs : s.size ≤ 1048576) (r : List UInt8) : leN ((tx s ++ r).take 4) = s.size := by
  have e : tx s ++ r = low s.size 4 ++ (s.data.toList ++ r) := by unfold tx; rw [List.append_assoc]
  rw [e, take_app _ _ 4 (low_length _ _), leN_low]
  exact Nat.mod_eq_of_lt (by omega)
theorem read_t (s : ByteArray) (hs : s.size ≤ 1048576) (r : List UInt8) : okT (tx s ++ r) false = true ∧ valT (tx s ++ r) false = s ∧ behind true (4 + leN ((tx s ++ r).take 4)) (tx s ++ r) = r := by
  have h1 := tx_take s hs r
  have hl := tx_length s
  have hok : okT (tx s ++ r) false = true := by
    unfold okT
    rw [h1]
    simp only [Bool.not_false, Bool.true_and, decide_eq_true_eq, List.length_drop, List.length_append]
    omega
  refine ⟨hok, ?_, ?_⟩
  · unfold valT
    rw [if_pos hok]
    unfold atT
    rw [h1]
    have e : tx s ++ r = low s.size 4 ++ (s.data.toList ++ r) := by unfold tx; rw [List.append_assoc]
    rw [e, drop_app _ _ 4 (low_length _ _), take_app _ _ _ (ba_len s)]
  · rw [behind_yes, h1]
    exact drop_app _ _ _ hl
theorem read_b (b : Bool) (r : List UInt8) : okB (tb b ++ r) false = true ∧ valB (tb b ++ r) false = b ∧ behind true 1 (tb b ++ r) = r := by
  cases b
  · exact ⟨by simp [okB, tb, low, leN], by simp [valB, okB, tb, low, leN], by rw [behind_yes]; rfl⟩
  · exact ⟨by simp [okB, tb, low, leN], by simp [valB, okB, tb, low, leN], by rw [behind_yes]; rfl⟩
theorem rdS_st (t : Int × Int) (h1 : (Lit.int .i64 t.1).wf = true) (h2 : (Lit.int .i64 t.2).wf = true) (r : List UInt8) : rdS (st t ++ r) = t := by
  unfold rdS st
  rw [List.append_assoc, rd_i8 _ h1, drop_app _ _ 8 (i8_length _), rd_i8 _ h2]
theorem read_s (t : Int × Int) (h1 : (Lit.int .i64 t.1).wf = true) (h2 : (Lit.int .i64 t.2).wf = true) (r : List UInt8) : okS (st t ++ r) false = true ∧ valS (st t ++ r) false = t ∧ behind true 16 (st t ++ r) = r := by
  have hl := st_length t
  have hok : okS (st t ++ r) false = true := by simp [okS, hl]
  exact ⟨hok, by unfold valS; rw [if_pos hok]; exact rdS_st t h1 h2 r, by rw [behind_yes]; exact drop_app _ _ _ hl⟩
theorem rdL_at (l : List (Int × Int)) (h : ∀ s ∈ l, (Lit.int .i64 s.1).wf = true ∧ (Lit.int .i64 s.2).wf = true) (p r : List UInt8) (hp : p.length = 8) : rdL (p ++ (l.flatMap st ++ r)) l.length = l := by
  apply List.ext_getElem?
  intro j
  by_cases hj : j < l.length
  · have e1 : (rdL (p ++ (l.flatMap st ++ r)) l.length)[j]? = some (rdS ((p ++ (l.flatMap st ++ r)).drop (8 + 16 * j))) := by simp [rdL, hj]
    have e2 : l.flatMap st = (l.take j).flatMap st ++ (st l[j] ++ (l.drop (j + 1)).flatMap st) := by
      rw [← List.flatMap_cons, ← List.flatMap_append, List.getElem_cons_drop, List.take_append_drop]
    have e3 : ((l.take j).flatMap st).length = 16 * j := by rw [flat_length st 16 st_length, List.length_take]; congr 1; omega
    rw [e1, ← List.drop_drop, drop_app _ _ 8 hp, e2, List.append_assoc, drop_app _ _ _ e3, List.append_assoc]
    obtain ⟨w1, w2⟩ := h l[j] (List.getElem_mem hj)
    rw [rdS_st _ w1 w2, List.getElem?_eq_getElem hj]
  · rw [List.getElem?_eq_none (by rw [rdL_length]; omega), List.getElem?_eq_none (by omega)]
theorem len_wf {n : Nat} (h : n ≤ 1250) : (Lit.int .i64 (n : Int)).wf = true := by
  simp only [Lit.wf, Bool.and_eq_true, decide_eq_true_eq]
  have e1 : IntKind.i64.min = -9223372036854775808 := rfl
  have e2 : IntKind.i64.max = 9223372036854775807 := rfl
  rw [e1, e2]
  omega
theorem rd_sts (l : List (Int × Int)) (hl : l.length ≤ 1250) (r : List UInt8) : rd (sts l ++ r) = l.length := by
  unfold sts
  rw [List.append_assoc]
  exact rd_i8 _ (len_wf hl) _
theorem read_l (l : List (Int × Int)) (h : ∀ s ∈ l, (Lit.int .i64 s.1).wf = true ∧ (Lit.int .i64 s.2).wf = true) (hl : l.length ≤ 1250) (r : List UInt8) :
    okL (sts l ++ r) false = true ∧ valL (sts l ++ r) false = l ∧ behind true (8 + 16 * (rd (sts l ++ r)).toNat) (sts l ++ r) = r := by
  have h1 := rd_sts l hl r
  have h2 := sts_len l
  have hok : okL (sts l ++ r) false = true := by
    have hh : hasL (sts l ++ r) := by
      unfold hasL
      rw [h1]
      simp only [List.length_append, Int.toNat_natCast]
      omega
    simp [okL, hh]
  refine ⟨hok, ?_, ?_⟩
  · unfold valL
    rw [if_pos hok, h1, Int.toNat_natCast]
    unfold sts
    rw [List.append_assoc]
    exact rdL_at l h _ r (i8_length _)
  · rw [behind_yes, h1, Int.toNat_natCast]
    exact drop_app _ _ _ h2

end S2
end Go.Proofs.YtfdkkgjkhamoeaaGreat

/- An eye upon what was laid; upon what was laid and then cut; two lists of stamps that are the same. Conditions: as each theorem states. -/
namespace Go.Proofs.YtfdkkgjkhamoeaaGreat
namespace S2
open Go.RowKit Go.Deep

theorem frontI (w : World) (b g : Nat) (n : Int) (R : List UInt8) (he : EyeAt w b g (i8 n ++ R) false) (hw : (Lit.int .i64 n).wf = true) : Calls Tryz.prog 123 #[.pointer (some ⟨b, 0, none⟩)] w (Seen w b g false (.int .i64 n) R) := by
  have h := eyeInt_any w b g _ false he
  obtain ⟨h1, h2, h3⟩ := read_i n hw R
  rw [h1, h2, h3] at h
  exact h
theorem frontT (w : World) (b g : Nat) (s : ByteArray) (R : List UInt8) (he : EyeAt w b g (tx s ++ R) false) (hs : s.size ≤ 1048576) : Calls Tryz.prog 125 #[.pointer (some ⟨b, 0, none⟩)] w (Seen w b g false (.string s) R) := by
  have h := eyeText_any w b g _ false he
  obtain ⟨h1, h2, h3⟩ := read_t s hs R
  rw [h1, h2, h3] at h
  exact h
/-- An eye is blind, or what it has before it is less than all of R, and R's beginning. -/
def Cut (r : List UInt8) (bl : Bool) (R : List UInt8) : Prop := bl = true ∨ ∃ t, t ≠ [] ∧ r ++ t = R
theorem Cut.blind {r : List UInt8} {R : List UInt8} : Cut r true R := .inl rfl
theorem cut_end {r : List UInt8} {bl : Bool} (h : Cut r bl []) : bl = true := by
  rcases h with h | ⟨t, ht, h⟩
  · exact h
  · exact absurd (List.append_eq_nil_iff.1 h).2 ht
theorem cut_step {r t M R : List UInt8} (h : r ++ t = M ++ R) (hr : M.length ≤ r.length) : r.drop M.length ++ t = R := by
  have h1 : (r ++ t).drop M.length = (M ++ R).drop M.length := by rw [h]
  rw [List.drop_append_of_le_length hr, List.drop_left] at h1
  exact h1
theorem cut_take {r t M : List UInt8} (h : r ++ t = M) (k : Nat) (hr : k ≤ r.length) : r.take k = M.take k := by rw [← h, List.take_append_of_le_length hr]
/-- What a reading of a cut eye comes to. -/
def CutTo (w : World) (b g m : Nat) (R : List UInt8) (e : Ending) (w' : World) : Prop :=
  ∃ v, e = .returned v ∧ ∃ r' bl', EyeAt w' b g r' bl' ∧ r'.length ≤ m ∧ Cut r' bl' R ∧ Keeps (Only b) w w'
theorem behind_len (ok : Bool) (k : Nat) (l : List UInt8) : (behind ok k l).length ≤ l.length := by
  cases ok
  · rw [behind_no]; exact Nat.le_refl _
  · rw [behind_yes, List.length_drop]; omega
theorem cut_of {r M R : List UInt8} {bl : Bool} (ok : Bool) (k : Nat) (h : Cut r bl (M ++ R)) (hb : bl = true → ok = false) (hk : ∀ t, r ++ t = M ++ R → ok = true → k = M.length ∧ k ≤ r.length) : Cut (behind ok k r) (!ok) R := by
  cases ok
  · exact .inl rfl
  · rcases h with h | ⟨t, ht, h⟩
    · exact absurd (hb h) (by simp)
    · obtain ⟨rfl, h2⟩ := hk t h rfl
      right
      refine ⟨t, ht, ?_⟩
      rw [behind_yes]
      exact cut_step h h2
theorem cutI (w : World) (b g : Nat) (r : List UInt8) (bl : Bool) (n : Int) (R : List UInt8) (m : Nat) (he : EyeAt w b g r bl) (hm : r.length ≤ m) (h : Cut r bl (i8 n ++ R)) : Calls Tryz.prog 123 #[.pointer (some ⟨b, 0, none⟩)] w (CutTo w b g m R) :=
  (eyeInt_any w b g r bl he).mono fun _ _ ⟨h1, h2, h3⟩ => ⟨_, h1, _, _, h2, Nat.le_trans (behind_len _ _ _) hm, cut_of _ _ h (fun e => by rw [e]; rfl) (fun t _ ok => by
    unfold okI at ok
    simp only [Bool.and_eq_true, decide_eq_true_eq] at ok
    exact ⟨(i8_length n).symm, ok.2⟩), h3⟩
theorem cutT (w : World) (b g : Nat) (r : List UInt8) (bl : Bool) (s : ByteArray) (hs : s.size ≤ 1048576) (R : List UInt8) (m : Nat) (he : EyeAt w b g r bl) (hm : r.length ≤ m) (h : Cut r bl (tx s ++ R)) : Calls Tryz.prog 125 #[.pointer (some ⟨b, 0, none⟩)] w (CutTo w b g m R) :=
  (eyeText_any w b g r bl he).mono fun _ _ ⟨h1, h2, h3⟩ => ⟨_, h1, _, _, h2, Nat.le_trans (behind_len _ _ _) hm, cut_of _ _ h (fun e => by rw [e]; rfl) (fun t ht ok => by
    unfold okT at ok
    simp only [Bool.and_eq_true, decide_eq_true_eq, List.length_drop] at ok
    obtain ⟨_, o1, _, o2⟩ := ok
    have e := tx_take s hs R
    rw [← cut_take ht 4 o1] at e
    rw [tx_length]
    omega), h3⟩
end S2
end Go.Proofs.YtfdkkgjkhamoeaaGreat
