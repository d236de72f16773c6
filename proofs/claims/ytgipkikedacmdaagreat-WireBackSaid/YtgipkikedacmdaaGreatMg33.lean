/- The reference's eye: taking, numbers, opening, the sum. Conditions: as each theorem states. -/
import Derived.Deep.Draws
import Derived.WalkSpells
import Derived.Test.YtgipkikedacmdaaGreatMg32
import Derived.Test.YtgipkikedacmdaaGreatMg31
import Derived.Test.YtgipkikedacmdaaGreatMg27
import Derived.Test.YtgipkikedacmdaaGreatMg29
set_option maxRecDepth 100000
set_option maxHeartbeats 16000000
namespace Go.Proofs.YtgipkikedacmdaaGreat
namespace S2
open Go.ChangeShapes Go.WideShapes Go.ChangeAt Go.RowKit Go.Joins Go.Deep
def wt (x : Th) : Nat := x.s.size + 16 * x.l.length
theorem ThAt.later {w w' : World} {g o : Nat} {x : Th} (h : ThAt w g o x) (hb : Below w.heap.size w w') (hg : g < w.heap.size) : ThAt w' g o x :=
 ⟨(hb.cell (p := ⟨g, o, none⟩) hg).trans h.k, (hb.cell (p := ⟨g, o + 1, none⟩) hg).trans h.n, (hb.cell (p := ⟨g, o + 2, none⟩) hg).trans h.s, (hb.cell (p := ⟨g, o + 3, none⟩) hg).trans h.b,
  (hb.cell (p := ⟨g, o + 4, none⟩) hg).trans h.t1, (hb.cell (p := ⟨g, o + 5, none⟩) hg).trans h.t2, (hb.cell (p := ⟨g, o + 6, none⟩) hg).trans h.l⟩

structure Lay (w : World) (S : Nat) (rp rb : Option Nat) (v : Value) (L : List UInt8) : Prop where
 pen : PenAt w S rp L
 row : Row w rb v L
 pr : ∀ k, rp = some k → S < k
 br : ∀ k, rb = some k → S < k
 ap : ∀ k, rp = some k → rb ≠ some k
theorem Lay.before {w x : World} {S : Nat} {rp rb : Option Nat} {v : Value} {L : List UInt8} (h : Lay w S rp rb v L) (k : Keeps (fun _ => False) w x) : Lay x S rp rb v L :=
 ⟨h.pen.before k, h.row.before k, h.pr, h.br, h.ap⟩
structure Mid (w : World) (S : Nat) (rp rb : Option Nat) (v : Value) (L M : List UInt8) : Prop where
 pen : PenAt w S rp M
 row : Row w rb v L
 pr : ∀ k, rp = some k → S < k
 br : ∀ k, rb = some k → S < k
 ap : ∀ k, rp = some k → rb ≠ some k
theorem Mid.lay {w w3 : World} {S : Nat} {rp rb rb' : Option Nat} {v v' : Value} {L M : List UInt8} (h : Mid w S rp rb v L M) (hr : Row w3 rb' v' M) (hs : RowStep rb rb' w w3) : Lay w3 S rp rb' v' M := by
 have hS := h.pen.lt
 refine ⟨h.pen.keep hs.keeps (fun e => by have := h.br _ e; omega) (fun x hx e => h.ap x hx e), hr, h.pr, fun k hk => ?_, fun k hk hb => ?_⟩
 ·rcases hs.row with e | e
  ·exact h.br k (by rw [← e]; exact hk)
  ·have := e k hk; omega
 ·rcases hs.row with e | e
  ·exact h.ap k hk (by rw [← e]; exact hb)
  ·have h1 := e k hb
   have h2 := h.pen.rowLt hk
   omega
theorem SL.cells {w : World} {g : Nat} {b : Addr} {l : List (Int × Int)} (h : SL w g (some b) l) : ∀ (j : Nat) (u : Value), (cellsL l)[j]? = some u → w.cell? (b.add j) = some u := by
 intro j u hj
 have hlt : j < l.length * 2 := by
  have := (List.getElem?_eq_some_iff.1 hj).1
  rwa [cellsL_length] at this
 obtain ⟨⟨x, y⟩, hxy⟩ := get_lt (l := l) (j := j / 2) (by omega)
 obtain ⟨o, hb, hc⟩ := h (not_nil (j := j / 2) (by omega))
 simp only [Option.some.injEq] at hb
 subst hb
 obtain ⟨c1, c2⟩ := cellsL_at l (j / 2) x y hxy
 obtain ⟨h1, h2⟩ := hc (j / 2) x y hxy
 rw [Go.WideShapes.add_plain]
 rcases Nat.mod_two_eq_zero_or_one j with hm | hm
 ·have e : j / 2 * 2 = j := by omega
  rw [e] at c1 h1
  rw [h1, ← c1, hj]
 ·have e : j / 2 * 2 + 1 = j := by omega
  rw [e] at c2
  rw [show o + j / 2 * 2 + 1 = o + j by omega] at h2
  rw [h2, ← c2, hj]
theorem SL.later {w x : World} {g : Nat} {a : Option Addr} {l : List (Int × Int)} (h : SL w g a l) (hg : l ≠ [] → g < w.heap.size) (hb : Below w.heap.size w x) : SL x g a l := by
 intro hne
 exact h.keep (ofB (S := fun k => w.heap.size ≤ k) hb) (fun e => by have := hg hne; omega) hne
theorem SL.low {w x : World} {g : Nat} {a : Option Addr} {l : List (Int × Int)} (h : SL w g a l) (hg : l ≠ [] → g < w.heap.size) (hb : Below w.heap.size w x) : ∃ g', SL x g' a l ∧ g' ≤ w.heap.size := by
 by_cases hne : l = []
 ·subst hne; exact ⟨0, fun h => absurd rfl h, Nat.zero_le _⟩
 ·exact ⟨g, h.later hg hb, Nat.le_of_lt (hg hne)⟩
end S2
end Go.Proofs.YtgipkikedacmdaaGreat

namespace Go.Proofs.YtgipkikedacmdaaGreat
namespace S2
open Go.RowKit
theorem leN_low (n k : Nat) : leN (low n k) = n % 2 ^ (8 * k) := by
 induction k with
 | zero => rw [low_zero]; simp [leN, Nat.mod_one]
 | succ k ih =>
  rw [low_succ, leN_snoc, ih, low_length]
  have e : 2 ^ (8 * (k + 1)) = 2 ^ (8 * k) * 256 := by rw [Nat.mul_add, Nat.pow_add]
  have e2 : (UInt8.ofNat (n >>> (8 * k))).toNat = n / 2 ^ (8 * k) % 256 := by rw [Nat.shiftRight_eq_div_pow]; simp
  rw [e, e2, Nat.mod_mul, Nat.mul_comm (2 ^ (8 * k))]
theorem wrap_back (n : Int) (h1 : -9223372036854775808 ≤ n) (h2 : n ≤ 9223372036854775807) : wrap64 ((IntKind.u64.wrap n).toNat : Int) = n := by
 have e : IntKind.u64.wrap n = n % 18446744073709551616 := rfl
 rw [e]
 unfold wrap64
 omega
theorem wf_i64 {n : Int} (h : (Lit.int .i64 n).wf = true) : -9223372036854775808 ≤ n ∧ n ≤ 9223372036854775807 := by
 simp only [Lit.wf, Bool.and_eq_true, decide_eq_true_eq] at h
 have e1 : IntKind.i64.min = -9223372036854775808 := rfl
 have e2 : IntKind.i64.max = 9223372036854775807 := rfl
 rw [e1, e2] at h
 exact h
theorem u64_lt (n : Int) : (IntKind.u64.wrap n).toNat < 18446744073709551616 := by
 have e : IntKind.u64.wrap n = n % 18446744073709551616 := rfl
 rw [e]
 omega
theorem take_app {α : Type} (a b : List α) (n : Nat) (h : a.length = n) : (a ++ b).take n = a := by subst h; exact List.take_left
theorem drop_app {α : Type} (a b : List α) (n : Nat) (h : a.length = n) : (a ++ b).drop n = b := by subst h; exact List.drop_left
theorem rd_i8 (n : Int) (h : (Lit.int .i64 n).wf = true) (r : List UInt8) : rd (i8 n ++ r) = n := by
 obtain ⟨h1, h2⟩ := wf_i64 h
 unfold rd
 rw [take_app _ _ 8 (i8_length n)]
 unfold i8
 rw [leN_low, Nat.mod_eq_of_lt (u64_lt n)]
 exact wrap_back n h1 h2
theorem read_i (n : Int) (h : (Lit.int .i64 n).wf = true) (r : List UInt8) : okI (i8 n ++ r) false = true ∧ valI (i8 n ++ r) false = n ∧ behind true 8 (i8 n ++ r) = r := by
 have hok : okI (i8 n ++ r) false = true := by
  have := i8_length n
  simp [okI, this]
 exact ⟨hok, by unfold valI; rw [if_pos hok]; exact rd_i8 n h r, by rw [behind_yes]; exact drop_app _ _ 8 (i8_length n)⟩
theorem tx_take (s : ByteArray) (hs : s.size ≤ 1048576) (r : List UInt8) : leN ((tx s ++ r).take 4) = s.size := by
 have e : tx s ++ r = low s.size 4 ++ (s.data.toList ++ r) := by unfold tx; rw [List.append_assoc]
 rw [e, take_app _ _ 4 (low_length _ _), leN_low]
 exact Nat.mod_eq_of_lt (by omega)
theorem read_t (s : ByteArray) (hs : s.size ≤ 1048576) (r : List UInt8) : okT (tx s ++ r) false = true ∧ valT (tx s ++ r) false = s ∧ behind true (4 + leN ((tx s ++ r).take 4)) (tx s ++ r) = r := by
 have h1 := tx_take s hs r
 have hl := tx_length s
 have hok : okT (tx s ++ r) false = true := by
  unfold okT
  rw [h1]
  simp only [Bool.not_false, Bool.true_and, decide_eq_true_eq, List.length_drop, List.length_append]
  omega
 refine ⟨hok, ?_, ?_⟩
 ·unfold valT
  rw [if_pos hok]
  unfold atT
  rw [h1]
  have e : tx s ++ r = low s.size 4 ++ (s.data.toList ++ r) := by unfold tx; rw [List.append_assoc]
  rw [e, drop_app _ _ 4 (low_length _ _), take_app _ _ _ (ba_len s)]
 ·rw [behind_yes, h1]
  exact drop_app _ _ _ hl
theorem read_b (b : Bool) (r : List UInt8) : okB (tb b ++ r) false = true ∧ valB (tb b ++ r) false = b ∧ behind true 1 (tb b ++ r) = r := by
 cases b
 ·exact ⟨by simp [okB, tb, low, leN], by simp [valB, okB, tb, low, leN], by rw [behind_yes]; rfl⟩
 ·exact ⟨by simp [okB, tb, low, leN], by simp [valB, okB, tb, low, leN], by rw [behind_yes]; rfl⟩
theorem rdS_st (t : Int × Int) (h1 : (Lit.int .i64 t.1).wf = true) (h2 : (Lit.int .i64 t.2).wf = true) (r : List UInt8) : rdS (st t ++ r) = t := by
 unfold rdS st
 rw [List.append_assoc, rd_i8 _ h1, drop_app _ _ 8 (i8_length _), rd_i8 _ h2]
theorem read_s (t : Int × Int) (h1 : (Lit.int .i64 t.1).wf = true) (h2 : (Lit.int .i64 t.2).wf = true) (r : List UInt8) : okS (st t ++ r) false = true ∧ valS (st t ++ r) false = t ∧ behind true 16 (st t ++ r) = r := by
 have hl := st_length t
 have hok : okS (st t ++ r) false = true := by simp [okS, hl]
 exact ⟨hok, by unfold valS; rw [if_pos hok]; exact rdS_st t h1 h2 r, by rw [behind_yes]; exact drop_app _ _ _ hl⟩
theorem rdL_at (l : List (Int × Int)) (h : ∀ s ∈ l, (Lit.int .i64 s.1).wf = true ∧ (Lit.int .i64 s.2).wf = true) (p r : List UInt8) (hp : p.length = 8) : rdL (p ++ (l.flatMap st ++ r)) l.length = l := by
 apply List.ext_getElem?
 intro j
 by_cases hj : j < l.length
 ·have e1 : (rdL (p ++ (l.flatMap st ++ r)) l.length)[j]? = some (rdS ((p ++ (l.flatMap st ++ r)).drop (8 + 16 * j))) := by simp [rdL, hj]
  have e2 : l.flatMap st = (l.take j).flatMap st ++ (st l[j] ++ (l.drop (j + 1)).flatMap st) := by
   rw [← List.flatMap_cons, ← List.flatMap_append, List.getElem_cons_drop, List.take_append_drop]
  have e3 : ((l.take j).flatMap st).length = 16 * j := by rw [flat_length st 16 st_length, List.length_take]; congr 1; omega
  rw [e1, ← List.drop_drop, drop_app _ _ 8 hp, e2, List.append_assoc, drop_app _ _ _ e3, List.append_assoc]
  obtain ⟨w1, w2⟩ := h l[j] (List.getElem_mem hj)
  rw [rdS_st _ w1 w2, List.getElem?_eq_getElem hj]
 ·rw [List.getElem?_eq_none (by rw [rdL_length]; omega), List.getElem?_eq_none (by omega)]
theorem len_wf {n : Nat} (h : n ≤ 1250) : (Lit.int .i64 (n : Int)).wf = true := by
 simp only [Lit.wf, Bool.and_eq_true, decide_eq_true_eq]
 have e1 : IntKind.i64.min = -9223372036854775808 := rfl
 have e2 : IntKind.i64.max = 9223372036854775807 := rfl
 rw [e1, e2]
 omega
theorem rd_sts (l : List (Int × Int)) (hl : l.length ≤ 1250) (r : List UInt8) : rd (sts l ++ r) = l.length := by
 unfold sts
 rw [List.append_assoc]
 exact rd_i8 _ (len_wf hl) _
theorem read_l (l : List (Int × Int)) (h : ∀ s ∈ l, (Lit.int .i64 s.1).wf = true ∧ (Lit.int .i64 s.2).wf = true) (hl : l.length ≤ 1250) (r : List UInt8) :
  okL (sts l ++ r) false = true ∧ valL (sts l ++ r) false = l ∧ behind true (8 + 16 * (rd (sts l ++ r)).toNat) (sts l ++ r) = r := by
 have h1 := rd_sts l hl r
 have h2 := sts_len l
 have hok : okL (sts l ++ r) false = true := by
  have hh : hasL (sts l ++ r) := by
   unfold hasL
   rw [h1]
   simp only [List.length_append, Int.toNat_natCast]
   omega
  simp [okL, hh]
 refine ⟨hok, ?_, ?_⟩
 ·unfold valL
  rw [if_pos hok, h1, Int.toNat_natCast]
  unfold sts
  rw [List.append_assoc]
  exact rdL_at l h _ r (i8_length _)
 ·rw [behind_yes, h1, Int.toNat_natCast]
  exact drop_app _ _ _ h2
end S2
end Go.Proofs.YtgipkikedacmdaaGreat

namespace Go.Proofs.YtgipkikedacmdaaGreat
namespace S2
open Go.RowKit Go.Deep
def Cut (r : List UInt8) (bl : Bool) (R : List UInt8) : Prop := bl = true ∨ ∃ t, t ≠ [] ∧ r ++ t = R
theorem Cut.blind {r : List UInt8} {R : List UInt8} : Cut r true R := .inl rfl
theorem behind_len (ok : Bool) (k : Nat) (l : List UInt8) : (behind ok k l).length ≤ l.length := by
 cases ok
 ·rw [behind_no]; exact Nat.le_refl _
 ·rw [behind_yes, List.length_drop]; omega
end S2
end Go.Proofs.YtgipkikedacmdaaGreat

set_option linter.unusedVariables false
namespace Go.Proofs.YtgipkikedacmdaaGreat
namespace SP
open Go.RowKit
theorem low_cons (n k : Nat) : S2.low n (k + 1) = UInt8.ofNat n :: S2.low (n / 256) k := by
 unfold S2.low
 rw [List.range_succ_eq_map, List.map_cons, List.map_map]
 congr 1
 refine List.map_congr_left fun i _ => ?_
 show UInt8.ofNat (n >>> (8 * (i + 1))) = UInt8.ofNat ((n / 256) >>> (8 * i))
 congr 1
 rw [Nat.mul_add, Nat.add_comm (8 * i), Nat.shiftRight_add, Nat.shiftRight_eq_div_pow n (8 * 1)]
theorem low_leN : ∀ l : List UInt8, S2.low (S2.leN l) l.length = l := by
 intro l
 induction l with
 | nil => rfl
 | cons x r ih =>
  rw [List.length_cons, low_cons]
  have hx : x.toNat < 256 := x.toNat_lt
  have e1 : S2.leN (x :: r) = x.toNat + 256 * S2.leN r := rfl
  have e2 : (x.toNat + 256 * S2.leN r) / 256 = S2.leN r := by omega
  rw [e1, e2, ih]
  congr 1
  have e3 : UInt8.ofNat (x.toNat + 256 * S2.leN r) = UInt8.ofNat x.toNat := by
   apply UInt8.toNat_inj.1
   simp only [UInt8.toNat_ofNat']
   omega
  rw [e3]
  simp
theorem low_take {l : List UInt8} {k : Nat} (h : k ≤ l.length) : S2.low (S2.leN (l.take k)) k = l.take k := by
 have e := low_leN (l.take k)
 have hl : (l.take k).length = k := by rw [List.length_take]; omega
 rwa [hl] at e
theorem wrapU (n : Int) : IntKind.u64.wrap n = n % 18446744073709551616 := rfl
theorem wrap_same (N : Nat) (h : N < 2 ^ 64) : (IntKind.u64.wrap (wrap64 (N : Int))).toNat = N := by
 rw [wrapU]
 unfold wrap64
 omega
theorem i8_rd (r : List UInt8) (h : 8 ≤ r.length) : S2.i8 (S2.rd r) = r.take 8 := by
 have hl : (r.take 8).length = 8 := by rw [List.length_take]; omega
 have hlt := S2.leN_lt (r.take 8)
 rw [hl] at hlt
 unfold S2.i8 S2.rd
 rw [wrap_same _ hlt]
 exact low_take h
theorem inv_i {r : List UInt8} (h : 8 ≤ r.length) : S2.i8 (S2.rd r) ++ r.drop 8 = r := by
 rw [i8_rd r h, List.take_append_drop]
theorem st_rdS {r : List UInt8} (h : 16 ≤ r.length) : S2.st (S2.rdS r) = r.take 16 := by
 unfold S2.st S2.rdS
 rw [i8_rd r (by omega), i8_rd (r.drop 8) (by rw [List.length_drop]; omega)]
 rw [← List.take_add]
theorem flat_rdL (r : List UInt8) : ∀ n, 8 + 16 * n ≤ r.length → (S2.rdL r n).flatMap S2.st = (r.drop 8).take (16 * n) := by
 intro n
 induction n with
 | zero => intro _; simp [S2.rdL]
 | succ n ih =>
  intro h
  rw [S2.rdL_succ, List.flatMap_append, ih (by omega)]
  simp only [List.flatMap_cons, List.flatMap_nil, List.append_nil]
  rw [st_rdS (by rw [List.length_drop]; omega)]
  have e : r.drop (8 + 16 * n) = (r.drop 8).drop (16 * n) := by rw [List.drop_drop]
  rw [e, show 16 * (n + 1) = 16 * n + 16 by omega, List.take_add]
theorem inv_l {r : List UInt8} (h : S2.hasL r) : S2.sts (S2.rdL r (S2.rd r).toNat) ++ r.drop (8 + 16 * (S2.rd r).toNat) = r := by
 obtain ⟨h1, h2, h3⟩ := h
 unfold S2.sts
 rw [S2.rdL_length, Int.toNat_of_nonneg h2, flat_rdL r _ (by omega), i8_rd r h1]
 rw [← List.take_add, List.take_append_drop]
def u64 (x : Int) : Nat := (IntKind.u64.wrap x).toNat
theorem u64_int (x : Int) : ((u64 x : Nat) : Int) = IntKind.u64.wrap x := by
 unfold u64
 rw [wrapU]
 have : (0 : Int) ≤ x % 18446744073709551616 := Int.emod_nonneg _ (by decide)
 omega
theorem i8_u64 (x : Int) : S2.i8 (wrap64 (u64 x : Nat)) = S2.i8 x := by
 unfold S2.i8
 congr 2
 rw [u64_int, wrapU, wrapU]
 unfold wrap64
 omega
theorem u64_wrap {n : Nat} (h : n < 18446744073709551616) : u64 (wrap64 (n : Int)) = n := wrap_same n h
theorem wrap64_wf (n : Int) : (Lit.int .i64 (wrap64 n)).wf = true := by
 simp only [Lit.wf, Bool.and_eq_true, decide_eq_true_eq]
 have e1 : IntKind.i64.min = -9223372036854775808 := rfl
 have e2 : IntKind.i64.max = 9223372036854775807 := rfl
 rw [e1, e2]
 unfold wrap64
 omega
theorem wf_len {n : Nat} (h : n ≤ 1000000) : (Lit.int .i64 (n : Int)).wf = true := by
 simp only [Lit.wf, Bool.and_eq_true, decide_eq_true_eq]
 have e1 : IntKind.i64.min = -9223372036854775808 := rfl
 have e2 : IntKind.i64.max = 9223372036854775807 := rfl
 rw [e1, e2]
 omega
abbrev Cur := List UInt8 × Bool × Bool
def bad (c : Cur) : Bool := c.2.1 || c.2.2
theorem bad_no {c : Cur} : bad c = false ↔ c.2.1 = false ∧ c.2.2 = false := by
 unfold bad
 simp
structure Cod (α : Type) where
 lay : α → List UInt8
 val : Cur → α
 fin : Cur → Cur
 good : α → Prop
structure Cod.Ok {α : Type} (k : Cod α) : Prop where
 inv : ∀ c, bad (k.fin c) = false → bad c = false ∧ k.lay (k.val c) ++ (k.fin c).1 = c.1
 front : ∀ x R, k.good x → k.val (k.lay x ++ R, false, false) = x ∧ k.fin (k.lay x ++ R, false, false) = (R, false, false)
 len : ∀ c, (k.fin c).1.length ≤ c.1.length
theorem behind_ok {ok : Bool} (h : ok = true) (k : Nat) (l : List UInt8) : S2.behind ok k l = l.drop k := by
 subst h
 exact S2.behind_yes k l
theorem behind_le (ok : Bool) (k : Nat) (l : List UInt8) : (S2.behind ok k l).length ≤ l.length := by
 unfold S2.behind
 cases ok
 ·exact Nat.le_refl _
 ·simp
def cI : Cod Int := ⟨S2.i8, fun c => S2.valI c.1 c.2.1, fun c => (S2.behind (S2.okI c.1 c.2.1) 8 c.1, !S2.okI c.1 c.2.1, c.2.2), fun x => (Lit.int .i64 x).wf = true⟩
theorem okI_yes {l : List UInt8} {b : Bool} (h : S2.okI l b = true) : b = false ∧ 8 ≤ l.length ∧ S2.valI l b = S2.rd l := by
 have h2 := h
 unfold S2.okI at h2
 simp only [Bool.and_eq_true, decide_eq_true_eq, Bool.not_eq_true'] at h2
 refine ⟨h2.1, h2.2, ?_⟩
 unfold S2.valI
 rw [if_pos h]
theorem cI_ok : cI.Ok := by
 refine ⟨fun c h => ?_, fun x R hx => ?_, fun c => behind_le _ _ _⟩
 ·obtain ⟨h1, h2⟩ := bad_no.1 h
  simp only [cI, Bool.not_eq_false'] at h1 h2
  obtain ⟨h3, h4, h5⟩ := okI_yes h1
  refine ⟨bad_no.2 ⟨h3, h2⟩, ?_⟩
  show S2.i8 (S2.valI c.1 c.2.1) ++ S2.behind (S2.okI c.1 c.2.1) 8 c.1 = c.1
  rw [h5, behind_ok h1, inv_i h4]
 ·obtain ⟨a1, a2, a3⟩ := S2.read_i x hx R
  refine ⟨a2, ?_⟩
  show (S2.behind (S2.okI (S2.i8 x ++ R) false) 8 (S2.i8 x ++ R), !S2.okI (S2.i8 x ++ R) false, false) = _
  rw [a1, a3]
  rfl
def cN : Cod Nat := ⟨fun n => S2.i8 (wrap64 (n : Int)), fun c => u64 (S2.valI c.1 c.2.1), cI.fin, fun n => n < 18446744073709551616⟩
theorem cN_ok : cN.Ok := by
 refine ⟨fun c h => ?_, fun x R hx => ?_, cI_ok.len⟩
 ·obtain ⟨h1, h2⟩ := cI_ok.inv c h
  refine ⟨h1, ?_⟩
  show S2.i8 (wrap64 (u64 (S2.valI c.1 c.2.1) : Nat)) ++ _ = _
  rw [i8_u64]
  exact h2
 ·obtain ⟨h1, h2⟩ := cI_ok.front (wrap64 (x : Int)) R (wrap64_wf _)
  refine ⟨?_, h2⟩
  have h3 : S2.valI (S2.i8 (wrap64 (x : Int)) ++ R) false = wrap64 (x : Int) := h1
  show u64 (S2.valI (S2.i8 (wrap64 (x : Int)) ++ R) false) = x
  rw [h3]
  exact u64_wrap hx
def cT : Cod ByteArray := ⟨S2.tx, fun c => S2.valT c.1 c.2.1, fun c => (S2.behind (S2.okT c.1 c.2.1) (4 + S2.leN (c.1.take 4)) c.1, !S2.okT c.1 c.2.1, c.2.2), fun s => s.size ≤ 1048576⟩
theorem inv_t {l : List UInt8} (h1 : 4 ≤ l.length) (h2 : S2.leN (l.take 4) ≤ (l.drop 4).length) : S2.tx (S2.atT l) ++ l.drop (4 + S2.leN (l.take 4)) = l := by
 have e1 : (S2.atT l).data.toList = (l.drop 4).take (S2.leN (l.take 4)) := rfl
 have e2 : (S2.atT l).size = S2.leN (l.take 4) := by
  show (S2.atT l).data.size = _
  rw [← Array.length_toList, e1, List.length_take]
  omega
 unfold S2.tx
 rw [e2, e1, low_take h1, ← List.take_add, List.take_append_drop]
theorem cT_ok : cT.Ok := by
 refine ⟨fun c h => ?_, fun x R hx => ?_, fun c => behind_le _ _ _⟩
 ·obtain ⟨h1, h2⟩ := bad_no.1 h
  simp only [cT, Bool.not_eq_false'] at h1 h2
  have h3 := h1
  unfold S2.okT at h3
  simp only [Bool.and_eq_true, decide_eq_true_eq, Bool.not_eq_true'] at h3
  obtain ⟨h4, h5, h6, h7⟩ := h3
  refine ⟨bad_no.2 ⟨h4, h2⟩, ?_⟩
  show S2.tx (S2.valT c.1 c.2.1) ++ S2.behind (S2.okT c.1 c.2.1) _ c.1 = c.1
  rw [behind_ok h1]
  unfold S2.valT
  rw [if_pos h1]
  exact inv_t h5 h7
 ·obtain ⟨a1, a2, a3⟩ := S2.read_t x hx R
  refine ⟨a2, ?_⟩
  show (S2.behind (S2.okT (S2.tx x ++ R) false) (4 + S2.leN ((S2.tx x ++ R).take 4)) (S2.tx x ++ R), !S2.okT (S2.tx x ++ R) false, false) = _
  rw [a1, a3]
  rfl
def cB : Cod Bool := ⟨S2.tb, fun c => S2.valB c.1 c.2.1, fun c => (S2.behind (S2.okB c.1 c.2.1) 1 c.1, !S2.okB c.1 c.2.1, c.2.2), fun _ => True⟩
theorem cB_ok : cB.Ok := by
 refine ⟨fun c h => ?_, fun x R hx => ?_, fun c => behind_le _ _ _⟩
 ·obtain ⟨h1, h2⟩ := bad_no.1 h
  simp only [cB, Bool.not_eq_false'] at h1 h2
  have h3 := h1
  unfold S2.okB at h3
  simp only [Bool.and_eq_true, decide_eq_true_eq, Bool.not_eq_true'] at h3
  obtain ⟨h4, h5, h6⟩ := h3
  refine ⟨bad_no.2 ⟨h4, h2⟩, ?_⟩
  show S2.tb (S2.valB c.1 c.2.1) ++ S2.behind (S2.okB c.1 c.2.1) 1 c.1 = c.1
  rw [behind_ok h1]
  have e : S2.tb (S2.valB c.1 c.2.1) = c.1.take 1 := by
   unfold S2.tb S2.valB
   rw [h1, Bool.true_and]
   have h8 := low_take h5
   by_cases h9 : S2.leN (c.1.take 1) = 1
   ·rw [h9] at h8
    rw [decide_eq_true h9]
    exact h8
   ·rw [show S2.leN (c.1.take 1) = 0 by omega] at h8
    rw [decide_eq_false h9]
    exact h8
  rw [e, List.take_append_drop]
 ·obtain ⟨a1, a2, a3⟩ := S2.read_b x R
  refine ⟨a2, ?_⟩
  show (S2.behind (S2.okB (S2.tb x ++ R) false) 1 (S2.tb x ++ R), !S2.okB (S2.tb x ++ R) false, false) = _
  rw [a1, a3]
  rfl
def cS : Cod (Int × Int) := ⟨S2.st, fun c => S2.valS c.1 c.2.1, fun c => (S2.behind (S2.okS c.1 c.2.1) 16 c.1, !S2.okS c.1 c.2.1, c.2.2), fun s => (Lit.int .i64 s.1).wf = true ∧ (Lit.int .i64 s.2).wf = true⟩
theorem cS_ok : cS.Ok := by
 refine ⟨fun c h => ?_, fun x R hx => ?_, fun c => behind_le _ _ _⟩
 ·obtain ⟨h1, h2⟩ := bad_no.1 h
  simp only [cS, Bool.not_eq_false'] at h1 h2
  have h3 := h1
  unfold S2.okS at h3
  simp only [Bool.and_eq_true, decide_eq_true_eq, Bool.not_eq_true'] at h3
  refine ⟨bad_no.2 ⟨h3.1, h2⟩, ?_⟩
  show S2.st (S2.valS c.1 c.2.1) ++ S2.behind (S2.okS c.1 c.2.1) 16 c.1 = c.1
  rw [behind_ok h1]
  unfold S2.valS
  rw [if_pos h1, st_rdS h3.2, List.take_append_drop]
 ·obtain ⟨a1, a2, a3⟩ := S2.read_s x hx.1 hx.2 R
  refine ⟨a2, ?_⟩
  show (S2.behind (S2.okS (S2.st x ++ R) false) 16 (S2.st x ++ R), !S2.okS (S2.st x ++ R) false, false) = _
  rw [a1, a3]
  rfl
def cL : Cod (List (Int × Int)) := ⟨S2.sts, fun c => S2.valL c.1 c.2.1, fun c => (S2.behind (S2.okL c.1 c.2.1) (8 + 16 * (S2.rd c.1).toNat) c.1, !S2.okL c.1 c.2.1, c.2.2), fun l => (∀ s ∈ l, (Lit.int .i64 s.1).wf = true ∧ (Lit.int .i64 s.2).wf = true) ∧ l.length ≤ 1250⟩
theorem cL_ok : cL.Ok := by
 refine ⟨fun c h => ?_, fun x R hx => ?_, fun c => behind_le _ _ _⟩
 ·obtain ⟨h1, h2⟩ := bad_no.1 h
  simp only [cL, Bool.not_eq_false'] at h1 h2
  have h3 := h1
  unfold S2.okL at h3
  simp only [Bool.and_eq_true, decide_eq_true_eq, Bool.not_eq_true'] at h3
  refine ⟨bad_no.2 ⟨h3.1, h2⟩, ?_⟩
  show S2.sts (S2.valL c.1 c.2.1) ++ S2.behind (S2.okL c.1 c.2.1) _ c.1 = c.1
  rw [behind_ok h1]
  unfold S2.valL
  rw [if_pos h1]
  exact inv_l h3.2
 ·obtain ⟨a1, a2, a3⟩ := S2.read_l x hx.1 hx.2 R
  refine ⟨a2, ?_⟩
  show (S2.behind (S2.okL (S2.sts x ++ R) false) (8 + 16 * (S2.rd (S2.sts x ++ R)).toNat) (S2.sts x ++ R), !S2.okL (S2.sts x ++ R) false, false) = _
  rw [a1, a3]
  rfl
def Cod.two {α β : Type} (a : Cod α) (b : Cod β) : Cod (α × β) := ⟨fun x => a.lay x.1 ++ b.lay x.2, fun c => (a.val c, b.val (a.fin c)), fun c => b.fin (a.fin c), fun x => a.good x.1 ∧ b.good x.2⟩
theorem Cod.two_ok {α β : Type} {a : Cod α} {b : Cod β} (ha : a.Ok) (hb : b.Ok) : (a.two b).Ok := by
 refine ⟨fun c h => ?_, fun x R hx => ?_, fun c => Nat.le_trans (hb.len _) (ha.len _)⟩
 ·obtain ⟨h1, h2⟩ := hb.inv _ h
  obtain ⟨h3, h4⟩ := ha.inv _ h1
  refine ⟨h3, ?_⟩
  show (a.lay (a.val c) ++ b.lay (b.val (a.fin c))) ++ (b.fin (a.fin c)).1 = c.1
  rw [List.append_assoc, h2, h4]
 ·obtain ⟨h1, h2⟩ := ha.front x.1 (b.lay x.2 ++ R) hx.1
  obtain ⟨h3, h4⟩ := hb.front x.2 R hx.2
  have e : (a.two b).lay x ++ R = a.lay x.1 ++ (b.lay x.2 ++ R) := by
   show (a.lay x.1 ++ b.lay x.2) ++ R = _
   rw [List.append_assoc]
  rw [e]
  refine ⟨?_, ?_⟩
  ·show (a.val _, b.val (a.fin _)) = x
   rw [h1, h2, h3]
  ·show b.fin (a.fin _) = _
   rw [h2, h4]
def many {α : Type} (k : Cod α) : Nat → Cur → List α × Cur
 | 0, c => ([], c)
 | n + 1, c => if (k.fin c).1.length = c.1.length then ([], k.fin c) else (k.val c :: (many k n (k.fin c)).1, (many k n (k.fin c)).2)
theorem many_len {α : Type} {k : Cod α} (hk : k.Ok) (n : Nat) : ∀ c, (many k n c).2.1.length + (many k n c).1.length ≤ c.1.length ∧ (many k n c).1.length ≤ n := by
 induction n with
 | zero => intro c; exact ⟨Nat.le_refl _, Nat.le_refl _⟩
 | succ n ih =>
  intro c
  have hl := hk.len c
  unfold many
  split
  ·rename_i h
   exact ⟨by simpa using hl, Nat.zero_le _⟩
  ·rename_i h
   obtain ⟨h1, h2⟩ := ih (k.fin c)
   simp only [List.length_cons]
   omega
theorem many_inv {α : Type} {k : Cod α} (hk : k.Ok) (hp : ∀ x, 1 ≤ (k.lay x).length) (n : Nat) : ∀ c, bad (many k n c).2 = false → bad c = false ∧ (many k n c).1.flatMap k.lay ++ (many k n c).2.1 = c.1 ∧ (many k n c).1.length = n := by
 induction n with
 | zero => intro c h; exact ⟨h, rfl, rfl⟩
 | succ n ih =>
  intro c
  unfold many
  split
  ·rename_i h
   intro hb
   obtain ⟨h1, h2⟩ := hk.inv c hb
   have h3 := congrArg List.length h2
   have h4 := hp (k.val c)
   rw [List.length_append] at h3
   omega
  ·rename_i h
   intro hb
   obtain ⟨h1, h2, h3⟩ := ih _ hb
   obtain ⟨h4, h5⟩ := hk.inv c h1
   refine ⟨h4, ?_, ?_⟩
   ·have e : (k.val c :: (many k n (k.fin c)).1).flatMap k.lay ++ (many k n (k.fin c)).2.1 = c.1 := by rw [List.flatMap_cons, List.append_assoc, h2, h5]
    exact e
   ·show _ + 1 = _
    rw [h3]
theorem many_front {α : Type} {k : Cod α} (hk : k.Ok) (hp : ∀ x, 1 ≤ (k.lay x).length) (R : List UInt8) : ∀ l : List α, (∀ x ∈ l, k.good x) → many k l.length (l.flatMap k.lay ++ R, false, false) = (l, R, false, false) := by
 intro l
 induction l with
 | nil => intro _; rfl
 | cons x r ih =>
  intro h
  have e : (x :: r).flatMap k.lay ++ R = k.lay x ++ (r.flatMap k.lay ++ R) := by rw [List.flatMap_cons, List.append_assoc]
  obtain ⟨h1, h2⟩ := hk.front x (r.flatMap k.lay ++ R) (h x (by simp))
  have hp := hp x
  rw [e, List.length_cons]
  unfold many
  rw [h1, h2, if_neg (by simp only [List.length_append]; omega), ih (fun y hy => h y (by simp [hy]))]
def said (c : Cur) : Cur := ((cI.fin c).1, (cI.fin c).2.1, c.2.2 || decide (cI.val c < 0))
def Cod.list {α : Type} (k : Cod α) : Cod (List α) :=
 ⟨fun l => S2.i8 l.length ++ l.flatMap k.lay, fun c => (many k (cI.val c).toNat (said c)).1, fun c => (many k (cI.val c).toNat (said c)).2, fun l => l.length ≤ 1000000 ∧ ∀ x ∈ l, k.good x⟩
theorem said_len (c : Cur) : (said c).1.length ≤ c.1.length := cI_ok.len c
theorem said_is (c : Cur) : said c = ((cI.fin c).1, (cI.fin c).2.1, c.2.2 || decide (cI.val c < 0)) := rfl
theorem list_lay {α : Type} (k : Cod α) (l : List α) : k.list.lay l = cI.lay (l.length : Int) ++ l.flatMap k.lay := rfl
theorem list_val {α : Type} (k : Cod α) (c : Cur) : k.list.val c = (many k (cI.val c).toNat (said c)).1 := rfl
theorem list_fin {α : Type} (k : Cod α) (c : Cur) : k.list.fin c = (many k (cI.val c).toNat (said c)).2 := rfl
theorem said_front {n : Nat} (hn : (Lit.int .i64 (n : Int)).wf = true) (T : List UInt8) : cI.val (cI.lay (n : Int) ++ T, false, false) = (n : Int) ∧ said (cI.lay (n : Int) ++ T, false, false) = (T, false, false) := by
 obtain ⟨h1, h2⟩ := cI_ok.front (n : Int) T hn
 refine ⟨h1, ?_⟩
 rw [said_is, h1, h2]
 have : decide ((n : Int) < 0) = false := decide_eq_false (by omega)
 rw [this]
 simp
theorem Cod.list_ok {α : Type} {k : Cod α} (hk : k.Ok) (hp : ∀ x, 1 ≤ (k.lay x).length) : k.list.Ok := by
 refine ⟨fun c h => ?_, fun l R hl => ?_, fun c => ?_⟩
 ·rw [list_fin] at h
  obtain ⟨h1, h2, h3⟩ := many_inv hk hp _ _ h
  rw [said_is] at h1
  obtain ⟨h4, h5⟩ := bad_no.1 h1
  simp only [Bool.or_eq_false_iff] at h4 h5
  obtain ⟨h6, h7⟩ := cI_ok.inv c (bad_no.2 ⟨h4, h5.1⟩)
  refine ⟨h6, ?_⟩
  have h8 : 0 ≤ cI.val c := by
   have := of_decide_eq_false h5.2
   omega
  have h9 : (said c).1 = (cI.fin c).1 := by rw [said_is]
  rw [list_val, list_fin, list_lay, h3, Int.toNat_of_nonneg h8, List.append_assoc, h2, h9, h7]
 ·obtain ⟨h1, h2⟩ := said_front (wf_len hl.1) (l.flatMap k.lay ++ R)
  have hm := many_front hk hp R l hl.2
  rw [list_lay, List.append_assoc, list_val, list_fin, h1, h2, Int.toNat_natCast, hm]
  exact ⟨rfl, rfl⟩
 ·have h1 := (many_len hk (cI.val c).toNat (said c)).1
  have h2 := said_len c
  rw [list_fin]
  omega
def doneC (c : Cur) : Int := if c.2.2 then 20 else S2.doneN c.1 c.2.1
theorem doneC_zero {c : Cur} : doneC c = 0 ↔ bad c = false ∧ c.1 = [] := by
 obtain ⟨l, b, d⟩ := c
 unfold doneC S2.doneN bad
 cases d <;> cases b <;> cases l <;> simp
end SP
end Go.Proofs.YtgipkikedacmdaaGreat

set_option linter.unusedSimpArgs false
namespace Go.Proofs.YtgipkikedacmdaaGreat
namespace SP
open Go.ChangeShapes Go.WideShapes Go.ChangeAt Go.RowKit Go.Joins Go.Deep
def EyeS (w : World) (s b g : Nat) (c : Cur) : Prop := w.heap[s]? = some (.cells #[.pointer (some ⟨b, 0, none⟩), .bool c.2.2] 142 (0, 0)) ∧ S2.EyeAt w b g c.1 c.2.1 ∧ s ≠ b ∧ (c.1 ≠ [] → s ≠ g)
def Both (s b x : Nat) : Prop := x = s ∨ x = b
theorem EyeS.next {w w' : World} {s b g : Nat} {c c' : Cur} (h : EyeS w s b g c) (he : S2.EyeAt w' b g c'.1 c'.2.1) (hd : c'.2.2 = c.2.2) (hn : c'.1.length ≤ c.1.length) (k : S2.Keeps (S2.Only b) w w') : EyeS w' s b g c' :=
 ⟨by rw [k.block s (lt_of_block h.1) (fun e => h.2.2.1 e), hd]; exact h.1, he, h.2.2.1, fun hne => h.2.2.2 (fun e => hne (List.eq_nil_of_length_eq_zero (by rw [e] at hn; simpa using hn)))⟩
theorem EyeS.keep {S : Nat → Prop} {w w' : World} {s b g : Nat} {c : Cur} (h : EyeS w s b g c) (k : S2.Keeps S w w') (hs : ¬ S s) (hb : ¬ S b) (hg : c.1 ≠ [] → ¬ S g) : EyeS w' s b g c :=
 ⟨(k.block s (lt_of_block h.1) hs).trans h.1, h.2.1.keep k hb hg, h.2.2⟩
theorem EyeS.before {w w' : World} {s b g : Nat} {c : Cur} (h : EyeS w s b g c) (k : S2.Keeps (fun _ => False) w w') : EyeS w' s b g c := h.keep k (fun h => h) (fun h => h) fun _ h => h
theorem EyeS.ptr {w : World} {s b g : Nat} {c : Cur} (h : EyeS w s b g c) : w.cell? ⟨s, 0, none⟩ = some (.pointer (some ⟨b, 0, none⟩)) := by rw [cell_of_row w _ _ _ _ _ h.1]; rfl
theorem EyeS.lie {w : World} {s b g : Nat} {c : Cur} (h : EyeS w s b g c) : w.cell? ⟨s, 1, none⟩ = some (.bool c.2.2) := by rw [cell_of_row w _ _ _ _ _ h.1]; rfl
theorem EyeS.lieSet {w : World} {s b g : Nat} {c : Cur} (h : EyeS w s b g c) : EyeS (w.setCell ⟨s, 1, none⟩ (.bool true)) s b g (c.1, c.2.1, true) := by
 refine ⟨?_, h.2.1.keep (S2.kSet (p := ⟨s, 1, none⟩) (S2.Keeps.refl (fun x => x = s) w) (.inl rfl) _) (fun e => h.2.2.1 e.symm) (fun hne e => h.2.2.2 hne e.symm), h.2.2.1, h.2.2.2⟩
 simp only [World.setCell]
 rw [Array.getElem?_modify, if_pos rfl, h.1]
 rfl
theorem EyeS.lt {w : World} {s b g : Nat} {c : Cur} (h : EyeS w s b g c) : s < w.heap.size ∧ b < w.heap.size ∧ (c.1 ≠ [] → g < w.heap.size) := ⟨lt_of_block h.1, h.2.1.lt, h.2.1.lt2⟩
theorem EyeS.grown {w w' : World} {s b g : Nat} {c : Cur} {r : Option Nat} (h : EyeS w s b g c) (hg : w.grownBy w' r) (h1 : ∀ k, r = some k → w.heap.size ≤ k ∨ (k ≠ s ∧ k ≠ b ∧ (c.1 ≠ [] → k ≠ g))) : EyeS w' s b g c := by
 obtain ⟨l1, l2, l3⟩ := h.lt
 refine h.keep (S2.Keeps.grown (S := fun x => r = some x) hg fun _ _ e => e) (fun e => ?_) (fun e => ?_) (fun hne e => ?_)
 ·rcases h1 _ e with h2 | h2
  ·omega
  ·exact h2.1 rfl
 ·rcases h1 _ e with h2 | h2
  ·omega
  ·exact h2.2.1 rfl
 ·rcases h1 _ e with h2 | h2
  ·have := l3 hne
   omega
  ·exact h2.2.2 hne rfl
theorem both_of {s b : Nat} {w w' : World} (h : S2.Keeps (S2.Only b) w w') : S2.Keeps (Both s b) w w' := h.mono fun _ _ e => .inr e
theorem keeps_after {S : Nat → Prop} {w x y : World} {k : Nat} (h : S2.Keeps S w x) (hg : x.grownBy y (some k)) (hk : w.heap.size ≤ k) : S2.Keeps S w y :=
 ⟨hg.os.trans h.os, hg.tape.trans h.tape, hg.output.trans h.output, Nat.le_trans h.size hg.size, fun j hj hs => (hg.block j (Nat.lt_of_lt_of_le hj h.size) (fun e => by cases e; omega)).trans (h.block j hj hs)⟩
def SeeS {α : Type} (k : Cod α) (val : α → Value) (w : World) (s b g : Nat) (c : Cur) (e : Ending) (w' : World) : Prop := e = .returned (val (k.val c)) ∧ EyeS w' s b g (k.fin c) ∧ S2.Keeps (S2.Only b) w w'
theorem sint_any {w : World} {s b g : Nat} {c : Cur} (he : EyeS w s b g c) : Calls Tryz.prog 103 #[.pointer (some ⟨b, 0, none⟩)] w (SeeS cI (fun x => .int .i64 x) w s b g c) :=
 (S2.eyeInt_any w b g c.1 c.2.1 he.2.1).mono fun e w' h => ⟨h.1, he.next h.2.1 rfl (cI_ok.len c) h.2.2, h.2.2⟩
theorem stext_any {w : World} {s b g : Nat} {c : Cur} (he : EyeS w s b g c) : Calls Tryz.prog 201 #[.pointer (some ⟨b, 0, none⟩)] w (SeeS cT (fun x => .string x) w s b g c) :=
 (S2.eyeText_any w b g c.1 c.2.1 he.2.1).mono fun e w' h => ⟨h.1, he.next h.2.1 rfl (cT_ok.len c) h.2.2, h.2.2⟩
theorem keeps_afterO {S : Nat → Prop} {w x y : World} {r : Option Nat} (h : S2.Keeps S w x) (hg : x.grownBy y r) (hk : ∀ k, r = some k → w.heap.size ≤ k) : S2.Keeps S w y :=
 ⟨hg.os.trans h.os, hg.tape.trans h.tape, hg.output.trans h.output, Nat.le_trans h.size hg.size, fun j hj hs => (hg.block j (Nat.lt_of_lt_of_le hj h.size) (fun e => by have := hk j e.symm; omega)).trans (h.block j hj hs)⟩
theorem sdone_any {w : World} {s b g : Nat} {c : Cur} (he : EyeS w s b g c) :
  Calls Tryz.prog 46 #[.pointer (some ⟨s, 0, none⟩)] w fun e w' => e = .returned (.int .i64 (doneC c)) ∧ w = w' := by
 have HE := Lib.hid he
 have p0 := he.ptr
 have p1 := he.lie
 clear he
 cases hd : c.2.2
 ·have HV : Hid (doneC c = S2.doneN c.1 c.2.1) := by show _ = _; unfold doneC; rw [hd]; rfl
  rw [hd] at p1
  go_enter Tryz.func46, Tryz.ntmps46
  go_wp2_with (go_at_call 130; go_must (refine (S2.done_any w b g c.1 c.2.1 HE.out.2.1).mono ?_; rintro e w1 ⟨rfl, rfl⟩))
  go_ret
  exact ⟨by rw [HV.out]; rfl, rfl⟩
 ·have HV : Hid (doneC c = 20) := by show _ = _; unfold doneC; rw [hd]; rfl
  rw [hd] at p1
  go_enter Tryz.func46, Tryz.ntmps46
  go_wp2
  go_ret
  exact ⟨by rw [HV.out]; rfl, rfl⟩
theorem sopen_any (gv : Nat) (va : Value) (B : List UInt8) (w : World) (hB : S2.Bw w gv va B) (hlen : B.length ≤ 1000000) :
  Calls Tryz.prog 44 #[va] w fun e w' => ∃ s b g, e = .returned (.pointer (some ⟨s, 0, none⟩)) ∧ EyeS w' s b g (B, false, false) ∧ w.heap.size ≤ s ∧ w.heap.size ≤ b ∧ (B ≠ [] → w.heap.size ≤ g) ∧ Below w.heap.size w w' := by
 have HBS := Lib.hid hB
 have HLB := Lib.hid hlen
 clear hB hlen
 go_enter Tryz.func44, Tryz.ntmps44
 go_wp2_with (go_at_call 122; go_must (refine (S2.open_w w gv _ B HBS.out (by have := HLB.out; omega)).mono ?_; rintro e w1 ⟨b, g, rfl, he, hb1, hg1, hbel⟩; have HE := Lib.hid he; have HB1 := Lib.hid hb1; have HG1 := Lib.hid hg1; have HBL := Lib.hid hbel; clear he hb1 hg1 hbel))
 go_ret
 have hlt := HE.out.lt
 refine ⟨w1.heap.size, b, g, rfl, ⟨?_, HE.out.before (S2.kAlloc (S2.Keeps.refl _ _) _), by omega, fun hne => ?_⟩, HBL.out.size, HB1.out, HG1.out, HBL.out.alloc HBL.out.size _⟩
 ·show (w1.heap.push _)[w1.heap.size]? = _
  rw [Array.getElem?_push_size]
 ·have := HE.out.lt2 hne
  omega
end SP
end Go.Proofs.YtgipkikedacmdaaGreat

namespace Go.Proofs.YtgipkikedacmdaaGreat
namespace S2
open Go.RowKit Go.Deep
def RAt (w : World) (b g : Nat) (B : List UInt8) (i : Nat) (bl : Bool) : Prop :=
 ∃ v, w.heap[b]? = some (.cells #[v, .int .i64 (i : Int), .bool bl] 166 (0, 0)) ∧ Bs w g v B ∧ i ≤ B.length ∧ B.length ≤ 20000 ∧ (B ≠ [] → g ≠ b)
theorem RAt.lt {w : World} {b g : Nat} {B : List UInt8} {i : Nat} {bl : Bool} (h : RAt w b g B i bl) : b < w.heap.size := by
 obtain ⟨v, hv, _⟩ := h
 exact lt_of_block hv
theorem RAt.keep {S : Nat → Prop} {w w' : World} {b g : Nat} {B : List UInt8} {i : Nat} {bl : Bool} (h : RAt w b g B i bl) (k : Keeps S w w') (hb : ¬ S b) (hg : B ≠ [] → ¬ S g) : RAt w' b g B i bl := by
 obtain ⟨v, hv, h1, h2⟩ := h
 exact ⟨v, (k.block b (lt_of_block hv) hb).trans hv, h1.keep k hg, h2⟩
theorem RAt.before {w x : World} {b g : Nat} {B : List UInt8} {i : Nat} {bl : Bool} (h : RAt w b g B i bl) (k : Keeps (fun _ => False) w x) : RAt x b g B i bl := h.keep k (fun h => h) (fun _ h => h)
theorem RAt.set {w : World} {b g : Nat} {B : List UInt8} {i : Nat} {bl : Bool} (h : RAt w b g B i bl) (j : Nat) (hj : j ≤ B.length) : RAt (w.setCell ⟨b, 1, none⟩ (.int .i64 (j : Int))) b g B j bl := by
 obtain ⟨v, hv, h1, _, h3, h4⟩ := h
 exact ⟨v, block_setCell hv _, h1.keep (S := Only b) (Keeps.setCell (S := Only b) (p := ⟨b, 1, none⟩) (fun _ => rfl) _) (fun hne e => h4 hne e), hj, h3, h4⟩
theorem RAt.cells {w : World} {b g : Nat} {B : List UInt8} {i : Nat} {bl : Bool} (h : RAt w b g B i bl) :
  ∃ a c, Bs w g (.slice a B.length c) B ∧ w.cell? ⟨b, 0, none⟩ = some (.slice a B.length c) ∧ w.cell? ⟨b, 1, none⟩ = some (.int .i64 (i : Int)) ∧ w.cell? ⟨b, 2, none⟩ = some (.bool bl) ∧ w.frozen? ⟨b, 1, none⟩ = false ∧ w.frozen? ⟨b, 2, none⟩ = false ∧ b < w.heap.size ∧ i ≤ B.length ∧ B.length ≤ 20000 := by
 obtain ⟨v, hv, h1, h2, h3, h4⟩ := h
 have hf : ∃ a c, v = .slice a B.length c := by
  rcases h1 with ⟨rfl, rfl⟩ | ⟨o, cap, rfl, _⟩
  ·exact ⟨_, _, rfl⟩
  ·exact ⟨_, _, rfl⟩
 obtain ⟨a, c, rfl⟩ := hf
 exact ⟨a, c, h1, by rw [cell_of_row _ _ _ _ _ _ hv]; rfl, by rw [cell_of_row _ _ _ _ _ _ hv]; rfl, by rw [cell_of_row _ _ _ _ _ _ hv]; rfl, frozen_of_row _ _ _ _ _ hv, frozen_of_row _ _ _ _ _ hv, lt_of_block hv, h2, h3⟩
end S2
end Go.Proofs.YtgipkikedacmdaaGreat
