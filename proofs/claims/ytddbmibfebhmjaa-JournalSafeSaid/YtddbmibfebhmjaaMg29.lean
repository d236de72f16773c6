/- Frames as lists of bytes: what is read at the front of bytes, frames one behind the other, frames that are cut. Conditions: none. -/
import Derived.Deep.Draws
import Derived.Test.YtddbmibfebhmjaaMg10
import Derived.Test.YtddbmibfebhmjaaMg28
import Derived.Test.YtddbmibfebhmjaaMg00
set_option maxRecDepth 100000
set_option maxHeartbeats 16000000
namespace Go.Proofs.Ytddbmibfebhmjaa
namespace S2
open Go.ChangeShapes Go.WideShapes Go.ChangeAt Go.RowKit Go.Joins Go.Deep
theorem ThAt.later {w w' : World} {g o : Nat} {x : Th} (h : ThAt w g o x) (hb : Below w.heap.size w w') (hg : g < w.heap.size) : ThAt w' g o x :=
 ⟨(hb.cell (p := ⟨g, o, none⟩) hg).trans h.k, (hb.cell (p := ⟨g, o + 1, none⟩) hg).trans h.n, (hb.cell (p := ⟨g, o + 2, none⟩) hg).trans h.s, (hb.cell (p := ⟨g, o + 3, none⟩) hg).trans h.b,
  (hb.cell (p := ⟨g, o + 4, none⟩) hg).trans h.t1, (hb.cell (p := ⟨g, o + 5, none⟩) hg).trans h.t2, (hb.cell (p := ⟨g, o + 6, none⟩) hg).trans h.l⟩

structure Lay (w : World) (S : Nat) (rp rb : Option Nat) (v : Value) (L : List UInt8) : Prop where
 pen : PenAt w S rp L
 row : Row w rb v L
 pr : ∀ k, rp = some k → S < k
 br : ∀ k, rb = some k → S < k
 ap : ∀ k, rp = some k → rb ≠ some k
theorem Lay.before {w x : World} {S : Nat} {rp rb : Option Nat} {v : Value} {L : List UInt8} (h : Lay w S rp rb v L) (k : Keeps (fun _ => False) w x) : Lay x S rp rb v L :=
 ⟨h.pen.before k, h.row.before k, h.pr, h.br, h.ap⟩
structure Mid (w : World) (S : Nat) (rp rb : Option Nat) (v : Value) (L M : List UInt8) : Prop where
 pen : PenAt w S rp M
 row : Row w rb v L
 pr : ∀ k, rp = some k → S < k
 br : ∀ k, rb = some k → S < k
 ap : ∀ k, rp = some k → rb ≠ some k
theorem Mid.lay {w w3 : World} {S : Nat} {rp rb rb' : Option Nat} {v v' : Value} {L M : List UInt8} (h : Mid w S rp rb v L M) (hr : Row w3 rb' v' M) (hs : RowStep rb rb' w w3) : Lay w3 S rp rb' v' M := by
 have hS := h.pen.lt
 refine ⟨h.pen.keep hs.keeps (fun e => by have := h.br _ e; omega) (fun x hx e => h.ap x hx e), hr, h.pr, fun k hk => ?_, fun k hk hb => ?_⟩
 ·rcases hs.row with e | e
  ·exact h.br k (by rw [← e]; exact hk)
  ·have := e k hk; omega
 ·rcases hs.row with e | e
  ·exact h.ap k hk (by rw [← e]; exact hb)
  ·have h1 := e k hb
   have h2 := h.pen.rowLt hk
   omega
theorem SL.cells {w : World} {g : Nat} {b : Addr} {l : List (Int × Int)} (h : SL w g (some b) l) : ∀ (j : Nat) (u : Value), (cellsL l)[j]? = some u → w.cell? (b.add j) = some u := by
 intro j u hj
 have hlt : j < l.length * 2 := by
  have := (List.getElem?_eq_some_iff.1 hj).1
  rwa [cellsL_length] at this
 obtain ⟨⟨x, y⟩, hxy⟩ := get_lt (l := l) (j := j / 2) (by omega)
 obtain ⟨o, hb, hc⟩ := h (not_nil (j := j / 2) (by omega))
 simp only [Option.some.injEq] at hb
 subst hb
 obtain ⟨c1, c2⟩ := cellsL_at l (j / 2) x y hxy
 obtain ⟨h1, h2⟩ := hc (j / 2) x y hxy
 rw [Go.WideShapes.add_plain]
 rcases Nat.mod_two_eq_zero_or_one j with hm | hm
 ·have e : j / 2 * 2 = j := by omega
  rw [e] at c1 h1
  rw [h1, ← c1, hj]
 ·have e : j / 2 * 2 + 1 = j := by omega
  rw [e] at c2
  rw [show o + j / 2 * 2 + 1 = o + j by omega] at h2
  rw [h2, ← c2, hj]
theorem SL.later {w x : World} {g : Nat} {a : Option Addr} {l : List (Int × Int)} (h : SL w g a l) (hg : l ≠ [] → g < w.heap.size) (hb : Below w.heap.size w x) : SL x g a l := by
 intro hne
 exact h.keep (ofB (S := fun k => w.heap.size ≤ k) hb) (fun e => by have := hg hne; omega) hne
theorem SL.low {w x : World} {g : Nat} {a : Option Addr} {l : List (Int × Int)} (h : SL w g a l) (hg : l ≠ [] → g < w.heap.size) (hb : Below w.heap.size w x) : ∃ g', SL x g' a l ∧ g' ≤ w.heap.size := by
 by_cases hne : l = []
 ·subst hne; exact ⟨0, fun h => absurd rfl h, Nat.zero_le _⟩
 ·exact ⟨g, h.later hg hb, Nat.le_of_lt (hg hne)⟩
end S2
end Go.Proofs.Ytddbmibfebhmjaa

namespace Go.Proofs.Ytddbmibfebhmjaa
namespace S2
open Go.RowKit
theorem leN_low (n k : Nat) : leN (low n k) = n % 2 ^ (8 * k) := by
 induction k with
 | zero => rw [low_zero]; simp [leN, Nat.mod_one]
 | succ k ih =>
  rw [low_succ, leN_snoc, ih, low_length]
  have e : 2 ^ (8 * (k + 1)) = 2 ^ (8 * k) * 256 := by rw [Nat.mul_add, Nat.pow_add]
  have e2 : (UInt8.ofNat (n >>> (8 * k))).toNat = n / 2 ^ (8 * k) % 256 := by rw [Nat.shiftRight_eq_div_pow]; simp
  rw [e, e2, Nat.mod_mul, Nat.mul_comm (2 ^ (8 * k))]
theorem wrap_back (n : Int) (h1 : -9223372036854775808 ≤ n) (h2 : n ≤ 9223372036854775807) : wrap64 ((IntKind.u64.wrap n).toNat : Int) = n := by
 have e : IntKind.u64.wrap n = n % 18446744073709551616 := rfl
 rw [e]
 unfold wrap64
 omega
theorem wf_i64 {n : Int} (h : (Lit.int .i64 n).wf = true) : -9223372036854775808 ≤ n ∧ n ≤ 9223372036854775807 := by
 simp only [Lit.wf, Bool.and_eq_true, decide_eq_true_eq] at h
 have e1 : IntKind.i64.min = -9223372036854775808 := rfl
 have e2 : IntKind.i64.max = 9223372036854775807 := rfl
 rw [e1, e2] at h
 exact h
theorem u64_lt (n : Int) : (IntKind.u64.wrap n).toNat < 18446744073709551616 := by
 have e : IntKind.u64.wrap n = n % 18446744073709551616 := rfl
 rw [e]
 omega
theorem take_app {α : Type} (a b : List α) (n : Nat) (h : a.length = n) : (a ++ b).take n = a := by subst h; exact List.take_left
theorem drop_app {α : Type} (a b : List α) (n : Nat) (h : a.length = n) : (a ++ b).drop n = b := by subst h; exact List.drop_left
theorem rd_i8 (n : Int) (h : (Lit.int .i64 n).wf = true) (r : List UInt8) : rd (i8 n ++ r) = n := by
 obtain ⟨h1, h2⟩ := wf_i64 h
 unfold rd
 rw [take_app _ _ 8 (i8_length n)]
 unfold i8
 rw [leN_low, Nat.mod_eq_of_lt (u64_lt n)]
 exact wrap_back n h1 h2
theorem read_i (n : Int) (h : (Lit.int .i64 n).wf = true) (r : List UInt8) : okI (i8 n ++ r) false = true ∧ valI (i8 n ++ r) false = n ∧ behind true 8 (i8 n ++ r) = r := by
 have hok : okI (i8 n ++ r) false = true := by
  have := i8_length n
  simp [okI, this]
 exact ⟨hok, by unfold valI; rw [if_pos hok]; exact rd_i8 n h r, by rw [behind_yes]; exact drop_app _ _ 8 (i8_length n)⟩
theorem tx_take (s : ByteArray) (hs : s.size ≤ 1048576) (r : List UInt8) : leN ((tx s ++ r).take 4) = s.size := by
 have e : tx s ++ r = low s.size 4 ++ (s.data.toList ++ r) := by unfold tx; rw [List.append_assoc]
 rw [e, take_app _ _ 4 (low_length _ _), leN_low]
 exact Nat.mod_eq_of_lt (by omega)
theorem read_t (s : ByteArray) (hs : s.size ≤ 1048576) (r : List UInt8) : okT (tx s ++ r) false = true ∧ valT (tx s ++ r) false = s ∧ behind true (4 + leN ((tx s ++ r).take 4)) (tx s ++ r) = r := by
 have h1 := tx_take s hs r
 have hl := tx_length s
 have hok : okT (tx s ++ r) false = true := by
  unfold okT
  rw [h1]
  simp only [Bool.not_false, Bool.true_and, decide_eq_true_eq, List.length_drop, List.length_append]
  omega
 refine ⟨hok, ?_, ?_⟩
 ·unfold valT
  rw [if_pos hok]
  unfold atT
  rw [h1]
  have e : tx s ++ r = low s.size 4 ++ (s.data.toList ++ r) := by unfold tx; rw [List.append_assoc]
  rw [e, drop_app _ _ 4 (low_length _ _), take_app _ _ _ (ba_len s)]
 ·rw [behind_yes, h1]
  exact drop_app _ _ _ hl
theorem read_b (b : Bool) (r : List UInt8) : okB (tb b ++ r) false = true ∧ valB (tb b ++ r) false = b ∧ behind true 1 (tb b ++ r) = r := by
 cases b
 ·exact ⟨by simp [okB, tb, low, leN], by simp [valB, okB, tb, low, leN], by rw [behind_yes]; rfl⟩
 ·exact ⟨by simp [okB, tb, low, leN], by simp [valB, okB, tb, low, leN], by rw [behind_yes]; rfl⟩
end S2
end Go.Proofs.Ytddbmibfebhmjaa

set_option linter.unusedVariables false
namespace Go.Proofs.Ytddbmibfebhmjaa
open S2 SZ
namespace SJ
open Go.RowKit
def hd15 (b : Bool) (p : List UInt8) : List UInt8 := tb b ++ tx ⟨p.toArray⟩
def fr (b : Bool) (p : List UInt8) : List UInt8 := hd15 b p ++ i8 (wrap64 (sumL (hd15 b p)))
theorem tb_len15 (b : Bool) : (tb b).length = 1 := low_length _ _
theorem by_size (p : List UInt8) : (⟨p.toArray⟩ : ByteArray).size = p.length := by
 show p.toArray.size = _
 simp
theorem hd15_len (b : Bool) (p : List UInt8) : (hd15 b p).length = 5 + p.length := by
 unfold hd15
 rw [List.length_append, tb_len15, tx_length, by_size]
 omega
theorem fr_len (b : Bool) (p : List UInt8) : (fr b p).length = 13 + p.length := by
 unfold fr
 rw [List.length_append, hd15_len, i8_length]
 omega
def nextF (l : List UInt8) : Option (Bool × List UInt8 × List UInt8) :=
 let b := valB l false
 let p := (valT (behind (okB l false) 1 l) (!okB l false)).data.toList
 if (fr b p).isPrefixOf l then some (b, p, l.drop (fr b p).length) else none
theorem eye_next (b : Bool) (p r : List UInt8) (hp : p.length ≤ 1048576) :
  okB (fr b p ++ r) false = true ∧ valB (fr b p ++ r) false = b ∧ behind true 1 (fr b p ++ r) = tx ⟨p.toArray⟩ ++ (i8 (wrap64 (sumL (hd15 b p))) ++ r) ∧
  okT (tx ⟨p.toArray⟩ ++ (i8 (wrap64 (sumL (hd15 b p))) ++ r)) false = true ∧ valT (tx ⟨p.toArray⟩ ++ (i8 (wrap64 (sumL (hd15 b p))) ++ r)) false = ⟨p.toArray⟩ ∧
  behind true (4 + leN ((tx ⟨p.toArray⟩ ++ (i8 (wrap64 (sumL (hd15 b p))) ++ r)).take 4)) (tx ⟨p.toArray⟩ ++ (i8 (wrap64 (sumL (hd15 b p))) ++ r)) = i8 (wrap64 (sumL (hd15 b p))) ++ r ∧
  okI (i8 (wrap64 (sumL (hd15 b p))) ++ r) false = true ∧ behind true 8 (i8 (wrap64 (sumL (hd15 b p))) ++ r) = r := by
 have e : fr b p ++ r = tb b ++ (tx ⟨p.toArray⟩ ++ (i8 (wrap64 (sumL (hd15 b p))) ++ r)) := by
  unfold fr
  conv => lhs; lhs; lhs; unfold hd15
  simp only [List.append_assoc]
 rw [e]
 obtain ⟨b1, b2, b3⟩ := read_b b (tx ⟨p.toArray⟩ ++ (i8 (wrap64 (sumL (hd15 b p))) ++ r))
 obtain ⟨t1, t2, t3⟩ := read_t ⟨p.toArray⟩ (by rw [by_size]; exact hp) (i8 (wrap64 (sumL (hd15 b p))) ++ r)
 obtain ⟨i1, _, i3⟩ := read_i (wrap64 (sumL (hd15 b p))) (wrap64_wf _) r
 exact ⟨b1, b2, b3, t1, t2, t3, i1, i3⟩
theorem atT_le (l : List UInt8) (bl : Bool) : (valT l bl).data.toList.length ≤ 1048576 := by
 unfold valT
 split
 ·next h =>
  unfold okT at h
  simp only [Bool.and_eq_true, decide_eq_true_eq] at h
  unfold atT
  show ((l.drop 4).take _).length ≤ _
  rw [List.length_take]
  omega
 ·exact Nat.zero_le _
theorem next_some {l : List UInt8} {b : Bool} {p r : List UInt8} (h : nextF l = some (b, p, r)) : l = fr b p ++ r ∧ p.length ≤ 1048576 := by
 unfold nextF at h
 dsimp only at h
 split at h
 ·next hp =>
  simp only [Option.some.injEq, Prod.mk.injEq] at h
  obtain ⟨h1, h2, h3⟩ := h
  rw [h1, h2] at hp h3
  obtain ⟨t, ht⟩ := List.isPrefixOf_iff_prefix.1 hp
  refine ⟨?_, by rw [← h2]; exact atT_le _ _⟩
  rw [← ht] at h3 ⊢
  rw [List.drop_left] at h3
  rw [h3]
 ·cases h
theorem next_of (b : Bool) (p r : List UInt8) (hp : p.length ≤ 1048576) : nextF (fr b p ++ r) = some (b, p, r) := by
 obtain ⟨b1, b2, b3, t1, t2, t3, i1, i3⟩ := eye_next b p r hp
 unfold nextF
 rw [b1, b2, b3]
 simp only [Bool.not_true]
 rw [t2]
 have : (fr b p).isPrefixOf (fr b p ++ r) = true := List.isPrefixOf_iff_prefix.2 (List.prefix_append _ _)
 simp only [this, if_true, List.drop_left]
theorem next_nil : nextF [] = none := by
 cases h : nextF [] with
 | none => rfl
 | some x =>
  obtain ⟨b, p, r⟩ := x
  have := congrArg List.length (next_some h).1
  rw [List.length_append, fr_len] at this
  simp at this
  omega
theorem next_less {l : List UInt8} {b : Bool} {p r : List UInt8} (h : nextF l = some (b, p, r)) : l.length = 13 + p.length + r.length := by
 rw [(next_some h).1, List.length_append, fr_len]
theorem next_cut {b : Bool} {p t : List UInt8} (hp : p.length ≤ 1048576) (ht : t <+: fr b p) (hl : t.length < (fr b p).length) : nextF t = none := by
 cases h : nextF t with
 | none => rfl
 | some x =>
  obtain ⟨b', p', r⟩ := x
  obtain ⟨h1, h2⟩ := next_some h
  obtain ⟨s, hs⟩ := ht
  rw [h1, List.append_assoc] at hs
  have e1 := next_of b' p' (r ++ s) h2
  have e2 := next_of b p [] hp
  rw [hs] at e1
  rw [List.append_nil] at e2
  rw [e2] at e1
  simp only [Option.some.injEq, Prod.mk.injEq] at e1
  obtain ⟨rfl, rfl, e3⟩ := e1
  have : r = [] ∧ s = [] := by simpa using e3.symm
  rw [h1, this.1, List.append_nil] at hl
  omega
def frsF : Nat → Bool → List UInt8 → List (Bool × List UInt8)
 | 0, _, _ => []
 | n + 1, a, l => match nextF l with
  | none => []
  | some (b, p, r) => if b && !a then [] else (b, p) :: frsF n false r
def frs (l : List UInt8) : List (Bool × List UInt8) := frsF l.length true l
theorem frsF_none {n : Nat} {a : Bool} {l : List UInt8} (h : nextF l = none) : frsF n a l = [] := by
 cases n with
 | zero => rfl
 | succ n => unfold frsF; rw [h]
theorem frsF_some {n : Nat} {a : Bool} {l : List UInt8} {b : Bool} {p r : List UInt8} (h : nextF l = some (b, p, r)) : frsF (n + 1) a l = if b && !a then [] else (b, p) :: frsF n false r := by
 conv => lhs; unfold frsF
 rw [h]
theorem frsF_fuel {n m : Nat} {a : Bool} {l : List UInt8} (hn : l.length ≤ n) (hm : l.length ≤ m) : frsF n a l = frsF m a l := by
 induction n generalizing m a l with
 | zero =>
  have : l = [] := List.eq_nil_of_length_eq_zero (by omega)
  rw [this, frsF_none next_nil, frsF_none next_nil]
 | succ n ih =>
  cases h : nextF l with
  | none => rw [frsF_none h, frsF_none h]
  | some x =>
   obtain ⟨b, p, r⟩ := x
   have hl := next_less h
   cases m with
   | zero => omega
   | succ m =>
    rw [frsF_some h, frsF_some h, ih (m := m) (by omega) (by omega)]
theorem frsF_len (n : Nat) (a : Bool) (l : List UInt8) : 13 * (frsF n a l).length ≤ l.length := by
 induction n generalizing a l with
 | zero => simp [frsF]
 | succ n ih =>
  cases h : nextF l with
  | none => rw [frsF_none h]; simp
  | some x =>
   obtain ⟨b, p, r⟩ := x
   rw [frsF_some h]
   split
   ·simp
   ·have := ih false r
    have := next_less h
    simp only [List.length_cons]
    omega
def fileB (o : Option (List UInt8)) (rs : List (List UInt8)) : List UInt8 := (match o with | some x => fr true x | none => []) ++ rs.flatMap (fr false)
def Fits (rs : List (List UInt8)) : Prop := ∀ r ∈ rs, r.length ≤ 1048576
theorem frsF_recs {rs : List (List UInt8)} (hf : Fits rs) {t : List UInt8} (ht : nextF t = none) {n : Nat} (hn : (rs.flatMap (fr false) ++ t).length ≤ n) (a : Bool) : frsF n a (rs.flatMap (fr false) ++ t) = rs.map (fun p => (false, p)) := by
 induction rs generalizing n a with
 | nil => exact frsF_none (by simpa using ht)
 | cons p rs ih =>
  have e : (p :: rs).flatMap (fr false) ++ t = fr false p ++ (rs.flatMap (fr false) ++ t) := by rw [List.flatMap_cons, List.append_assoc]
  rw [e] at hn ⊢
  rw [List.length_append, fr_len] at hn
  cases n with
  | zero => omega
  | succ n =>
   rw [frsF_some (next_of false p _ (hf p List.mem_cons_self))]
   simp only [Bool.false_and, Bool.false_eq_true, if_false, List.map_cons]
   rw [ih (fun r hr => hf r (List.mem_cons_of_mem _ hr)) (by omega)]
theorem frs_file {o : Option (List UInt8)} {rs : List (List UInt8)} {t : List UInt8} (ho : ∀ x, o = some x → x.length ≤ 1048576) (hf : Fits rs) (ht : nextF t = none) :
  frs (fileB o rs ++ t) = (match o with | some x => [(true, x)] | none => []) ++ rs.map (fun p => (false, p)) := by
 unfold frs fileB
 cases o with
 | none =>
  simp only [List.nil_append]
  exact frsF_recs hf ht (Nat.le_refl _) true
 | some x =>
  simp only [List.append_assoc]
  rw [frsF_fuel (m := (fr true x ++ (rs.flatMap (fr false) ++ t)).length + 1) (Nat.le_refl _) (by omega), frsF_some (next_of true x _ (ho x rfl))]
  simp only [Bool.not_true, Bool.and_false, Bool.false_eq_true, if_false, List.cons_append, List.nil_append]
  rw [frsF_recs hf ht (by simp only [List.length_append]; omega)]
theorem recs_cut {rs : List (List UInt8)} (hf : Fits rs) (n : Nat) : ∃ k t, k ≤ rs.length ∧ (rs.flatMap (fr false)).take n = (rs.take k).flatMap (fr false) ++ t ∧ nextF t = none ∧ ∀ j, j ≤ rs.length → ((rs.take j).flatMap (fr false)).length ≤ n → j ≤ k := by
 induction rs generalizing n with
 | nil => exact ⟨0, [], Nat.le_refl _, by simp, next_nil, fun j hj _ => by simpa using hj⟩
 | cons p rs ih =>
  by_cases hn : (fr false p).length ≤ n
  ·obtain ⟨k, t, h1, h2, h3, h4⟩ := ih (fun r hr => hf r (List.mem_cons_of_mem _ hr)) (n - (fr false p).length)
   refine ⟨k + 1, t, by simpa using h1, ?_, h3, fun j hj hjn => ?_⟩
   ·rw [List.flatMap_cons, List.take_append, List.take_of_length_le hn, h2, List.take_succ_cons, List.flatMap_cons, List.append_assoc]
   ·cases j with
    | zero => omega
    | succ j =>
     rw [List.take_succ_cons, List.flatMap_cons, List.length_append] at hjn
     have := h4 j (by simpa using hj) (by omega)
     omega
  ·refine ⟨0, (fr false p).take n, Nat.zero_le _, ?_, next_cut (hf p List.mem_cons_self) (List.take_prefix _ _) (by rw [List.length_take]; omega), fun j hj hjn => ?_⟩
   ·rw [List.flatMap_cons, List.take_append_of_le_length (by omega)]
    simp
   ·cases j with
    | zero => exact Nat.le_refl _
    | succ j =>
     rw [List.take_succ_cons, List.flatMap_cons, List.length_append] at hjn
     omega
def tellF (acc : List UInt8 × List (List UInt8)) (fs : List (Bool × List UInt8)) : List UInt8 × List (List UInt8) :=
 fs.foldl (fun a f => if f.1 then (f.2, []) else (a.1, a.2 ++ [f.2])) acc
theorem tellF_app (acc : List UInt8 × List (List UInt8)) (a b : List (Bool × List UInt8)) : tellF acc (a ++ b) = tellF (tellF acc a) b := List.foldl_append
theorem tellF_recs (acc : List UInt8 × List (List UInt8)) (rs : List (List UInt8)) : tellF acc (rs.map fun p => (false, p)) = (acc.1, acc.2 ++ rs) := by
 induction rs generalizing acc with
 | nil => simp [tellF]
 | cons r rs ih =>
  have e : tellF acc ((r :: rs).map fun p => (false, p)) = tellF (acc.1, acc.2 ++ [r]) (rs.map fun p => (false, p)) := rfl
  rw [e, ih]
  simp
def tellD (l : List Fil) : List UInt8 × List (List UInt8) := l.foldl (fun a f => tellF a (frs f.b)) ([], [])
end SJ
end Go.Proofs.Ytddbmibfebhmjaa
