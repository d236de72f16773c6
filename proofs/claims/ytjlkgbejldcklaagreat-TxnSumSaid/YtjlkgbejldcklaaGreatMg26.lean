/- The reference's eye: taking, numbers, opening, the sum. Conditions: as each theorem states. -/
import Derived.Deep.Draws
import Derived.Test.YtjlkgbejldcklaaGreatMg24
import Derived.Test.YtjlkgbejldcklaaGreatMg25
namespace Go.Proofs.YtjlkgbejldcklaaGreat
namespace S2
open Go.ChangeShapes Go.WideShapes Go.ChangeAt Go.RowKit Go.Joins Go.Deep
theorem ThAt.later {w w' : World} {g o : Nat} {x : Th} (h : ThAt w g o x) (hb : Below w.heap.size w w') (hg : g < w.heap.size) : ThAt w' g o x :=
  ⟨(hb.cell (p := ⟨g, o, none⟩) hg).trans h.k, (hb.cell (p := ⟨g, o + 1, none⟩) hg).trans h.n, (hb.cell (p := ⟨g, o + 2, none⟩) hg).trans h.s, (hb.cell (p := ⟨g, o + 3, none⟩) hg).trans h.b,
    (hb.cell (p := ⟨g, o + 4, none⟩) hg).trans h.t1, (hb.cell (p := ⟨g, o + 5, none⟩) hg).trans h.t2, (hb.cell (p := ⟨g, o + 6, none⟩) hg).trans h.l⟩
end S2
end Go.Proofs.YtjlkgbejldcklaaGreat

namespace Go.Proofs.YtjlkgbejldcklaaGreat
namespace S2
open Go.ChangeShapes Go.WideShapes Go.ChangeAt Go.RowKit Go.Joins Go.Deep
structure Lay (w : World) (S : Nat) (rp rb : Option Nat) (v : Value) (L : List UInt8) : Prop where
  pen : PenAt w S rp L
  row : Row w rb v L
  pr : ∀ k, rp = some k → S < k
  br : ∀ k, rb = some k → S < k
  ap : ∀ k, rp = some k → rb ≠ some k
theorem Lay.before {w x : World} {S : Nat} {rp rb : Option Nat} {v : Value} {L : List UInt8} (h : Lay w S rp rb v L) (k : Keeps (fun _ => False) w x) : Lay x S rp rb v L :=
  ⟨h.pen.before k, h.row.before k, h.pr, h.br, h.ap⟩
structure Mid (w : World) (S : Nat) (rp rb : Option Nat) (v : Value) (L M : List UInt8) : Prop where
  pen : PenAt w S rp M
  row : Row w rb v L
  pr : ∀ k, rp = some k → S < k
  br : ∀ k, rb = some k → S < k
  ap : ∀ k, rp = some k → rb ≠ some k
theorem Mid.lay {w w3 : World} {S : Nat} {rp rb rb' : Option Nat} {v v' : Value} {L M : List UInt8} (h : Mid w S rp rb v L M) (hr : Row w3 rb' v' M) (hs : RowStep rb rb' w w3) : Lay w3 S rp rb' v' M := by
  have hS := h.pen.lt
  refine ⟨h.pen.keep hs.keeps (fun e => by have := h.br _ e; omega) (fun x hx e => h.ap x hx e), hr, h.pr, fun k hk => ?_, fun k hk hb => ?_⟩
  · rcases hs.row with e | e
    · exact h.br k (by rw [← e]; exact hk)
    · have := e k hk; omega
  · rcases hs.row with e | e
    · exact h.ap k hk (by rw [← e]; exact hb)
    · have h1 := e k hb
      have h2 := h.pen.rowLt hk
      omega
theorem SL.cells {w : World} {g : Nat} {b : Addr} {l : List (Int × Int)} (h : SL w g (some b) l) : ∀ (j : Nat) (u : Value), (cellsL l)[j]? = some u → w.cell? (b.add j) = some u := by
  intro j u hj
  have hlt : j < l.length * 2 := by
    have := (List.getElem?_eq_some_iff.1 hj).1
    rwa [cellsL_length] at this
  obtain ⟨⟨x, y⟩, hxy⟩ := get_lt (l := l) (j := j / 2) (by omega)
  obtain ⟨o, hb, hc⟩ := h (not_nil (j := j / 2) (by omega))
  simp only [Option.some.injEq] at hb
  subst hb
  obtain ⟨c1, c2⟩ := cellsL_at l (j / 2) x y hxy
  obtain ⟨h1, h2⟩ := hc (j / 2) x y hxy
  rw [Go.WideShapes.add_plain]
  rcases Nat.mod_two_eq_zero_or_one j with hm | hm
  · have e : j / 2 * 2 = j := by omega
    rw [e] at c1 h1
    rw [h1, ← c1, hj]
  · have e : j / 2 * 2 + 1 = j := by omega
    rw [e] at c2
    rw [show o + j / 2 * 2 + 1 = o + j by omega] at h2
    rw [h2, ← c2, hj]
theorem SL.later {w x : World} {g : Nat} {a : Option Addr} {l : List (Int × Int)} (h : SL w g a l) (hg : l ≠ [] → g < w.heap.size) (hb : Below w.heap.size w x) : SL x g a l := by
  intro hne
  exact h.keep (ofB (S := fun k => w.heap.size ≤ k) hb) (fun e => by have := hg hne; omega) hne
theorem SL.low {w x : World} {g : Nat} {a : Option Addr} {l : List (Int × Int)} (h : SL w g a l) (hg : l ≠ [] → g < w.heap.size) (hb : Below w.heap.size w x) : ∃ g', SL x g' a l ∧ g' ≤ w.heap.size := by
  by_cases hne : l = []
  · subst hne; exact ⟨0, fun h => absurd rfl h, Nat.zero_le _⟩
  · exact ⟨g, h.later hg hb, Nat.le_of_lt (hg hne)⟩
end S2
end Go.Proofs.YtjlkgbejldcklaaGreat

namespace Go.Proofs.YtjlkgbejldcklaaGreat
namespace S2
open Go.RowKit
theorem leN_low (n k : Nat) : leN (low n k) = n % 2 ^ (8 * k) := by
  induction k with
  | zero => rw [low_zero]; simp [leN, Nat.mod_one]
  | succ k ih =>
    rw [low_succ, leN_snoc, ih, low_length]
    have e : 2 ^ (8 * (k + 1)) = 2 ^ (8 * k) * 256 := by rw [Nat.mul_add, Nat.pow_add]
    have e2 : (UInt8.ofNat (n >>> (8 * k))).toNat = n / 2 ^ (8 * k) % 256 := by rw [Nat.shiftRight_eq_div_pow]; simp
    rw [e, e2, Nat.mod_mul, Nat.mul_comm (2 ^ (8 * k))]
theorem wrap_back (n : Int) (h1 : -9223372036854775808 ≤ n) (h2 : n ≤ 9223372036854775807) : wrap64 ((IntKind.u64.wrap n).toNat : Int) = n := by
  have e : IntKind.u64.wrap n = n % 18446744073709551616 := rfl
  rw [e]
  unfold wrap64
  omega
theorem wf_i64 {n : Int} (h : (Lit.int .i64 n).wf = true) : -9223372036854775808 ≤ n ∧ n ≤ 9223372036854775807 := by
  simp only [Lit.wf, Bool.and_eq_true, decide_eq_true_eq] at h
  have e1 : IntKind.i64.min = -9223372036854775808 := rfl
  have e2 : IntKind.i64.max = 9223372036854775807 := rfl
  rw [e1, e2] at h
  exact h
theorem u64_lt (n : Int) : (IntKind.u64.wrap n).toNat < 18446744073709551616 := by
  have e : IntKind.u64.wrap n = n % 18446744073709551616 := rfl
  rw [e]
  omega
theorem take_app {α : Type} (a b : List α) (n : Nat) (h : a.length = n) : (a ++ b).take n = a := by subst h; exact List.take_left
theorem drop_app {α : Type} (a b : List α) (n : Nat) (h : a.length = n) : (a ++ b).drop n = b := by subst h; exact List.drop_left
theorem rd_i8 (n : Int) (h : (Lit.int .i64 n).wf = true) (r : List UInt8) : rd (i8 n ++ r) = n := by
  obtain ⟨h1, h2⟩ := wf_i64 h
  unfold rd
  rw [take_app _ _ 8 (i8_length n)]
  unfold i8
  rw [leN_low, Nat.mod_eq_of_lt (u64_lt n)]
  exact wrap_back n h1 h2
theorem read_i (n : Int) (h : (Lit.int .i64 n).wf = true) (r : List UInt8) : okI (i8 n ++ r) false = true ∧ valI (i8 n ++ r) false = n ∧ behind true 8 (i8 n ++ r) = r := by
  have hok : okI (i8 n ++ r) false = true := by
    have := i8_length n
    simp [okI, this]
  exact ⟨hok, by unfold valI; rw [if_pos hok]; exact rd_i8 n h r, by rw [behind_yes]; exact drop_app _ _ 8 (i8_length n)⟩
theorem tx_take (s : ByteArray) (hs : s.size ≤ 1048576) (r : List UInt8) : leN ((tx s ++ r).take 4) = s.size := by
  have e : tx s ++ r = low s.size 4 ++ (s.data.toList ++ r) := by unfold tx; rw [List.append_assoc]
  rw [e, take_app _ _ 4 (low_length _ _), leN_low]
  exact Nat.mod_eq_of_lt (by omega)
theorem read_t (s : ByteArray) (hs : s.size ≤ 1048576) (r : List UInt8) : okT (tx s ++ r) false = true ∧ valT (tx s ++ r) false = s ∧ behind true (4 + leN ((tx s ++ r).take 4)) (tx s ++ r) = r := by
  have h1 := tx_take s hs r
  have hl := tx_length s
  have hok : okT (tx s ++ r) false = true := by
    unfold okT
    rw [h1]
    simp only [Bool.not_false, Bool.true_and, decide_eq_true_eq, List.length_drop, List.length_append]
    omega
  refine ⟨hok, ?_, ?_⟩
  · unfold valT
    rw [if_pos hok]
    unfold atT
    rw [h1]
    have e : tx s ++ r = low s.size 4 ++ (s.data.toList ++ r) := by unfold tx; rw [List.append_assoc]
    rw [e, drop_app _ _ 4 (low_length _ _), take_app _ _ _ (ba_len s)]
  · rw [behind_yes, h1]
    exact drop_app _ _ _ hl
end S2
end Go.Proofs.YtjlkgbejldcklaaGreat

namespace Go.Proofs.YtjlkgbejldcklaaGreat
namespace S2
open Go.RowKit Go.Deep
def Cut (r : List UInt8) (bl : Bool) (R : List UInt8) : Prop := bl = true ∨ ∃ t, t ≠ [] ∧ r ++ t = R
theorem Cut.blind {r : List UInt8} {R : List UInt8} : Cut r true R := .inl rfl
end S2
end Go.Proofs.YtjlkgbejldcklaaGreat

namespace Go.Proofs.YtjlkgbejldcklaaGreat
namespace S2
open Go.RowKit Go.Deep
def RAt (w : World) (b g : Nat) (B : List UInt8) (i : Nat) (bl : Bool) : Prop :=
  ∃ v, w.heap[b]? = some (.cells #[v, .int .i64 (i : Int), .bool bl] 233 (0, 0)) ∧ Bs w g v B ∧ i ≤ B.length ∧ B.length ≤ 20000 ∧ (B ≠ [] → g ≠ b)
theorem RAt.lt {w : World} {b g : Nat} {B : List UInt8} {i : Nat} {bl : Bool} (h : RAt w b g B i bl) : b < w.heap.size := by
  obtain ⟨v, hv, _⟩ := h
  exact lt_of_block hv
theorem RAt.keep {S : Nat → Prop} {w w' : World} {b g : Nat} {B : List UInt8} {i : Nat} {bl : Bool} (h : RAt w b g B i bl) (k : Keeps S w w') (hb : ¬ S b) (hg : B ≠ [] → ¬ S g) : RAt w' b g B i bl := by
  obtain ⟨v, hv, h1, h2⟩ := h
  exact ⟨v, (k.block b (lt_of_block hv) hb).trans hv, h1.keep k hg, h2⟩
theorem RAt.before {w x : World} {b g : Nat} {B : List UInt8} {i : Nat} {bl : Bool} (h : RAt w b g B i bl) (k : Keeps (fun _ => False) w x) : RAt x b g B i bl := h.keep k (fun h => h) (fun _ h => h)
theorem RAt.set {w : World} {b g : Nat} {B : List UInt8} {i : Nat} {bl : Bool} (h : RAt w b g B i bl) (j : Nat) (hj : j ≤ B.length) : RAt (w.setCell ⟨b, 1, none⟩ (.int .i64 (j : Int))) b g B j bl := by
  obtain ⟨v, hv, h1, _, h3, h4⟩ := h
  exact ⟨v, block_setCell hv _, h1.keep (S := Only b) (Keeps.setCell (S := Only b) (p := ⟨b, 1, none⟩) (fun _ => rfl) _) (fun hne e => h4 hne e), hj, h3, h4⟩
theorem RAt.cells {w : World} {b g : Nat} {B : List UInt8} {i : Nat} {bl : Bool} (h : RAt w b g B i bl) :
    ∃ a c, Bs w g (.slice a B.length c) B ∧ w.cell? ⟨b, 0, none⟩ = some (.slice a B.length c) ∧ w.cell? ⟨b, 1, none⟩ = some (.int .i64 (i : Int)) ∧ w.cell? ⟨b, 2, none⟩ = some (.bool bl) ∧ w.frozen? ⟨b, 1, none⟩ = false ∧ w.frozen? ⟨b, 2, none⟩ = false ∧ b < w.heap.size ∧ i ≤ B.length ∧ B.length ≤ 20000 := by
  obtain ⟨v, hv, h1, h2, h3, h4⟩ := h
  have hf : ∃ a c, v = .slice a B.length c := by
    rcases h1 with ⟨rfl, rfl⟩ | ⟨o, cap, rfl, _⟩
    · exact ⟨_, _, rfl⟩
    · exact ⟨_, _, rfl⟩
  obtain ⟨a, c, rfl⟩ := hf
  exact ⟨a, c, h1, by rw [cell_of_row _ _ _ _ _ _ hv]; rfl, by rw [cell_of_row _ _ _ _ _ _ hv]; rfl, by rw [cell_of_row _ _ _ _ _ _ hv]; rfl, frozen_of_row _ _ _ _ _ hv, frozen_of_row _ _ _ _ _ hv, lt_of_block hv, h2, h3⟩
end S2
end Go.Proofs.YtjlkgbejldcklaaGreat
