/- The reference's eye, piece by piece, as a reader of codecs: what it gives, where it stands behind, and that what was laid is read again. Conditions: as each theorem states. -/
import Derived.Lib.BufferRead
import Derived.Laws.IdiomStrings
import Derived.Test.YtgipkikedacmdaaGreatMg33
import Derived.Test.YtgipkikedacmdaaGreatMg37
import Derived.Test.YtgipkikedacmdaaGreatMg30
set_option maxRecDepth 100000
set_option maxHeartbeats 16000000
set_option linter.unusedVariables false
set_option linter.unusedSimpArgs false
namespace Go.Proofs.YtgipkikedacmdaaGreat
open S3 SN
namespace SP
open Go.ChangeShapes Go.WideShapes Go.ChangeAt Go.RowKit Go.Joins Go.Deep
def Fr {α : Type} (k : Cod α) (B : List UInt8) (i : Nat) (bl : Bool) (x : α) (i' : Nat) (bl' : Bool) : Prop :=
 ∀ y R, bl = false → B.drop i = k.lay y ++ R → k.good y → x = y ∧ bl' = false ∧ B.drop i' = R
theorem Fr.two {α β : Type} {a : Cod α} {b : Cod β} {B : List UInt8} {i i1 i2 : Nat} {bl b1 b2 : Bool} {x : α} {y : β} (h : Fr a B i bl x i1 b1) (k : Fr b B i1 b1 y i2 b2) : Fr (a.two b) B i bl (x, y) i2 b2 := by
 intro z R hb hd hg
 have hd2 : B.drop i = a.lay z.1 ++ (b.lay z.2 ++ R) := by
  rw [hd]
  show (a.lay z.1 ++ b.lay z.2) ++ R = _
  rw [List.append_assoc]
 obtain ⟨h1, h2, h3⟩ := h z.1 _ hb hd2 hg.1
 obtain ⟨k1, k2, k3⟩ := k z.2 R h2 h3 hg.2
 exact ⟨by rw [h1, k1], k2, k3⟩
def Rise (i : Nat) (bl : Bool) (i' : Nat) (bl' : Bool) : Prop := i ≤ i' ∧ (bl' = false → i < i' ∧ bl = false)
theorem Rise.trans {i i1 i2 : Nat} {bl b1 b2 : Bool} (h : Rise i bl i1 b1) (k : Rise i1 b1 i2 b2) : Rise i bl i2 b2 :=
 ⟨Nat.le_trans h.1 k.1, fun e => ⟨Nat.lt_of_le_of_lt h.1 (k.2 e).1, (h.2 (k.2 e).2).2⟩⟩
theorem u64_lt (x : Int) : u64 x < 18446744073709551616 := by
 unfold u64
 rw [wrapU]
 omega
def Lp {α : Type} (k : Cod α) (B : List UInt8) (i0 : Nat) (bl0 : Bool) (N : Int) (F : List α) (ip : Nat) (bl : Bool) : Prop :=
 ∀ y R, bl0 = false → B.drop i0 = k.list.lay y ++ R → k.list.good y → N = y.length ∧ bl = false ∧ F.length ≤ y.length ∧ F = y.take F.length ∧ B.drop ip = (y.drop F.length).flatMap k.lay ++ R
theorem Lp.start {α : Type} {k : Cod α} {B : List UInt8} {i0 i1 : Nat} {bl0 b1 : Bool} {N : Int} (h : Fr cI B i0 bl0 N i1 b1) : Lp k B i0 bl0 N [] i1 b1 := by
 intro y R hb hd hg
 have hd2 : B.drop i0 = cI.lay (y.length : Int) ++ (y.flatMap k.lay ++ R) := by rw [hd, list_lay, List.append_assoc]
 obtain ⟨h1, h2, h3⟩ := h (y.length : Int) _ hb hd2 (wf_len hg.1)
 exact ⟨h1, h2, Nat.zero_le _, by simp, by simpa using h3⟩
theorem Lp.step {α : Type} {k : Cod α} {B : List UInt8} {i0 ip i1 : Nat} {bl0 bl b1 : Bool} {N : Int} {F : List α} {x : α} (h : Lp k B i0 bl0 N F ip bl) (hN : (F.length : Int) < N) (hx : Fr k B ip bl x i1 b1) : Lp k B i0 bl0 N (F ++ [x]) i1 b1 := by
 intro y R hb hd hg
 obtain ⟨h1, h2, h3, h4, h5⟩ := h y R hb hd hg
 have hlt : F.length < y.length := by omega
 have hy : y.drop F.length = y[F.length] :: y.drop (F.length + 1) := List.drop_eq_getElem_cons hlt
 have hd2 : B.drop ip = k.lay y[F.length] ++ ((y.drop (F.length + 1)).flatMap k.lay ++ R) := by rw [h5, hy, List.flatMap_cons, List.append_assoc]
 obtain ⟨x1, x2, x3⟩ := hx _ _ h2 hd2 (hg.2 _ (List.getElem_mem hlt))
 have e : (F ++ [x]).length = F.length + 1 := by simp
 refine ⟨h1, x2, by omega, ?_, by rw [e]; exact x3⟩
 rw [e, List.take_succ_eq_append_getElem hlt, ← h4, x1]
theorem Lp.done {α : Type} {k : Cod α} {B : List UInt8} {i0 ip : Nat} {bl0 bl : Bool} {N : Int} {F : List α} (h : Lp k B i0 bl0 N F ip bl) (he : ¬ (F.length : Int) < N ∨ bl = true) : Fr k.list B i0 bl0 F ip bl := by
 intro y R hb hd hg
 obtain ⟨h1, h2, h3, h4, h5⟩ := h y R hb hd hg
 have hl : F.length = y.length := by
  rcases he with he | he
  ·omega
  ·rw [h2] at he; cases he
 rw [hl, List.drop_length] at h5
 rw [hl, List.take_length] at h4
 exact ⟨h4, h2, h5⟩
def Cod.upto {α : Type} (k : Cod (List α)) (n : Nat) : Cod (List α) := ⟨k.lay, k.val, k.fin, fun l => k.good l ∧ l.length ≤ n⟩
theorem Cod.upto_ok {α : Type} {k : Cod (List α)} (n : Nat) (hk : k.Ok) : (k.upto n).Ok := ⟨hk.inv, fun x R h => hk.front x R h.1, hk.len⟩
theorem Lp.upto {α : Type} {k : Cod α} {B : List UInt8} {i0 ip n : Nat} {bl0 bl : Bool} {N : Int} {F : List α} (h : Lp k B i0 bl0 N F ip bl) (he : ¬ (F.length : Int) < N ∨ bl = true ∨ n < F.length) : Fr (k.list.upto n) B i0 bl0 F ip bl := by
 intro y R hb hd hg
 obtain ⟨h1, h2, h3, h4, h5⟩ := h y R hb hd hg.1
 have hn := hg.2
 have hl : F.length = y.length := by
  rcases he with he | he | he
  ·omega
  ·rw [h2] at he; cases he
  ·omega
 rw [hl, List.drop_length] at h5
 rw [hl, List.take_length] at h4
 exact ⟨h4, h2, h5⟩
end SP
end Go.Proofs.YtgipkikedacmdaaGreat
