/- The sum is one of words of 64 bits; texts that are unlike in one byte have unlike sums. Conditions: none. -/
import Derived.Deep.RegionWith
import Derived.Test.YtjlkgbejldcklaaGreatMg23
namespace Go.Proofs.YtjlkgbejldcklaaGreat
namespace S2
open Go.RowKit
structure RowStep (g g' : Option Nat) (w w' : World) : Prop where
  keeps : Keeps (fun x => g = some x) w w'
  row : g' = g ∨ New w g'
theorem RowStep.refl (g : Option Nat) (w : World) : RowStep g g w w := ⟨Keeps.refl _ _, .inl rfl⟩
theorem RowStep.trans {g g' g'' : Option Nat} {u v w : World} (h : RowStep g g' u v) (k : RowStep g' g'' v w) : RowStep g g'' u w := by
  refine ⟨h.keeps.trans k.keeps fun x hx hs => ?_, ?_⟩
  · rcases h.row with e | e
    · rw [← e]; exact hs
    · exact absurd (e x hs) (by omega)
  · rcases k.row with e | e
    · rw [e]; exact h.row
    · exact .inr (e.later h.keeps)
theorem RowStep.below {B : Nat} {g g' : Option Nat} {x y : World} (h : RowStep g g' x y) (hB : B ≤ x.heap.size) (hr : ∀ k, g = some k → B ≤ k) : Below B x y :=
  h.keeps.below hB fun k hk e => by have := hr k e; omega
theorem RowStep.before {g g' : Option Nat} {w x y : World} (h : RowStep g g' x y) (k : Keeps (fun _ => False) w x) : RowStep g g' w y :=
  ⟨(k.mono fun _ _ h => h.elim).then h.keeps, h.row.imp id fun e => e.later k⟩
theorem Row.before {w x : World} {g : Option Nat} {v : Value} {l : List UInt8} (h : Row w g v l) (k : Keeps (fun _ => False) w x) : Row x g v l := h.keep k fun _ _ h => h
end S2
end Go.Proofs.YtjlkgbejldcklaaGreat

namespace Go.Proofs.YtjlkgbejldcklaaGreat
namespace S2
open Go.ChangeShapes Go.WideShapes Go.ChangeAt Go.RowKit Go.Joins Go.Deep
structure Th where
  k : Int
  n : Int
  s : ByteArray
  b : Bool
  t : Int × Int
  l : List (Int × Int)
  a : Option Addr
  c : Nat
  g : Nat
structure Th.ok (x : Th) : Prop where
  n : (Lit.int .i64 x.n).wf = true
  t1 : (Lit.int .i64 x.t.1).wf = true
  t2 : (Lit.int .i64 x.t.2).wf = true
  l : ∀ s ∈ x.l, (Lit.int .i64 s.1).wf = true ∧ (Lit.int .i64 s.2).wf = true
  s : x.s.size ≤ 140737488355328
  len : 16 * x.l.length ≤ 140737488355328
structure ThAt (w : World) (g o : Nat) (x : Th) : Prop where
  k : w.cell? ⟨g, o, none⟩ = some (.int .i64 x.k)
  n : w.cell? ⟨g, o + 1, none⟩ = some (.int .i64 x.n)
  s : w.cell? ⟨g, o + 2, none⟩ = some (.string x.s)
  b : w.cell? ⟨g, o + 3, none⟩ = some (.bool x.b)
  t1 : w.cell? ⟨g, o + 4, none⟩ = some (.int .i64 x.t.1)
  t2 : w.cell? ⟨g, o + 5, none⟩ = some (.int .i64 x.t.2)
  l : w.cell? ⟨g, o + 6, none⟩ = some (.slice x.a x.l.length x.c)
section
variable {H : Type} {enc : TypeId × Value → H}
end
end S2
end Go.Proofs.YtjlkgbejldcklaaGreat

namespace Go.Proofs.YtjlkgbejldcklaaGreat
namespace S2
open Go.RowKit
def stepB (h : BitVec 64) (x : UInt8) : BitVec 64 := (h ^^^ BitVec.ofNat 64 x.toNat) * 1099511628211#64
theorem nat_u64 (n : Nat) (h : n < 18446744073709551616) : IntKind.u64.wrap (n : Int) = (n : Int) := by
  show ((n : Int) % (2 ^ 64 : Int)) = _
  omega
theorem sumStep_bv (h : BitVec 64) (x : UInt8) : sumStep (h.toNat : Int) x = ((stepB h x).toNat : Int) := by
  have hx : x.toNat < 256 := x.toNat_lt
  have e1 : bits .xor .u64 (h.toNat : Int) (x.toNat : Int) = ((h ^^^ BitVec.ofNat 64 x.toNat).toNat : Int) := by
    show IntKind.u64.wrap ((BitVec.ofInt 64 (h.toNat : Int) ^^^ BitVec.ofInt 64 (x.toNat : Int)).toNat : Int) = _
    rw [BitVec.ofInt_natCast, BitVec.ofInt_natCast, BitVec.ofNat_toNat, BitVec.setWidth_eq]
    exact nat_u64 _ (BitVec.isLt _)
  unfold sumStep
  rw [wrap_byte, e1]
  unfold stepB
  generalize h ^^^ BitVec.ofNat 64 x.toNat = a
  rw [BitVec.toNat_mul]
  show (((a.toNat : Int) * 1099511628211) % (2 ^ 64 : Int)) = _
  have e2 : (1099511628211#64).toNat = 1099511628211 := rfl
  rw [e2]
  omega
theorem sumL_bv (l : List UInt8) : sumL l = ((l.foldl stepB 14695981039346656037#64).toNat : Int) := by
  have h : ∀ (l : List UInt8) (h : BitVec 64), l.foldl sumStep (h.toNat : Int) = ((l.foldl stepB h).toNat : Int) := by
    intro l
    induction l with
    | nil => intro h; rfl
    | cons x r ih => intro h; rw [List.foldl_cons, List.foldl_cons, sumStep_bv]; exact ih _
  exact h l 14695981039346656037#64
theorem mul_inj (a b : BitVec 64) (h : a * 1099511628211#64 = b * 1099511628211#64) : a = b := by
  have e : 1099511628211#64 * 14886173955864302971#64 = 1#64 := by decide +kernel
  have h2 : a * 1099511628211#64 * 14886173955864302971#64 = b * 1099511628211#64 * 14886173955864302971#64 := by rw [h]
  rw [BitVec.mul_assoc, BitVec.mul_assoc, e, BitVec.mul_one, BitVec.mul_one] at h2
  exact h2
theorem xor_inj (a b c : BitVec 64) (h : a ^^^ c = b ^^^ c) : a = b := by
  have h2 : (a ^^^ c) ^^^ c = (b ^^^ c) ^^^ c := by rw [h]
  rw [BitVec.xor_assoc, BitVec.xor_assoc, BitVec.xor_self, BitVec.xor_zero, BitVec.xor_zero] at h2
  exact h2
theorem stepB_inj (a b : BitVec 64) (x : UInt8) (h : stepB a x = stepB b x) : a = b := xor_inj _ _ _ (mul_inj _ _ h)
theorem stepB_byte (a : BitVec 64) (x y : UInt8) (h : stepB a x = stepB a y) : x = y := by
  have h1 := mul_inj _ _ h
  rw [BitVec.xor_comm a, BitVec.xor_comm a] at h1
  have h2 := xor_inj _ _ _ h1
  have h3 := congrArg BitVec.toNat h2
  have hx : x.toNat < 256 := x.toNat_lt
  have hy : y.toNat < 256 := y.toNat_lt
  rw [BitVec.toNat_ofNat, BitVec.toNat_ofNat, Nat.mod_eq_of_lt (by omega), Nat.mod_eq_of_lt (by omega)] at h3
  exact UInt8.toNat_inj.1 h3
theorem foldB_inj (l : List UInt8) : ∀ a b : BitVec 64, l.foldl stepB a = l.foldl stepB b → a = b := by
  induction l with
  | nil => intro a b h; exact h
  | cons x r ih => intro a b h; exact stepB_inj _ _ x (ih _ _ h)
theorem sum_set (l : List UInt8) (k : Nat) (x y : UInt8) (hx : l[k]? = some x) : sumL l = sumL (l.set k y) ↔ x = y := by
  obtain ⟨hk, rfl⟩ := List.getElem?_eq_some_iff.1 hx
  constructor
  · intro h
    rw [sumL_bv, sumL_bv] at h
    have h1 : l.foldl stepB 14695981039346656037#64 = (l.set k y).foldl stepB 14695981039346656037#64 := BitVec.eq_of_toNat_eq (by omega)
    have e1 : l = l.take k ++ l[k] :: l.drop (k + 1) := by rw [List.getElem_cons_drop, List.take_append_drop]
    have e2 : l.set k y = l.take k ++ y :: l.drop (k + 1) := List.set_eq_take_append_cons_drop ▸ by simp [hk]
    rw [e2] at h1
    generalize l[k] = x at e1 ⊢
    rw [e1] at h1
    have e3 : (l.take k ++ x :: l.drop (k + 1)).take k = l.take k := by rw [← e1]
    have e4 : (l.take k ++ x :: l.drop (k + 1)).drop (k + 1) = l.drop (k + 1) := by rw [← e1]
    rw [e3, e4] at h1
    rw [List.foldl_append, List.foldl_append, List.foldl_cons, List.foldl_cons] at h1
    exact stepB_byte _ _ _ (foldB_inj _ _ _ h1)
  · intro h
    rw [← h, List.set_getElem_self]
end S2
end Go.Proofs.YtjlkgbejldcklaaGreat
