/- Drums as lists of files by rising numbers: what each operation does to them. Conditions: none. -/
import Derived.Test.YtddbmibfebhmjaaRows
import Derived.WalkKit
import Derived.ProofKit
import Derived.ChangeOld
set_option maxRecDepth 100000
set_option maxHeartbeats 16000000
namespace Go.Proofs.Ytddbmibfebhmjaa
open Go.ChangeShapes Go.WideShapes Go.ChangeAt Go.RowKit
section
variable {H : Type} {enc : TypeId × Value → H} {P : Program}
theorem trodAll_below (hl : laidOutB P = true) {W W' : World} (hb : Below W.heap.size W W') {sp : Nat → Bool} :
  ∀ {ts : List TypeId} {vs : List Value} {ds : List (DataW H)} {ps : List MemPlace}, ts.all (fun t => P.readableRec t && decide (t < P.types.size)) = true →
   DataW.TrodAll enc P W 0 (fun _ => true) true ts vs ds ps → (∀ p ∈ ps, p.block < W.heap.size) → (∀ p ∈ ps, sp p.block = true) → DataW.TrodAll enc P W' 0 sp true ts vs ds ps
 | [], [], [], _, _, h, _, _ => h
 | t :: ts, v :: vs, d :: ds, ps, hr, ⟨p, q, h1, h2, e⟩, hlt, hs => by
  simp only [List.all_cons, Bool.and_eq_true, decide_eq_true_eq] at hr
  have hp : ∀ x ∈ p, x ∈ ps := fun x hx => by rw [e]; exact List.mem_append_left _ hx
  have hq : ∀ x ∈ q, x ∈ ps := fun x hx => by rw [e]; exact List.mem_append_right _ hx
  exact ⟨p, q, WideElems.Trod_stays hl hr.1.1 hr.1.2 h1 (fun x hx => hb.same (hlt x (hp x hx))) (fun x hx => hs x (hp x hx)),
   trodAll_below hl hb hr.2 h2 (fun x hx => hlt x (hq x hx)) (fun x hx => hs x (hq x hx)), e⟩
 | [], [], _ :: _, _, _, h, _, _ => h.elim
 | [], _ :: _, _, _, _, h, _, _ => h.elim
 | _ :: _, [], _, _, _, h, _, _ => h.elim
 | _ :: _, _ :: _, [], _, _, h, _, _ => h.elim
end
end Go.Proofs.Ytddbmibfebhmjaa

namespace Go.Proofs.Ytddbmibfebhmjaa
namespace SZ
structure Fil where
 n : Int
 b : List UInt8
 s : Nat
deriving DecidableEq, Inhabited
def RisF (l : List Fil) : Prop := l.Pairwise (fun f g => f.n < g.n)
def getF (l : List Fil) (n : Int) : Option Fil := l.find? (fun f => f.n == n)
def putF : List Fil → Fil → List Fil
 | [], f => [f]
 | g :: l, f => if f.n < g.n then f :: g :: l else if f.n = g.n then f :: l else g :: putF l f
def delF (l : List Fil) (n : Int) : List Fil := l.filter (fun f => f.n != n)
def sumF : List Fil → Nat
 | [] => 0
 | f :: l => f.b.length + sumF l
def lenF (l : List Fil) (n : Int) : Nat := match getF l n with | some f => f.b.length | none => 0
theorem RisF.tail {f : Fil} {l : List Fil} (h : RisF (f :: l)) : RisF l := (List.pairwise_cons.1 h).2
theorem RisF.head {f : Fil} {l : List Fil} (h : RisF (f :: l)) : ∀ g ∈ l, f.n < g.n := (List.pairwise_cons.1 h).1
theorem getF_cons (f : Fil) (l : List Fil) (n : Int) : getF (f :: l) n = if f.n = n then some f else getF l n := by
 unfold getF
 rw [List.find?_cons]
 by_cases h : f.n = n
 ·simp [h]
 ·have : (f.n == n) = false := by simpa using h
  simp [this, h]
theorem getF_some {l : List Fil} {n : Int} {f : Fil} (h : getF l n = some f) : f ∈ l ∧ f.n = n := by
 refine ⟨List.mem_of_find?_eq_some h, ?_⟩
 have := List.find?_some h
 simpa using this
theorem getF_none {l : List Fil} {n : Int} : getF l n = none ↔ ∀ f ∈ l, f.n ≠ n := by
 unfold getF
 rw [List.find?_eq_none]
 simp
theorem RisF.eq {l : List Fil} (h : RisF l) {f g : Fil} (hf : f ∈ l) (hg : g ∈ l) (e : f.n = g.n) : f = g := by
 induction l with
 | nil => cases hf
 | cons x l ih =>
  rcases List.mem_cons.1 hf with hf | hf
  ·rcases List.mem_cons.1 hg with hg | hg
   ·rw [hf, hg]
   ·have := h.head g hg; rw [hf] at e; omega
  ·rcases List.mem_cons.1 hg with hg | hg
   ·have := h.head f hf; rw [hg] at e; omega
   ·exact ih h.tail hf hg
theorem RisF.get {l : List Fil} (h : RisF l) {f : Fil} (hf : f ∈ l) : getF l f.n = some f := by
 cases e : getF l f.n with
 | none => exact absurd rfl (getF_none.1 e f hf)
 | some g =>
  obtain ⟨h1, h2⟩ := getF_some e
  rw [h.eq h1 hf h2]
theorem putF_mem {l : List Fil} (h : RisF l) (f g : Fil) : g ∈ putF l f ↔ g = f ∨ g ∈ l ∧ g.n ≠ f.n := by
 induction l with
 | nil => simp [putF]
 | cons x l ih =>
  unfold putF
  by_cases h1 : f.n < x.n
  ·rw [if_pos h1, List.mem_cons]
   refine or_congr Iff.rfl ⟨fun hg => ⟨hg, ?_⟩, fun hg => hg.1⟩
   rcases List.mem_cons.1 hg with rfl | hg
   ·omega
   ·have := h.head g hg; omega
  ·rw [if_neg h1]
   by_cases h2 : f.n = x.n
   ·rw [if_pos h2, List.mem_cons, List.mem_cons]
    refine or_congr Iff.rfl ⟨fun hg => ⟨.inr hg, ?_⟩, fun hg => ?_⟩
    ·have := h.head g hg; omega
    ·rcases hg.1 with rfl | hg1
     ·exact absurd h2.symm hg.2
     ·exact hg1
   ·rw [if_neg h2, List.mem_cons, ih h.tail, List.mem_cons]
    constructor
    ·rintro (rfl | rfl | hg)
     ·exact .inr ⟨.inl rfl, fun e => h2 e.symm⟩
     ·exact .inl rfl
     ·exact .inr ⟨.inr hg.1, hg.2⟩
    ·rintro (rfl | ⟨rfl | hg, hn⟩)
     ·exact .inr (.inl rfl)
     ·exact .inl rfl
     ·exact .inr (.inr ⟨hg, hn⟩)
theorem RisF.put {l : List Fil} (h : RisF l) (f : Fil) : RisF (putF l f) := by
 induction l with
 | nil => exact List.pairwise_singleton _ _
 | cons x l ih =>
  unfold putF
  by_cases h1 : f.n < x.n
  ·rw [if_pos h1]
   refine List.pairwise_cons.2 ⟨fun g hg => ?_, h⟩
   rcases List.mem_cons.1 hg with rfl | hg
   ·exact h1
   ·have := h.head g hg; omega
  ·rw [if_neg h1]
   by_cases h2 : f.n = x.n
   ·rw [if_pos h2]
    exact List.pairwise_cons.2 ⟨fun g hg => by rw [h2]; exact h.head g hg, h.tail⟩
   ·rw [if_neg h2]
    refine List.pairwise_cons.2 ⟨fun g hg => ?_, ih h.tail⟩
    rcases (putF_mem h.tail f g).1 hg with rfl | hg
    ·omega
    ·exact h.head g hg.1
theorem sumF_put {l : List Fil} (h : RisF l) (f : Fil) : sumF (putF l f) + lenF l f.n = sumF l + f.b.length := by
 induction l with
 | nil => simp [putF, sumF, lenF, getF]
 | cons x l ih =>
  unfold putF
  have hl : lenF (x :: l) f.n = if x.n = f.n then x.b.length else lenF l f.n := by
   unfold lenF
   rw [getF_cons]
   by_cases hx : x.n = f.n
   ·rw [if_pos hx, if_pos hx]
   ·rw [if_neg hx, if_neg hx]
  by_cases h1 : f.n < x.n
  ·rw [if_pos h1, hl, if_neg (by omega)]
   have : lenF l f.n = 0 := by
    unfold lenF
    rw [getF_none.2 (fun g hg => by have := h.head g hg; omega)]
   simp only [sumF, this]
   omega
  ·rw [if_neg h1]
   by_cases h2 : f.n = x.n
   ·rw [if_pos h2, hl, if_pos h2.symm]
    simp only [sumF]
    omega
   ·rw [if_neg h2, hl, if_neg (fun e => h2 e.symm)]
    simp only [sumF]
    have := ih h.tail
    omega
theorem delF_mem {l : List Fil} {n : Int} {f : Fil} : f ∈ delF l n ↔ f ∈ l ∧ f.n ≠ n := by
 unfold delF
 simp [List.mem_filter]
theorem RisF.del {l : List Fil} (h : RisF l) (n : Int) : RisF (delF l n) := List.Pairwise.filter _ h
theorem sumF_del {l : List Fil} (h : RisF l) (n : Int) : sumF (delF l n) + lenF l n = sumF l := by
 induction l with
 | nil => rfl
 | cons x l ih =>
  have hl : lenF (x :: l) n = if x.n = n then x.b.length else lenF l n := by
   unfold lenF
   rw [getF_cons]
   by_cases hx : x.n = n
   ·rw [if_pos hx, if_pos hx]
   ·rw [if_neg hx, if_neg hx]
  have ht := ih h.tail
  rw [hl]
  by_cases h1 : x.n = n
  ·rw [if_pos h1]
   have h2 : lenF l n = 0 := by
    unfold lenF
    rw [getF_none.2 (fun g hg => by have := h.head g hg; omega)]
   have e : delF (x :: l) n = delF l n := by
    unfold delF
    rw [List.filter_cons, if_neg (by simpa using h1)]
   rw [e]
   simp only [sumF]
   omega
  ·rw [if_neg h1]
   have e : delF (x :: l) n = x :: delF l n := by
    unfold delF
    rw [List.filter_cons, if_pos (by simpa using h1)]
   rw [e]
   simp only [sumF]
   omega
theorem sumF_ge {l : List Fil} {f : Fil} (hf : f ∈ l) : f.b.length ≤ sumF l := by
 induction l with
 | nil => cases hf
 | cons x l ih =>
  simp only [sumF]
  rcases List.mem_cons.1 hf with rfl | hf
  ·omega
  ·have := ih hf; omega
theorem lenF_le (l : List Fil) (n : Int) : lenF l n ≤ sumF l := by
 unfold lenF
 split
 ·next f e => exact sumF_ge (getF_some e).1
 ·exact Nat.zero_le _
theorem rise_len {l : List Fil} (h : RisF l) {a b : Int} (hb : ∀ f ∈ l, a ≤ f.n ∧ f.n < b) : l.length ≤ (b - a).toNat := by
 induction l generalizing a with
 | nil => simp
 | cons x l ih =>
  have h1 := hb x List.mem_cons_self
  have h2 : l.length ≤ (b - (x.n + 1)).toNat := ih h.tail (fun f hf => ⟨by have := h.head f hf; omega, (hb f (List.mem_cons_of_mem _ hf)).2⟩)
  simp only [List.length_cons]
  omega
-- where a file stands, or would stand
structure Dm where
 l : List Fil
 room : Int
 left : Int
 off : Bool
 done : Nat
deriving DecidableEq, Inhabited
def Dm.free (D : Dm) : Int := D.room - sumF D.l
structure Dm.Good (D : Dm) : Prop where
 ris : RisF D.l
 num : ∀ f ∈ D.l, 1 ≤ f.n ∧ f.n < 1001
 safe : ∀ f ∈ D.l, f.s ≤ f.b.length
 sum : (sumF D.l : Int) ≤ D.room
 room : D.room ≤ 4194304
theorem Dm.Good.len {D : Dm} (h : D.Good) : D.l.length ≤ 1000 := rise_len h.ris h.num
theorem Dm.Good.sum_le {D : Dm} (h : D.Good) : sumF D.l ≤ 4194304 := by have := h.sum; have := h.room; omega
theorem Dm.Good.blen {D : Dm} (h : D.Good) {f : Fil} (hf : f ∈ D.l) : f.b.length ≤ 4194304 := Nat.le_trans (sumF_ge hf) h.sum_le
def newD (room : Int) : Dm := ⟨[], room, -1, false, 0⟩
theorem newD_good {room : Int} (h0 : 0 ≤ room) (h1 : room ≤ 4194304) : (newD room).Good := ⟨List.Pairwise.nil, (fun _ h => by cases h), (fun _ h => by cases h), h0, h1⟩
def goodN (n : Int) : Bool := decide (1 ≤ n) && decide (n ≤ 1000)
def opD (D : Dm) (n : Int) (k : Dm → Int × Dm) : Int × Dm :=
 if goodN n = false then (2, D) else if D.off = true ∨ D.left = 0 then (140, { D with off := true }) else k { D with left := if 0 < D.left then D.left - 1 else D.left }
def addF (l : List Fil) (n : Int) (bs : List UInt8) : Fil := match getF l n with | some f => ⟨n, f.b ++ bs, f.s⟩ | none => ⟨n, bs, 0⟩
def appendK (n : Int) (bs : List UInt8) (D : Dm) : Int × Dm :=
 if D.free < bs.length then (5, D) else (0, { D with l := putF D.l (addF D.l n bs), done := D.done + 1 })
def syncK (n : Int) (D : Dm) : Int × Dm := match getF D.l n with
 | some f => (0, { D with l := putF D.l ⟨n, f.b, f.b.length⟩, done := D.done + 1 })
 | none => (7, D)
def deleteK (n : Int) (D : Dm) : Int × Dm := match getF D.l n with
 | some _ => (0, { D with l := delF D.l n, done := D.done + 1 })
 | none => (7, D)
def appendD (D : Dm) (n : Int) (bs : List UInt8) : Int × Dm := opD D n (appendK n bs)
def syncD (D : Dm) (n : Int) : Int × Dm := opD D n (syncK n)
def deleteD (D : Dm) (n : Int) : Int × Dm := opD D n (deleteK n)
def readD (D : Dm) (n : Int) : List UInt8 × Int :=
 if goodN n = false then ([], 2) else if D.off = true then ([], 140) else match getF D.l n with | some f => (f.b, 0) | none => ([], 7)
def armD (D : Dm) (n : Int) : Dm := { D with left := n }
structure Tl where
 file : Int
 keep : Int
 turn : UInt8
deriving DecidableEq, Inhabited
def tailF (T : List Tl) (n : Int) : Tl := (T.find? (fun t => t.file == n)).getD ⟨0, 0, 0⟩
def turnB (l : List UInt8) (t : UInt8) : List UInt8 := match l.getLast? with | some x => l.dropLast ++ [x ^^^ t] | none => []
def keepF (f : Fil) (t : Tl) : Nat := (min (max t.keep 0) ((f.b.length - f.s : Nat) : Int)).toNat
def cutF (f : Fil) (t : Tl) : Fil := ⟨f.n, if 0 < keepF f t then turnB (f.b.take (f.s + keepF f t)) t.turn else f.b.take f.s, f.s + keepF f t⟩
def crashD (D : Dm) (T : List Tl) : Dm := { D with l := D.l.map (fun f => cutF f (tailF T f.n)), left := -1, off := false }
theorem turnB_length (l : List UInt8) (t : UInt8) : (turnB l t).length = l.length := by
 unfold turnB
 cases e : l.getLast? with
 | none => rw [List.getLast?_eq_none_iff.1 e]
 | some x =>
  have hne : l ≠ [] := by rintro rfl; simp at e
  have := List.length_pos_iff.2 hne
  simp
  omega
theorem keepF_le (f : Fil) (t : Tl) (h : f.s ≤ f.b.length) : f.s + keepF f t ≤ f.b.length := by unfold keepF; omega
theorem cutF_len (f : Fil) (t : Tl) (h : f.s ≤ f.b.length) : (cutF f t).b.length = f.s + keepF f t := by
 have hk := keepF_le f t h
 unfold cutF
 dsimp only
 split
 ·rw [turnB_length, List.length_take]
  omega
 ·rw [List.length_take]
  omega
theorem putF_good {D : Dm} (h : D.Good) (f : Fil) (hn : 1 ≤ f.n ∧ f.n < 1001) (hs : f.s ≤ f.b.length) (hl : (sumF D.l : Int) - lenF D.l f.n + f.b.length ≤ D.room) (left : Int) (off : Bool) (done : Nat) : (⟨putF D.l f, D.room, left, off, done⟩ : Dm).Good := by
 refine ⟨h.ris.put f, fun g hg => ?_, fun g hg => ?_, ?_, h.room⟩
 ·rcases (putF_mem h.ris f g).1 hg with rfl | hg
  ·exact hn
  ·exact h.num g hg.1
 ·rcases (putF_mem h.ris f g).1 hg with rfl | hg
  ·exact hs
  ·exact h.safe g hg.1
 ·have := sumF_put h.ris f
  show (sumF (putF D.l f) : Int) ≤ D.room
  omega
theorem goodN_iff {n : Int} : goodN n = true ↔ 1 ≤ n ∧ n < 1001 := by unfold goodN; simp; omega
theorem addF_n (l : List Fil) (n : Int) (bs : List UInt8) : (addF l n bs).n = n := by unfold addF; split <;> rfl
theorem addF_len (l : List Fil) (n : Int) (bs : List UInt8) : (addF l n bs).b.length = lenF l n + bs.length := by
 unfold addF lenF
 split
 ·simp
 ·simp
theorem addF_safe {l : List Fil} (h : ∀ f ∈ l, f.s ≤ f.b.length) (n : Int) (bs : List UInt8) : (addF l n bs).s ≤ (addF l n bs).b.length := by
 unfold addF
 split
 ·next f e =>
  have := h f (getF_some e).1
  simp
  omega
 ·exact Nat.zero_le _
theorem Dm.Good.with {D : Dm} (h : D.Good) (left : Int) (off : Bool) (done : Nat) : (⟨D.l, D.room, left, off, done⟩ : Dm).Good := ⟨h.ris, h.num, h.safe, h.sum, h.room⟩
theorem delF_good {D : Dm} (h : D.Good) (n : Int) (left : Int) (off : Bool) (done : Nat) : (⟨delF D.l n, D.room, left, off, done⟩ : Dm).Good :=
 ⟨h.ris.del n, fun f hf => h.num f (delF_mem.1 hf).1, fun f hf => h.safe f (delF_mem.1 hf).1, by have := sumF_del h.ris n; have := h.sum; show (sumF (delF D.l n) : Int) ≤ D.room; omega, h.room⟩
end SZ
end Go.Proofs.Ytddbmibfebhmjaa
