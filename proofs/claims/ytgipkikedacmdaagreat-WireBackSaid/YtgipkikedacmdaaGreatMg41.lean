/- The program's Without. Conditions: lists of at most a million, their stamps of two numbers that an int holds. -/
import Derived.DeepKeys4
import Derived.MapViews
import Derived.Lib.SliceRun
import Derived.Test.YtgipkikedacmdaaGreatMg40
import Derived.Test.YtgipkikedacmdaaGreatMg39
import Derived.Test.YtgipkikedacmdaaGreatMg38
set_option maxRecDepth 100000
set_option maxHeartbeats 16000000
set_option linter.unusedVariables false
namespace Go.Proofs.YtgipkikedacmdaaGreat
open S1
namespace SD
open Go.RowKit
def kT (s : Int × Int) : Lit := .string (keyBytes [.int .i64 s.1, .int .i64 s.2])
def WfT (s : Int × Int) : Prop := (Lit.int .i64 s.1).wf = true ∧ (Lit.int .i64 s.2).wf = true
def MapT (w : World) (b n : Nat) (D : DataW Unit) : Prop := w.ownsMap Tryz.prog 23 unitElem b n D
theorem MapT.lt {w : World} {b n : Nat} {D : DataW Unit} (h : MapT w b n D) : b < w.heap.size := World.ownsMap.lt h
theorem MapT.later {B : Nat} {w wr : World} {b n : Nat} {D : DataW Unit} (h : MapT w b n D) (hw : Below B w wr) (hb : b < B) : MapT wr b n D := by
 obtain ⟨es, clock, hh, r⟩ := h
 exact ⟨es, clock, (hw.block b hb).trans hh, r⟩

def inT (D : DataW Unit) (s : Int × Int) : Bool := Maps.has D (kT s)

def StsAt (w : World) (g cap : Nat) (m : List (Int × Int)) : Prop := ∃ cur : Array Value, w.heap[g]? = some (.cells cur 23 (0, 0)) ∧ m.length ≤ cap ∧ cap ≤ maxLen ∧ cur.size = cap * 2 ∧ cur.toList.take (m.length * 2) = cellsL m
theorem StsAt.lt {w : World} {g cap : Nat} {m : List (Int × Int)} (h : StsAt w g cap m) : g < w.heap.size := by obtain ⟨cur, h, _⟩ := h; exact lt_of_block h
theorem StsAt.later {w wr : World} {g cap : Nat} {m : List (Int × Int)} (h : StsAt w g cap m) (hb : Below w.heap.size w wr) : StsAt wr g cap m := by
 obtain ⟨cur, h1, r⟩ := h
 exact ⟨cur, (hb.block g (lt_of_block h1)).trans h1, r⟩
theorem StsAt.frozen {w : World} {g cap : Nat} {m : List (Int × Int)} (h : StsAt w g cap m) (j : Nat) : w.frozen? ⟨g, j, none⟩ = false := by
 obtain ⟨cur, h1, _⟩ := h
 simp [World.frozen?, h1]
theorem StsAt.own {w : World} {g cap base : Nat} {m : List (Int × Int)} (h : StsAt w g cap m) (hb : base ≤ g) : OwnL w base (.slice (some ⟨g, 0, none⟩) m.length cap) m := by
 obtain ⟨cur, h1, h2, h3, h4, h5⟩ := h
 exact ⟨cellsL_length m, .inr ⟨g, cap, cur, rfl, hb, h1, h2, h3, h4, h5⟩⟩
theorem StsAt.there {w : World} {g cap : Nat} {m : List (Int × Int)} (h : StsAt w g cap m) {j : Nat} (hj : j < m.length * 2) : (w.cell? ⟨g, j, none⟩).isSome = true := by
 obtain ⟨cur, h1, h2, h3, h4, h5⟩ := h
 simp only [World.cell?, h1]
 have : j < cur.size := by omega
 simp [this]
theorem StsAt.cell {w : World} {g cap : Nat} {m : List (Int × Int)} (h : StsAt w g cap m) {j : Nat} {x y : Int} (hx : m[j]? = some (x, y)) : w.cell? ⟨g, j * 2, none⟩ = some (.int .i64 x) ∧ w.cell? ⟨g, j * 2 + 1, none⟩ = some (.int .i64 y) := by
 obtain ⟨cur, h1, h2, h3, h4, h5⟩ := h
 have hj := (List.getElem?_eq_some_iff.1 hx).1
 obtain ⟨c1, c2⟩ := cellsL_at m j x y hx
 rw [← h5] at c1 c2
 rw [List.getElem?_take_of_lt (by omega)] at c1 c2
 simp only [World.cell?, h1]
 exact ⟨by simpa using c1, by simpa using c2⟩
theorem cellsL_set : ∀ (m : List (Int × Int)) (j : Nat) (x y : Int), cellsL (m.set j (x, y)) = ((cellsL m).set (j * 2) (.int .i64 x)).set (j * 2 + 1) (.int .i64 y) := by
 intro m
 induction m with
 | nil => intro j x y; simp [cellsL]
 | cons a m ih =>
  intro j x y
  cases j with
  | zero => simp [cellsL]
  | succ j =>
   have h := ih j x y
   simp only [cellsL, List.set_cons_succ, List.flatMap_cons] at h ⊢
   rw [h]
   rw [show (j + 1) * 2 + 1 = j * 2 + 1 + 1 + 1 by omega, show (j + 1) * 2 = j * 2 + 1 + 1 by omega]
   simp
theorem StsAt.set {w : World} {g cap : Nat} {m : List (Int × Int)} (h : StsAt w g cap m) {j : Nat} (hj : j < m.length) (x y : Int) : StsAt ((w.setCell ⟨g, j * 2, none⟩ (.int .i64 x)).setCell ⟨g, j * 2 + 1, none⟩ (.int .i64 y)) g cap (m.set j (x, y)) := by
 obtain ⟨cur, h1, h2, h3, h4, h5⟩ := h
 refine ⟨_, block_setCell (block_setCell h1 _) _, by simpa using h2, h3, by simpa using h4, ?_⟩
 rw [Array.toList_setIfInBounds, Array.toList_setIfInBounds, List.length_set, List.take_set, List.take_set, h5, cellsL_set]
theorem cellsL_take (m : List (Int × Int)) (k : Nat) : cellsL (m.take k) = (cellsL m).take (k * 2) := by
 induction m generalizing k with
 | nil => simp [cellsL]
 | cons a m ih =>
  cases k with
  | zero => simp [cellsL]
  | succ k =>
   have h := ih k
   simp only [cellsL, List.take_succ_cons, List.flatMap_cons] at h ⊢
   rw [h, show (k + 1) * 2 = k * 2 + 1 + 1 by omega]
   simp
theorem StsAt.cut {w : World} {g cap : Nat} {m : List (Int × Int)} (h : StsAt w g cap m) (k : Nat) : StsAt w g cap (m.take k) := by
 obtain ⟨cur, h1, h2, h3, h4, h5⟩ := h
 refine ⟨cur, h1, by rw [List.length_take]; omega, h3, h4, ?_⟩
 have e : cur.toList.take ((m.take k).length * 2) = (cur.toList.take (m.length * 2)).take (k * 2) := by
  rw [List.take_take, List.length_take]
  congr 1
  omega
 rw [e, h5, cellsL_take]
theorem StsAt.setCells {g cap : Nat} {m : List (Int × Int)} : ∀ (vs : List Value) (o : Nat) (w : World), m.length * 2 ≤ o → StsAt w g cap m → StsAt (w.setCells g o vs) g cap m := by
 intro vs
 induction vs with
 | nil => intro o w _ h; exact h
 | cons v vs ih =>
  intro o w ho h
  refine ih (o + 1) _ (by omega) ?_
  obtain ⟨cur, h1, h2, h3, h4, h5⟩ := h
  refine ⟨_, block_setCell h1 _, h2, h3, by simpa using h4, ?_⟩
  rw [Array.toList_setIfInBounds, List.take_set_of_le ho, h5]
structure KeptQ {α : Type} (p : α → Bool) (l m : List α) (i j : Nat) : Prop where
 len : m.length = l.length
 lo : m.take i = (l.take j).filter fun x => !p x
 hi : ∀ k, j ≤ k → m[k]? = l[k]?
 lt : i < j
 le : j ≤ l.length
theorem KeptQ.skip {α : Type} {p : α → Bool} {l m : List α} {i j : Nat} {x : α} (h : KeptQ p l m i j) (hx : l[j]? = some x) (hp : p x = true) : KeptQ p l m i (j + 1) where
 len := h.len
 lo := by
  rw [List.take_add_one, hx, List.filter_append, h.lo]
  simp [hp]
 hi := fun k hk => h.hi k (by omega)
 lt := by have := h.lt; omega
 le := (List.getElem?_eq_some_iff.1 hx).1
theorem KeptQ.keep {α : Type} {p : α → Bool} {l m : List α} {i j : Nat} {x : α} (h : KeptQ p l m i j) (hx : l[j]? = some x) (hp : p x = false) : KeptQ p l (m.set i x) (i + 1) (j + 1) where
 len := by rw [List.length_set, h.len]
 lo := by
  have hl := h.len
  have h1 := h.lt
  have h2 := (List.getElem?_eq_some_iff.1 hx).1
  rw [List.take_add_one, List.take_set_of_le (Nat.le_refl _), h.lo, List.getElem?_set_self (by omega), List.take_add_one, hx, List.filter_append]
  simp [hp]
 hi := fun k hk => by
  have h1 := h.lt
  rw [List.getElem?_set_ne (by omega)]
  exact h.hi k (by omega)
 lt := by have := h.lt; omega
 le := (List.getElem?_eq_some_iff.1 hx).1

def noW (X : List (Int × Int)) (i : Int × Int) : Bool := !X.contains i
structure SetAt (w : World) (Bs mb n : Nat) (D : DataW Unit) (X : List (Int × Int)) : Prop where
 cell : w.cell? ⟨Bs, 0, none⟩ = some (.map (some mb))
 lt : Bs < w.heap.size
 map : MapT w mb n D
 has : ∀ s, WfT s → Maps.has D (kT s) = X.any (· == s)
theorem SetAt.later {w wr : World} {Bs mb n : Nat} {D : DataW Unit} {X : List (Int × Int)} (h : SetAt w Bs mb n D X) (hw : Below w.heap.size w wr) : SetAt wr Bs mb n D X :=
 ⟨cell_in hw h.lt h.cell, Nat.lt_of_lt_of_le h.lt hw.size, h.map.later hw h.map.lt, h.has⟩
theorem SetAt.filter {w : World} {Bs mb n : Nat} {D : DataW Unit} {X : List (Int × Int)} (h : SetAt w Bs mb n D X) {l : List (Int × Int)} (hwf : ∀ i ∈ l, WfT i) : l.filter (fun x => !inT D x) = l.filter (noW X) :=
 List.filter_congr fun i hi => by
  unfold inT noW
  rw [h.has i (hwf i hi), List.contains_eq_any_beq]
  congr 1
  congr 1
  funext s
  exact Bool.beq_comm
end SD
end Go.Proofs.YtgipkikedacmdaaGreat
