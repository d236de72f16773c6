/- Regions that leave their order open, whose operations read older memory and whose calls give one value each and leave all older memory as it was: one walk, in the text's order, serves every order. Conditions: as each theorem states. -/
import Derived.Test.YtgipkikedacmdaaGreatProg
import Derived.WalkKit
import Derived.WalkSpells
import Derived.WalkLawsBesides
import Derived.Lib.Hide
import Derived.StillTailTactics
import Derived.Deep.QuietTactic
import Derived.BigQuiet
import Derived.Sort.Grow
import Derived.Deep.Draws
import Derived.Deep.RegionHeld3
set_option maxRecDepth 100000
set_option maxHeartbeats 16000000
namespace Go.Proofs.YtgipkikedacmdaaGreat
namespace S1
open Go.RowKit Go.Sort
theorem three_allocs (w : World) (a b c : Obj) : (((w.alloc a).alloc b).alloc c).drew = grow (w.drewN 1) #[a, b, c] := by
 rw [alloc_eq_grow, alloc_eq_grow, alloc_eq_grow, grow_grow, grow_grow]
 rfl
def cmpI (a b : Int) : Int := if a < b then -1 else if b < a then 1 else 0
theorem cmp64_any (a b : Int) (w : World) :
  Calls Tryz.prog 168 #[.int .i64 a, .int .i64 b] w fun e w' => e = .returned (.int .i64 (cmpI a b)) ∧ w = w' := by
 by_cases h1 : a < b
 ·have hv : cmpI a b = -1 := by unfold cmpI; rw [if_pos h1]
  rw [hv]
  go_enter Tryz.func168, Tryz.ntmps168
  go_wp2
  go_ret
  exact ⟨rfl, rfl⟩
 ·by_cases h2 : b < a
  ·have hv : cmpI a b = 1 := by unfold cmpI; rw [if_neg h1, if_pos h2]
   rw [hv]
   go_enter Tryz.func168, Tryz.ntmps168
   go_wp2
   go_ret
   exact ⟨rfl, rfl⟩
  ·have hv : cmpI a b = 0 := by unfold cmpI; rw [if_neg h1, if_neg h2]
   rw [hv]
   go_enter Tryz.func168, Tryz.ntmps168
   go_wp2
   go_ret
   exact ⟨rfl, rfl⟩
theorem cmpInt_any (a b : Int) (w : World) :
  Calls Tryz.prog 169 #[.int .i64 a, .int .i64 b] w fun e w' => e = .returned (.int .i64 (cmpI a b)) ∧ w = w' := by
 by_cases h1 : a < b
 ·have hv : cmpI a b = -1 := by unfold cmpI; rw [if_pos h1]
  rw [hv]
  go_enter Tryz.func169, Tryz.ntmps169
  go_wp2
  go_ret
  exact ⟨rfl, rfl⟩
 ·by_cases h2 : b < a
  ·have hv : cmpI a b = 1 := by unfold cmpI; rw [if_neg h1, if_pos h2]
   rw [hv]
   go_enter Tryz.func169, Tryz.ntmps169
   go_wp2
   go_ret
   exact ⟨rfl, rfl⟩
  ·have hv : cmpI a b = 0 := by unfold cmpI; rw [if_neg h1, if_neg h2]
   rw [hv]
   go_enter Tryz.func169, Tryz.ntmps169
   go_wp2
   go_ret
   exact ⟨rfl, rfl⟩
def orI (a b : Int) : Int := if a = 0 then b else a
theorem or_any (a b : Int) (B : Nat) (w : World) (h0 : w.cell? ⟨B, 0, none⟩ = some (.int .i64 a)) (h1 : w.cell? ⟨B, 1, none⟩ = some (.int .i64 b)) :
  Calls Tryz.prog 167 #[.slice (some ⟨B, 0, none⟩) 2 2] w fun e w' => e = .returned (.int .i64 (orI a b)) ∧ w = w' := by
 by_cases ha : a = 0
 ·have hv : orI a b = b := by unfold orI; rw [if_pos ha]
  rw [hv]
  subst ha
  by_cases hb : b = 0
  ·subst hb
   go_enter Tryz.func167, Tryz.ntmps167
   go_wp2
   refine wp_loop_rounds 3 ?_
   iterate 3 (rw [rounds_succ]; go_wp2)
   go_ret
   exact ⟨rfl, rfl⟩
  ·go_enter Tryz.func167, Tryz.ntmps167
   go_wp2
   refine wp_loop_rounds 3 ?_
   iterate 2 (rw [rounds_succ]; go_wp2)
   go_ret
   exact ⟨rfl, rfl⟩
 ·have hv : orI a b = a := by unfold orI; rw [if_neg ha]
  rw [hv]
  go_enter Tryz.func167, Tryz.ntmps167
  go_wp2
  refine wp_loop_rounds 3 ?_
  rw [rounds_succ]
  go_wp2
  go_ret
  exact ⟨rfl, rfl⟩
def stV (t n : Int) : Value := .agg #[.int .i64 t, .int .i64 n]
def cmpS (t n t' n' : Int) : Int := orI (cmpI t t') (cmpI n n')
theorem compare_grow (t n t' n' : Int) (w : World) :
  Calls Tryz.prog 120 #[.agg #[.int .i64 t, .int .i64 n], .agg #[.int .i64 t', .int .i64 n']] w fun e w' => e = .returned (.int .i64 (cmpS t n t' n')) ∧ ∃ q os, w' = grow (w.drewN q) os := by
 go_enter Tryz.func120, Tryz.ntmps120
 go_wp2
 go_region_held3 (fun w' => w'.cell? ⟨w.heap.size, 0, none⟩ = some (.int .i64 t) ∧ w'.cell? ⟨w.heap.size, 1, none⟩ = some (.int .i64 n) ∧ w'.cell? ⟨w.heap.size + 1, 0, none⟩ = some (.int .i64 t') ∧ w'.cell? ⟨w.heap.size + 1, 1, none⟩ = some (.int .i64 n')) (go_keep)
  (first | (go_at_call 168; refine (cmp64_any _ _ _).mono ?_; rintro e w' ⟨rfl, rfl⟩) | (go_at_call 169; refine (cmpInt_any _ _ _).mono ?_; rintro e w' ⟨rfl, rfl⟩) | (go_at_call 167; refine (or_any (cmpI t t') (cmpI n n') _ _ ?_ ?_).mono ?_; go_simp; go_simp; rintro e w' ⟨rfl, rfl⟩))
 all_goals
  go_wp2
  go_ret
  exact ⟨rfl, 1, _, three_allocs _ _ _ _⟩
theorem grow_below (w : World) (q : Nat) (os : Array Obj) : Below w.heap.size w (grow (w.drewN q) os) :=
 ⟨rfl, rfl, rfl, by simp [grow, World.drewN], fun k hk => by simp [grow, World.drewN, Array.getElem?_append_left hk]⟩
theorem compare_any (t n t' n' : Int) (w : World) :
  Calls Tryz.prog 120 #[.agg #[.int .i64 t, .int .i64 n], .agg #[.int .i64 t', .int .i64 n']] w fun e w' => e = .returned (.int .i64 (cmpS t n t' n')) ∧ Below w.heap.size w w' :=
 (compare_grow t n t' n' w).mono fun _ _ ⟨he, q, os, hw⟩ => ⟨he, by rw [hw]; exact grow_below w q os⟩
def ltS (a b : Int × Int) : Bool := decide (a.1 < b.1 ∨ a.1 = b.1 ∧ a.2 < b.2)
def isS (a : Int × Int) : Bool := decide (1 ≤ a.1 ∧ a.1 ≤ 1099511627776 ∧ 1 ≤ a.2 ∧ a.2 ≤ 7)
theorem one_alloc (w : World) (a : Obj) : w.alloc a = grow (w.drewN 0) #[a] := by
 rw [alloc_eq_grow]
 rfl
def nodeS (n : Int) : Bool := decide (1 ≤ n ∧ n ≤ 7)
theorem isNode_any (k : Int) (w : World) :
  Calls Tryz.prog 182 #[.int .i64 k] w fun e w' => e = .returned (.bool (nodeS k)) ∧ w = w' := by
 by_cases h1 : 1 ≤ k
 ·by_cases h2 : k ≤ 7
  ·have hv : nodeS k = true := by simp [nodeS, h1, h2]
   rw [hv]
   go_enter Tryz.func182, Tryz.ntmps182
   go_wp2
   go_ret
   exact ⟨rfl, rfl⟩
  ·have hv : nodeS k = false := by simp [nodeS, h2]
   rw [hv]
   go_enter Tryz.func182, Tryz.ntmps182
   go_wp2
   go_ret
   exact ⟨rfl, rfl⟩
 ·have hv : nodeS k = false := by simp [nodeS, h1]
  rw [hv]
  go_enter Tryz.func182, Tryz.ntmps182
  go_wp2
  go_ret
  exact ⟨rfl, rfl⟩
def checkS (a : Int × Int) : Int := if isS a then 0 else 10
theorem check_any (t n : Int) (w : World) :
  Calls Tryz.prog 131 #[.agg #[.int .i64 t, .int .i64 n]] w fun e w' => e = .returned (.int .i64 (checkS (t, n))) ∧ ∃ q os, w' = grow (w.drewN q) os := by
 by_cases h1 : 1 ≤ t
 ·by_cases h2 : t ≤ 1099511627776
  ·by_cases h3 : nodeS n = true
   ·have hv : checkS (t, n) = 0 := by simp [nodeS] at h3; simp [checkS, isS, h1, h2, h3]
    rw [hv]
    have H := Lib.hid h3
    clear h3
    go_enter Tryz.func131, Tryz.ntmps131
    go_wp2_with (go_at_call 182; refine (isNode_any _ _).mono ?_; rintro e w' ⟨rfl, rfl⟩; rw [H.out])
    go_ret
    exact ⟨rfl, 0, _, one_alloc _ _⟩
   ·have h4 : nodeS n = false := by simpa using h3
    have hv : checkS (t, n) = 10 := by simp [nodeS] at h4; simp [checkS, isS]; omega
    rw [hv]
    have H := Lib.hid h4
    clear h3 h4
    go_enter Tryz.func131, Tryz.ntmps131
    go_wp2_with (go_at_call 182; refine (isNode_any _ _).mono ?_; rintro e w' ⟨rfl, rfl⟩; rw [H.out])
    go_ret
    exact ⟨rfl, 0, _, one_alloc _ _⟩
  ·have hv : checkS (t, n) = 10 := by simp [checkS, isS]; omega
   rw [hv]
   go_enter Tryz.func131, Tryz.ntmps131
   go_wp2
   go_ret
   exact ⟨rfl, 0, _, one_alloc _ _⟩
 ·have hv : checkS (t, n) = 10 := by simp [checkS, isS]; omega
  rw [hv]
  go_enter Tryz.func131, Tryz.ntmps131
  go_wp2
  go_ret
  exact ⟨rfl, 0, _, one_alloc _ _⟩
end S1
end Go.Proofs.YtgipkikedacmdaaGreat

namespace Go.Proofs.YtgipkikedacmdaaGreat
namespace S1
theorem ltS_iff (a b : Int × Int) : ltS a b = true ↔ a.1 < b.1 ∨ a.1 = b.1 ∧ a.2 < b.2 := by simp [ltS]
theorem ltS_not (a b : Int × Int) : ltS a b = false ↔ ¬ (a.1 < b.1 ∨ a.1 = b.1 ∧ a.2 < b.2) := by simp [ltS]
theorem cmpI_eq (a b : Int) : (cmpI a b = -1 ∧ a < b) ∨ (cmpI a b = 0 ∧ a = b) ∨ (cmpI a b = 1 ∧ b < a) := by
 unfold cmpI
 split
 ·exact .inl ⟨rfl, ‹_›⟩
 ·split
  ·exact .inr (.inr ⟨rfl, ‹_›⟩)
  ·exact .inr (.inl ⟨rfl, by omega⟩)
theorem cmpS_eq (t n t' n' : Int) : (cmpS t n t' n' = -1 ∧ ltS (t, n) (t', n') = true ∧ ltS (t', n') (t, n) = false) ∨ (cmpS t n t' n' = 0 ∧ t = t' ∧ n = n') ∨ (cmpS t n t' n' = 1 ∧ ltS (t', n') (t, n) = true ∧ ltS (t, n) (t', n') = false) := by
 unfold cmpS orI
 simp only [ltS_iff, ltS_not]
 rcases cmpI_eq t t' with ⟨h, h1⟩ | ⟨h, h1⟩ | ⟨h, h1⟩ <;> rcases cmpI_eq n n' with ⟨g, g1⟩ | ⟨g, g1⟩ | ⟨g, g1⟩ <;> rw [h, g] <;> simp <;> omega
theorem cmpS_neg (t n t' n' : Int) : cmpS t n t' n' < 0 ↔ ltS (t, n) (t', n') = true := by
 rcases cmpS_eq t n t' n' with ⟨h, h1, h2⟩ | ⟨h, h1, h2⟩ | ⟨h, h1, h2⟩ <;> rw [h]
 ·simp [h1]
 ·subst h1; subst h2; simp [ltS]
 ·simp [h2]
end S1
end Go.Proofs.YtgipkikedacmdaaGreat

namespace Go.Proofs.YtgipkikedacmdaaGreat
namespace S1
open Go.RowKit Go.Sort
def Lst (w : World) (b o : Nat) (l : List (Int × Int)) : Prop := ∀ i x y, l[i]? = some (x, y) → w.cell? ⟨b, o + i * 2, none⟩ = some (.int .i64 x) ∧ w.cell? ⟨b, o + i * 2 + 1, none⟩ = some (.int .i64 y)
def SL (w : World) (a : Option Addr) (l : List (Int × Int)) : Prop := l ≠ [] → ∃ b o, a = some ⟨b, o, none⟩ ∧ b < w.heap.size ∧ Lst w b o l
theorem cell_in {W wr : World} (h : Below W.heap.size W wr) {b o : Nat} {v : Value} (hb : b < W.heap.size) (hc : W.cell? ⟨b, o, none⟩ = some v) : wr.cell? ⟨b, o, none⟩ = some v :=
 (h.cell (p := ⟨b, o, none⟩) hb).trans hc
theorem Lst.later {W wr : World} {b o : Nat} {l : List (Int × Int)} (h : Lst W b o l) (hb : b < W.heap.size) (hw : Below W.heap.size W wr) : Lst wr b o l :=
 fun i x y hi => ⟨cell_in hw hb (h i x y hi).1, cell_in hw hb (h i x y hi).2⟩
theorem SL.later {W wr : World} {a : Option Addr} {l : List (Int × Int)} (h : SL W a l) (hw : Below W.heap.size W wr) : SL wr a l := by
 intro hne
 obtain ⟨b, o, ha, hb, hl⟩ := h hne
 exact ⟨b, o, ha, Nat.lt_of_lt_of_le hb hw.size, hl.later hb hw⟩
theorem ret_bool {a b : Bool} (h : a = b) : Ending.returned (.bool a) = .returned (.bool b) := by rw [h]
theorem ne_of_lt {l : List (Int × Int)} {k : Nat} (h : k < l.length) : l ≠ [] := by
 rintro rfl
 exact absurd h (Nat.not_lt_zero _)
theorem at_lt {l : List (Int × Int)} {k : Nat} (h : k < l.length) : ∃ x y, l[k]? = some (x, y) := ⟨_, _, List.getElem?_eq_getElem h⟩
def Own2 (w : World) (b : Nat) (x y : Int) : Prop := w.heap[b]? = some (.cells #[.int .i64 x, .int .i64 y] 23 (0, 0))
theorem blAlloc {w x : World} (h : Below w.heap.size w x) (ob : Obj) : Below w.heap.size w (x.alloc ob) := h.alloc h.size ob
theorem blGrown {w x : World} (h : Below w.heap.size w x) (q : Nat) (os : Array Obj) : Below w.heap.size w (grow (x.drewN q) os) := h.trans ((grow_below x q os).mono h.size)
theorem blThen {w x y : World} (h : Below w.heap.size w x) (k : Below x.heap.size x y) : Below w.heap.size w y := h.trans (k.mono h.size)
theorem block_setCell {w : World} {b i : Nat} {c : Array Value} {t : TypeId} (h : w.heap[b]? = some (.cells c t (0, 0))) (u : Value) : (w.setCell ⟨b, i, none⟩ u).heap[b]? = some (.cells (c.setIfInBounds i u) t (0, 0)) := by
 have hlt := lt_of_block h
 have h' : w.heap[b] = .cells c t (0, 0) := by simpa [Array.getElem?_eq_getElem hlt] using h
 show (w.heap.modify b _)[b]? = _
 rw [Array.getElem?_eq_getElem (by simpa using hlt), Array.getElem_modify_self, h']
 rfl
theorem Own2.set {w : World} {b : Nat} {x y : Int} (h : Own2 w b x y) (x' y' : Int) : Own2 ((w.setCell ⟨b, 0, none⟩ (.int .i64 x')).setCell ⟨b, 1, none⟩ (.int .i64 y')) b x' y' :=
 block_setCell (block_setCell h (.int .i64 x')) (.int .i64 y')
theorem Own2.lt {w : World} {b : Nat} {x y : Int} (h : Own2 w b x y) : b < w.heap.size := lt_of_block h
theorem Own2.c0 {w : World} {b : Nat} {x y : Int} (h : Own2 w b x y) : w.cell? ⟨b, 0, none⟩ = some (.int .i64 x) := by unfold Own2 at h; simp [World.cell?, h]
theorem Own2.c1 {w : World} {b : Nat} {x y : Int} (h : Own2 w b x y) : w.cell? ⟨b, 1, none⟩ = some (.int .i64 y) := by unfold Own2 at h; simp [World.cell?, h]
theorem Own2.f0 {w : World} {b : Nat} {x y : Int} (h : Own2 w b x y) : w.frozen? ⟨b, 0, none⟩ = false := by unfold Own2 at h; simp [World.frozen?, h]
theorem Own2.f1 {w : World} {b : Nat} {x y : Int} (h : Own2 w b x y) : w.frozen? ⟨b, 1, none⟩ = false := by unfold Own2 at h; simp [World.frozen?, h]
theorem Own2.later {w wr : World} {b B : Nat} {x y : Int} (h : Own2 w b x y) (hb : Below B w wr) (hB : b < B) : Own2 wr b x y := (hb.block b hB).trans h

def But (b : Nat) (w w' : World) : Prop := w.grownBy w' (some b)
theorem But.refl (b : Nat) (w : World) : But b w w := ⟨rfl, rfl, rfl, Nat.le_refl _, fun _ _ _ => rfl⟩
theorem But.trans {b : Nat} {x y z : World} (h : But b x y) (k : But b y z) : But b x z := ⟨k.os.trans h.os, k.tape.trans h.tape, k.output.trans h.output, Nat.le_trans h.size k.size, fun i hi hn => (k.block i (Nat.lt_of_lt_of_le hi h.size) hn).trans (h.block i hi hn)⟩
theorem But.set (b i : Nat) (w : World) (u : Value) : But b w (w.setCell ⟨b, i, none⟩ u) := ⟨rfl, rfl, rfl, by simp, fun k _ hn => Below.heap_setCell _ _ _ _ (fun e => hn (by rw [e]))⟩
theorem But.of_below {b : Nat} {w w' : World} (h : Below w.heap.size w w') : But b w w' := ⟨h.os, h.tape, h.output, h.size, fun i hi _ => h.block i hi⟩
theorem But.below {b B : Nat} {x y z : World} (h : Below B x y) (k : But b y z) (hb : B ≤ b) (hB : B ≤ y.heap.size) : Below B x z := h.grown k hB (fun j hj => by simp at hj; omega)
theorem Own2.but {w wr : World} {b c : Nat} {x y : Int} (h : Own2 w b x y) (hb : But c w wr) (hne : b ≠ c) : Own2 wr b x y := (hb.block b h.lt (by simpa using hne)).trans h
theorem But.alloc {b : Nat} {w x : World} (h : But b w x) (ob : Obj) : But b w (x.alloc ob) := h.trans (But.of_below ((Below.refl _ _).alloc (Nat.le_refl _) _))
theorem But.grown {b : Nat} {w x : World} (h : But b w x) (q : Nat) (os : Array Obj) : But b w (grow (x.drewN q) os) := h.trans (But.of_below (grow_below x q os))
theorem But.drew {b : Nat} {w x : World} (h : But b w x) : But b w x.drew := ⟨h.os, h.tape, h.output, h.size, h.block⟩
theorem But.drewN {b : Nat} {w x : World} (h : But b w x) (n : Nat) : But b w (x.drewN n) := ⟨h.os, h.tape, h.output, h.size, h.block⟩

def okS (s : Int × Int) : Bool := decide (s = (0, 0)) || isS s
end S1
end Go.Proofs.YtgipkikedacmdaaGreat

namespace Go.Proofs.YtgipkikedacmdaaGreat
namespace S1
theorem ltS_irrefl (a : Int × Int) : ltS a a = false := by simp [ltS]
theorem ltS_trans {a b c : Int × Int} (h : ltS a b = true) (k : ltS b c = true) : ltS a c = true := by simp only [ltS_iff] at *; omega
theorem ltS_total {a b : Int × Int} (h : ltS a b = false) (k : ltS b a = false) : a = b := by
 simp only [ltS_not] at *
 exact Prod.ext (by omega) (by omega)
def SS (l : List (Int × Int)) : Prop := l.Pairwise fun a b => ltS a b = true
def addL : List (Int × Int) → Int × Int → List (Int × Int)
 | [], s => [s]
 | x :: r, s => if ltS x s then x :: addL r s else if x = s then x :: r else s :: x :: r
theorem mem_addL (l : List (Int × Int)) (s y : Int × Int) : y ∈ addL l s ↔ y = s ∨ y ∈ l := by
 induction l with
 | nil => simp [addL]
 | cons x r ih =>
  unfold addL
  split
  ·simp only [List.mem_cons, ih]
   constructor
   ·rintro (h | h | h)
    ·exact .inr (.inl h)
    ·exact .inl h
    ·exact .inr (.inr h)
   ·rintro (h | h | h)
    ·exact .inr (.inl h)
    ·exact .inl h
    ·exact .inr (.inr h)
  ·split
   ·rename_i h
    subst h
    simp only [List.mem_cons]
    constructor
    ·intro h; exact .inr h
    ·rintro (h | h)
     ·exact .inl h
     ·exact h
   ·simp only [List.mem_cons]
theorem addL_nil (s : Int × Int) : addL [] s = [s] := rfl
theorem addL_cons (x : Int × Int) (r : List (Int × Int)) (s : Int × Int) : addL (x :: r) s = if ltS x s then x :: addL r s else if x = s then x :: r else s :: x :: r := rfl
theorem SS.addL {l : List (Int × Int)} (h : SS l) (s : Int × Int) : SS (addL l s) := by
 induction l with
 | nil => simp [SS, addL_nil]
 | cons x r ih =>
  obtain ⟨h1, h2⟩ := List.pairwise_cons.1 h
  rw [addL_cons]
  split
  ·rename_i hx
   refine List.pairwise_cons.2 ⟨fun y hy => ?_, ih h2⟩
   rcases (mem_addL r s y).1 hy with hy | hy
   ·subst hy; exact hx
   ·exact h1 y hy
  ·split
   ·exact h
   ·rename_i hx hne
    have hlt : ltS s x = true := by
     cases hc : ltS s x
     ·exact absurd (ltS_total (by simpa using hx) hc) hne
     ·rfl
    refine List.pairwise_cons.2 ⟨fun y hy => ?_, h⟩
    rcases List.mem_cons.1 hy with hy | hy
    ·subst hy; exact hlt
    ·exact ltS_trans hlt (h1 y hy)
end S1
end Go.Proofs.YtgipkikedacmdaaGreat

set_option linter.unusedVariables false
namespace Go.Proofs.YtgipkikedacmdaaGreat
open S1
namespace SD
abbrev Dd := List (Int × List (Int × Int))
def risB : List (Int × Int) → Bool
 | x :: y :: r => ltS x y && risB (y :: r)
 | _ => true
theorem risB_iff : ∀ {l : List (Int × Int)}, risB l = true ↔ SS l := by
 intro l
 induction l with
 | nil => exact ⟨fun _ => List.Pairwise.nil, fun _ => rfl⟩
 | cons x r ih =>
  cases r with
  | nil => exact ⟨fun _ => List.pairwise_singleton _ _, fun _ => rfl⟩
  | cons y r =>
   unfold risB
   rw [Bool.and_eq_true, ih]
   constructor
   ·rintro ⟨h1, h2⟩
    refine List.pairwise_cons.2 ⟨fun z hz => ?_, h2⟩
    rcases List.mem_cons.1 hz with rfl | hz
    ·exact h1
    ·exact ltS_trans h1 ((List.pairwise_cons.1 h2).1 z hz)
   ·intro h
    obtain ⟨h1, h2⟩ := List.pairwise_cons.1 h
    exact ⟨h1 y (by simp), h2⟩
def idsN (d : Dd) : Nat := (d.map fun x => x.2.length).sum
def depsF : Int → Dd → Bool
 | _, [] => true
 | p, x :: r => decide (p < x.1) && (decide (x.1 < 8) && (risB x.2 && (x.2.all isS && depsF x.1 r)))
def checkD (d : Dd) : Int := if 8 < d.length ∨ 512 < idsN d then 6 else if depsF (-1) d = true then 0 else 60
theorem checkD_ok {d : Dd} : checkD d = 0 ↔ d.length ≤ 8 ∧ idsN d ≤ 512 ∧ depsF (-1) d = true := by
 unfold checkD
 split
 ·rename_i h
  constructor
  ·intro e
   cases e
  ·rintro ⟨h1, h2, _⟩
   omega
 ·rename_i h
  split
  ·rename_i h2
   exact ⟨fun _ => ⟨by omega, by omega, h2⟩, fun _ => rfl⟩
  ·rename_i h2
   constructor
   ·intro e
    cases e
   ·rintro ⟨_, _, h3⟩
    exact absurd h3 h2
theorem idsN_cons (x : Int × List (Int × Int)) (r : Dd) : idsN (x :: r) = x.2.length + idsN r := by simp [idsN]
theorem idsN_append (a b : Dd) : idsN (a ++ b) = idsN a + idsN b := by simp [idsN]
theorem idsN_take {d : Dd} {k : Nat} {x : Int × List (Int × Int)} (h : d[k]? = some x) : idsN (d.take (k + 1)) = idsN (d.take k) + x.2.length := by
 rw [List.take_add_one, h, idsN_append]
 simp [idsN]
theorem idsN_mem {d : Dd} {x : Int × List (Int × Int)} (h : x ∈ d) : x.2.length ≤ idsN d := by
 induction d with
 | nil => cases h
 | cons y r ih =>
  rw [idsN_cons]
  rcases List.mem_cons.1 h with rfl | h
  ·omega
  ·have := ih h
   omega
def getD : Dd → Int → List (Int × Int)
 | [], _ => []
 | x :: r, s => if x.1 = s then x.2 else getD r s
def RisD (p : Int) (d : Dd) : Prop := (∀ x ∈ d, p < x.1) ∧ d.Pairwise fun a b => a.1 < b.1
theorem depsF_facts : ∀ {d : Dd} {p : Int}, depsF p d = true → RisD p d ∧ ∀ x ∈ d, x.1 < 8 ∧ SS x.2 ∧ ∀ i ∈ x.2, isS i = true := by
 intro d
 induction d with
 | nil => intro p _; exact ⟨⟨fun x hx => (by cases hx), List.Pairwise.nil⟩, fun x hx => (by cases hx)⟩
 | cons y r ih =>
  intro p h
  unfold depsF at h
  simp only [Bool.and_eq_true, decide_eq_true_eq, List.all_eq_true] at h
  obtain ⟨h1, h2, h3, h4, h5⟩ := h
  obtain ⟨⟨h6, h7⟩, h8⟩ := ih h5
  refine ⟨⟨fun x hx => ?_, List.pairwise_cons.2 ⟨fun x hx => h6 x hx, h7⟩⟩, fun x hx => ?_⟩
  ·rcases List.mem_cons.1 hx with rfl | hx
   ·exact h1
   ·have := h6 x hx
    omega
  ·rcases List.mem_cons.1 hx with rfl | hx
   ·exact ⟨h2, risB_iff.1 h3, h4⟩
   ·exact h8 x hx

def Sh (d : Dd) (t : Int) : Prop := ∃ x ∈ d, x.1 = t
end SD
end Go.Proofs.YtgipkikedacmdaaGreat

namespace Go.Proofs.YtgipkikedacmdaaGreat
namespace S1
open Go.RowKit Go.Sort
structure Aft (w : World) where
 x : World
 h : Below w.heap.size w x
instance Aft.some (w : World) : Nonempty (Aft w) := ⟨⟨w, Below.refl _ _⟩⟩
theorem Aft.cell {w : World} (y : Aft w) (n i : Nat) (hn : n < w.heap.size) : y.x.cell? ⟨n, i, none⟩ = w.cell? ⟨n, i, none⟩ := y.h.cell (p := ⟨n, i, none⟩) hn
theorem Aft.frozen {w : World} (y : Aft w) (n i : Nat) (hn : n < w.heap.size) : y.x.frozen? ⟨n, i, none⟩ = w.frozen? ⟨n, i, none⟩ := y.h.frozen (p := ⟨n, i, none⟩) hn
theorem Aft.lt {w : World} (y : Aft w) (n : Nat) (hn : n < w.heap.size) : n < y.x.heap.size := Nat.lt_of_lt_of_le hn y.h.size
attribute [go_sem] Aft.cell Aft.frozen
theorem region_aft {P : Program} {id : Nat} {Q : Exit → Act → World → Prop} {a : Act} {w : World} {l : List Oper} (hm : P.follows .mixedOrders = true) (hB : Region.lexB .any l.toArray = true)
  (h : wpQuiet P l.toArray (fun w' => ∃ y : Aft w, w' = y.x) (fun a' => ∀ w', (∃ y : Aft w, w' = y.x) → Q .normal a' w') l a) : (Code.region id l.toArray true).wp P Q a w :=
 wp_region_quiet (C := fun w' => ∃ y : Aft w, w' = y.x) hm hB ⟨⟨{ w with drawn := w.drawn + 1 }, ⟨rfl, rfl, rfl, Nat.le_refl _, fun _ _ => rfl⟩⟩, rfl⟩ (by simpa using h)
theorem aft_of {P : Program} {f : FuncId} {args : Array Value} {w : World} {y : Aft w} {v : Value} (h : Calls P f args y.x fun e w' => e = .returned v ∧ Below y.x.heap.size y.x w') :
  Calls P f args y.x fun e w'' => e = .returned v ∧ ∃ z : Aft w, w'' = z.x :=
 h.mono fun _ w'' ⟨he, hb⟩ => ⟨he, ⟨w'', blThen y.h hb⟩, rfl⟩
theorem aft_grown {P : Program} {f : FuncId} {args : Array Value} {w : World} {y : Aft w} {v : Value} (h : Calls P f args y.x fun e w' => e = .returned v ∧ ∃ q os, w' = grow (y.x.drewN q) os) :
  Calls P f args y.x fun e w'' => e = .returned v ∧ ∃ z : Aft w, w'' = z.x :=
 h.mono fun _ w'' ⟨he, q, os, hw⟩ => ⟨he, ⟨w'', by rw [hw]; exact blGrown y.h q os⟩, rfl⟩
theorem aft_same {P : Program} {f : FuncId} {args : Array Value} {w : World} {y : Aft w} {v : Value} (h : Calls P f args y.x fun e w' => e = .returned v ∧ y.x = w') :
  Calls P f args y.x fun e w'' => e = .returned v ∧ ∃ z : Aft w, w'' = z.x :=
 h.mono fun _ _ ⟨he, hw⟩ => ⟨he, y, hw.symm⟩
end S1
end Go.Proofs.YtgipkikedacmdaaGreat
