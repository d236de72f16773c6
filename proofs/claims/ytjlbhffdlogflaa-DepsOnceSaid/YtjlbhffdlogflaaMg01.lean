/- Plain facts about sorted lists of stamps: the list of these, each once, is one. No program is named. -/
import Derived.Test.YtjlbhffdlogflaaProg
import Derived.WalkKit
import Derived.WalkSpells
import Derived.WalkLawsBesides
import Derived.Lib.Hide
import Derived.StillTailTactics
import Derived.Deep.QuietTactic
import Derived.BigQuiet
import Derived.Sort.Grow
import Derived.Deep.Draws
import Derived.Deep.RegionHeld3
/- Contracts of the small functions of package stamp and of its reference: what each of them returns, for every input. Conditions: none beyond what each theorem states. -/
namespace Go.Proofs.Ytjlbhffdlogflaa
namespace S1
open Go.RowKit Go.Sort

theorem three_allocs (w : World) (a b c : Obj) : (((w.alloc a).alloc b).alloc c).drew = grow (w.drewN 1) #[a, b, c] := by
  rw [alloc_eq_grow, alloc_eq_grow, alloc_eq_grow, grow_grow, grow_grow]
  rfl

/-- cmp.Compare on integers. -/
def cmpI (a b : Int) : Int := if a < b then -1 else if b < a then 1 else 0

set_option maxHeartbeats 400000 in
theorem cmp64_any (a b : Int) (w : World) :
    Calls Try.prog 51 #[.int .i64 a, .int .i64 b] w fun e w' => e = .returned (.int .i64 (cmpI a b)) ∧ w = w' := by
  by_cases h1 : a < b
  · have hv : cmpI a b = -1 := by unfold cmpI; rw [if_pos h1]
    rw [hv]
    go_enter Try.func51, Try.ntmps51
    go_wp2
    go_ret
    exact ⟨rfl, rfl⟩
  · by_cases h2 : b < a
    · have hv : cmpI a b = 1 := by unfold cmpI; rw [if_neg h1, if_pos h2]
      rw [hv]
      go_enter Try.func51, Try.ntmps51
      go_wp2
      go_ret
      exact ⟨rfl, rfl⟩
    · have hv : cmpI a b = 0 := by unfold cmpI; rw [if_neg h1, if_neg h2]
      rw [hv]
      go_enter Try.func51, Try.ntmps51
      go_wp2
      go_ret
      exact ⟨rfl, rfl⟩

set_option maxHeartbeats 400000 in
theorem cmpInt_any (a b : Int) (w : World) :
    Calls Try.prog 52 #[.int .i64 a, .int .i64 b] w fun e w' => e = .returned (.int .i64 (cmpI a b)) ∧ w = w' := by
  by_cases h1 : a < b
  · have hv : cmpI a b = -1 := by unfold cmpI; rw [if_pos h1]
    rw [hv]
    go_enter Try.func52, Try.ntmps52
    go_wp2
    go_ret
    exact ⟨rfl, rfl⟩
  · by_cases h2 : b < a
    · have hv : cmpI a b = 1 := by unfold cmpI; rw [if_neg h1, if_pos h2]
      rw [hv]
      go_enter Try.func52, Try.ntmps52
      go_wp2
      go_ret
      exact ⟨rfl, rfl⟩
    · have hv : cmpI a b = 0 := by unfold cmpI; rw [if_neg h1, if_neg h2]
      rw [hv]
      go_enter Try.func52, Try.ntmps52
      go_wp2
      go_ret
      exact ⟨rfl, rfl⟩

/-- cmp.Or of two numbers that lie in a row. -/
def orI (a b : Int) : Int := if a = 0 then b else a
set_option maxHeartbeats 400000 in
theorem or_any (a b : Int) (B : Nat) (w : World) (h0 : w.cell? ⟨B, 0, none⟩ = some (.int .i64 a)) (h1 : w.cell? ⟨B, 1, none⟩ = some (.int .i64 b)) :
    Calls Try.prog 50 #[.slice (some ⟨B, 0, none⟩) 2 2] w fun e w' => e = .returned (.int .i64 (orI a b)) ∧ w = w' := by
  by_cases ha : a = 0
  · have hv : orI a b = b := by unfold orI; rw [if_pos ha]
    rw [hv]
    subst ha
    by_cases hb : b = 0
    · subst hb
      go_enter Try.func50, Try.ntmps50
      go_wp2
      refine wp_loop_rounds 3 ?_
      iterate 3 (rw [rounds_succ]; go_wp2)
      go_ret
      exact ⟨rfl, rfl⟩
    · go_enter Try.func50, Try.ntmps50
      go_wp2
      refine wp_loop_rounds 3 ?_
      iterate 2 (rw [rounds_succ]; go_wp2)
      go_ret
      exact ⟨rfl, rfl⟩
  · have hv : orI a b = a := by unfold orI; rw [if_neg ha]
    rw [hv]
    go_enter Try.func50, Try.ntmps50
    go_wp2
    refine wp_loop_rounds 3 ?_
    rw [rounds_succ]
    go_wp2
    go_ret
    exact ⟨rfl, rfl⟩

def cmpS (t n t' n' : Int) : Int := orI (cmpI t t') (cmpI n n')

set_option maxHeartbeats 400000 in
theorem compare_grow (t n t' n' : Int) (w : World) :
    Calls Try.prog 38 #[.agg #[.int .i64 t, .int .i64 n], .agg #[.int .i64 t', .int .i64 n']] w fun e w' => e = .returned (.int .i64 (cmpS t n t' n')) ∧ ∃ q os, w' = grow (w.drewN q) os := by
  go_enter Try.func38, Try.ntmps38
  go_wp2
  go_region_held3 (fun w' => w'.cell? ⟨w.heap.size, 0, none⟩ = some (.int .i64 t) ∧ w'.cell? ⟨w.heap.size, 1, none⟩ = some (.int .i64 n) ∧ w'.cell? ⟨w.heap.size + 1, 0, none⟩ = some (.int .i64 t') ∧ w'.cell? ⟨w.heap.size + 1, 1, none⟩ = some (.int .i64 n')) (go_keep)
    (first | (go_at_call 51; refine (cmp64_any _ _ _).mono ?_; rintro e w' ⟨rfl, rfl⟩) | (go_at_call 52; refine (cmpInt_any _ _ _).mono ?_; rintro e w' ⟨rfl, rfl⟩) | (go_at_call 50; refine (or_any (cmpI t t') (cmpI n n') _ _ ?_ ?_).mono ?_; go_simp; go_simp; rintro e w' ⟨rfl, rfl⟩))
  all_goals
    go_wp2
    go_ret
    exact ⟨rfl, 1, _, three_allocs _ _ _ _⟩

theorem grow_below (w : World) (q : Nat) (os : Array Obj) : Below w.heap.size w (grow (w.drewN q) os) :=
  ⟨rfl, rfl, rfl, by simp [grow, World.drewN], fun k hk => by simp [grow, World.drewN, Array.getElem?_append_left hk]⟩

theorem compare_any (t n t' n' : Int) (w : World) :
    Calls Try.prog 38 #[.agg #[.int .i64 t, .int .i64 n], .agg #[.int .i64 t', .int .i64 n']] w fun e w' => e = .returned (.int .i64 (cmpS t n t' n')) ∧ Below w.heap.size w w' :=
  (compare_grow t n t' n' w).mono fun _ _ ⟨he, q, os, hw⟩ => ⟨he, by rw [hw]; exact grow_below w q os⟩

/-! ### The reference's order, and whether a stamp may be -/

def ltS (a b : Int × Int) : Bool := decide (a.1 < b.1 ∨ a.1 = b.1 ∧ a.2 < b.2)
def isS (a : Int × Int) : Bool := decide (1 ≤ a.1 ∧ a.1 ≤ 1099511627776 ∧ 1 ≤ a.2 ∧ a.2 ≤ 7)

theorem one_alloc (w : World) (a : Obj) : w.alloc a = grow (w.drewN 0) #[a] := by
  rw [alloc_eq_grow]
  rfl

def nodeS (n : Int) : Bool := decide (1 ≤ n ∧ n ≤ 7)
set_option maxHeartbeats 400000 in
theorem isNode_any (k : Int) (w : World) :
    Calls Try.prog 49 #[.int .i64 k] w fun e w' => e = .returned (.bool (nodeS k)) ∧ w = w' := by
  by_cases h1 : 1 ≤ k
  · by_cases h2 : k ≤ 7
    · have hv : nodeS k = true := by simp [nodeS, h1, h2]
      rw [hv]
      go_enter Try.func49, Try.ntmps49
      go_wp2
      go_ret
      exact ⟨rfl, rfl⟩
    · have hv : nodeS k = false := by simp [nodeS, h2]
      rw [hv]
      go_enter Try.func49, Try.ntmps49
      go_wp2
      go_ret
      exact ⟨rfl, rfl⟩
  · have hv : nodeS k = false := by simp [nodeS, h1]
    rw [hv]
    go_enter Try.func49, Try.ntmps49
    go_wp2
    go_ret
    exact ⟨rfl, rfl⟩

def checkS (a : Int × Int) : Int := if isS a then 0 else 10
set_option maxHeartbeats 400000 in
theorem check_any (t n : Int) (w : World) :
    Calls Try.prog 37 #[.agg #[.int .i64 t, .int .i64 n]] w fun e w' => e = .returned (.int .i64 (checkS (t, n))) ∧ ∃ q os, w' = grow (w.drewN q) os := by
  by_cases h1 : 1 ≤ t
  · by_cases h2 : t ≤ 1099511627776
    · by_cases h3 : nodeS n = true
      · have hv : checkS (t, n) = 0 := by simp [nodeS] at h3; simp [checkS, isS, h1, h2, h3]
        rw [hv]
        have H := Lib.hid h3
        clear h3
        go_enter Try.func37, Try.ntmps37
        go_wp2_with (go_at_call 49; refine (isNode_any _ _).mono ?_; rintro e w' ⟨rfl, rfl⟩; rw [H.out])
        go_ret
        exact ⟨rfl, 0, _, one_alloc _ _⟩
      · have h4 : nodeS n = false := by simpa using h3
        have hv : checkS (t, n) = 10 := by simp [nodeS] at h4; simp [checkS, isS]; omega
        rw [hv]
        have H := Lib.hid h4
        clear h3 h4
        go_enter Try.func37, Try.ntmps37
        go_wp2_with (go_at_call 49; refine (isNode_any _ _).mono ?_; rintro e w' ⟨rfl, rfl⟩; rw [H.out])
        go_ret
        exact ⟨rfl, 0, _, one_alloc _ _⟩
    · have hv : checkS (t, n) = 10 := by simp [checkS, isS]; omega
      rw [hv]
      go_enter Try.func37, Try.ntmps37
      go_wp2
      go_ret
      exact ⟨rfl, 0, _, one_alloc _ _⟩
  · have hv : checkS (t, n) = 10 := by simp [checkS, isS]; omega
    rw [hv]
    go_enter Try.func37, Try.ntmps37
    go_wp2
    go_ret
    exact ⟨rfl, 0, _, one_alloc _ _⟩

end S1
end Go.Proofs.Ytjlbhffdlogflaa

/- Plain facts about stamps as pairs of numbers and lists of them: the order, the greatest one, sorted lists. No program is named. -/
namespace Go.Proofs.Ytjlbhffdlogflaa
namespace S1

theorem ltS_iff (a b : Int × Int) : ltS a b = true ↔ a.1 < b.1 ∨ a.1 = b.1 ∧ a.2 < b.2 := by simp [ltS]
theorem ltS_not (a b : Int × Int) : ltS a b = false ↔ ¬ (a.1 < b.1 ∨ a.1 = b.1 ∧ a.2 < b.2) := by simp [ltS]
theorem cmpI_eq (a b : Int) : (cmpI a b = -1 ∧ a < b) ∨ (cmpI a b = 0 ∧ a = b) ∨ (cmpI a b = 1 ∧ b < a) := by
  unfold cmpI
  split
  · exact .inl ⟨rfl, ‹_›⟩
  · split
    · exact .inr (.inr ⟨rfl, ‹_›⟩)
    · exact .inr (.inl ⟨rfl, by omega⟩)
theorem cmpS_eq (t n t' n' : Int) : (cmpS t n t' n' = -1 ∧ ltS (t, n) (t', n') = true ∧ ltS (t', n') (t, n) = false) ∨ (cmpS t n t' n' = 0 ∧ t = t' ∧ n = n') ∨ (cmpS t n t' n' = 1 ∧ ltS (t', n') (t, n) = true ∧ ltS (t, n) (t', n') = false) := by
  unfold cmpS orI
  simp only [ltS_iff, ltS_not]
  rcases cmpI_eq t t' with ⟨h, h1⟩ | ⟨h, h1⟩ | ⟨h, h1⟩ <;> rcases cmpI_eq n n' with ⟨g, g1⟩ | ⟨g, g1⟩ | ⟨g, g1⟩ <;> rw [h, g] <;> simp <;> omega
theorem cmpS_neg (t n t' n' : Int) : cmpS t n t' n' < 0 ↔ ltS (t, n) (t', n') = true := by
  rcases cmpS_eq t n t' n' with ⟨h, h1, h2⟩ | ⟨h, h1, h2⟩ | ⟨h, h1, h2⟩ <;> rw [h]
  · simp [h1]
  · subst h1; subst h2; simp [ltS]
  · simp [h2]
end S1
end Go.Proofs.Ytjlbhffdlogflaa

/- Lists of stamps in memory, and contracts of the functions of package stamp and of its reference that only read a list. Conditions: the list has at most a million stamps. -/
namespace Go.Proofs.Ytjlbhffdlogflaa
namespace S1
open Go.RowKit Go.Sort

/-- From offset o on, block b holds the stamps of l, two cells each. -/
def Lst (w : World) (b o : Nat) (l : List (Int × Int)) : Prop := ∀ i x y, l[i]? = some (x, y) → w.cell? ⟨b, o + i * 2, none⟩ = some (.int .i64 x) ∧ w.cell? ⟨b, o + i * 2 + 1, none⟩ = some (.int .i64 y)
/-- A slice's address a leads to the stamps of l (whatever it is where l is empty). -/
def SL (w : World) (a : Option Addr) (l : List (Int × Int)) : Prop := l ≠ [] → ∃ b o, a = some ⟨b, o, none⟩ ∧ b < w.heap.size ∧ Lst w b o l

theorem cell_in {W wr : World} (h : Below W.heap.size W wr) {b o : Nat} {v : Value} (hb : b < W.heap.size) (hc : W.cell? ⟨b, o, none⟩ = some v) : wr.cell? ⟨b, o, none⟩ = some v :=
  (h.cell (p := ⟨b, o, none⟩) hb).trans hc
theorem Lst.later {W wr : World} {b o : Nat} {l : List (Int × Int)} (h : Lst W b o l) (hb : b < W.heap.size) (hw : Below W.heap.size W wr) : Lst wr b o l :=
  fun i x y hi => ⟨cell_in hw hb (h i x y hi).1, cell_in hw hb (h i x y hi).2⟩
theorem SL.later {W wr : World} {a : Option Addr} {l : List (Int × Int)} (h : SL W a l) (hw : Below W.heap.size W wr) : SL wr a l := by
  intro hne
  obtain ⟨b, o, ha, hb, hl⟩ := h hne
  exact ⟨b, o, ha, Nat.lt_of_lt_of_le hb hw.size, hl.later hb hw⟩
theorem ret_bool {a b : Bool} (h : a = b) : Ending.returned (.bool a) = .returned (.bool b) := by rw [h]
theorem ne_of_lt {l : List (Int × Int)} {k : Nat} (h : k < l.length) : l ≠ [] := by
  rintro rfl
  exact absurd h (Nat.not_lt_zero _)
theorem at_lt {l : List (Int × Int)} {k : Nat} (h : k < l.length) : ∃ x y, l[k]? = some (x, y) := ⟨_, _, List.getElem?_eq_getElem h⟩

/-- Block b is two cells of its own: a stamp's. -/
def Own2 (w : World) (b : Nat) (x y : Int) : Prop := w.heap[b]? = some (.cells #[.int .i64 x, .int .i64 y] 33 (0, 0))

theorem blAlloc {w x : World} (h : Below w.heap.size w x) (ob : Obj) : Below w.heap.size w (x.alloc ob) := h.alloc h.size ob
theorem blGrown {w x : World} (h : Below w.heap.size w x) (q : Nat) (os : Array Obj) : Below w.heap.size w (grow (x.drewN q) os) := h.trans ((grow_below x q os).mono h.size)
theorem blThen {w x y : World} (h : Below w.heap.size w x) (k : Below x.heap.size x y) : Below w.heap.size w y := h.trans (k.mono h.size)
theorem block_setCell {w : World} {b i : Nat} {c : Array Value} {t : TypeId} (h : w.heap[b]? = some (.cells c t (0, 0))) (u : Value) : (w.setCell ⟨b, i, none⟩ u).heap[b]? = some (.cells (c.setIfInBounds i u) t (0, 0)) := by
  have hlt := lt_of_block h
  have h' : w.heap[b] = .cells c t (0, 0) := by simpa [Array.getElem?_eq_getElem hlt] using h
  show (w.heap.modify b _)[b]? = _
  rw [Array.getElem?_eq_getElem (by simpa using hlt), Array.getElem_modify_self, h']
  rfl
theorem Own2.set {w : World} {b : Nat} {x y : Int} (h : Own2 w b x y) (x' y' : Int) : Own2 ((w.setCell ⟨b, 0, none⟩ (.int .i64 x')).setCell ⟨b, 1, none⟩ (.int .i64 y')) b x' y' :=
  block_setCell (block_setCell h (.int .i64 x')) (.int .i64 y')
theorem Own2.lt {w : World} {b : Nat} {x y : Int} (h : Own2 w b x y) : b < w.heap.size := lt_of_block h
theorem Own2.c0 {w : World} {b : Nat} {x y : Int} (h : Own2 w b x y) : w.cell? ⟨b, 0, none⟩ = some (.int .i64 x) := by unfold Own2 at h; simp [World.cell?, h]
theorem Own2.c1 {w : World} {b : Nat} {x y : Int} (h : Own2 w b x y) : w.cell? ⟨b, 1, none⟩ = some (.int .i64 y) := by unfold Own2 at h; simp [World.cell?, h]
theorem Own2.f0 {w : World} {b : Nat} {x y : Int} (h : Own2 w b x y) : w.frozen? ⟨b, 0, none⟩ = false := by unfold Own2 at h; simp [World.frozen?, h]
theorem Own2.f1 {w : World} {b : Nat} {x y : Int} (h : Own2 w b x y) : w.frozen? ⟨b, 1, none⟩ = false := by unfold Own2 at h; simp [World.frozen?, h]
theorem Own2.later {w wr : World} {b B : Nat} {x y : Int} (h : Own2 w b x y) (hb : Below B w wr) (hB : b < B) : Own2 wr b x y := (hb.block b hB).trans h
theorem own2_new (w : World) (x y : Int) : Own2 (w.alloc (Obj.cells #[Value.int IntKind.i64 x, Value.int IntKind.i64 y] 33)) w.heap.size x y := by
  show (w.heap.push _)[w.heap.size]? = _
  simp
theorem own2_new0 (w : World) (x y : Int) (ob : Obj) : Own2 ((w.alloc (Obj.cells #[Value.int IntKind.i64 x, Value.int IntKind.i64 y] 33)).alloc ob) w.heap.size x y :=
  (own2_new w x y).later ((Below.refl _ _).alloc (Nat.le_refl _) _) (by simp)
theorem own2_new1 (w : World) (x y : Int) (ob : Obj) : Own2 ((w.alloc ob).alloc (Obj.cells #[Value.int IntKind.i64 x, Value.int IntKind.i64 y] 33)) (w.heap.size + 1) x y := by
  have h := own2_new (w.alloc ob) x y
  rwa [World.size_alloc] at h

end S1
end Go.Proofs.Ytjlbhffdlogflaa

/- Contracts of stamp's clock: New, Now, Tick, See, Last, on a clock and on a nil one. Conditions: a clock's cells hold a node and a time from 0 to MaxTime; lists of at most a million stamps. -/
namespace Go.Proofs.Ytjlbhffdlogflaa
namespace S1
open Go.RowKit Go.Sort

/-- w' is w but for block b, and what is new. -/
def But (b : Nat) (w w' : World) : Prop := w.grownBy w' (some b)
theorem But.refl (b : Nat) (w : World) : But b w w := ⟨rfl, rfl, rfl, Nat.le_refl _, fun _ _ _ => rfl⟩
theorem But.trans {b : Nat} {x y z : World} (h : But b x y) (k : But b y z) : But b x z := ⟨k.os.trans h.os, k.tape.trans h.tape, k.output.trans h.output, Nat.le_trans h.size k.size, fun i hi hn => (k.block i (Nat.lt_of_lt_of_le hi h.size) hn).trans (h.block i hi hn)⟩
theorem But.set (b i : Nat) (w : World) (u : Value) : But b w (w.setCell ⟨b, i, none⟩ u) := ⟨rfl, rfl, rfl, by simp, fun k _ hn => Below.heap_setCell _ _ _ _ (fun e => hn (by rw [e]))⟩
theorem But.of_below {b : Nat} {w w' : World} (h : Below w.heap.size w w') : But b w w' := ⟨h.os, h.tape, h.output, h.size, fun i hi _ => h.block i hi⟩
/-- A block that the call itself has made may be written. -/
theorem But.below {b B : Nat} {x y z : World} (h : Below B x y) (k : But b y z) (hb : B ≤ b) (hB : B ≤ y.heap.size) : Below B x z := h.grown k hB (fun j hj => by simp at hj; omega)
theorem Own2.but {w wr : World} {b c : Nat} {x y : Int} (h : Own2 w b x y) (hb : But c w wr) (hne : b ≠ c) : Own2 wr b x y := (hb.block b h.lt (by simpa using hne)).trans h
theorem But.alloc {b : Nat} {w x : World} (h : But b w x) (ob : Obj) : But b w (x.alloc ob) := h.trans (But.of_below ((Below.refl _ _).alloc (Nat.le_refl _) _))
theorem But.grown {b : Nat} {w x : World} (h : But b w x) (q : Nat) (os : Array Obj) : But b w (grow (x.drewN q) os) := h.trans (But.of_below (grow_below x q os))
theorem But.drew {b : Nat} {w x : World} (h : But b w x) : But b w x.drew := ⟨h.os, h.tape, h.output, h.size, h.block⟩
theorem But.drewN {b : Nat} {w x : World} (h : But b w x) (n : Nat) : But b w (x.drewN n) := ⟨h.os, h.tape, h.output, h.size, h.block⟩
theorem But.setb {b : Nat} {w x : World} (h : But b w x) (i : Nat) (u : Value) : But b w (x.setCell ⟨b, i, none⟩ u) := h.trans (But.set b i x u)
end S1
end Go.Proofs.Ytjlbhffdlogflaa

/- Regions that leave their order open, whose operations read older memory and whose calls give one value each and leave all older memory as it was: one walk, in the text's order, serves every order. Conditions: as each theorem states. -/
namespace Go.Proofs.Ytjlbhffdlogflaa
namespace S1
open Go.RowKit Go.Sort

/-- A world behind w in which all older memory is as it was. -/
structure Aft (w : World) where
  x : World
  h : Below w.heap.size w x

instance Aft.some (w : World) : Nonempty (Aft w) := ⟨⟨w, Below.refl _ _⟩⟩
theorem Aft.cell {w : World} (y : Aft w) (n i : Nat) (hn : n < w.heap.size) : y.x.cell? ⟨n, i, none⟩ = w.cell? ⟨n, i, none⟩ := y.h.cell (p := ⟨n, i, none⟩) hn
theorem Aft.frozen {w : World} (y : Aft w) (n i : Nat) (hn : n < w.heap.size) : y.x.frozen? ⟨n, i, none⟩ = w.frozen? ⟨n, i, none⟩ := y.h.frozen (p := ⟨n, i, none⟩) hn
theorem Aft.lt {w : World} (y : Aft w) (n : Nat) (hn : n < w.heap.size) : n < y.x.heap.size := Nat.lt_of_lt_of_le hn y.h.size
attribute [go_sem] Aft.cell Aft.frozen

theorem region_aft {P : Program} {id : Nat} {Q : Exit → Act → World → Prop} {a : Act} {w : World} {l : List Oper} (hm : P.follows .mixedOrders = true) (hB : Region.lexB .any l.toArray = true)
    (h : wpQuiet P l.toArray (fun w' => ∃ y : Aft w, w' = y.x) (fun a' => ∀ w', (∃ y : Aft w, w' = y.x) → Q .normal a' w') l a) : (Code.region id l.toArray true).wp P Q a w :=
  wp_region_quiet (C := fun w' => ∃ y : Aft w, w' = y.x) hm hB ⟨⟨{ w with drawn := w.drawn + 1 }, ⟨rfl, rfl, rfl, Nat.le_refl _, fun _ _ => rfl⟩⟩, rfl⟩ (by simpa using h)

/-- A callee's contract, met within such a region. -/
theorem aft_of {P : Program} {f : FuncId} {args : Array Value} {w : World} {y : Aft w} {v : Value} (h : Calls P f args y.x fun e w' => e = .returned v ∧ Below y.x.heap.size y.x w') :
    Calls P f args y.x fun e w'' => e = .returned v ∧ ∃ z : Aft w, w'' = z.x :=
  h.mono fun _ w'' ⟨he, hb⟩ => ⟨he, ⟨w'', blThen y.h hb⟩, rfl⟩
theorem aft_grown {P : Program} {f : FuncId} {args : Array Value} {w : World} {y : Aft w} {v : Value} (h : Calls P f args y.x fun e w' => e = .returned v ∧ ∃ q os, w' = grow (y.x.drewN q) os) :
    Calls P f args y.x fun e w'' => e = .returned v ∧ ∃ z : Aft w, w'' = z.x :=
  h.mono fun _ w'' ⟨he, q, os, hw⟩ => ⟨he, ⟨w'', by rw [hw]; exact blGrown y.h q os⟩, rfl⟩
theorem aft_same {P : Program} {f : FuncId} {args : Array Value} {w : World} {y : Aft w} {v : Value} (h : Calls P f args y.x fun e w' => e = .returned v ∧ y.x = w') :
    Calls P f args y.x fun e w'' => e = .returned v ∧ ∃ z : Aft w, w'' = z.x :=
  h.mono fun _ _ ⟨he, hw⟩ => ⟨he, y, hw.symm⟩

end S1
end Go.Proofs.Ytjlbhffdlogflaa

/- Plain facts about sorted lists of stamps: the list of these, each once, is one. No program is named. -/
namespace Go.Proofs.Ytjlbhffdlogflaa
namespace S1

theorem ltS_irrefl (a : Int × Int) : ltS a a = false := by simp [ltS]
theorem ltS_trans {a b c : Int × Int} (h : ltS a b = true) (k : ltS b c = true) : ltS a c = true := by simp only [ltS_iff] at *; omega
theorem ltS_asymm {a b : Int × Int} (h : ltS a b = true) : ltS b a = false := by simp only [ltS_iff, ltS_not] at *; omega
theorem ltS_total {a b : Int × Int} (h : ltS a b = false) (k : ltS b a = false) : a = b := by
  simp only [ltS_not] at *
  exact Prod.ext (by omega) (by omega)
theorem ltS_ge_trans {a b c : Int × Int} (h : ltS a b = false) (k : ltS b c = false) : ltS a c = false := by simp only [ltS_not] at *; omega

/-- A list that rises. -/
def SS (l : List (Int × Int)) : Prop := l.Pairwise fun a b => ltS a b = true
theorem SS.uniq : ∀ {a b : List (Int × Int)}, SS a → SS b → (∀ y, y ∈ a ↔ y ∈ b) → a = b
  | [], [], _, _, _ => rfl
  | [], y :: _, _, _, h => by have := (h y).2 (by simp); simp at this
  | x :: _, [], _, _, h => by have := (h x).1 (by simp); simp at this
  | x :: a, y :: b, ha, hb, h => by
    obtain ⟨ha1, ha2⟩ := List.pairwise_cons.1 ha
    obtain ⟨hb1, hb2⟩ := List.pairwise_cons.1 hb
    have hxy : x = y := by
      rcases List.mem_cons.1 ((h x).1 (by simp)) with h1 | h1
      · exact h1
      · rcases List.mem_cons.1 ((h y).2 (by simp)) with h2 | h2
        · exact h2.symm
        · have k1 := hb1 x h1
          have k2 := ha1 y h2
          rw [ltS_asymm k1] at k2
          cases k2
    subst hxy
    rw [SS.uniq ha2 hb2 fun z => ?_]
    constructor
    · intro hz
      rcases List.mem_cons.1 ((h z).1 (by simp [hz])) with h1 | h1
      · subst h1
        have := ha1 z hz
        rw [ltS_irrefl] at this
        cases this
      · exact h1
    · intro hz
      rcases List.mem_cons.1 ((h z).2 (by simp [hz])) with h1 | h1
      · subst h1
        have := hb1 z hz
        rw [ltS_irrefl] at this
        cases this
      · exact h1

/-- One stamp more, in its place, unless it is there. -/
def addL : List (Int × Int) → Int × Int → List (Int × Int)
  | [], s => [s]
  | x :: r, s => if ltS x s then x :: addL r s else if x = s then x :: r else s :: x :: r
theorem mem_addL (l : List (Int × Int)) (s y : Int × Int) : y ∈ addL l s ↔ y = s ∨ y ∈ l := by
  induction l with
  | nil => simp [addL]
  | cons x r ih =>
    unfold addL
    split
    · simp only [List.mem_cons, ih]
      constructor
      · rintro (h | h | h)
        · exact .inr (.inl h)
        · exact .inl h
        · exact .inr (.inr h)
      · rintro (h | h | h)
        · exact .inr (.inl h)
        · exact .inl h
        · exact .inr (.inr h)
    · split
      · rename_i h
        subst h
        simp only [List.mem_cons]
        constructor
        · intro h; exact .inr h
        · rintro (h | h)
          · exact .inl h
          · exact h
      · simp only [List.mem_cons]
theorem addL_nil (s : Int × Int) : addL [] s = [s] := rfl
theorem addL_cons (x : Int × Int) (r : List (Int × Int)) (s : Int × Int) : addL (x :: r) s = if ltS x s then x :: addL r s else if x = s then x :: r else s :: x :: r := rfl
theorem SS.addL {l : List (Int × Int)} (h : SS l) (s : Int × Int) : SS (addL l s) := by
  induction l with
  | nil => simp [SS, addL_nil]
  | cons x r ih =>
    obtain ⟨h1, h2⟩ := List.pairwise_cons.1 h
    rw [addL_cons]
    split
    · rename_i hx
      refine List.pairwise_cons.2 ⟨fun y hy => ?_, ih h2⟩
      rcases (mem_addL r s y).1 hy with hy | hy
      · subst hy; exact hx
      · exact h1 y hy
    · split
      · exact h
      · rename_i hx hne
        have hlt : ltS s x = true := by
          cases hc : ltS s x
          · exact absurd (ltS_total (by simpa using hx) hc) hne
          · rfl
        refine List.pairwise_cons.2 ⟨fun y hy => ?_, h⟩
        rcases List.mem_cons.1 hy with hy | hy
        · subst hy; exact hlt
        · exact ltS_trans hlt (h1 y hy)
/-- The list of these, each once. -/
def sortL (l : List (Int × Int)) : List (Int × Int) := l.foldl addL []
theorem sortL_from (l : List (Int × Int)) : ∀ acc, SS acc → SS (l.foldl addL acc) ∧ ∀ y, y ∈ l.foldl addL acc ↔ y ∈ acc ∨ y ∈ l := by
  induction l with
  | nil => intro acc h; exact ⟨h, fun y => by simp⟩
  | cons x r ih =>
    intro acc h
    obtain ⟨h1, h2⟩ := ih (addL acc x) (h.addL x)
    refine ⟨h1, fun y => ?_⟩
    rw [List.foldl_cons, h2, mem_addL, List.mem_cons]
    constructor
    · rintro ((h | h) | h)
      · exact .inr (.inl h)
      · exact .inl h
      · exact .inr (.inr h)
    · rintro (h | h | h)
      · exact .inl (.inr h)
      · exact .inl (.inl h)
      · exact .inr h
theorem sortL_ss (l : List (Int × Int)) : SS (sortL l) := (sortL_from l [] List.Pairwise.nil).1
theorem mem_sortL (l : List (Int × Int)) (y : Int × Int) : y ∈ sortL l ↔ y ∈ l := by
  rw [sortL, (sortL_from l [] List.Pairwise.nil).2]
  simp
theorem sortL_eq {l r : List (Int × Int)} (h : SS r) (hm : ∀ y, y ∈ r ↔ y ∈ l) : r = sortL l := SS.uniq h (sortL_ss l) fun y => by rw [hm, mem_sortL]
theorem addL_length (l : List (Int × Int)) (s : Int × Int) : (addL l s).length ≤ l.length + 1 := by
  induction l with
  | nil => simp [addL]
  | cons x r ih =>
    unfold addL
    split
    · simp only [List.length_cons]; omega
    · split <;> simp
theorem sortL_length (l : List (Int × Int)) : (sortL l).length ≤ l.length := by
  suffices h : ∀ acc, (l.foldl addL acc).length ≤ acc.length + l.length by simpa [sortL] using h []
  induction l with
  | nil => intro acc; simp
  | cons x r ih =>
    intro acc
    have h1 := ih (addL acc x)
    have h2 := addL_length acc x
    simp only [List.foldl_cons, List.length_cons]
    omega

/-- What slices.Compact does with one element more. -/
def stepC (acc : List (Int × Int)) (y : Int × Int) : List (Int × Int) := if acc.getLast? = some y then acc else acc ++ [y]
def cmpct (l : List (Int × Int)) : List (Int × Int) := l.foldl stepC []
theorem cmpct_snoc (l : List (Int × Int)) (y : Int × Int) : cmpct (l ++ [y]) = stepC (cmpct l) y := by simp [cmpct, List.foldl_append]
theorem stepC_last (acc : List (Int × Int)) (y : Int × Int) : (stepC acc y).getLast? = some y := by
  unfold stepC
  split
  · assumption
  · simp
theorem snoc_of {α : Type} (l : List α) (h : l ≠ []) : ∃ r y, l = r ++ [y] := ⟨l.dropLast, l.getLast h, (List.dropLast_concat_getLast h).symm⟩
theorem cmpct_last (l : List (Int × Int)) : (cmpct l).getLast? = l.getLast? := by
  by_cases h : l = []
  · subst h; rfl
  · obtain ⟨r, y, rfl⟩ := snoc_of l h
    rw [cmpct_snoc, stepC_last]
    simp
theorem cmpct_take (l : List (Int × Int)) (k : Nat) (y : Int × Int) (h : l[k]? = some y) : cmpct (l.take (k + 1)) = stepC (cmpct (l.take k)) y := by
  rw [List.take_add_one, h]
  exact cmpct_snoc _ _
theorem mem_stepC (acc : List (Int × Int)) (y z : Int × Int) : z ∈ stepC acc y ↔ z ∈ acc ∨ z = y := by
  unfold stepC
  split
  · rename_i h
    constructor
    · exact .inl
    · rintro (h1 | h1)
      · exact h1
      · subst h1; exact List.mem_of_getLast? h
  · simp
theorem cmpct_ind {p : List (Int × Int) → Prop} (l : List (Int × Int)) (h0 : p []) (hs : ∀ r y, r ++ [y] <+: l → p r → p (r ++ [y])) : p l := by
  suffices h : ∀ n, n ≤ l.length → p (l.take n) by simpa using h l.length (Nat.le_refl _)
  intro n
  induction n with
  | zero => intro _; simpa using h0
  | succ n ih =>
    intro hn
    obtain ⟨y, hy⟩ : ∃ y, l[n]? = some y := ⟨_, List.getElem?_eq_getElem hn⟩
    have e : l.take (n + 1) = l.take n ++ [y] := by rw [List.take_add_one, hy]; rfl
    rw [e]
    exact hs _ _ (by rw [← e]; exact List.take_prefix _ _) (ih (by omega))
theorem mem_cmpct (l : List (Int × Int)) : ∀ z, z ∈ cmpct l ↔ z ∈ l :=
  cmpct_ind (p := fun l => ∀ z, z ∈ cmpct l ↔ z ∈ l) l (fun z => Iff.rfl) fun r y _ ih z => by
    rw [cmpct_snoc, mem_stepC, ih, List.mem_append]
    simp
theorem cmpct_ss (l : List (Int × Int)) (h : l.Pairwise fun a b => ltS b a = false) : SS (cmpct l) :=
  cmpct_ind (p := fun l => (l.Pairwise fun a b => ltS b a = false) → SS (cmpct l)) l (fun _ => List.Pairwise.nil) (fun r y _ ih hp => by
    obtain ⟨h1, _, h3⟩ := List.pairwise_append.1 hp
    rw [cmpct_snoc]
    unfold stepC
    split
    · exact ih h1
    · rename_i hne
      refine List.pairwise_append.2 ⟨ih h1, List.pairwise_singleton _ _, fun x hx z hz => ?_⟩
      simp only [List.mem_singleton] at hz
      subst hz
      have hxr := (mem_cmpct r x).1 hx
      have h4 := h3 x hxr z (by simp)
      cases hc : ltS x z
      · have hxz := ltS_total hc h4
        subst hxz
        exfalso
        apply hne
        rw [cmpct_last]
        obtain ⟨r', u, rfl⟩ := snoc_of r (by rintro rfl; simp at hxr)
        have hu := h3 u (by simp) x (by simp)
        rcases List.mem_append.1 hxr with h5 | h5
        · have h6 := (List.pairwise_append.1 h1).2.2 x h5 u (by simp)
          have := ltS_total h6 hu
          subst this
          simp
        · simp only [List.mem_singleton] at h5
          subst h5
          simp
      · rfl) h
theorem cmpct_sort {l d : List (Int × Int)} (hp : d.Perm l) (hs : d.Pairwise fun a b => ltS b a = false) : cmpct d = sortL l :=
  sortL_eq (cmpct_ss d hs) fun y => by rw [mem_cmpct]; exact hp.mem_iff

end S1
end Go.Proofs.Ytjlbhffdlogflaa
