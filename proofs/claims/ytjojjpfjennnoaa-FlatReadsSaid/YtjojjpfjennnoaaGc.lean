/- small: whether things are few and light enough. Conditions: none. -/
import Derived.Test.YtjojjpfjennnoaaGb
import Derived.Test.YtjojjpfjennnoaaFr
import Derived.Deep.Draws
namespace Go.Proofs.Ytjojjpfjennnoaa
open Go.ChangeShapes Go.WideShapes Go.ChangeAt Go.RowKit Go.Joins Go.Deep

def wt (x : Th) : Nat := x.s.size + 16 * x.l.length
def wsum : List Th → Nat
  | [] => 0
  | x :: r => wt x + wsum r
theorem wsum_append (l m : List Th) : wsum (l ++ m) = wsum l + wsum m := by
  induction l with
  | nil => simp [wsum]
  | cons s r ih => rw [List.cons_append]; simp only [wsum]; omega
theorem wsum_take (l : List Th) {j : Nat} {x : Th} (h : l[j]? = some x) : wsum (l.take (j + 1)) = wsum (l.take j) + wt x := by
  obtain ⟨hj, rfl⟩ := List.getElem?_eq_some_iff.1 h
  rw [List.take_succ_eq_append_getElem hj, wsum_append]
  simp [wsum]
theorem wsum_mem (l : List Th) {j : Nat} {x : Th} (h : l[j]? = some x) : wt x ≤ wsum l := by
  induction l generalizing j with
  | nil => simp at h
  | cons y r ih =>
    cases j with
    | zero => simp only [List.getElem?_cons_zero, Option.some.injEq] at h; subst h; simp only [wsum]; omega
    | succ j => have := ih (j := j) (by simpa using h); simp only [wsum]; omega
theorem wsum_le (l : List Th) (B : Nat) (h : ∀ (j : Nat) (x : Th), l[j]? = some x → wt x ≤ B) : wsum l ≤ B * l.length := by
  induction l with
  | nil => simp [wsum]
  | cons x r ih =>
    have h1 := h 0 x rfl
    have h2 := ih fun j s hj => h (j + 1) s (by simpa using hj)
    simp only [wsum, List.length_cons, Nat.mul_succ]
    omega
def smallT (l : List Th) : Bool := decide (l.length ≤ 60 ∧ wsum l ≤ 20000)
theorem ThAt.later {w w' : World} {g o : Nat} {x : Th} (h : ThAt w g o x) (hb : Below w.heap.size w w') (hg : g < w.heap.size) : ThAt w' g o x :=
  ⟨(hb.cell (p := ⟨g, o, none⟩) hg).trans h.k, (hb.cell (p := ⟨g, o + 1, none⟩) hg).trans h.n, (hb.cell (p := ⟨g, o + 2, none⟩) hg).trans h.s, (hb.cell (p := ⟨g, o + 3, none⟩) hg).trans h.b,
    (hb.cell (p := ⟨g, o + 4, none⟩) hg).trans h.t1, (hb.cell (p := ⟨g, o + 5, none⟩) hg).trans h.t2, (hb.cell (p := ⟨g, o + 6, none⟩) hg).trans h.l⟩
theorem below_drewN {w x : World} {B : Nat} (h : Below B w x) (n : Nat) : Below B w (x.drewN n) := ⟨h.os, h.tape, h.output, h.size, h.block⟩

set_option maxRecDepth 100000 in
set_option maxHeartbeats 2000000 in
theorem small_any (w : World) (g : Nat) (a : Option Addr) (c : Nat) (l : List Th) (hm : l.length ≤ maxLen) (hl : Ths w g a l) :
    Calls Try.prog 12 #[.slice a l.length c] w fun e w' => e = .returned (.bool (smallT l)) ∧ Below w.heap.size w w' := by
  have HL := Lib.hid hl
  unfold maxLen at hm
  clear hl
  go_enter Try.func12, Try.ntmps12
  go_wp2_with fail
  go_loopw [3, 4] (fun n i wr => ∃ j : Nat, j ≤ l.length ∧ j ≤ 61 ∧ i = .int .i64 j ∧ n = .int .i64 (wsum (l.take j)) ∧ Below w.heap.size w wr) (fun _ i _ => l.length - (intOf i).toNat)
  case atStart => exact ⟨0, Nat.zero_le _, by omega, rfl, rfl, Below.refl _ _⟩
  case round =>
    obtain ⟨j, hj, hj61, rfl, rfl, hb⟩ := hrel
    have HB := Lib.hid hb
    clear hb
    by_cases hlt : j < l.length
    · by_cases h60 : j ≤ 60
      · obtain ⟨x, hx⟩ := get_lt hlt
        obtain ⟨hg, o, rfl, hall⟩ := HL.out (not_nil hlt)
        obtain ⟨hat, hok, _, _⟩ := hall j x hx
        have hat' := hat.later HB.out hg
        have cs := hat'.s
        have cl := hat'.l
        have hs1 := hok.s
        have hl1 := hok.len
        have hsum : wsum (l.take j) ≤ 281474976710656 * j := by
          have h := wsum_le (l.take j) 281474976710656 (fun i y hi => by
            have hil := (List.getElem?_eq_some_iff.1 hi).1
            rw [List.length_take] at hil
            rw [List.getElem?_take_of_lt (by omega)] at hi
            obtain ⟨_, hok', _, _⟩ := hall i y hi
            have := hok'.s
            have := hok'.len
            unfold wt
            omega)
          rw [List.length_take] at h
          have : min j l.length = j := by omega
          rwa [this] at h
        have HW : Hid (wsum (l.take (j + 1)) = wsum (l.take j) + x.s.size + 16 * x.l.length) := by show _ = _; rw [wsum_take l hx]; unfold wt; omega
        clear hall hat hat' hok hx
        have hgw : g < wr.heap.size := Nat.lt_of_lt_of_le hg HB.out.size
        have hgN : o + j * 7 < o + l.length * 7 := by omega
        generalize wsum (l.take j) = n at hsum HW ⊢
        have e1 : IntKind.i64.wrap ((n : Int) + (x.s.size : Int)) = (n : Int) + (x.s.size : Int) := IntWalk.i64_in _ (by omega)
        have e2 : IntKind.i64.wrap (16 * (x.l.length : Int)) = 16 * (x.l.length : Int) := IntWalk.i64_in _ (by omega)
        have e3 : IntKind.i64.wrap ((n : Int) + (x.s.size : Int) + 16 * (x.l.length : Int)) = (n : Int) + (x.s.size : Int) + 16 * (x.l.length : Int) := IntWalk.i64_in _ (by omega)
        clear hs1 hl1
        go_wp2_with fail
        refine region_aft (by kernel_rfl) (by kernel_rfl) ?_
        repeat (go_big_quiet_step (fail))
        refine wpQuiet_nil ?_
        rintro w2 ⟨z, rfl⟩
        clear e1 e2 e3
        go_wp2
        go_roundw
        case rel => exact ⟨j + 1, hlt, by omega, by go_num, by rw [HW.out]; go_num, bThen' HB.out z.h⟩
        case measure => simp [intOf]; omega
      · have hj61' : j = 61 := by omega
        have HS : Hid (smallT l = false) := by show _ = _; unfold smallT; simp; omega
        subst hj61'
        go_wp2
        go_ret
        exact ⟨by rw [HS.out]; rfl, HB.out⟩
    · obtain rfl : j = l.length := by omega
      have HT : Hid (l.take l.length = l) := List.take_length
      rw [HT.out]
      by_cases h60 : l.length ≤ 60
      · by_cases h20 : wsum l ≤ 20000
        · have HS : Hid (smallT l = true) := by show _ = _; unfold smallT; simp; omega
          go_wp2
          go_ret
          exact ⟨by rw [HS.out]; exact ret_bool (a := decide ((wsum l : Int) ≤ 20000)) (by simp; omega), HB.out⟩
        · have HS : Hid (smallT l = false) := by show _ = _; unfold smallT; simp; omega
          go_wp2
          go_ret
          exact ⟨by rw [HS.out]; exact ret_bool (a := decide ((wsum l : Int) ≤ 20000)) (by simp; omega), HB.out⟩
      · have HS : Hid (smallT l = false) := by show _ = _; unfold smallT; simp; omega
        go_wp2
        go_ret
        exact ⟨by rw [HS.out]; rfl, HB.out⟩

end Go.Proofs.Ytjojjpfjennnoaa
