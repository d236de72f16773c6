/- Contracts of the reference's Max, Has and After, and of own, which copies a list. Conditions: lists of at most a million stamps. -/
import Derived.Lib.SmallJoins
import Derived.Deep.Slices
import Derived.Deep.Fields
import Derived.Test.YtjlbhffdlogflaaMg00
import Derived.Test.YtjlbhffdlogflaaMg01
/- A law's argument that is a list of stamps, opened: it lies in memory, two cells a stamp. Conditions: none. -/
set_option maxRecDepth 100000
namespace Go.Proofs.Ytjlbhffdlogflaa
namespace S1
open Go.ChangeShapes Go.WideShapes Go.ChangeAt Go.RowKit Go.Joins Go.Deep

section
variable {H : Type} {enc : TypeId × Value → H}
end

/-- The cells of a list of stamps. -/
def cellsL (l : List (Int × Int)) : List Value := l.flatMap fun s => [.int .i64 s.1, .int .i64 s.2]
theorem cellsL_length (l : List (Int × Int)) : (cellsL l).length = l.length * 2 := by
  induction l with
  | nil => rfl
  | cons a r ih => simp [cellsL] at ih ⊢; omega
theorem cellsL_append (l r : List (Int × Int)) : cellsL (l ++ r) = cellsL l ++ cellsL r := by simp [cellsL]
theorem cellsL_at (l : List (Int × Int)) : ∀ (i : Nat) (x y : Int), l[i]? = some (x, y) → (cellsL l)[i * 2]? = some (.int .i64 x) ∧ (cellsL l)[i * 2 + 1]? = some (.int .i64 y) := by
  induction l with
  | nil => intro i x y h; simp at h
  | cons a r ih =>
    intro i x y h
    cases i with
    | zero =>
      simp only [List.getElem?_cons_zero, Option.some.injEq] at h
      subst h
      exact ⟨rfl, rfl⟩
    | succ i =>
      obtain ⟨h1, h2⟩ := ih i x y (by simpa using h)
      have e : cellsL (a :: r) = Value.int .i64 a.1 :: Value.int .i64 a.2 :: cellsL r := rfl
      rw [e, show (i + 1) * 2 = i * 2 + 1 + 1 by omega]
      simpa using ⟨h1, h2⟩
theorem cellsL_one (l : List (Int × Int)) : ∀ u ∈ cellsL l, u.oneCell' = true := by
  intro u hu
  obtain ⟨s, _, hs⟩ := List.mem_flatMap.1 hu
  simp only [List.mem_cons, List.not_mem_nil, or_false] at hs
  rcases hs with rfl | rfl <;> rfl
/-- What is there, as an append asks it. -/
theorem Lst.cells {w : World} {b o : Nat} {l : List (Int × Int)} (h : Lst w b o l) : ∀ (j : Nat) (u : Value), (cellsL l)[j]? = some u → w.cell? ((⟨b, o, none⟩ : Addr).add j) = some u := by
  intro j u hj
  have hlt : j < l.length * 2 := by
    have := (List.getElem?_eq_some_iff.1 hj).1
    rwa [cellsL_length] at this
  obtain ⟨x, y, hxy⟩ := at_lt (l := l) (k := j / 2) (by omega)
  obtain ⟨c1, c2⟩ := cellsL_at l (j / 2) x y hxy
  obtain ⟨h1, h2⟩ := h (j / 2) x y hxy
  rw [Go.WideShapes.add_plain]
  rcases Nat.mod_two_eq_zero_or_one j with hm | hm
  · have e : j / 2 * 2 = j := by omega
    rw [e] at c1 h1
    rw [h1, ← c1, hj]
  · have e : j / 2 * 2 + 1 = j := by omega
    rw [e] at c2
    rw [show o + j / 2 * 2 + 1 = o + j by omega] at h2
    rw [h2, ← c2, hj]
/-- The slice v is the call's own (in a block from base on) and holds the stamps of l. -/
def OwnL (w : World) (base : Nat) (v : Value) (l : List (Int × Int)) : Prop := w.ownsRow base 33 2 v l.length (cellsL l)
theorem OwnL.sl {w : World} {base : Nat} {v : Value} {l : List (Int × Int)} (h : OwnL w base v l) :
    ∃ a cap, v = .slice a l.length cap ∧ SL w a l ∧ (a = none → cap = 0) ∧ (∀ b o, a = some ⟨b, o, none⟩ → base ≤ b) ∧ l.length ≤ cap := by
  obtain ⟨h1, h2 | ⟨g, cap, cur, hv, hg, hh, hn, hm, hs, hx⟩⟩ := h
  · obtain ⟨rfl, hl⟩ := h2
    obtain rfl := List.eq_nil_of_length_eq_zero hl
    exact ⟨none, 0, rfl, fun h => absurd rfl h, fun _ => rfl, fun _ _ h => (by cases h), Nat.le_refl _⟩
  · refine ⟨_, cap, hv, fun _ => ⟨g, 0, rfl, lt_of_block hh, fun i x y hi => ?_⟩, fun h => (by cases h), fun b o hb => ?_, hn⟩
    · have hil := (List.getElem?_eq_some_iff.1 hi).1
      obtain ⟨c1, c2⟩ := cellsL_at l i x y hi
      rw [← hx] at c1 c2
      rw [List.getElem?_take_of_lt (by omega)] at c1 c2
      simp only [World.cell?, hh]
      exact ⟨by simpa using c1, by simpa using c2⟩
    · simp only [Option.some.injEq, Addr.mk.injEq] at hb
      omega
theorem info_st : (Try.prog.info? 33).map (fun i => (i.zero, i.size, i.bytes)) = some (some (.agg #[.int .i64 0, .int .i64 0]), 2, 16) := by kernel_rfl

theorem SL.nil_ok (w : World) (a : Option Addr) : SL w a [] := fun h => absurd rfl h

end S1
end Go.Proofs.Ytjlbhffdlogflaa

/- Contracts of the reference's Max, Has and After, and of own, which copies a list. Conditions: lists of at most a million stamps. -/
namespace Go.Proofs.Ytjlbhffdlogflaa
namespace S1
open Go.RowKit Go.Sort

/-- It returns a list of its own, with the stamps of l, and leaves older memory as it was. -/
def RetL (w : World) (l : List (Int × Int)) (e : Ending) (w' : World) : Prop := ∃ a cap, e = .returned (.slice a l.length cap) ∧ SL w' a l ∧ (a = none → cap = 0) ∧ (∀ b o, a = some ⟨b, o, none⟩ → w.heap.size ≤ b) ∧ Below w.heap.size w w'

theorem src_of {w : World} {a : Option Addr} {l : List (Int × Int)} (hl : SL w a l) : a = none ∨ ∃ ad, a = some ad ∧ ∀ (W : World), Below w.heap.size w W → ∀ (j : Nat) (u : Value), (cellsL l)[j]? = some u → W.cell? (ad.add j) = some u := by
  cases a with
  | none => exact .inl rfl
  | some ad =>
    refine .inr ⟨ad, rfl, fun W hW j u hj => ?_⟩
    have hne : l ≠ [] := by rintro rfl; simp [cellsL] at hj
    obtain ⟨b, o, he, hb, hlst⟩ := hl hne
    simp only [Option.some.injEq] at he
    subst he
    exact (hlst.later hb hW).cells j u hj

end S1
end Go.Proofs.Ytjlbhffdlogflaa
