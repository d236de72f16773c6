/- The reference's Same and List of stamps, of any lists; its Same and Get of Deps. Conditions: lists of at most a million. -/
import Derived.Deep.RegionHeld
import Derived.Test.YtpdfcojcmhadnaaGreatMg00
import Derived.Test.YtpdfcojcmhadnaaGreatMg39
import Derived.Test.YtpdfcojcmhadnaaGreatMg12
set_option maxRecDepth 100000
set_option maxHeartbeats 16000000
set_option linter.unusedVariables false
namespace Go.Proofs.YtpdfcojcmhadnaaGreat
open S1
namespace SD
open Go.RowKit
structure Dp where
 sh : Int
 ia : Option Addr
 ic : Nat
 ids : List (Int × Int)
def Dp.d (x : Dp) : Int × List (Int × Int) := (x.sh, x.ids)
def ilD (s : Dp) : Value := .slice s.ia s.ids.length s.ic
def RowD (w : World) (g o : Nat) (l : List Dp) : Prop := ∀ (i : Nat) s, l[i]? = some s → w.cell? ⟨g, o + i * 2, none⟩ = some (.int .i64 s.sh) ∧ w.cell? ⟨g, o + i * 2 + 1, none⟩ = some (ilD s)
def IdsAt (w : World) (s : Dp) : Prop := SL w s.ia s.ids ∧ (s.ia = none → s.ic = 0) ∧ s.ids.length ≤ s.ic
def Dl (w : World) (a : Option Addr) (l : List Dp) : Prop := (∀ s ∈ l, IdsAt w s) ∧ (l ≠ [] → ∃ g o, a = some ⟨g, o, none⟩ ∧ g < w.heap.size ∧ RowD w g o l)
theorem IdsAt.later {W wr : World} {s : Dp} (h : IdsAt W s) (hw : Below W.heap.size W wr) : IdsAt wr s := ⟨h.1.later hw, h.2⟩
theorem RowD.later {W wr : World} {g o : Nat} {l : List Dp} (h : RowD W g o l) (hg : g < W.heap.size) (hw : Below W.heap.size W wr) : RowD wr g o l := fun i s hi => ⟨cell_in hw hg (h i s hi).1, cell_in hw hg (h i s hi).2⟩
theorem Dl.later {W wr : World} {a : Option Addr} {l : List Dp} (h : Dl W a l) (hw : Below W.heap.size W wr) : Dl wr a l := by
 refine ⟨fun s hs => (h.1 s hs).later hw, fun hne => ?_⟩
 obtain ⟨g, o, ha, hg, hl⟩ := h.2 hne
 exact ⟨g, o, ha, Nat.lt_of_lt_of_le hg hw.size, hl.later hg hw⟩
theorem Dl.at {w : World} {a : Option Addr} {l : List Dp} (h : Dl w a l) {k : Nat} {s : Dp} (hs : l[k]? = some s) : ∃ g o, a = some ⟨g, o, none⟩ ∧ g < w.heap.size ∧ w.cell? ⟨g, o + k * 2, none⟩ = some (.int .i64 s.sh) ∧ w.cell? ⟨g, o + k * 2 + 1, none⟩ = some (ilD s) ∧ IdsAt w s := by
 have hne : l ≠ [] := by rintro rfl; simp at hs
 obtain ⟨g, o, ha, hg, hl⟩ := h.2 hne
 exact ⟨g, o, ha, hg, (hl k s hs).1, (hl k s hs).2, h.1 s (List.mem_of_getElem? hs)⟩
theorem Dl.nil (w : World) (a : Option Addr) : Dl w a [] := ⟨fun s h => (by cases h), fun h => absurd rfl h⟩
theorem at_ltD {α : Type} {l : List α} {k : Nat} (h : k < l.length) : ∃ s, l[k]? = some s := ⟨l[k], List.getElem?_eq_getElem h⟩
def cellsD (l : List Dp) : List Value := l.flatMap fun s => [.int .i64 s.sh, ilD s]
theorem cellsD_length (l : List Dp) : (cellsD l).length = l.length * 2 := by
 induction l with
 | nil => rfl
 | cons a r ih => simp [cellsD] at ih ⊢; omega
theorem cellsD_at (l : List Dp) : ∀ (i : Nat) (s : Dp), l[i]? = some s → (cellsD l)[i * 2]? = some (.int .i64 s.sh) ∧ (cellsD l)[i * 2 + 1]? = some (ilD s) := by
 induction l with
 | nil => intro i s h; simp at h
 | cons a r ih =>
  intro i s h
  cases i with
  | zero =>
   simp only [List.getElem?_cons_zero, Option.some.injEq] at h
   subst h
   exact ⟨rfl, rfl⟩
  | succ i =>
   obtain ⟨h1, h2⟩ := ih i s (by simpa using h)
   have e : cellsD (a :: r) = Value.int .i64 a.sh :: ilD a :: cellsD r := rfl
   refine ⟨?_, ?_⟩
   ·rw [e, show (i + 1) * 2 = (i * 2) + 1 + 1 by omega]; simpa using h1
   ·rw [e, show (i + 1) * 2 + 1 = (i * 2 + 1) + 1 + 1 by omega]; simpa using h2
theorem RowD.cells {w : World} {b o : Nat} {l : List Dp} (h : RowD w b o l) : ∀ (j : Nat) (u : Value), (cellsD l)[j]? = some u → w.cell? ((⟨b, o, none⟩ : Addr).add j) = some u := by
 intro j u hj
 have hlt : j / 2 < l.length := by
  have := (List.getElem?_eq_some_iff.1 hj).1
  rw [cellsD_length] at this
  omega
 obtain ⟨s, hs⟩ := at_ltD hlt
 obtain ⟨c1, c2⟩ := cellsD_at l (j / 2) s hs
 obtain ⟨d1, d2⟩ := h (j / 2) s hs
 rw [Go.WideShapes.add_plain]
 rcases Nat.mod_two_eq_zero_or_one j with he | he
 ·have e : j / 2 * 2 = j := by omega
  rw [e] at c1 d1
  rw [d1, ← c1, hj]
 ·have e : j / 2 * 2 + 1 = j := by omega
  rw [e] at c2
  rw [show o + j / 2 * 2 + 1 = o + j by omega] at d2
  rw [d2, ← c2, hj]
def OwnD (w : World) (base : Nat) (v : Value) (l : List Dp) : Prop := w.ownsRow base 51 2 v l.length (cellsD l)
theorem OwnD.nil (w : World) (base : Nat) : OwnD w base (.slice none 0 0) [] := World.ownsRow_nil _ _ _ _
theorem OwnD.later {W wr : World} {base : Nat} {v : Value} {l : List Dp} (h : OwnD W base v l) (hb : Below W.heap.size W wr) : OwnD wr base v l := by
 obtain ⟨h1, h2 | ⟨g, cap, cur, hv, hg, hh, r⟩⟩ := h
 ·exact ⟨h1, .inl h2⟩
 ·exact ⟨h1, .inr ⟨g, cap, cur, hv, hg, (hb.block g (lt_of_block hh)).trans hh, r⟩⟩
theorem OwnD.block {w : World} {base : Nat} {v : Value} {l : List Dp} (h : OwnD w base v l) : ∀ k, v.ownBlock = some k → base ≤ k ∧ k < w.heap.size := by
 intro k hk
 obtain ⟨h1, ⟨rfl, _⟩ | ⟨g, cap, cur, rfl, hg, hh, _⟩⟩ := h
 ·simp [Value.ownBlock] at hk
 ·simp [Value.ownBlock] at hk
  subst hk
  exact ⟨hg, lt_of_block hh⟩
theorem OwnD.row {w : World} {base : Nat} {v : Value} {l : List Dp} (h : OwnD w base v l) : ∃ a c, v = .slice a l.length c ∧ (a = none → c = 0) ∧ l.length ≤ c ∧ (l ≠ [] → ∃ g, a = some ⟨g, 0, none⟩ ∧ g < w.heap.size ∧ RowD w g 0 l) := by
 obtain ⟨h1, ⟨rfl, hl⟩ | ⟨g, cap, cur, hv, hg, hh, hn, hm, hs, hx⟩⟩ := h
 ·have := List.eq_nil_of_length_eq_zero hl
  subst this
  exact ⟨none, 0, rfl, fun _ => rfl, Nat.le_refl _, fun h => absurd rfl h⟩
 ·refine ⟨_, cap, hv, fun h => (by cases h), hn, fun _ => ⟨g, rfl, lt_of_block hh, fun i s hi => ?_⟩⟩
  have hil := (List.getElem?_eq_some_iff.1 hi).1
  obtain ⟨c1, c2⟩ := cellsD_at l i s hi
  rw [← hx] at c1 c2
  rw [List.getElem?_take_of_lt (by omega)] at c1 c2
  rw [Nat.zero_add]
  exact ⟨by simp only [World.cell?, hh]; simpa using c1, by simp only [World.cell?, hh]; simpa using c2⟩

theorem at_ltS {l : List (Int × Int)} {k : Nat} (h : k < l.length) : ∃ x y, l[k]? = some (x, y) := ⟨l[k].1, l[k].2, List.getElem?_eq_getElem h⟩
theorem take_eqS {α : Type} {l m : List α} {k : Nat} {x : α} (h : l.take k = m.take k) (hx : l[k]? = some x) (hy : m[k]? = some x) : l.take (k + 1) = m.take (k + 1) := by
 rw [List.take_add_one, List.take_add_one, hx, hy, h]
end SD
end Go.Proofs.YtpdfcojcmhadnaaGreat
