/- The contracts of an eye's inner methods int, text, bool, stamp, stamps. Conditions: as each theorem states. -/
import Derived.Laws.IdiomStrings
import Derived.Lib.BufferRead
import Derived.Test.YtpdfcojcmhadnaaGreatMg25
set_option maxRecDepth 100000
set_option maxHeartbeats 16000000
namespace Go.Proofs.YtpdfcojcmhadnaaGreat
namespace S2
open Go.RowKit
def rd (l : List UInt8) : Int := wrap64 (leN (l.take 8))
theorem ret_bool {a b : Bool} (h : a = b) : Ending.returned (.bool a) = .returned (.bool b) := by rw [h]
def rdS (l : List UInt8) : Int × Int := (rd l, rd (l.drop 8))
def cellsL (l : List (Int × Int)) : List Value := l.flatMap fun s => [.int .i64 s.1, .int .i64 s.2]
theorem cellsL_length (l : List (Int × Int)) : (cellsL l).length = l.length * 2 := by
 induction l with
 | nil => rfl
 | cons a r ih => simp [cellsL] at ih ⊢; omega
theorem cellsL_append (l r : List (Int × Int)) : cellsL (l ++ r) = cellsL l ++ cellsL r := by simp [cellsL]
theorem cellsL_at (l : List (Int × Int)) : ∀ (i : Nat) (x y : Int), l[i]? = some (x, y) → (cellsL l)[i * 2]? = some (.int .i64 x) ∧ (cellsL l)[i * 2 + 1]? = some (.int .i64 y) := by
 induction l with
 | nil => intro i x y h; simp at h
 | cons a r ih =>
  intro i x y h
  cases i with
  | zero =>
   simp only [List.getElem?_cons_zero, Option.some.injEq] at h
   subst h
   exact ⟨rfl, rfl⟩
  | succ i =>
   obtain ⟨h1, h2⟩ := ih i x y (by simpa using h)
   have e : cellsL (a :: r) = Value.int .i64 a.1 :: Value.int .i64 a.2 :: cellsL r := rfl
   rw [e, show (i + 1) * 2 = i * 2 + 1 + 1 by omega]
   simpa using ⟨h1, h2⟩
theorem cellsL_one (l : List (Int × Int)) : ∀ u ∈ cellsL l, u.oneCell' = true := by
 intro u hu
 obtain ⟨s, _, hs⟩ := List.mem_flatMap.1 hu
 simp only [List.mem_cons, List.not_mem_nil, or_false] at hs
 rcases hs with rfl | rfl <;> rfl
def OwnL (w : World) (base : Nat) (v : Value) (l : List (Int × Int)) : Prop := w.ownsRow base 24 2 v l.length (cellsL l)
theorem OwnL.sl {w : World} {base : Nat} {v : Value} {l : List (Int × Int)} (h : OwnL w base v l) : ∃ a cap g, v = .slice a l.length cap ∧ SL w g a l ∧ base ≤ g := by
 obtain ⟨h1, h2 | ⟨g, cap, cur, hv, hg, hh, hn, hm, hs, hx⟩⟩ := h
 ·obtain ⟨rfl, hl⟩ := h2
  obtain rfl := List.eq_nil_of_length_eq_zero hl
  exact ⟨none, 0, base, rfl, fun h => absurd rfl h, Nat.le_refl _⟩
 ·refine ⟨_, cap, g, hv, fun _ => ⟨0, rfl, fun i x y hi => ?_⟩, hg⟩
  have hil := (List.getElem?_eq_some_iff.1 hi).1
  obtain ⟨c1, c2⟩ := cellsL_at l i x y hi
  rw [← hx] at c1 c2
  rw [List.getElem?_take_of_lt (by omega)] at c1 c2
  simp only [World.cell?, hh]
  exact ⟨by simpa using c1, by simpa using c2⟩
theorem OwnL.keep {S : Nat → Prop} {w w' : World} {base : Nat} {v : Value} {l : List (Int × Int)} (h : OwnL w base v l) (k : Keeps S w w') (hS : ∀ x, base ≤ x → ¬ S x) : OwnL w' base v l := by
 refine ⟨h.1, ?_⟩
 rcases h.2 with hn | ⟨g, cap, cur, rfl, hb, hh, r⟩
 ·exact .inl hn
 ·exact .inr ⟨g, cap, cur, rfl, hb, (k.block g (lt_of_block hh) (hS g hb)).trans hh, r⟩
def hasL (l : List UInt8) : Prop := 8 ≤ l.length ∧ 0 ≤ rd l ∧ 16 * (rd l).toNat ≤ l.length - 8
end S2
end Go.Proofs.YtpdfcojcmhadnaaGreat
