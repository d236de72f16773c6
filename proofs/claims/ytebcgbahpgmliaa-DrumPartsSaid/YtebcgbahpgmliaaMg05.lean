/- The contracts of an eye's inner methods int, text, bool, stamp, stamps. Conditions: as each theorem states. -/
import Derived.Laws.IdiomStrings
import Derived.Lib.BufferRead
import Derived.Test.YtebcgbahpgmliaaMg04
set_option maxRecDepth 100000
set_option maxHeartbeats 16000000
namespace Go.Proofs.Ytebcgbahpgmliaa
namespace S2
open Go.RowKit
theorem Bs.str {w : World} {g : Nat} {v : Value} {l : List UInt8} (h : Bs w g v l) : (convert 39 9 v).run Try.prog w = .ok (.string ⟨l.toArray⟩) w := by
 rcases h with ⟨rfl, rfl⟩ | ⟨o, cap, rfl, _, _, hc⟩
 ·exact Lib.run_convert_nil_bytes w 39 9 5 0 Try.underlying39 Try.underlying5 Try.underlying9
 ·refine run_convert_bytes_back w 39 9 5 ⟨g, o, none⟩ cap l Try.underlying39 Try.underlying5 Try.underlying9 fun j hj => ?_
  rw [add_plain]
  exact hc j _ (List.getElem?_eq_getElem hj)
def rd (l : List UInt8) : Int := wrap64 (leN (l.take 8))
def cellsL (l : List (Int × Int)) : List Value := l.flatMap fun s => [.int .i64 s.1, .int .i64 s.2]
theorem cellsL_length (l : List (Int × Int)) : (cellsL l).length = l.length * 2 := by
 induction l with
 | nil => rfl
 | cons a r ih => simp [cellsL] at ih ⊢; omega
theorem cellsL_at (l : List (Int × Int)) : ∀ (i : Nat) (x y : Int), l[i]? = some (x, y) → (cellsL l)[i * 2]? = some (.int .i64 x) ∧ (cellsL l)[i * 2 + 1]? = some (.int .i64 y) := by
 induction l with
 | nil => intro i x y h; simp at h
 | cons a r ih =>
  intro i x y h
  cases i with
  | zero =>
   simp only [List.getElem?_cons_zero, Option.some.injEq] at h
   subst h
   exact ⟨rfl, rfl⟩
  | succ i =>
   obtain ⟨h1, h2⟩ := ih i x y (by simpa using h)
   have e : cellsL (a :: r) = Value.int .i64 a.1 :: Value.int .i64 a.2 :: cellsL r := rfl
   rw [e, show (i + 1) * 2 = i * 2 + 1 + 1 by omega]
   simpa using ⟨h1, h2⟩
def hasL (l : List UInt8) : Prop := 8 ≤ l.length ∧ 0 ≤ rd l ∧ 16 * (rd l).toNat ≤ l.length - 8
end S2
end Go.Proofs.Ytebcgbahpgmliaa
