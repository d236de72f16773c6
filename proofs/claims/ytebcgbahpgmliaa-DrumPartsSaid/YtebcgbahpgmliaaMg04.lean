/- An eye in memory, and the contracts of its inner methods take and number. Conditions: as each theorem states. -/
import Derived.Laws.BitsAllLaws
import Derived.Test.YtebcgbahpgmliaaMg03
set_option maxRecDepth 100000
set_option maxHeartbeats 16000000
namespace Go.Proofs.Ytebcgbahpgmliaa
namespace S2
open Go.RowKit
theorem Bs.form {w : World} {g : Nat} {v : Value} {l : List UInt8} (h : Bs w g v l) : ∃ a n c, v = .slice a n c := by
 rcases h with ⟨hn, _⟩ | ⟨o, cap, rfl, _⟩
 ·exact ⟨_, _, _, hn⟩
 ·exact ⟨_, _, _, rfl⟩
def leN : List UInt8 → Nat
 | [] => 0
 | x :: r => x.toNat + 256 * leN r
end S2
end Go.Proofs.Ytebcgbahpgmliaa
