/- An eye in memory, and the contracts of its inner methods take and number. Conditions: as each theorem states. -/
import Derived.Laws.BitsAllLaws
import Derived.Test.YtpdfcojcmhadnaaGreatMg24
set_option maxRecDepth 100000
set_option maxHeartbeats 16000000
namespace Go.Proofs.YtpdfcojcmhadnaaGreat
namespace S2
open Go.RowKit
theorem block_setCell {w : World} {b i : Nat} {c : Array Value} {t : TypeId} (h : w.heap[b]? = some (.cells c t (0, 0))) (u : Value) : (w.setCell ⟨b, i, none⟩ u).heap[b]? = some (.cells (c.setIfInBounds i u) t (0, 0)) := by
 have hlt := lt_of_block h
 have h' : w.heap[b] = .cells c t (0, 0) := by simpa [Array.getElem?_eq_getElem hlt] using h
 show (w.heap.modify b _)[b]? = _
 rw [Array.getElem?_eq_getElem (by simpa using hlt), Array.getElem_modify_self, h']
 rfl
theorem Bs.form {w : World} {g : Nat} {v : Value} {l : List UInt8} (h : Bs w g v l) : ∃ a n c, v = .slice a n c := by
 rcases h with ⟨hn, _⟩ | ⟨o, cap, rfl, _⟩
 ·exact ⟨_, _, _, hn⟩
 ·exact ⟨_, _, _, rfl⟩
def leN : List UInt8 → Nat
 | [] => 0
 | x :: r => x.toNat + 256 * leN r
end S2
end Go.Proofs.YtpdfcojcmhadnaaGreat
