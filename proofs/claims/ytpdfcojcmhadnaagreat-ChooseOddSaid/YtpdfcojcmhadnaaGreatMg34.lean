/- within of stock: the pairs in a span, by rising key, whatever order the map is gone through. Conditions: at most a million keys. -/
import Derived.Sort.Grow
import Derived.Deep.RegionHeld3
import Derived.Test.YtpdfcojcmhadnaaGreatProg
import Derived.Sort.OwnSorted
import Derived.Lib.RowBridge
import Derived.WalkSpells
import Derived.Deep.QuietTactic
import Derived.Test.YtpdfcojcmhadnaaGreatMg33
import Derived.Test.YtpdfcojcmhadnaaGreatMg15
import Derived.Test.YtpdfcojcmhadnaaGreatMg06
set_option maxRecDepth 100000
set_option maxHeartbeats 16000000
set_option linter.unusedVariables false
namespace Go.Proofs.YtpdfcojcmhadnaaGreat
open S3 SN
namespace SP
open Go.RowKit
open Go.Sort (grow grow_grow alloc_eq_grow)
def bt (ls : List (List UInt8)) : List ByteArray := ls.map fun l => ⟨l.toArray⟩
theorem OwnT.cases {w : World} {base : Nat} {v : Value} {l : List ByteArray} (h : OwnT w base v l) :
  (v = .slice none 0 0 ∧ l = []) ∨ ∃ g cap cur, v = .slice (some ⟨g, 0, none⟩) l.length cap ∧ base ≤ g ∧ w.heap[g]? = some (.cells cur 9 (0, 0)) ∧ l.length ≤ cap ∧ cap ≤ maxLen ∧ cur.size = cap * 1 ∧ cur.toList.take l.length = cellsT l := by
 obtain ⟨h1, ⟨rfl, hl⟩ | ⟨g, cap, cur, hv, hg, hh, hn, hm, hs, hx⟩⟩ := h
 ·exact .inl ⟨rfl, List.eq_nil_of_length_eq_zero hl⟩
 ·exact .inr ⟨g, cap, cur, hv, hg, hh, hn, hm, hs, by rw [Nat.mul_one] at hx; exact hx⟩
end SP
end Go.Proofs.YtpdfcojcmhadnaaGreat

set_option linter.unusedSimpArgs false
namespace Go.Proofs.YtpdfcojcmhadnaaGreat
open S3 SN
namespace SP
open Go.ChangeShapes Go.WideShapes Go.ChangeAt Go.RowKit Go.Joins Go.Deep
theorem set_one {s : Sp} (h : fullS s = true) : IsSet [s] := ⟨fun t ht => by simp only [List.mem_singleton] at ht; subst ht; exact h, List.pairwise_singleton _ _⟩
end SP
end Go.Proofs.YtpdfcojcmhadnaaGreat
