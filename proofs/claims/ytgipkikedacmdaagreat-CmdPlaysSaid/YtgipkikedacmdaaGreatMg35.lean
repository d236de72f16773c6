/- The program's Merge of Deps. Conditions: at most a thousand Deps in all, a million stamps; shards of 64 bits, all behind some number. -/
import Derived.Lib.SlKeysI
import Derived.Maps.OwnSet
import Derived.Sort.MapsRangeIn
import Derived.Test.YtgipkikedacmdaaGreatMg21
import Derived.Test.YtgipkikedacmdaaGreatMg34
import Derived.Test.YtgipkikedacmdaaGreatMg19
import Derived.Test.YtgipkikedacmdaaGreatMg20
set_option maxRecDepth 100000
set_option maxHeartbeats 16000000
set_option linter.unusedVariables false
namespace Go.Proofs.YtgipkikedacmdaaGreat
open S1
namespace SD
open Go.RowKit
abbrev DRow := Option Addr × List Dp × Nat
def drV (r : DRow) : Value := .slice r.1 r.2.1.length r.2.2
def Dls (w : World) (A : Option Addr) (rs : List DRow) : Prop := (∀ r ∈ rs, Dl w r.1 r.2.1) ∧ (rs ≠ [] → ∃ g o, A = some ⟨g, o, none⟩ ∧ g < w.heap.size ∧ ∀ (i : Nat) r, rs[i]? = some r → w.cell? ⟨g, o + i, none⟩ = some (drV r))
theorem Dls.later {W wr : World} {A : Option Addr} {rs : List DRow} (h : Dls W A rs) (hw : Below W.heap.size W wr) : Dls wr A rs := by
 refine ⟨fun r hr => (h.1 r hr).later hw, fun hne => ?_⟩
 obtain ⟨g, o, ha, hg, hl⟩ := h.2 hne
 exact ⟨g, o, ha, Nat.lt_of_lt_of_le hg hw.size, fun i r hi => cell_in hw hg (hl i r hi)⟩
theorem Dls.at {w : World} {A : Option Addr} {rs : List DRow} (h : Dls w A rs) {k : Nat} {r : DRow} (hr : rs[k]? = some r) : ∃ g o, A = some ⟨g, o, none⟩ ∧ g < w.heap.size ∧ w.cell? ⟨g, o + k, none⟩ = some (drV r) ∧ Dl w r.1 r.2.1 := by
 have hne : rs ≠ [] := by rintro rfl; simp at hr
 obtain ⟨g, o, ha, hg, hl⟩ := h.2 hne
 exact ⟨g, o, ha, hg, hl k r hr, h.1 r (List.mem_of_getElem? hr)⟩
end SD
end Go.Proofs.YtgipkikedacmdaaGreat
