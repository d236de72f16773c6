/- The library's search at this program: the laying of its contract, in plain words. Conditions: none. -/
import Derived.Shelf.SlSorted.Search
import Derived.Test.YtkgfpppbpjinaaaProg
namespace Go.Proofs
open Go.Shelf
def Try.search_ren : Go.Shelf.Ren := ⟨fun | 16 => 48 | n => n, fun | 3 => 3 | 4 => 4 | 35 => 65 | 38 => 79 | n => n, fun | n => n⟩
theorem Try.search : Go.Proofs.SlLaysO.n16 Try.prog Try.search_ren := {
  mixed := by kernel_rfl
  f16 := Try.func48.trans (congrArg some (by kernel_rfl))
  t3 := Try.underlying3
  a3 := Try.isAgg3
  z3 := Try.sizeOf3
  v3 := Try.zeroValue3
  t4 := Try.underlying4
  a4 := Try.isAgg4
  z4 := Try.sizeOf4
  v4 := Try.zeroValue4
  t35 := Try.underlying65
  a35 := Try.isAgg65
  z35 := Try.sizeOf65
  v35 := Try.zeroValue65
  t38 := Try.underlying79
  a38 := Try.isAgg79
  z38 := Try.sizeOf79
  v38 := Try.zeroValue79 }
end Go.Proofs
