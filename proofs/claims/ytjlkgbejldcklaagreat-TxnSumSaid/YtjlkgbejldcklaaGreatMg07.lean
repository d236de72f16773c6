/- The library's search at this program: the laying of its contract, in plain words. Conditions: none. -/
import Derived.Shelf.SlSorted.Search
import Derived.Test.YtjlkgbejldcklaaGreatProg
namespace Go.Proofs
open Go.Shelf
def Tryz.search_ren : Go.Shelf.Ren := ⟨fun | 16 => 226 | n => n, fun | 3 => 3 | 4 => 4 | 35 => 145 | 38 => 290 | n => n, fun | n => n⟩
theorem Tryz.search : Go.Proofs.SlLaysO.n16 Tryz.prog Tryz.search_ren := {
  mixed := by kernel_rfl
  f16 := Tryz.func226.trans (congrArg some (by kernel_rfl))
  t3 := Tryz.underlying3
  a3 := Tryz.isAgg3
  z3 := Tryz.sizeOf3
  v3 := Tryz.zeroValue3
  t4 := Tryz.underlying4
  a4 := Tryz.isAgg4
  z4 := Tryz.sizeOf4
  v4 := Tryz.zeroValue4
  t35 := Tryz.underlying145
  a35 := Tryz.isAgg145
  z35 := Tryz.sizeOf145
  v35 := Tryz.zeroValue145
  t38 := Tryz.underlying290
  a38 := Tryz.isAgg290
  z38 := Tryz.sizeOf290
  v38 := Tryz.zeroValue290 }
end Go.Proofs
