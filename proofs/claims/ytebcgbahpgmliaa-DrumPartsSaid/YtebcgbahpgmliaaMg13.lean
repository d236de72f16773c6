/- The library sort of numbers, and its Compact, at this program: the laying of their contracts, in plain words. Conditions: none. -/
import Derived.Test.YtebcgbahpgmliaaProg
import Derived.Shelf.Sort.Plain
import Derived.Shelf.Slices.In.SortNone
import Derived.Shelf.Slices.CompactI
import Derived.Ground.NamesProg
import Derived.Ground.Names2Prog
set_option maxRecDepth 100000
set_option maxHeartbeats 16000000
namespace Go.Proofs
open Go.Shelf
def Try.sortI_ren : Go.Shelf.Ren := ⟨fun | 189 => 51 | 125 => 56 | 257 => 55 | 128 => 66 | 129 => 67 | 294 => 57 | 295 => 58 | 296 => 59 | 297 => 60 | 298 => 61 | 299 => 62 | 216 => 63 | 300 => 64 | 301 => 65 | 328 => 68 | 329 => 69 | 330 => 70 | 331 => 71 | 332 => 72 | 215 => 73 | 343 => 74 | n => n, fun | 28 => 56 | 3 => 3 | 46 => 96 | 0 => 0 | 51 => 105 | 53 => 107 | 4 => 4 | 183 => 99 | 182 => 98 | 131 => 66 | 5 => 5 | 9 => 9 | 218 => 108 | 222 => 112 | 228 => 114 | 229 => 115 | n => n, fun | n => n⟩
theorem Try.sortI : Go.Proofs.Lays.n189 Try.prog Try.sortI_ren := {
 mixed := by kernel_rfl
 f125 := Try.func56.trans (congrArg some (by kernel_rfl))
 f128 := Try.func66.trans (congrArg some (by kernel_rfl))
 f129 := Try.func67.trans (congrArg some (by kernel_rfl))
 f189 := Try.func51.trans (congrArg some (by kernel_rfl))
 f215 := Try.func73.trans (congrArg some (by kernel_rfl))
 f216 := Try.func63.trans (congrArg some (by kernel_rfl))
 f257 := Try.func55.trans (congrArg some (by kernel_rfl))
 f294 := Try.func57.trans (congrArg some (by kernel_rfl))
 f295 := Try.func58.trans (congrArg some (by kernel_rfl))
 f296 := Try.func59.trans (congrArg some (by kernel_rfl))
 f297 := Try.func60.trans (congrArg some (by kernel_rfl))
 f298 := Try.func61.trans (congrArg some (by kernel_rfl))
 f299 := Try.func62.trans (congrArg some (by kernel_rfl))
 f300 := Try.func64.trans (congrArg some (by kernel_rfl))
 f301 := Try.func65.trans (congrArg some (by kernel_rfl))
 f328 := Try.func68.trans (congrArg some (by kernel_rfl))
 f329 := Try.func69.trans (congrArg some (by kernel_rfl))
 f330 := Try.func70.trans (congrArg some (by kernel_rfl))
 f331 := Try.func71.trans (congrArg some (by kernel_rfl))
 f332 := Try.func72.trans (congrArg some (by kernel_rfl))
 f343 := Try.func74.trans (congrArg some (by kernel_rfl))
 t0 := Try.underlying0
 a0 := Try.isAgg0
 z0 := Try.sizeOf0
 v0 := Try.zeroValue0
 t3 := Try.underlying3
 a3 := Try.isAgg3
 z3 := Try.sizeOf3
 v3 := Try.zeroValue3
 t4 := Try.underlying4
 a4 := Try.isAgg4
 z4 := Try.sizeOf4
 v4 := Try.zeroValue4
 t5 := Try.underlying5
 a5 := Try.isAgg5
 z5 := Try.sizeOf5
 v5 := Try.zeroValue5
 t9 := Try.underlying9
 a9 := Try.isAgg9
 z9 := Try.sizeOf9
 v9 := Try.zeroValue9
 t28 := Try.underlying56
 a28 := Try.isAgg56
 z28 := Try.sizeOf56
 v28 := Try.zeroValue56
 t46 := Try.underlying96
 a46 := Try.isAgg96
 z46 := Try.sizeOf96
 v46 := Try.zeroValue96
 t51 := Try.underlying105
 a51 := Try.isAgg105
 z51 := Try.sizeOf105
 v51 := Try.zeroValue105
 t53 := Try.underlying107
 a53 := Try.isAgg107
 z53 := Try.sizeOf107
 v53 := Try.zeroValue107
 t131 := Try.underlying66
 a131 := Try.isAgg66
 z131 := Try.sizeOf66
 v131 := Try.zeroValue66
 t182 := Try.underlying98
 a182 := Try.isAgg98
 z182 := Try.sizeOf98
 v182 := Try.zeroValue98
 t183 := Try.underlying99
 a183 := Try.isAgg99
 z183 := Try.sizeOf99
 v183 := Try.zeroValue99
 t218 := Try.underlying108
 a218 := Try.isAgg108
 z218 := Try.sizeOf108
 v218 := Try.zeroValue108
 t222 := Try.underlying112
 a222 := Try.isAgg112
 z222 := Try.sizeOf112
 v222 := Try.zeroValue112
 t228 := Try.underlying114
 a228 := Try.isAgg114
 z228 := Try.sizeOf114
 v228 := Try.zeroValue114
 t229 := Try.underlying115
 a229 := Try.isAgg115
 z229 := Try.sizeOf115
 v229 := Try.zeroValue115 }
end Go.Proofs
