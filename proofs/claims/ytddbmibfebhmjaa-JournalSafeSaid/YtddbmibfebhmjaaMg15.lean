/- The library sort of numbers, and its Compact, at this program: the laying of their contracts, in plain words. Conditions: none. -/
import Derived.Test.YtddbmibfebhmjaaProg
import Derived.Shelf.Sort.Plain
import Derived.Shelf.Slices.In.SortNone
import Derived.Shelf.Slices.CompactI
import Derived.Ground.NamesProg
import Derived.Ground.Names2Prog
set_option maxRecDepth 100000
set_option maxHeartbeats 16000000
namespace Go.Proofs
open Go.Shelf
def Try.sortI_ren : Go.Shelf.Ren := ⟨fun | 189 => 74 | 125 => 88 | 257 => 87 | 128 => 105 | 129 => 106 | 294 => 96 | 295 => 97 | 296 => 98 | 297 => 99 | 298 => 100 | 299 => 101 | 216 => 102 | 300 => 103 | 301 => 104 | 328 => 112 | 329 => 113 | 330 => 114 | 331 => 115 | 332 => 116 | 215 => 117 | 343 => 118 | n => n, fun | 28 => 67 | 3 => 3 | 46 => 136 | 0 => 0 | 51 => 154 | 53 => 117 | 4 => 4 | 183 => 147 | 182 => 146 | 131 => 75 | 5 => 5 | 9 => 9 | 218 => 161 | 222 => 165 | 228 => 167 | 229 => 168 | n => n, fun | n => n⟩
theorem Try.sortI : Go.Proofs.Lays.n189 Try.prog Try.sortI_ren := {
 mixed := by kernel_rfl
 f125 := Try.func88.trans (congrArg some (by kernel_rfl))
 f128 := Try.func105.trans (congrArg some (by kernel_rfl))
 f129 := Try.func106.trans (congrArg some (by kernel_rfl))
 f189 := Try.func74.trans (congrArg some (by kernel_rfl))
 f215 := Try.func117.trans (congrArg some (by kernel_rfl))
 f216 := Try.func102.trans (congrArg some (by kernel_rfl))
 f257 := Try.func87.trans (congrArg some (by kernel_rfl))
 f294 := Try.func96.trans (congrArg some (by kernel_rfl))
 f295 := Try.func97.trans (congrArg some (by kernel_rfl))
 f296 := Try.func98.trans (congrArg some (by kernel_rfl))
 f297 := Try.func99.trans (congrArg some (by kernel_rfl))
 f298 := Try.func100.trans (congrArg some (by kernel_rfl))
 f299 := Try.func101.trans (congrArg some (by kernel_rfl))
 f300 := Try.func103.trans (congrArg some (by kernel_rfl))
 f301 := Try.func104.trans (congrArg some (by kernel_rfl))
 f328 := Try.func112.trans (congrArg some (by kernel_rfl))
 f329 := Try.func113.trans (congrArg some (by kernel_rfl))
 f330 := Try.func114.trans (congrArg some (by kernel_rfl))
 f331 := Try.func115.trans (congrArg some (by kernel_rfl))
 f332 := Try.func116.trans (congrArg some (by kernel_rfl))
 f343 := Try.func118.trans (congrArg some (by kernel_rfl))
 t0 := Try.underlying0
 a0 := Try.isAgg0
 z0 := Try.sizeOf0
 v0 := Try.zeroValue0
 t3 := Try.underlying3
 a3 := Try.isAgg3
 z3 := Try.sizeOf3
 v3 := Try.zeroValue3
 t4 := Try.underlying4
 a4 := Try.isAgg4
 z4 := Try.sizeOf4
 v4 := Try.zeroValue4
 t5 := Try.underlying5
 a5 := Try.isAgg5
 z5 := Try.sizeOf5
 v5 := Try.zeroValue5
 t9 := Try.underlying9
 a9 := Try.isAgg9
 z9 := Try.sizeOf9
 v9 := Try.zeroValue9
 t28 := Try.underlying67
 a28 := Try.isAgg67
 z28 := Try.sizeOf67
 v28 := Try.zeroValue67
 t46 := Try.underlying136
 a46 := Try.isAgg136
 z46 := Try.sizeOf136
 v46 := Try.zeroValue136
 t51 := Try.underlying154
 a51 := Try.isAgg154
 z51 := Try.sizeOf154
 v51 := Try.zeroValue154
 t53 := Try.underlying117
 a53 := Try.isAgg117
 z53 := Try.sizeOf117
 v53 := Try.zeroValue117
 t131 := Try.underlying75
 a131 := Try.isAgg75
 z131 := Try.sizeOf75
 v131 := Try.zeroValue75
 t182 := Try.underlying146
 a182 := Try.isAgg146
 z182 := Try.sizeOf146
 v182 := Try.zeroValue146
 t183 := Try.underlying147
 a183 := Try.isAgg147
 z183 := Try.sizeOf147
 v183 := Try.zeroValue147
 t218 := Try.underlying161
 a218 := Try.isAgg161
 z218 := Try.sizeOf161
 v218 := Try.zeroValue161
 t222 := Try.underlying165
 a222 := Try.isAgg165
 z222 := Try.sizeOf165
 v222 := Try.zeroValue165
 t228 := Try.underlying167
 a228 := Try.isAgg167
 z228 := Try.sizeOf167
 v228 := Try.zeroValue167
 t229 := Try.underlying168
 a229 := Try.isAgg168
 z229 := Try.sizeOf168
 v229 := Try.zeroValue168 }
end Go.Proofs
