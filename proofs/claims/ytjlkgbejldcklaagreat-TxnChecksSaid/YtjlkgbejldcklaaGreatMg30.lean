/- The library sort of texts, its Compact and Clone, at this program: the laying of their contracts, in plain words. Conditions: none. -/
import Derived.Test.YtjlkgbejldcklaaGreatProg
import Derived.Shelf.Sort.Plain
import Derived.Shelf.Slices.CompactS
import Derived.Shelf.Slices.Clone
import Derived.Ground.NamesProg
import Derived.Ground.Names2Prog
/- The library sort of texts, its Compact and Clone, at this program: the laying of their contracts, in plain words. Conditions: none. -/
namespace Go.Proofs
open Go.Shelf
def Tryz.sortT_ren : Go.Shelf.Ren := ⟨fun | 190 => 217 | 125 => 261 | 258 => 271 | 128 => 299 | 129 => 300 | 302 => 314 | 303 => 315 | 304 => 316 | 305 => 317 | 306 => 318 | 307 => 319 | 308 => 320 | 309 => 321 | 310 => 322 | 333 => 346 | 329 => 337 | 330 => 338 | 334 => 347 | 335 => 348 | 336 => 274 | 344 => 354 | n => n, fun | 31 => 87 | 9 => 9 | 3 => 3 | 46 => 290 | 0 => 0 | 51 => 324 | 53 => 88 | 4 => 4 | 183 => 317 | 182 => 316 | 131 => 262 | 5 => 5 | 218 => 350 | 222 => 354 | 228 => 363 | 229 => 364 | n => n, fun | n => n⟩
theorem Tryz.sortT : Go.Proofs.Lays.n190 Tryz.prog Tryz.sortT_ren := {
  mixed := by kernel_rfl
  f125 := Tryz.func261.trans (congrArg some (by kernel_rfl))
  f128 := Tryz.func299.trans (congrArg some (by kernel_rfl))
  f129 := Tryz.func300.trans (congrArg some (by kernel_rfl))
  f190 := Tryz.func217.trans (congrArg some (by kernel_rfl))
  f258 := Tryz.func271.trans (congrArg some (by kernel_rfl))
  f302 := Tryz.func314.trans (congrArg some (by kernel_rfl))
  f303 := Tryz.func315.trans (congrArg some (by kernel_rfl))
  f304 := Tryz.func316.trans (congrArg some (by kernel_rfl))
  f305 := Tryz.func317.trans (congrArg some (by kernel_rfl))
  f306 := Tryz.func318.trans (congrArg some (by kernel_rfl))
  f307 := Tryz.func319.trans (congrArg some (by kernel_rfl))
  f308 := Tryz.func320.trans (congrArg some (by kernel_rfl))
  f309 := Tryz.func321.trans (congrArg some (by kernel_rfl))
  f310 := Tryz.func322.trans (congrArg some (by kernel_rfl))
  f329 := Tryz.func337.trans (congrArg some (by kernel_rfl))
  f330 := Tryz.func338.trans (congrArg some (by kernel_rfl))
  f333 := Tryz.func346.trans (congrArg some (by kernel_rfl))
  f334 := Tryz.func347.trans (congrArg some (by kernel_rfl))
  f335 := Tryz.func348.trans (congrArg some (by kernel_rfl))
  f336 := Tryz.func274.trans (congrArg some (by kernel_rfl))
  f344 := Tryz.func354.trans (congrArg some (by kernel_rfl))
  t0 := Tryz.underlying0
  a0 := Tryz.isAgg0
  z0 := Tryz.sizeOf0
  v0 := Tryz.zeroValue0
  t3 := Tryz.underlying3
  a3 := Tryz.isAgg3
  z3 := Tryz.sizeOf3
  v3 := Tryz.zeroValue3
  t4 := Tryz.underlying4
  a4 := Tryz.isAgg4
  z4 := Tryz.sizeOf4
  v4 := Tryz.zeroValue4
  t5 := Tryz.underlying5
  a5 := Tryz.isAgg5
  z5 := Tryz.sizeOf5
  v5 := Tryz.zeroValue5
  t9 := Tryz.underlying9
  a9 := Tryz.isAgg9
  z9 := Tryz.sizeOf9
  v9 := Tryz.zeroValue9
  t31 := Tryz.underlying87
  a31 := Tryz.isAgg87
  z31 := Tryz.sizeOf87
  v31 := Tryz.zeroValue87
  t46 := Tryz.underlying290
  a46 := Tryz.isAgg290
  z46 := Tryz.sizeOf290
  v46 := Tryz.zeroValue290
  t51 := Tryz.underlying324
  a51 := Tryz.isAgg324
  z51 := Tryz.sizeOf324
  v51 := Tryz.zeroValue324
  t53 := Tryz.underlying88
  a53 := Tryz.isAgg88
  z53 := Tryz.sizeOf88
  v53 := Tryz.zeroValue88
  t131 := Tryz.underlying262
  a131 := Tryz.isAgg262
  z131 := Tryz.sizeOf262
  v131 := Tryz.zeroValue262
  t182 := Tryz.underlying316
  a182 := Tryz.isAgg316
  z182 := Tryz.sizeOf316
  v182 := Tryz.zeroValue316
  t183 := Tryz.underlying317
  a183 := Tryz.isAgg317
  z183 := Tryz.sizeOf317
  v183 := Tryz.zeroValue317
  t218 := Tryz.underlying350
  a218 := Tryz.isAgg350
  z218 := Tryz.sizeOf350
  v218 := Tryz.zeroValue350
  t222 := Tryz.underlying354
  a222 := Tryz.isAgg354
  z222 := Tryz.sizeOf354
  v222 := Tryz.zeroValue354
  t228 := Tryz.underlying363
  a228 := Tryz.isAgg363
  z228 := Tryz.sizeOf363
  v228 := Tryz.zeroValue363
  t229 := Tryz.underlying364
  a229 := Tryz.isAgg364
  z229 := Tryz.sizeOf364
  v229 := Tryz.zeroValue364 }
def Tryz.compT_ren : Go.Shelf.Ren := ⟨fun | 194 => 218 | n => n, fun | 31 => 87 | 9 => 9 | 3 => 3 | 4 => 4 | 0 => 0 | n => n, fun | n => n⟩
theorem Tryz.compT : Go.Proofs.Lays.n194 Tryz.prog Tryz.compT_ren := {
  mixed := by kernel_rfl
  f194 := Tryz.func218.trans (congrArg some (by kernel_rfl))
  t0 := Tryz.underlying0
  a0 := Tryz.isAgg0
  z0 := Tryz.sizeOf0
  v0 := Tryz.zeroValue0
  t3 := Tryz.underlying3
  a3 := Tryz.isAgg3
  z3 := Tryz.sizeOf3
  v3 := Tryz.zeroValue3
  t4 := Tryz.underlying4
  a4 := Tryz.isAgg4
  z4 := Tryz.sizeOf4
  v4 := Tryz.zeroValue4
  t9 := Tryz.underlying9
  a9 := Tryz.isAgg9
  z9 := Tryz.sizeOf9
  v9 := Tryz.zeroValue9
  t31 := Tryz.underlying87
  a31 := Tryz.isAgg87
  z31 := Tryz.sizeOf87
  v31 := Tryz.zeroValue87 }
def Tryz.cloneT_ren : Go.Shelf.Ren := ⟨fun | 16 => 216 | n => n, fun | 24 => 87 | 9 => 9 | 4 => 4 | n => n, fun | n => n⟩
theorem Tryz.cloneT : Go.Proofs.Lays2.n16 Tryz.prog Tryz.cloneT_ren := {
  mixed := by kernel_rfl
  f16 := Tryz.func216.trans (congrArg some (by kernel_rfl))
  t4 := Tryz.underlying4
  a4 := Tryz.isAgg4
  z4 := Tryz.sizeOf4
  v4 := Tryz.zeroValue4
  t9 := Tryz.underlying9
  a9 := Tryz.isAgg9
  z9 := Tryz.sizeOf9
  v9 := Tryz.zeroValue9
  t24 := Tryz.underlying87
  a24 := Tryz.isAgg87
  z24 := Tryz.sizeOf87
  v24 := Tryz.zeroValue87
  i9 := by kernel_rfl }
end Go.Proofs
