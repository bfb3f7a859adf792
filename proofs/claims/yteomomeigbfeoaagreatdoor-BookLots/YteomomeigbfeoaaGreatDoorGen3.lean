/-
 What the library's contracts ask of this program, laid at its numbers: facts of the program alone.
-/
import Derived.Shelf.Strings.SplitCore
import Derived.Test.YteomomeigbfeoaaGreatDoorProg
namespace Go.Proofs
open Go.Shelf
def Tryz.laysSp_ren : Go.Shelf.Ren := ⟨fun | 221 => 163 | 268 => 197 | 138 => 198 | 143 => 199 | 195 => 213 | 197 => 214 | 218 => 215 | 219 => 162 | 260 => 223 | 217 => 193 | 225 => 194 | 224 => 195 | 267 => 196 | 266 => 211 | 314 => 212 | n => n, fun | 9 => 9 | 3 => 3 | 31 => 76 | 4 => 4 | 0 => 0 | 105 => 283 | 21 => 21 | 5 => 5 | 46 => 178 | 119 => 289 | 139 => 292 | 138 => 291 | 146 => 281 | 51 => 226 | n => n, fun | 1 => 13 | 3 => 15 | 4 => 16 | n => n⟩
theorem Tryz.laysSp : Go.Proofs.Lays.n221 Tryz.prog Tryz.laysSp_ren := {
 mixed := by kernel_rfl
 f138 := Tryz.func198.trans (congrArg some (by kernel_rfl))
 f143 := Tryz.func199.trans (congrArg some (by kernel_rfl))
 f195 := Tryz.func213.trans (congrArg some (by kernel_rfl))
 f197 := Tryz.func214.trans (congrArg some (by kernel_rfl))
 f217 := Tryz.func193.trans (congrArg some (by kernel_rfl))
 f218 := Tryz.func215.trans (congrArg some (by kernel_rfl))
 f219 := Tryz.func162.trans (congrArg some (by kernel_rfl))
 f221 := Tryz.func163.trans (congrArg some (by kernel_rfl))
 f224 := Tryz.func195.trans (congrArg some (by kernel_rfl))
 f225 := Tryz.func194.trans (congrArg some (by kernel_rfl))
 f260 := Tryz.func223.trans (congrArg some (by kernel_rfl))
 f266 := Tryz.func211.trans (congrArg some (by kernel_rfl))
 f267 := Tryz.func196.trans (congrArg some (by kernel_rfl))
 f268 := Tryz.func197.trans (congrArg some (by kernel_rfl))
 f314 := Tryz.func212.trans (congrArg some (by kernel_rfl))
 t0 := Tryz.underlying0
 a0 := Tryz.isAgg0
 z0 := Tryz.sizeOf0
 v0 := Tryz.zeroValue0
 t3 := Tryz.underlying3
 a3 := Tryz.isAgg3
 z3 := Tryz.sizeOf3
 v3 := Tryz.zeroValue3
 t4 := Tryz.underlying4
 a4 := Tryz.isAgg4
 z4 := Tryz.sizeOf4
 v4 := Tryz.zeroValue4
 t5 := Tryz.underlying5
 a5 := Tryz.isAgg5
 z5 := Tryz.sizeOf5
 v5 := Tryz.zeroValue5
 t9 := Tryz.underlying9
 a9 := Tryz.isAgg9
 z9 := Tryz.sizeOf9
 v9 := Tryz.zeroValue9
 t21 := Tryz.underlying21
 a21 := Tryz.isAgg21
 z21 := Tryz.sizeOf21
 v21 := Tryz.zeroValue21
 t31 := Tryz.underlying76
 a31 := Tryz.isAgg76
 z31 := Tryz.sizeOf76
 v31 := Tryz.zeroValue76
 t46 := Tryz.underlying178
 a46 := Tryz.isAgg178
 z46 := Tryz.sizeOf178
 v46 := Tryz.zeroValue178
 t51 := Tryz.underlying226
 a51 := Tryz.isAgg226
 z51 := Tryz.sizeOf226
 v51 := Tryz.zeroValue226
 t105 := Tryz.underlying283
 a105 := Tryz.isAgg283
 z105 := Tryz.sizeOf283
 v105 := Tryz.zeroValue283
 t119 := Tryz.underlying289
 a119 := Tryz.isAgg289
 z119 := Tryz.sizeOf289
 t138 := Tryz.underlying291
 a138 := Tryz.isAgg291
 z138 := Tryz.sizeOf291
 v138 := Tryz.zeroValue291
 t139 := Tryz.underlying292
 a139 := Tryz.isAgg292
 z139 := Tryz.sizeOf292
 v139 := Tryz.zeroValue292
 t146 := Tryz.underlying281
 a146 := Tryz.isAgg281
 z146 := Tryz.sizeOf281
 v146 := Tryz.zeroValue281
 g1 := by kernel_rfl
 g3 := by kernel_rfl
 g4 := by kernel_rfl }
end Go.Proofs
