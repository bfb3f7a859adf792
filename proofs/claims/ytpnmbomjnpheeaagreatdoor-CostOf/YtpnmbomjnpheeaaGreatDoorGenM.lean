/-
 What the library's generic contracts ask of this program, laid at its numbers: facts of the program alone.
-/
import Derived.Shelf.SlMaps.Clone
import Derived.Test.YtpnmbomjnpheeaaGreatDoorProg
namespace Go.Proofs
open Go.Shelf
def Tryz.laysCloneM_ren : Go.Shelf.Ren := ⟨fun | 5 => 108 | 7 => 116 | n => n, fun | 23 => 120 | 25 => 187 | 3 => 3 | 4 => 4 | 20 => 20 | n => n, fun | n => n⟩
theorem Tryz.laysCloneM : Go.Proofs.SlLaysW.n5 Tryz.prog Tryz.laysCloneM_ren := {
 mixed := by kernel_rfl
 f5 := ⟨Tryz.f108.name, by decide, Tryz.func108.trans (congrArg some (by kernel_rfl))⟩
 f7 := Tryz.func116.trans (congrArg some (by kernel_rfl))
 t4 := Tryz.underlying4
 a4 := Tryz.isAgg4
 z4 := Tryz.sizeOf4
 v4 := Tryz.zeroValue4
 t20 := Tryz.underlying20
 a20 := Tryz.isAgg20
 z20 := Tryz.sizeOf20
 v20 := Tryz.zeroValue20
 t23 := Tryz.underlying120
 a23 := Tryz.isAgg120
 z23 := Tryz.sizeOf120
 v23 := Tryz.zeroValue120 }
end Go.Proofs
