/-
  From what a row lists of package-level variables to what the walks ask: strconv's table of powers, ErrBound and ErrName.
-/
import Derived.Test.YtgdhfipbbijngaaGreatDoorLaid
import Derived.Test.YtgdhfipbbijngaaGreatDoorBzA
import Derived.LaidMore
import Derived.Lib.LaidTab
namespace Go.Proofs.YtgdhfipbbijngaaGreatDoor
open Go.ChangeShapes Go.WideShapes Go.RowKit

theorem Tryz.gPow : Tryz.prog.globalNamed "internal/strconv.uint64pow10" = some 14 := by kernel_rfl
theorem Tryz.gPowType : (Tryz.prog.globals[14]?).map (·.type) = some 135 := by kernel_rfl
theorem Tryz.cellsPow : Tryz.prog.cellsOf 135 = 20 := by kernel_rfl
theorem Tryz.cellsU64 : Tryz.prog.cellsOf 124 = 1 := by kernel_rfl
theorem pow_of_laid {W : World} {rest : List (String × DataW Unit)} (h : laidMet Tryz.prog (("internal/strconv.uint64pow10", Rows.laid_internal_strconv_uint64pow10) :: rest) W) : Pow W :=
  Lib.tabIs_of_head (k := .u64) (zs := Lib.pow10Tab) Tryz.gPow Tryz.gPowType Tryz.underlying135 Tryz.underlying124 Tryz.cellsU64 Tryz.cellsPow h
/-- The two, as a row lists them. -/
def twoList : List (Nat × String × List UInt8) := [
  (2, "tithebarn/api.ErrBound", [116, 105, 116, 104, 101, 98, 97, 114, 110, 58, 32, 98, 111, 117, 110, 100]),
  (4, "tithebarn/api.ErrName", [116, 105, 116, 104, 101, 98, 97, 114, 110, 58, 32, 110, 97, 109, 101])]
theorem twoList_ok : (twoList.all fun x => decide (Tryz.prog.globalNamed x.2.1 = some x.1) && decide ((Tryz.prog.globals[x.1]?).map (·.type) = some 33)) = true := by kernel_rfl
theorem two_of_laid {W : World} (h : laidMet Tryz.prog (twoList.map fun x => (x.2.1, errD x.2.2)) W) : ∃ s, Two W s := by
  obtain ⟨ps, hl, hnd, hrows⟩ := h
  obtain ⟨al, _, _, _, hrow⟩ := sents_of_laid twoList ps (fun x hx => by
    have := List.all_eq_true.1 twoList_ok x hx
    simpa using this) hl hnd hrows
  refine ⟨fun i => if i = 1 then al.getD 0 ⟨0, 0, none⟩ else al.getD 1 ⟨0, 0, none⟩, ?_, ?_⟩
  · exact (hrow 0 (by decide)).1
  · exact (hrow 1 (by decide)).1
end Go.Proofs.YtgdhfipbbijngaaGreatDoor
