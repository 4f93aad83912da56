/-
  From the row's own premise on the library's table of powers of ten to what the walks ask of it.
-/
import Derived.Test.YticadkggaanbjaaGreatDoorRows
import Derived.Test.YticadkggaanbjaaGreatDoorWalkHdLib
import Derived.LaidLaws
import Derived.Lib.LaidTab
import Derived.Stop.LaidErr
namespace Go.Proofs.YticadkggaanbjaaGreatDoor.HandlePow
open Go.RowKit

theorem gType : (Tryz.prog.globals[6]?).map (·.type) = some 247 := by kernel_rfl
theorem cellsT : Tryz.prog.cellsOf 247 = 20 := by kernel_rfl
theorem cellsE : Tryz.prog.cellsOf 177 = 1 := by kernel_rfl
theorem data : (Rows.laid_internal_strconv_uint64pow10 : DataW Unit) = Lib.tabData .u64 Lib.pow10Tab := by kernel_rfl
theorem tabs_of_met {rest : List (String × DataW Unit)} {W : World} (h : laidMet Tryz.prog (("internal/strconv.uint64pow10", Rows.laid_internal_strconv_uint64pow10) :: rest) W) : WalkHdLib.Tabs W := by
  rw [data] at h
  exact ⟨Lib.tabIs_of_head WalkHdLib.gPow gType Tryz.underlying247 Tryz.underlying177 cellsE cellsT h⟩

end Go.Proofs.YticadkggaanbjaaGreatDoor.HandlePow
