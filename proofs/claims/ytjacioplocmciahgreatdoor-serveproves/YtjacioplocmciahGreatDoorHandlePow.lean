/-
  From the row's own premise on the library's table of powers of ten to what the walks ask of it.
-/
import Derived.Test.YtjacioplocmciahGreatDoorRows
import Derived.Test.YtjacioplocmciahGreatDoorWalkHdLib
import Derived.LaidLaws
import Derived.Lib.LaidTab
import Derived.Stop.LaidErr
namespace Go.Proofs.YtjacioplocmciahGreatDoor.HandlePow
open Go.RowKit

theorem gType : (Tryz.prog.globals[3]?).map (·.type) = some 159 := by kernel_rfl
theorem cellsT : Tryz.prog.cellsOf 159 = 20 := by kernel_rfl
theorem cellsE : Tryz.prog.cellsOf 143 = 1 := by kernel_rfl
theorem data : (Rows.laid_internal_strconv_uint64pow10 : DataW Unit) = Lib.tabData .u64 Lib.pow10Tab := by kernel_rfl
theorem tabs_of_met {rest : List (String × DataW Unit)} {W : World} (h : laidMet Tryz.prog (("internal/strconv.uint64pow10", Rows.laid_internal_strconv_uint64pow10) :: rest) W) : WalkHdLib.Tabs W := by
  rw [data] at h
  exact ⟨Lib.tabIs_of_head WalkHdLib.gPow gType Tryz.underlying159 Tryz.underlying143 cellsE cellsT h⟩

end Go.Proofs.YtjacioplocmciahGreatDoor.HandlePow
