/-
  From the row's own premise on the library's table of powers of ten to what the walks ask of it.
-/
import Derived.Test.YtjacioplocmciagDoorRows
import Derived.Test.YtjacioplocmciagDoorWalkHdLib
import Derived.LaidLaws
import Derived.Lib.LaidTab
import Derived.Stop.LaidErr
namespace Go.Proofs.YtjacioplocmciagDoor.HandlePow
open Go.RowKit

theorem gType : (Tryd.prog.globals[0]?).map (·.type) = some 124 := by kernel_rfl
theorem cellsT : Tryd.prog.cellsOf 124 = 20 := by kernel_rfl
theorem cellsE : Tryd.prog.cellsOf 113 = 1 := by kernel_rfl
theorem data : (Rows.laid_internal_strconv_uint64pow10 : DataW Unit) = Lib.tabData .u64 Lib.pow10Tab := by kernel_rfl
theorem tabs_of_met {rest : List (String × DataW Unit)} {W : World} (h : laidMet Tryd.prog (("internal/strconv.uint64pow10", Rows.laid_internal_strconv_uint64pow10) :: rest) W) : WalkHdLib.Tabs W := by
  rw [data] at h
  exact ⟨Lib.tabIs_of_head WalkHdLib.gPow gType Tryd.underlying124 Tryd.underlying113 cellsE cellsT h⟩

end Go.Proofs.YtjacioplocmciagDoor.HandlePow
