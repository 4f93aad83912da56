/-
  From the row's own premise on the library's table of powers of ten to what the walks ask of it.
-/
import Derived.Test.YtigbbhojgajkjaiDoorRows
import Derived.Test.YtigbbhojgajkjaiDoorWalkHdLib
import Derived.LaidLaws
import Derived.Lib.LaidTab
import Derived.Stop.LaidErr
namespace Go.Proofs.YtigbbhojgajkjaiDoor.HandlePow
open Go.RowKit

theorem gType : (Tryd.prog.globals[0]?).map (·.type) = some 101 := by kernel_rfl
theorem cellsT : Tryd.prog.cellsOf 101 = 20 := by kernel_rfl
theorem cellsE : Tryd.prog.cellsOf 90 = 1 := by kernel_rfl
theorem data : (Rows.laid_internal_strconv_uint64pow10 : DataW Unit) = Lib.tabData .u64 Lib.pow10Tab := by kernel_rfl
theorem tabs_of_met {rest : List (String × DataW Unit)} {W : World} (h : laidMet Tryd.prog (("internal/strconv.uint64pow10", Rows.laid_internal_strconv_uint64pow10) :: rest) W) : WalkHdLib.Tabs W := by
  rw [data] at h
  exact ⟨Lib.tabIs_of_head WalkHdLib.gPow gType Tryd.underlying101 Tryd.underlying90 cellsE cellsT h⟩

end Go.Proofs.YtigbbhojgajkjaiDoor.HandlePow
