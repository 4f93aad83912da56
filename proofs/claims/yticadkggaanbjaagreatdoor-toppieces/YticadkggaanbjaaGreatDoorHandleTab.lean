/-
  From the row's own premise on the library's table of math/bits to its cells.
-/
import Derived.Test.YticadkggaanbjaaGreatDoorRows
import Derived.Test.YticadkggaanbjaaGreatDoorWalkBits
import Derived.LaidLaws
import Derived.Lib.LaidTab
import Derived.Stop.LaidErr
namespace Go.Proofs.YticadkggaanbjaaGreatDoor.HandleTab
open Go.RowKit

theorem gTab : Tryz.prog.globalNamed "math/bits.deBruijn64tab" = some 2 := by kernel_rfl
theorem gTabType : (Tryz.prog.globals[2]?).map (·.type) = some 203 := by kernel_rfl
theorem cellsT : Tryz.prog.cellsOf 203 = 64 := by kernel_rfl
theorem cellsE : Tryz.prog.cellsOf 5 = 1 := by kernel_rfl
theorem data : (Rows.laid_math_bits_deBruijn64tab : DataW Unit) = Lib.tabData .u8 (Lib.deBruijn64tab.map Int.ofNat) := by kernel_rfl
theorem tab_of_met {rest : List (String × DataW Unit)} {W : World} (h : laidMet Tryz.prog (("math/bits.deBruijn64tab", Rows.laid_math_bits_deBruijn64tab) :: rest) W) : WalkBits.Tab W := by
  rw [data] at h
  have t := Lib.tabIs_of_head gTab gTabType Tryz.underlying203 Tryz.underlying5 cellsE cellsT h
  intro j hj
  have hl : Lib.deBruijn64tab.length = 64 := by decide +kernel
  rw [t.cell gTab j (by rw [List.length_map, hl]; exact hj)]
  simp [List.getD_eq_getElem?_getD, List.getElem?_eq_getElem (by rw [hl]; exact hj : j < Lib.deBruijn64tab.length)]

end Go.Proofs.YticadkggaanbjaaGreatDoor.HandleTab
