/-
  From the row's own premise on the library's variable ErrSyntax to what the walks ask of it.
-/
import Derived.Test.YticadkggaanbjaaGreatDoorRows
import Derived.Test.YticadkggaanbjaaGreatDoorSeAll
import Derived.LaidLaws
import Derived.Stop.LaidErr
namespace Go.Proofs.YticadkggaanbjaaGreatDoor.HandleSyn
open Go.RowKit

theorem gType : (Tryz.prog.globals[4]?).map (·.type) = some 26 := by kernel_rfl
theorem cellsT : Tryz.prog.cellsOf 261 = 1 := by kernel_rfl
theorem cellsS : Tryz.prog.cellsOf 9 = 1 := by kernel_rfl
theorem star : "*" ++ "errors.errorString" = "*errors.errorString" := by decide
theorem oneRow (u : TypeId) (h : Tryz.prog.typeName? 3 u = some "*errors.errorString") : u = 259 :=
  typeName_ptr_named (P := Tryz.prog) (nm := "errors.errorString") (by rw [star]; kernel_rfl) (by kernel_rfl) (by decide) u (by rw [star]; exact h)
theorem syn_of_met {rest : List (String × DataW Unit)} {W : World} (h : laidMet Tryz.prog (("strconv.ErrSyntax", Rows.laid_strconv_ErrSyntax) :: rest) W) : WalkSeNum.Syn W := by
  obtain ⟨a0, s0, h1, -, -, -⟩ := laid_sentinel h WalkSeNum.gSyn gType Tryz.underlying26 oneRow Tryz.underlying259 Tryz.underlying261 rfl rfl Tryz.underlying9 cellsT cellsS
  exact ⟨_, _, h1⟩

end Go.Proofs.YticadkggaanbjaaGreatDoor.HandleSyn
