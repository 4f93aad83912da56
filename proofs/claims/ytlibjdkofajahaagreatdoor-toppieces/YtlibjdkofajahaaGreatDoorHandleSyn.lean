/-
  From the row's own premise on the library's variable ErrSyntax to what the walks ask of it.
-/
import Derived.Test.YtlibjdkofajahaaGreatDoorRows
import Derived.Test.YtlibjdkofajahaaGreatDoorSeAll
import Derived.LaidLaws
import Derived.Stop.LaidErr
namespace Go.Proofs.YtlibjdkofajahaaGreatDoor.HandleSyn
open Go.RowKit

theorem gType : (Tryz.prog.globals[4]?).map (·.type) = some 26 := by kernel_rfl
theorem cellsT : Tryz.prog.cellsOf 174 = 1 := by kernel_rfl
theorem cellsS : Tryz.prog.cellsOf 9 = 1 := by kernel_rfl
theorem star : "*" ++ "errors.errorString" = "*errors.errorString" := by decide
theorem oneRow (u : TypeId) (h : Tryz.prog.typeName? 3 u = some "*errors.errorString") : u = 172 :=
  typeName_ptr_named (P := Tryz.prog) (nm := "errors.errorString") (by rw [star]; kernel_rfl) (by kernel_rfl) (by decide) u (by rw [star]; exact h)
theorem syn_of_met {rest : List (String × DataW Unit)} {W : World} (h : laidMet Tryz.prog (("strconv.ErrSyntax", Rows.laid_strconv_ErrSyntax) :: rest) W) : WalkSeNum.Syn W := by
  obtain ⟨a0, s0, h1, -, -, -⟩ := laid_sentinel h WalkSeNum.gSyn gType Tryz.underlying26 oneRow Tryz.underlying172 Tryz.underlying174 rfl rfl Tryz.underlying9 cellsT cellsS
  exact ⟨_, _, h1⟩

end Go.Proofs.YtlibjdkofajahaaGreatDoor.HandleSyn
