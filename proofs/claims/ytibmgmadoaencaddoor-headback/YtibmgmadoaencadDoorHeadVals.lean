/-
  A head as the walks spell it.
-/
import Derived.Test.YtibmgmadoaencadDoorHeads
import Derived.Test.YtibmgmadoaencadDoorRows
import Derived.WalkKit
import Derived.Test.YtibmgmadoaencadDoorLists
namespace Go.Proofs.YtibmgmadoaencadDoor.HeadVals
open Go.RowKit
open Heads (Head)

/-- a head as a value -/
def hv (h : Head) : Value := .agg #[.int .i64 h.size, .int .i64 h.root, .int .i64 h.time, .int .i64 h.sign]
theorem aggH (w : World) : (isAgg 59).run Tryd.prog w = .ok true w := by kernel_rfl
theorem sizeH (w : World) : (sizeOf 59).run Tryd.prog w = .ok 4 w := by kernel_rfl

/-- a head that lies in a block -/
structure At (w : World) (g : Nat) (h : Head) : Prop where
  size : w.cell? ⟨g, 0, none⟩ = some (.int .i64 h.size)
  root : w.cell? ⟨g, 1, none⟩ = some (.int .i64 h.root)
  time : w.cell? ⟨g, 2, none⟩ = some (.int .i64 h.time)
  sign : w.cell? ⟨g, 3, none⟩ = some (.int .i64 h.sign)
theorem At.below {w w' : World} {g : Nat} {h : Head} (a : At w g h) (b : Below w.heap.size w w') : At w' g h := ⟨Lists.cell_below b a.size, Lists.cell_below b a.root, Lists.cell_below b a.time, Lists.cell_below b a.sign⟩
theorem At.new (w : World) (a b c d : Int) : At (w.alloc (.cells #[.int .i64 a, .int .i64 b, .int .i64 c, .int .i64 d] 59)) w.heap.size ⟨a, b, c, d⟩ := ⟨by simp, by simp, by simp, by simp⟩
theorem At.alloc {w : World} {g : Nat} {h : Head} (a : At w g h) (o : Obj) : At (w.alloc o) g h := a.below ((Below.refl _ _).alloc (Nat.le_refl _) o)

end Go.Proofs.YtibmgmadoaencadDoor.HeadVals
