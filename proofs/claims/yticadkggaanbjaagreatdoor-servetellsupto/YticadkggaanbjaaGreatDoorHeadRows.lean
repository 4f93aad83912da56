/-
  A head as the walks spell it.
-/
import Derived.Test.YticadkggaanbjaaGreatDoorMirPlain
import Derived.Test.YticadkggaanbjaaGreatDoorRows
import Derived.WalkKit
import Derived.Test.YticadkggaanbjaaGreatDoorListRows
import Derived.Laws.ResultCell
import Derived.Deep.MidRow
import Derived.Deep.OwnRows
namespace Go.Proofs.YticadkggaanbjaaGreatDoor.HeadVals
open Go.RowKit
open Heads (Head)

/-- a head as a value -/
def hv (h : Head) : Value := .agg #[.int .i64 h.size, .int .i64 h.root, .int .i64 h.time, .int .i64 h.sign]
theorem aggH (w : World) : (isAgg 31).run Tryz.prog w = .ok true w := by kernel_rfl
theorem sizeH (w : World) : (sizeOf 31).run Tryz.prog w = .ok 4 w := by kernel_rfl

/-- a head that lies in a block -/
structure At (w : World) (g : Nat) (h : Head) : Prop where
  size : w.cell? ⟨g, 0, none⟩ = some (.int .i64 h.size)
  root : w.cell? ⟨g, 1, none⟩ = some (.int .i64 h.root)
  time : w.cell? ⟨g, 2, none⟩ = some (.int .i64 h.time)
  sign : w.cell? ⟨g, 3, none⟩ = some (.int .i64 h.sign)
theorem At.below {w w' : World} {g : Nat} {h : Head} (a : At w g h) (b : Below w.heap.size w w') : At w' g h := ⟨Lists.cell_below b a.size, Lists.cell_below b a.root, Lists.cell_below b a.time, Lists.cell_below b a.sign⟩
theorem At.new (w : World) (a b c d : Int) : At (w.alloc (.cells #[.int .i64 a, .int .i64 b, .int .i64 c, .int .i64 d] 31)) w.heap.size ⟨a, b, c, d⟩ := ⟨by simp, by simp, by simp, by simp⟩
theorem At.alloc {w : World} {g : Nat} {h : Head} (a : At w g h) (o : Obj) : At (w.alloc o) g h := a.below ((Below.refl _ _).alloc (Nat.le_refl _) o)

end Go.Proofs.YticadkggaanbjaaGreatDoor.HeadVals

/-
  Four numbers in a block, as a head lies.
-/
namespace Go.Proofs.YticadkggaanbjaaGreatDoor.WalkReadRef
open Go.RowKit

/-- four numbers in a block -/
def quad (a b c d : Int) : Nat → Value := fun j => if j = 0 then .int .i64 a else if j = 1 then .int .i64 b else if j = 2 then .int .i64 c else .int .i64 d
theorem quad_new (w : World) (a b c d : Int) : (w.alloc (.cells #[.int .i64 a, .int .i64 b, .int .i64 c, .int .i64 d] 31)).rowIs w.heap.size 31 4 (quad a b c d) := World.rowIs_alloc _ _ _ _ (fun j hj => by match j, hj with | 0, _ | 1, _ | 2, _ | 3, _ => rfl | j + 4, h => simp at h; omega)
theorem quad_set {w : World} {g : Nat} {f : Nat → Value} (h : w.rowIs g 31 4 f) (a b c d : Int) : ((((w.setCell ⟨g, 0, none⟩ (.int .i64 a)).setCell ⟨g, 1, none⟩ (.int .i64 b)).setCell ⟨g, 2, none⟩ (.int .i64 c)).setCell ⟨g, 3, none⟩ (.int .i64 d)).rowIs g 31 4 (quad a b c d) :=
  ((((h.set 0 _).set 1 _).set 2 _).set 3 _).congr fun j hj => by match j, hj with | 0, _ | 1, _ | 2, _ | 3, _ => rfl | j + 4, h => omega
theorem set_below {B : Nat} {w0 w : World} {g : Nat} (h : Below B w0 w) (hg : B ≤ g) (a b c d : Value) : Below B w0 ((((w.setCell ⟨g, 0, none⟩ a).setCell ⟨g, 1, none⟩ b).setCell ⟨g, 2, none⟩ c).setCell ⟨g, 3, none⟩ d) := (((h.setCell hg _).setCell hg _).setCell hg _).setCell hg _

end Go.Proofs.YticadkggaanbjaaGreatDoor.WalkReadRef

