/-
  What witsame.Tiles returns on two lists that hold the same tiles.
-/
import Derived.Test.YtibmgmadoaencadDoorTileRows
import Derived.Test.YtibmgmadoaencadDoorRows
import Derived.WalkKit
import Derived.BigQuiet
import Derived.Deep.QuietTactic
namespace Go.Proofs.YtibmgmadoaencadDoor.WalkTilesSame
open Go.RowKit
open Wides (Wide)
open Tiles (Tile)
open TileRows (cells)

theorem below_drewN {B : Nat} {a w : World} (h : Below B a w) (n : Nat) : Below B a (w.drewN n) := ⟨h.os, h.tape, h.output, h.size, h.block⟩

theorem aggT (w : World) : (isAgg 30).run Tryd.prog w = .ok true w := by kernel_rfl
theorem sizeT (w : World) : (sizeOf 30).run Tryd.prog w = .ok 3 w := by kernel_rfl


end Go.Proofs.YtibmgmadoaencadDoor.WalkTilesSame
