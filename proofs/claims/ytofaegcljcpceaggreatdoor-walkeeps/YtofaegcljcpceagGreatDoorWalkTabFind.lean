/-
  What the program's search among keys returns: strings.Compare, and slices.BinarySearchFunc as package table calls it.
-/
import Derived.Test.YtofaegcljcpceagGreatDoorSpots
import Derived.Test.YtofaegcljcpceagGreatDoorPairRows
import Derived.Test.YtofaegcljcpceagGreatDoorRows
import Derived.Test.YtofaegcljcpceagGreatDoorKeeps
import Derived.Shelf.Abstract
import Derived.Lib.Bytealg
import Derived.Laws.Externs
import Derived.Deep.DeepMust
import Derived.Deep.CutBlock
namespace Go.Proofs.YtofaegcljcpceagGreatDoor.WalkTabFind
open Go.RowKit
open Lists (bt)
open Wides (Wide)
open Stores (Pair lt Rising)
open PairRows (cells)
open Spots (cmp Spot)

theorem aggP (w : World) : (isAgg 31).run Tryz.prog w = .ok true w := by kernel_rfl
theorem sizeP (w : World) : (sizeOf 31).run Tryz.prog w = .ok 3 w := by kernel_rfl

set_option maxHeartbeats 1000000 in
set_option maxRecDepth 100000 in
theorem cmpstring_any (a b : ByteArray) (w : World) : Calls Tryz.prog 72 #[.string a, .string b] w fun e w' => e = .returned (.int .i64 (cmp a b)) ∧ w' = w := by
  rw [← Spots.compare_eq]
  go_enter Tryz.func72, Tryz.ntmps72
  go_wp2_with fail
  rw [run_callFunc_extern Tryz.func88 (by kernel_rfl) (by kernel_rfl) (by kernel_rfl) (e := Extern.BytealgCompare.compare) (by kernel_rfl), Lib.run_compareString]
  simp only [Result.andThen]
  rw [Oper.upon_value]
  go_wp2_with fail
  go_ret
  exact ⟨rfl, rfl⟩

theorem compare_any (a b : ByteArray) (w : World) : Calls Tryz.prog 46 #[.string a, .string b] w fun e w' => e = .returned (.int .i64 (cmp a b)) ∧ w' = w := by
  go_enter Tryz.func46, Tryz.ntmps46
  go_wp2_with fail
  refine (cmpstring_any a b _).mono ?_
  rintro e w1 ⟨rfl, rfl⟩
  go_wp2_with fail
  go_ret
  exact ⟨rfl, rfl⟩

end Go.Proofs.YtofaegcljcpceagGreatDoor.WalkTabFind
