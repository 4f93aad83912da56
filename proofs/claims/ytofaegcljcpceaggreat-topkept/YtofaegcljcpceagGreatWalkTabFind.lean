/-
  What the program's search among keys returns: strings.Compare, and slices.BinarySearchFunc as package table calls it.
-/
import Derived.Test.YtofaegcljcpceagGreatSpots
import Derived.Test.YtofaegcljcpceagGreatPairRows
import Derived.Test.YtofaegcljcpceagGreatRows
import Derived.Test.YtofaegcljcpceagGreatKeeps
import Derived.Shelf.Abstract
import Derived.Lib.Bytealg
import Derived.Laws.Externs
import Derived.Deep.DeepMust
import Derived.Deep.CutBlock
namespace Go.Proofs.YtofaegcljcpceagGreat.WalkTabFind
open Go.RowKit
open Lists (bt)
open Wides (Wide)
open Stores (Pair lt Rising)
open PairRows (cells)
open Spots (cmp Spot)

theorem aggP (w : World) : (isAgg 39).run Tryz.prog w = .ok true w := by kernel_rfl
theorem sizeP (w : World) : (sizeOf 39).run Tryz.prog w = .ok 3 w := by kernel_rfl

set_option maxHeartbeats 1000000 in
set_option maxRecDepth 100000 in
theorem cmpstring_any (a b : ByteArray) (w : World) : Calls Tryz.prog 90 #[.string a, .string b] w fun e w' => e = .returned (.int .i64 (cmp a b)) ∧ w' = w := by
  rw [← Spots.compare_eq]
  go_enter Tryz.func90, Tryz.ntmps90
  go_wp2_with fail
  rw [run_callFunc_extern Tryz.func100 (by kernel_rfl) (by kernel_rfl) (by kernel_rfl) (e := Extern.BytealgCompare.compare) (by kernel_rfl), Lib.run_compareString]
  simp only [Result.andThen]
  rw [Oper.upon_value]
  go_wp2_with fail
  go_ret
  exact ⟨rfl, rfl⟩

theorem compare_any (a b : ByteArray) (w : World) : Calls Tryz.prog 64 #[.string a, .string b] w fun e w' => e = .returned (.int .i64 (cmp a b)) ∧ w' = w := by
  go_enter Tryz.func64, Tryz.ntmps64
  go_wp2_with fail
  refine (cmpstring_any a b _).mono ?_
  rintro e w1 ⟨rfl, rfl⟩
  go_wp2_with fail
  go_ret
  exact ⟨rfl, rfl⟩

end Go.Proofs.YtofaegcljcpceagGreat.WalkTabFind
