/-
  What the program's package head answers, for every argument: the contracts that the walks of the laws use.
-/
import Derived.Test.YtibmgmadoaencaeWalkHdOne
namespace Go.Proofs.Ytibmgmadoaencae.WalkHd
open Go.RowKit
open Errs (errv)
open Heads (Head headE betterV betterE)
open HeadVals (hv)

theorem check_any (h : Head) (w : World) : Calls Try.prog 13 #[hv h] w fun e w' => e = .returned (errv (headE h)) ∧ Below w.heap.size w w' := WalkHdOne.check_any h w
theorem better_any (a b : Head) (w : World) : Calls Try.prog 5 #[hv a, hv b] w fun e w' => e = .returned (.tuple #[.bool (betterV a b), errv (betterE a b)]) ∧ Below w.heap.size w w' := WalkHdOne.better_any a b w

end Go.Proofs.Ytibmgmadoaencae.WalkHd
