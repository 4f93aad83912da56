/-
  What the program's entry.takeFirst, Encode and Decode return, for every argument.
-/
import Derived.Test.YtigbbhojgajkjaiWalkEntOne
namespace Go.Proofs.Ytigbbhojgajkjai.WalkEntTake
open Go.RowKit
open Lists (Row ints bt)
open Errs (errv errv0 errv_pos)
open Entries (Entry entE take1 takes made dec encV decE decV)
open Nums (str)
open WalkEntOne (aggE sizeE)




end Go.Proofs.Ytigbbhojgajkjai.WalkEntTake
