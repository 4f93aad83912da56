/-
  What the program's Print and Parse return, for every number and every text.
-/
import Derived.Test.YtigbbhojgajkjaiWalkMix
namespace Go.Proofs.Ytigbbhojgajkjai.WalkHex
open Go.RowKit
end Go.Proofs.Ytigbbhojgajkjai.WalkHex
