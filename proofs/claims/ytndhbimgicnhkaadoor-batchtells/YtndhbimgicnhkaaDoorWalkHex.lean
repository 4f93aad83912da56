/-
  What the program's Print and Parse return, for every number and every text.
-/
import Derived.Test.YtndhbimgicnhkaaDoorWalkMix
namespace Go.Proofs.YtndhbimgicnhkaaDoor.WalkHex
open Go.RowKit
end Go.Proofs.YtndhbimgicnhkaaDoor.WalkHex
