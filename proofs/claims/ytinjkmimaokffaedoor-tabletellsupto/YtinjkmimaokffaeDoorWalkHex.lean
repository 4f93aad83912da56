/-
  What the program's Print and Parse return, for every number and every text.
-/
import Derived.Test.YtinjkmimaokffaeDoorWalkMix
namespace Go.Proofs.YtinjkmimaokffaeDoor.WalkHex
open Go.RowKit
end Go.Proofs.YtinjkmimaokffaeDoor.WalkHex
