/-
  What the program's Print and Parse return, for every number and every text.
-/
import Derived.Test.YtckchjfncdjmiadDoorWalkMix
namespace Go.Proofs.YtckchjfncdjmiadDoor.WalkHex
open Go.RowKit
end Go.Proofs.YtckchjfncdjmiadDoor.WalkHex
