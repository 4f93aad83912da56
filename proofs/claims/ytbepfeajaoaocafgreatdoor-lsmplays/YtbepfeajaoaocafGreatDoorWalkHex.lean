/-
  What the program's Print and Parse return, for every number and every text.
-/
import Derived.Test.YtbepfeajaoaocafGreatDoorWalkMix
namespace Go.Proofs.YtbepfeajaoaocafGreatDoor.WalkHex
open Go.RowKit
end Go.Proofs.YtbepfeajaoaocafGreatDoor.WalkHex
