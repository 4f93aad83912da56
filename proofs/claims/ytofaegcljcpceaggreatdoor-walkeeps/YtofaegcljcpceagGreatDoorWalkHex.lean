/-
  What the program's Print and Parse return, for every number and every text.
-/
import Derived.Test.YtofaegcljcpceagGreatDoorWalkMix
namespace Go.Proofs.YtofaegcljcpceagGreatDoor.WalkHex
open Go.RowKit
end Go.Proofs.YtofaegcljcpceagGreatDoor.WalkHex
