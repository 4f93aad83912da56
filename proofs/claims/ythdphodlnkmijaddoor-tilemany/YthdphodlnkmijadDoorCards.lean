/-
  DERIVED. GIVEN WITH THE SEED: THE CARDS: each row of YthdphodlnkmijadDoorRows.lean that lists a variable, with what it lists TIED to the program's text (the seventh form; the later family's looks); each row that meets fmt, with fmt's text TOLD by the authors' own Lean function (tested against real Go, not proved from fmt's source: count such statements apart). THE CARD IS WHAT COUNTS. Prove the row's statement (the work); the ties are given (YthdphodlnkmijadDoorTie.lean); close each card by the builder's one call (the guide's Derived/Test/ToyasCard.lean, 'card_holds'). Laid BY PROGRAM, IN A SANDBOX (cutbox-door.mjs). By AI agents, Wed Nov 11 2026. No macro, syntax, notation, axiom, sorry.
-/
import Derived.Test.YthdphodlnkmijadDoorRows
import GoSem.ClaimSeven
namespace Go.Proofs.YthdphodlnkmijadDoor
namespace Rows

/-- THE TIED CARD OF 'witlaw4.TileMany'. -/
def tileManyCard : Claim7 := { stood := { row := tileManyRow, standIns := [], harness := (true, "a3b30c49a4ab76bfa6060a6095fbba85b7834d326a3f34b0830ae2d25450b9b2"), looks := true }, kinds := [], alts := [], laidByText := true, laidKinds := [.handle], laidTests := true, laidLooks := .later }
def TileManyCardSaid : Prop := Claim7.holds Tryd.pinned (.plain (OpenSpec.ofChange tileManySpec)) tileManyCard

/-- THE SECOND FORM's CARD OF 'witlaw4.TileMany'. -/
def tileManyUptoCard : Claim7 := { stood := { row := tileManyUptoRow, standIns := [], harness := (true, "a3b30c49a4ab76bfa6060a6095fbba85b7834d326a3f34b0830ae2d25450b9b2"), looks := true }, kinds := [], alts := [], laidByText := true, laidKinds := [.handle], laidTests := true, laidLooks := .later }
def TileManyUptoCardSaid : Prop := Claim7.holds Tryd.pinned (.plain (OpenSpec.upto tileManySpec)) tileManyUptoCard
end Rows
end Go.Proofs.YthdphodlnkmijadDoor
