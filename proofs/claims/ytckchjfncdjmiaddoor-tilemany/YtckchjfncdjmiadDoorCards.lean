/-
  DERIVED. GIVEN WITH THE SEED: THE CARDS: each row of YtckchjfncdjmiadDoorRows.lean that lists a variable, with what it lists TIED to the program's text (the seventh form; the later family's looks); each row that meets fmt, with fmt's text TOLD by the authors' own Lean function (tested against real Go, not proved from fmt's source: count such statements apart). THE CARD IS WHAT COUNTS. Prove the row's statement (the work); the ties are given (YtckchjfncdjmiadDoorTie.lean); close each card by the builder's one call (the guide's Derived/Test/ToyasCard.lean, 'card_holds'). Laid BY PROGRAM, IN A SANDBOX (cutbox-door.mjs). By AI agents, Wed Nov 11 2026. No macro, syntax, notation, axiom, sorry.
-/
import Derived.Test.YtckchjfncdjmiadDoorRows
import GoSem.ClaimSeven
namespace Go.Proofs.YtckchjfncdjmiadDoor
namespace Rows

/-- THE TIED CARD OF 'witlaw4.TileMany'. -/
def tileManyCard : Claim7 := { stood := { row := tileManyRow, standIns := [], harness := (true, "42d58e0e86f47d4f9b174c9e71e5249200ff7edaf41a05240accf34bab601e8b"), looks := true }, kinds := [], alts := [], laidByText := true, laidKinds := [.handle], laidTests := true, laidLooks := .later }
def TileManyCardSaid : Prop := Claim7.holds Tryd.pinned (.plain (OpenSpec.ofChange tileManySpec)) tileManyCard

/-- THE TIED CARD OF 'witlaw1.EntryTells'. -/
def entryTellsCard : Claim7 := { stood := { row := entryTellsRow, standIns := [], harness := (true, "42d58e0e86f47d4f9b174c9e71e5249200ff7edaf41a05240accf34bab601e8b"), looks := true }, kinds := [], alts := [], laidByText := true, laidKinds := [.handle], laidTests := true, laidLooks := .later }
def EntryTellsCardSaid : Prop := Claim7.holds Tryd.pinned (.plain (OpenSpec.ofChange entryTellsSpec)) entryTellsCard

/-- THE SECOND FORM's CARD OF 'witlaw4.TileMany'. -/
def tileManyUptoCard : Claim7 := { stood := { row := tileManyUptoRow, standIns := [], harness := (true, "42d58e0e86f47d4f9b174c9e71e5249200ff7edaf41a05240accf34bab601e8b"), looks := true }, kinds := [], alts := [], laidByText := true, laidKinds := [.handle], laidTests := true, laidLooks := .later }
def TileManyUptoCardSaid : Prop := Claim7.holds Tryd.pinned (.plain (OpenSpec.upto tileManySpec)) tileManyUptoCard

/-- THE SECOND FORM's CARD OF 'witlaw1.EntryTells'. -/
def entryTellsUptoCard : Claim7 := { stood := { row := entryTellsUptoRow, standIns := [], harness := (true, "42d58e0e86f47d4f9b174c9e71e5249200ff7edaf41a05240accf34bab601e8b"), looks := true }, kinds := [], alts := [], laidByText := true, laidKinds := [.handle], laidTests := true, laidLooks := .later }
def EntryTellsUptoCardSaid : Prop := Claim7.holds Tryd.pinned (.plain (OpenSpec.upto entryTellsSpec)) entryTellsUptoCard
end Rows
end Go.Proofs.YtckchjfncdjmiadDoor
