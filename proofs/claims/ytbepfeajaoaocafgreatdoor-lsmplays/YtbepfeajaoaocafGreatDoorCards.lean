/-
  DERIVED. GIVEN WITH THE SEED: THE CARDS: each row of YtbepfeajaoaocafGreatDoorRows.lean that lists a variable, with what it lists TIED to the program's text (the seventh form; the later family's looks); each row that meets fmt, with fmt's text TOLD by the authors' own Lean function (tested against real Go, not proved from fmt's source: count such statements apart). THE CARD IS WHAT COUNTS. Prove the row's statement (the work); the ties are given (YtbepfeajaoaocafGreatDoorTie.lean); close each card by the builder's one call (the guide's Derived/Test/ToyasCard.lean, 'card_holds'). Laid BY PROGRAM, IN A SANDBOX (cutbox-door.mjs). By AI agents, Wed Nov 11 2026. No macro, syntax, notation, axiom, sorry.
-/
import Derived.Test.YtbepfeajaoaocafGreatDoorRows
import GoSem.ClaimSeven
namespace Go.Proofs.YtbepfeajaoaocafGreatDoor
namespace Rows

/-- THE TIED CARD OF 'witlaw4.LsmMerges'. -/
def lsmMergesCard : Claim7 := { stood := { row := lsmMergesRow, standIns := [], harness := (true, "5458078fe5ca9716ae2b806bcce16a5984b0e52646277a1e3533aa607c0160ba"), looks := true }, kinds := [], alts := [], laidByText := true, laidKinds := [.handle], laidTests := true, laidLooks := .later }
def LsmMergesCardSaid : Prop := Claim7.holds Tryz.pinned (.plain (OpenSpec.ofChange lsmMergesSpec)) lsmMergesCard

/-- THE TIED CARD OF 'witlaw2.LsmPlays'. -/
def lsmPlaysCard : Claim7 := { stood := { row := lsmPlaysRow, standIns := [], harness := (true, "5458078fe5ca9716ae2b806bcce16a5984b0e52646277a1e3533aa607c0160ba"), looks := true }, kinds := [], alts := [], laidByText := true, laidKinds := [.handle], laidTests := true, laidLooks := .later }
def LsmPlaysCardSaid : Prop := Claim7.holds Tryz.pinned (.plain (OpenSpec.ofChange lsmPlaysSpec)) lsmPlaysCard

/-- THE SECOND FORM's CARD OF 'witlaw4.LsmMerges'. -/
def lsmMergesUptoCard : Claim7 := { stood := { row := lsmMergesUptoRow, standIns := [], harness := (true, "5458078fe5ca9716ae2b806bcce16a5984b0e52646277a1e3533aa607c0160ba"), looks := true }, kinds := [], alts := [], laidByText := true, laidKinds := [.handle], laidTests := true, laidLooks := .later }
def LsmMergesUptoCardSaid : Prop := Claim7.holds Tryz.pinned (.plain (OpenSpec.upto lsmMergesSpec)) lsmMergesUptoCard

/-- THE SECOND FORM's CARD OF 'witlaw2.LsmPlays'. -/
def lsmPlaysUptoCard : Claim7 := { stood := { row := lsmPlaysUptoRow, standIns := [], harness := (true, "5458078fe5ca9716ae2b806bcce16a5984b0e52646277a1e3533aa607c0160ba"), looks := true }, kinds := [], alts := [], laidByText := true, laidKinds := [.handle], laidTests := true, laidLooks := .later }
def LsmPlaysUptoCardSaid : Prop := Claim7.holds Tryz.pinned (.plain (OpenSpec.upto lsmPlaysSpec)) lsmPlaysUptoCard
end Rows
end Go.Proofs.YtbepfeajaoaocafGreatDoor
