/-
  DERIVED. GIVEN WITH THE SEED: THE CARDS: each row of YthaibjidfgmdmahGreatDoorRows.lean that lists a variable, with what it lists TIED to the program's text (the seventh form; the later family's looks); each row that meets fmt, with fmt's text TOLD by the authors' own Lean function (tested against real Go, not proved from fmt's source: count such statements apart). THE CARD IS WHAT COUNTS. Prove the row's statement (the work); the ties are given (YthaibjidfgmdmahGreatDoorTie.lean); close each card by the builder's one call (the guide's Derived/Test/ToyasCard.lean, 'card_holds'). Laid BY PROGRAM, IN A SANDBOX (cutbox-door.mjs). By AI agents, Wed Nov 11 2026. No macro, syntax, notation, axiom, sorry.
-/
import Derived.Test.YthaibjidfgmdmahGreatDoorRows
import GoSem.ClaimSeven
namespace Go.Proofs.YthaibjidfgmdmahGreatDoor
namespace Rows

/-- THE TIED CARD OF 'witlaw2.ServeProves'. -/
def serveProvesCard : Claim7 := { stood := { row := serveProvesRow, standIns := [], harness := (true, "0fcdac2f36b78d96ef32d8ab2b5636425b024f7108ff7c97f87bb61e81f6b513"), looks := true }, kinds := [], alts := [], laidByText := true, laidKinds := [.data, .data, .data, .data, .sentinel, .sentinel, .pinned], laidTests := true, laidLooks := .later }
def ServeProvesCardSaid : Prop := Claim7.holds Tryz.pinned (.plain (OpenSpec.ofChange serveProvesSpec)) serveProvesCard

/-- THE TIED CARD OF 'wittop.TopForks'. -/
def topForksCard : Claim7 := { stood := { row := topForksRow, standIns := [], harness := (true, "0fcdac2f36b78d96ef32d8ab2b5636425b024f7108ff7c97f87bb61e81f6b513"), looks := true }, kinds := [], alts := [], laidByText := true, laidKinds := [.data, .data, .data], laidTests := true, laidLooks := .later }
def TopForksCardSaid : Prop := Claim7.holds Tryz.pinned (.plain (OpenSpec.ofChange topForksSpec)) topForksCard

/-- THE SECOND FORM's CARD OF 'witlaw2.ServeProves'. -/
def serveProvesUptoCard : Claim7 := { stood := { row := serveProvesUptoRow, standIns := [], harness := (true, "0fcdac2f36b78d96ef32d8ab2b5636425b024f7108ff7c97f87bb61e81f6b513"), looks := true }, kinds := [], alts := [], laidByText := true, laidKinds := [.data, .data, .data, .data, .sentinel, .sentinel, .pinned], laidTests := true, laidLooks := .later }
def ServeProvesUptoCardSaid : Prop := Claim7.holds Tryz.pinned (.plain (OpenSpec.upto serveProvesSpec)) serveProvesUptoCard

/-- THE SECOND FORM's CARD OF 'wittop.TopForks'. -/
def topForksUptoCard : Claim7 := { stood := { row := topForksUptoRow, standIns := [], harness := (true, "0fcdac2f36b78d96ef32d8ab2b5636425b024f7108ff7c97f87bb61e81f6b513"), looks := true }, kinds := [], alts := [], laidByText := true, laidKinds := [.data, .data, .data], laidTests := true, laidLooks := .later }
def TopForksUptoCardSaid : Prop := Claim7.holds Tryz.pinned (.plain (OpenSpec.upto topForksSpec)) topForksUptoCard
end Rows
end Go.Proofs.YthaibjidfgmdmahGreatDoor
