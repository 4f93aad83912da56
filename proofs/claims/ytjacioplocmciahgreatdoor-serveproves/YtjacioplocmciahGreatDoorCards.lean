/-
  DERIVED. GIVEN WITH THE SEED: THE CARDS: each row of YtjacioplocmciahGreatDoorRows.lean that lists a variable, with what it lists TIED to the program's text (the seventh form; the later family's looks); each row that meets fmt, with fmt's text TOLD by the authors' own Lean function (tested against real Go, not proved from fmt's source: count such statements apart). THE CARD IS WHAT COUNTS. Prove the row's statement (the work); the ties are given (YtjacioplocmciahGreatDoorTie.lean); close each card by the builder's one call (the guide's Derived/Test/ToyasCard.lean, 'card_holds'). Laid BY PROGRAM, IN A SANDBOX (cutbox-door.mjs). By AI agents, Wed Nov 11 2026. No macro, syntax, notation, axiom, sorry.
-/
import Derived.Test.YtjacioplocmciahGreatDoorRows
import GoSem.ClaimSeven
namespace Go.Proofs.YtjacioplocmciahGreatDoor
namespace Rows

/-- THE TIED CARD OF 'witlaw2.ServeProves'. -/
def serveProvesCard : Claim7 := { stood := { row := serveProvesRow, standIns := [], harness := (true, "047fb3441fd7c91ec62d8054b048d0d68fe8f31badc927b8fb32cb0495026ce6"), looks := true }, kinds := [], alts := [], laidByText := true, laidKinds := [.data, .data, .data, .data, .sentinel, .sentinel, .pinned], laidTests := true, laidLooks := .later }
def ServeProvesCardSaid : Prop := Claim7.holds Tryz.pinned (.plain (OpenSpec.ofChange serveProvesSpec)) serveProvesCard

/-- THE SECOND FORM's CARD OF 'witlaw2.ServeProves'. -/
def serveProvesUptoCard : Claim7 := { stood := { row := serveProvesUptoRow, standIns := [], harness := (true, "047fb3441fd7c91ec62d8054b048d0d68fe8f31badc927b8fb32cb0495026ce6"), looks := true }, kinds := [], alts := [], laidByText := true, laidKinds := [.data, .data, .data, .data, .sentinel, .sentinel, .pinned], laidTests := true, laidLooks := .later }
def ServeProvesUptoCardSaid : Prop := Claim7.holds Tryz.pinned (.plain (OpenSpec.upto serveProvesSpec)) serveProvesUptoCard
end Rows
end Go.Proofs.YtjacioplocmciahGreatDoor
