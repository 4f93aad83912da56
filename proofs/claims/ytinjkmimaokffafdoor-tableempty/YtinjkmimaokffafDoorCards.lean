/-
  DERIVED. GIVEN WITH THE SEED: THE CARDS: each row of YtinjkmimaokffafDoorRows.lean that lists a variable, with what it lists TIED to the program's text (the seventh form; the later family's looks); each row that meets fmt, with fmt's text TOLD by the authors' own Lean function (tested against real Go, not proved from fmt's source: count such statements apart). THE CARD IS WHAT COUNTS. Prove the row's statement (the work); the ties are given (YtinjkmimaokffafDoorTie.lean); close each card by the builder's one call (the guide's Derived/Test/ToyasCard.lean, 'card_holds'). Laid BY PROGRAM, IN A SANDBOX (cutbox-door.mjs). By AI agents, Wed Nov 11 2026. No macro, syntax, notation, axiom, sorry.
-/
import Derived.Test.YtinjkmimaokffafDoorRows
import GoSem.ClaimSeven
namespace Go.Proofs.YtinjkmimaokffafDoor
namespace Rows

/-- THE TIED CARD OF 'witlaw4.TableEmpty'. -/
def tableEmptyCard : Claim7 := { stood := { row := tableEmptyRow, standIns := [], harness := (true, "bfc4151844ed3384944d0e7f3508a394cf85009f002c42b8d17e28fe356db5c4"), looks := true }, kinds := [], alts := [], laidByText := true, laidKinds := [.handle], laidTests := true, laidLooks := .later }
def TableEmptyCardSaid : Prop := Claim7.holds Tryd.pinned (.plain (OpenSpec.ofChange tableEmptySpec)) tableEmptyCard

/-- THE SECOND FORM's CARD OF 'witlaw4.TableEmpty'. -/
def tableEmptyUptoCard : Claim7 := { stood := { row := tableEmptyUptoRow, standIns := [], harness := (true, "bfc4151844ed3384944d0e7f3508a394cf85009f002c42b8d17e28fe356db5c4"), looks := true }, kinds := [], alts := [], laidByText := true, laidKinds := [.handle], laidTests := true, laidLooks := .later }
def TableEmptyUptoCardSaid : Prop := Claim7.holds Tryd.pinned (.plain (OpenSpec.upto tableEmptySpec)) tableEmptyUptoCard
end Rows
end Go.Proofs.YtinjkmimaokffafDoor
