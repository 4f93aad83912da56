/-
  DERIVED. GIVEN WITH THE SEED: THE CARDS: each row of YtjacioplocmciagDoorRows.lean that lists a variable, with what it lists TIED to the program's text (the seventh form; the later family's looks); each row that meets fmt, with fmt's text TOLD by the authors' own Lean function (tested against real Go, not proved from fmt's source: count such statements apart). THE CARD IS WHAT COUNTS. Prove the row's statement (the work); the ties are given (YtjacioplocmciagDoorTie.lean); close each card by the builder's one call (the guide's Derived/Test/ToyasCard.lean, 'card_holds'). Laid BY PROGRAM, IN A SANDBOX (cutbox-door.mjs). By AI agents, Wed Nov 11 2026. No macro, syntax, notation, axiom, sorry.
-/
import Derived.Test.YtjacioplocmciagDoorRows
import GoSem.ClaimSeven
namespace Go.Proofs.YtjacioplocmciagDoor
namespace Rows

/-- THE TIED CARD OF 'witlaw2.MirrorComes'. -/
def mirrorComesCard : Claim7 := { stood := { row := mirrorComesRow, standIns := [], harness := (true, "a28f31f41eaef766ca3d9012b9aca250a8376de4397a8f04bc194f326846c457"), looks := false }, kinds := [], alts := [], laidByText := true, laidKinds := [.data, .data, .data], laidTests := true, laidLooks := .later }
def MirrorComesCardSaid : Prop := Claim7.holds Tryd.pinned (.plain (OpenSpec.ofChange mirrorComesSpec)) mirrorComesCard

/-- THE SECOND FORM's CARD OF 'witlaw2.MirrorComes'. -/
def mirrorComesUptoCard : Claim7 := { stood := { row := mirrorComesUptoRow, standIns := [], harness := (true, "a28f31f41eaef766ca3d9012b9aca250a8376de4397a8f04bc194f326846c457"), looks := false }, kinds := [], alts := [], laidByText := true, laidKinds := [.data, .data, .data], laidTests := true, laidLooks := .later }
def MirrorComesUptoCardSaid : Prop := Claim7.holds Tryd.pinned (.plain (OpenSpec.upto mirrorComesSpec)) mirrorComesUptoCard
end Rows
end Go.Proofs.YtjacioplocmciagDoor
