/-
  DERIVED. GIVEN WITH THE SEED: THE CARDS: each row of YtjacioplocmciahDoorRows.lean that lists a variable, with what it lists TIED to the program's text (the seventh form; the later family's looks); each row that meets fmt, with fmt's text TOLD by the authors' own Lean function (tested against real Go, not proved from fmt's source: count such statements apart). THE CARD IS WHAT COUNTS. Prove the row's statement (the work); the ties are given (YtjacioplocmciahDoorTie.lean); close each card by the builder's one call (the guide's Derived/Test/ToyasCard.lean, 'card_holds'). Laid BY PROGRAM, IN A SANDBOX (cutbox-door.mjs). By AI agents, Wed Nov 11 2026. No macro, syntax, notation, axiom, sorry.
-/
import Derived.Test.YtjacioplocmciahDoorRows
import GoSem.ClaimSeven
namespace Go.Proofs.YtjacioplocmciahDoor
namespace Rows

/-- THE TIED CARD OF 'witlaw4.MirrorPages'. -/
def mirrorPagesCard : Claim7 := { stood := { row := mirrorPagesRow, standIns := [], harness := (true, "04913fb208f6f19162fb177e46cb37eaa8f92d0e3252b8f03f4ae691ae2e7fe7"), looks := false }, kinds := [], alts := [], laidByText := true, laidKinds := [.data, .data, .data], laidTests := true, laidLooks := .later }
def MirrorPagesCardSaid : Prop := Claim7.holds Tryd.pinned (.plain (OpenSpec.ofChange mirrorPagesSpec)) mirrorPagesCard

/-- THE SECOND FORM's CARD OF 'witlaw4.MirrorPages'. -/
def mirrorPagesUptoCard : Claim7 := { stood := { row := mirrorPagesUptoRow, standIns := [], harness := (true, "04913fb208f6f19162fb177e46cb37eaa8f92d0e3252b8f03f4ae691ae2e7fe7"), looks := false }, kinds := [], alts := [], laidByText := true, laidKinds := [.data, .data, .data], laidTests := true, laidLooks := .later }
def MirrorPagesUptoCardSaid : Prop := Claim7.holds Tryd.pinned (.plain (OpenSpec.upto mirrorPagesSpec)) mirrorPagesUptoCard
end Rows
end Go.Proofs.YtjacioplocmciahDoor
