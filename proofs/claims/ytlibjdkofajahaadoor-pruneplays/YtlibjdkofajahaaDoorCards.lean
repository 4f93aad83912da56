/-
  DERIVED. GIVEN WITH THE SEED: THE CARDS: each row of YtlibjdkofajahaaDoorRows.lean that lists a variable, with what it lists TIED to the program's text (the seventh form; the later family's looks); each row that meets fmt, with fmt's text TOLD by the authors' own Lean function (tested against real Go, not proved from fmt's source: count such statements apart). THE CARD IS WHAT COUNTS. Prove the row's statement (the work); the ties are given (YtlibjdkofajahaaDoorTie.lean); close each card by the builder's one call (the guide's Derived/Test/ToyasCard.lean, 'card_holds'). Laid BY PROGRAM, IN A SANDBOX (cutbox-door.mjs). By AI agents, Wed Nov 11 2026. No macro, syntax, notation, axiom, sorry.
-/
import Derived.Test.YtlibjdkofajahaaDoorRows
import GoSem.ClaimSeven
namespace Go.Proofs.YtlibjdkofajahaaDoor
namespace Rows

/-- THE TIED CARD OF 'witlaw4.PruneOne'. -/
def pruneOneCard : Claim7 := { stood := { row := pruneOneRow, standIns := [], harness := (true, "a908a2d6658b3b3b53e2c7657af7e8f7d4d5107838c2b395627d3896a3d760e5"), looks := true }, kinds := [], alts := [], laidByText := true, laidKinds := [.handle], laidTests := true, laidLooks := .later }
def PruneOneCardSaid : Prop := Claim7.holds Tryd.pinned (.plain (OpenSpec.ofChange pruneOneSpec)) pruneOneCard

/-- THE TIED CARD OF 'witlaw3.PrunePlays'. -/
def prunePlaysCard : Claim7 := { stood := { row := prunePlaysRow, standIns := [], harness := (true, "a908a2d6658b3b3b53e2c7657af7e8f7d4d5107838c2b395627d3896a3d760e5"), looks := true }, kinds := [], alts := [], laidByText := true, laidKinds := [.handle], laidTests := true, laidLooks := .later }
def PrunePlaysCardSaid : Prop := Claim7.holds Tryd.pinned (.plain (OpenSpec.ofChange prunePlaysSpec)) prunePlaysCard

/-- THE SECOND FORM's CARD OF 'witlaw4.PruneOne'. -/
def pruneOneUptoCard : Claim7 := { stood := { row := pruneOneUptoRow, standIns := [], harness := (true, "a908a2d6658b3b3b53e2c7657af7e8f7d4d5107838c2b395627d3896a3d760e5"), looks := true }, kinds := [], alts := [], laidByText := true, laidKinds := [.handle], laidTests := true, laidLooks := .later }
def PruneOneUptoCardSaid : Prop := Claim7.holds Tryd.pinned (.plain (OpenSpec.upto pruneOneSpec)) pruneOneUptoCard

/-- THE SECOND FORM's CARD OF 'witlaw3.PrunePlays'. -/
def prunePlaysUptoCard : Claim7 := { stood := { row := prunePlaysUptoRow, standIns := [], harness := (true, "a908a2d6658b3b3b53e2c7657af7e8f7d4d5107838c2b395627d3896a3d760e5"), looks := true }, kinds := [], alts := [], laidByText := true, laidKinds := [.handle], laidTests := true, laidLooks := .later }
def PrunePlaysUptoCardSaid : Prop := Claim7.holds Tryd.pinned (.plain (OpenSpec.upto prunePlaysSpec)) prunePlaysUptoCard
end Rows
end Go.Proofs.YtlibjdkofajahaaDoor
