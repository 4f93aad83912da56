/-
  DERIVED. GIVEN WITH THE SEED: THE CARDS: each row of YtibmgmadoaencabDoorRows.lean that lists a variable, with what it lists TIED to the program's text (the seventh form; the later family's looks); each row that meets fmt, with fmt's text TOLD by the authors' own Lean function (tested against real Go, not proved from fmt's source: count such statements apart). THE CARD IS WHAT COUNTS. Prove the row's statement (the work); the ties are given (YtibmgmadoaencabDoorTie.lean); close each card by the builder's one call (the guide's Derived/Test/ToyasCard.lean, 'card_holds'). Laid BY PROGRAM, IN A SANDBOX (cutbox-door.mjs). By AI agents, Wed Nov 11 2026. No macro, syntax, notation, axiom, sorry.
-/
import Derived.Test.YtibmgmadoaencabDoorRows
import GoSem.ClaimSeven
namespace Go.Proofs.YtibmgmadoaencabDoor
namespace Rows

/-- THE TIED CARD OF 'witlaw1.PeaksTell'. -/
def peaksTellCard : Claim7 := { stood := { row := peaksTellRow, standIns := [], harness := (true, "a1c64df360b53169636b93630b0dc5ac5962b689b9b863e769b1b2636af6df5d"), looks := true }, kinds := [], alts := [], laidByText := true, laidKinds := [.data, .data, .handle], laidTests := true, laidLooks := .later }
def PeaksTellCardSaid : Prop := Claim7.holds Tryd.pinned (.plain (OpenSpec.ofChange peaksTellSpec)) peaksTellCard

/-- THE TIED CARD OF 'witlaw1.PeaksGrow'. -/
def peaksGrowCard : Claim7 := { stood := { row := peaksGrowRow, standIns := [], harness := (true, "a1c64df360b53169636b93630b0dc5ac5962b689b9b863e769b1b2636af6df5d"), looks := true }, kinds := [], alts := [], laidByText := true, laidKinds := [.data, .data], laidTests := true, laidLooks := .later }
def PeaksGrowCardSaid : Prop := Claim7.holds Tryd.pinned (.plain (OpenSpec.ofChange peaksGrowSpec)) peaksGrowCard

/-- THE TIED CARD OF 'witlaw4.PeaksFull'. -/
def peaksFullCard : Claim7 := { stood := { row := peaksFullRow, standIns := [], harness := (true, "a1c64df360b53169636b93630b0dc5ac5962b689b9b863e769b1b2636af6df5d"), looks := true }, kinds := [], alts := [], laidByText := true, laidKinds := [.data, .data, .handle], laidTests := true, laidLooks := .later }
def PeaksFullCardSaid : Prop := Claim7.holds Tryd.pinned (.plain (OpenSpec.ofChange peaksFullSpec)) peaksFullCard

/-- THE TIED CARD OF 'witlaw1.ProofTells'. -/
def proofTellsCard : Claim7 := { stood := { row := proofTellsRow, standIns := [], harness := (true, "a1c64df360b53169636b93630b0dc5ac5962b689b9b863e769b1b2636af6df5d"), looks := true }, kinds := [], alts := [], laidByText := true, laidKinds := [.handle], laidTests := true, laidLooks := .later }
def ProofTellsCardSaid : Prop := Claim7.holds Tryd.pinned (.plain (OpenSpec.ofChange proofTellsSpec)) proofTellsCard

/-- THE SECOND FORM's CARD OF 'witlaw1.PeaksTell'. -/
def peaksTellUptoCard : Claim7 := { stood := { row := peaksTellUptoRow, standIns := [], harness := (true, "a1c64df360b53169636b93630b0dc5ac5962b689b9b863e769b1b2636af6df5d"), looks := true }, kinds := [], alts := [], laidByText := true, laidKinds := [.data, .data, .handle], laidTests := true, laidLooks := .later }
def PeaksTellUptoCardSaid : Prop := Claim7.holds Tryd.pinned (.plain (OpenSpec.upto peaksTellSpec)) peaksTellUptoCard

/-- THE SECOND FORM's CARD OF 'witlaw1.PeaksGrow'. -/
def peaksGrowUptoCard : Claim7 := { stood := { row := peaksGrowUptoRow, standIns := [], harness := (true, "a1c64df360b53169636b93630b0dc5ac5962b689b9b863e769b1b2636af6df5d"), looks := true }, kinds := [], alts := [], laidByText := true, laidKinds := [.data, .data], laidTests := true, laidLooks := .later }
def PeaksGrowUptoCardSaid : Prop := Claim7.holds Tryd.pinned (.plain (OpenSpec.upto peaksGrowSpec)) peaksGrowUptoCard

/-- THE SECOND FORM's CARD OF 'witlaw4.PeaksFull'. -/
def peaksFullUptoCard : Claim7 := { stood := { row := peaksFullUptoRow, standIns := [], harness := (true, "a1c64df360b53169636b93630b0dc5ac5962b689b9b863e769b1b2636af6df5d"), looks := true }, kinds := [], alts := [], laidByText := true, laidKinds := [.data, .data, .handle], laidTests := true, laidLooks := .later }
def PeaksFullUptoCardSaid : Prop := Claim7.holds Tryd.pinned (.plain (OpenSpec.upto peaksFullSpec)) peaksFullUptoCard

/-- THE SECOND FORM's CARD OF 'witlaw1.ProofTells'. -/
def proofTellsUptoCard : Claim7 := { stood := { row := proofTellsUptoRow, standIns := [], harness := (true, "a1c64df360b53169636b93630b0dc5ac5962b689b9b863e769b1b2636af6df5d"), looks := true }, kinds := [], alts := [], laidByText := true, laidKinds := [.handle], laidTests := true, laidLooks := .later }
def ProofTellsUptoCardSaid : Prop := Claim7.holds Tryd.pinned (.plain (OpenSpec.upto proofTellsSpec)) proofTellsUptoCard
end Rows
end Go.Proofs.YtibmgmadoaencabDoor
