/-
  DERIVED. GIVEN WITH THE SEED: THE CARDS: each row of YtjafpcmganheeabDoorRows.lean that lists a variable, with what it lists TIED to the program's text (the seventh form; the later family's looks); each row that meets fmt, with fmt's text TOLD by the authors' own Lean function (tested against real Go, not proved from fmt's source: count such statements apart). THE CARD IS WHAT COUNTS. Prove the row's statement (the work); the ties are given (YtjafpcmganheeabDoorTie.lean); close each card by the builder's one call (the guide's Derived/Test/ToyasCard.lean, 'card_holds'). Laid BY PROGRAM, IN A SANDBOX (cutbox-door.mjs). By AI agents, Wed Nov 11 2026. No macro, syntax, notation, axiom, sorry.
-/
import Derived.Test.YtjafpcmganheeabDoorRows
import GoSem.ClaimSeven
namespace Go.Proofs.YtjafpcmganheeabDoor
namespace Rows

/-- THE TIED CARD OF 'witlaw1.PeaksTell'. -/
def peaksTellCard : Claim7 := { stood := { row := peaksTellRow, standIns := [], harness := (true, "d0187f2c2093e6b188e4ca37edd01fd99deee5d02de520be6d20e5068ff83709"), looks := true }, kinds := [], alts := [], laidByText := true, laidKinds := [.data, .data, .handle], laidTests := true, laidLooks := .later }
def PeaksTellCardSaid : Prop := Claim7.holds Tryd.pinned (.plain (OpenSpec.ofChange peaksTellSpec)) peaksTellCard

/-- THE TIED CARD OF 'witlaw1.PeaksGrow'. -/
def peaksGrowCard : Claim7 := { stood := { row := peaksGrowRow, standIns := [], harness := (true, "d0187f2c2093e6b188e4ca37edd01fd99deee5d02de520be6d20e5068ff83709"), looks := true }, kinds := [], alts := [], laidByText := true, laidKinds := [.data, .data], laidTests := true, laidLooks := .later }
def PeaksGrowCardSaid : Prop := Claim7.holds Tryd.pinned (.plain (OpenSpec.ofChange peaksGrowSpec)) peaksGrowCard

/-- THE TIED CARD OF 'witlaw4.PeaksFull'. -/
def peaksFullCard : Claim7 := { stood := { row := peaksFullRow, standIns := [], harness := (true, "d0187f2c2093e6b188e4ca37edd01fd99deee5d02de520be6d20e5068ff83709"), looks := true }, kinds := [], alts := [], laidByText := true, laidKinds := [.data, .data, .handle], laidTests := true, laidLooks := .later }
def PeaksFullCardSaid : Prop := Claim7.holds Tryd.pinned (.plain (OpenSpec.ofChange peaksFullSpec)) peaksFullCard

/-- THE SECOND FORM's CARD OF 'witlaw1.PeaksTell'. -/
def peaksTellUptoCard : Claim7 := { stood := { row := peaksTellUptoRow, standIns := [], harness := (true, "d0187f2c2093e6b188e4ca37edd01fd99deee5d02de520be6d20e5068ff83709"), looks := true }, kinds := [], alts := [], laidByText := true, laidKinds := [.data, .data, .handle], laidTests := true, laidLooks := .later }
def PeaksTellUptoCardSaid : Prop := Claim7.holds Tryd.pinned (.plain (OpenSpec.upto peaksTellSpec)) peaksTellUptoCard

/-- THE SECOND FORM's CARD OF 'witlaw1.PeaksGrow'. -/
def peaksGrowUptoCard : Claim7 := { stood := { row := peaksGrowUptoRow, standIns := [], harness := (true, "d0187f2c2093e6b188e4ca37edd01fd99deee5d02de520be6d20e5068ff83709"), looks := true }, kinds := [], alts := [], laidByText := true, laidKinds := [.data, .data], laidTests := true, laidLooks := .later }
def PeaksGrowUptoCardSaid : Prop := Claim7.holds Tryd.pinned (.plain (OpenSpec.upto peaksGrowSpec)) peaksGrowUptoCard

/-- THE SECOND FORM's CARD OF 'witlaw4.PeaksFull'. -/
def peaksFullUptoCard : Claim7 := { stood := { row := peaksFullUptoRow, standIns := [], harness := (true, "d0187f2c2093e6b188e4ca37edd01fd99deee5d02de520be6d20e5068ff83709"), looks := true }, kinds := [], alts := [], laidByText := true, laidKinds := [.data, .data, .handle], laidTests := true, laidLooks := .later }
def PeaksFullUptoCardSaid : Prop := Claim7.holds Tryd.pinned (.plain (OpenSpec.upto peaksFullSpec)) peaksFullUptoCard
end Rows
end Go.Proofs.YtjafpcmganheeabDoor
