/-
  DERIVED. GIVEN WITH THE SEED: THE CARDS: each row of YtofaegcljcpceafGreatDoorRows.lean that lists a variable, with what it lists TIED to the program's text (the seventh form; the later family's looks); each row that meets fmt, with fmt's text TOLD by the authors' own Lean function (tested against real Go, not proved from fmt's source: count such statements apart). THE CARD IS WHAT COUNTS. Prove the row's statement (the work); the ties are given (YtofaegcljcpceafGreatDoorTie.lean); close each card by the builder's one call (the guide's Derived/Test/ToyasCard.lean, 'card_holds'). Laid BY PROGRAM, IN A SANDBOX (cutbox-door.mjs). By AI agents, Wed Nov 11 2026. No macro, syntax, notation, axiom, sorry.
-/
import Derived.Test.YtofaegcljcpceafGreatDoorRows
import GoSem.ClaimSeven
namespace Go.Proofs.YtofaegcljcpceafGreatDoor
namespace Rows

/-- THE TIED CARD OF 'witlaw4.LsmMerges'. -/
def lsmMergesCard : Claim7 := { stood := { row := lsmMergesRow, standIns := [], harness := (true, "5428e7cb65906b14fef4787ef7884d4ea300eb83d367f31bc78c95a7befec8db"), looks := true }, kinds := [], alts := [], laidByText := true, laidKinds := [.handle], laidTests := true, laidLooks := .later }
def LsmMergesCardSaid : Prop := Claim7.holds Tryz.pinned (.plain (OpenSpec.ofChange lsmMergesSpec)) lsmMergesCard

/-- THE TIED CARD OF 'witlaw2.LsmPlays'. -/
def lsmPlaysCard : Claim7 := { stood := { row := lsmPlaysRow, standIns := [], harness := (true, "5428e7cb65906b14fef4787ef7884d4ea300eb83d367f31bc78c95a7befec8db"), looks := true }, kinds := [], alts := [], laidByText := true, laidKinds := [.handle], laidTests := true, laidLooks := .later }
def LsmPlaysCardSaid : Prop := Claim7.holds Tryz.pinned (.plain (OpenSpec.ofChange lsmPlaysSpec)) lsmPlaysCard

/-- THE TIED CARD OF 'witlaw2.WalStops'. -/
def walStopsCard : Claim7 := { stood := { row := walStopsRow, standIns := [], harness := (true, "5428e7cb65906b14fef4787ef7884d4ea300eb83d367f31bc78c95a7befec8db"), looks := true }, kinds := [], alts := [], laidByText := true, laidKinds := [.handle], laidTests := true, laidLooks := .later }
def WalStopsCardSaid : Prop := Claim7.holds Tryz.pinned (.plain (OpenSpec.ofChange walStopsSpec)) walStopsCard

/-- THE TIED CARD OF 'witlaw4.WalWhole'. -/
def walWholeCard : Claim7 := { stood := { row := walWholeRow, standIns := [], harness := (true, "5428e7cb65906b14fef4787ef7884d4ea300eb83d367f31bc78c95a7befec8db"), looks := true }, kinds := [], alts := [], laidByText := true, laidKinds := [.handle], laidTests := true, laidLooks := .later }
def WalWholeCardSaid : Prop := Claim7.holds Tryz.pinned (.plain (OpenSpec.ofChange walWholeSpec)) walWholeCard

/-- THE SECOND FORM's CARD OF 'witlaw4.LsmMerges'. -/
def lsmMergesUptoCard : Claim7 := { stood := { row := lsmMergesUptoRow, standIns := [], harness := (true, "5428e7cb65906b14fef4787ef7884d4ea300eb83d367f31bc78c95a7befec8db"), looks := true }, kinds := [], alts := [], laidByText := true, laidKinds := [.handle], laidTests := true, laidLooks := .later }
def LsmMergesUptoCardSaid : Prop := Claim7.holds Tryz.pinned (.plain (OpenSpec.upto lsmMergesSpec)) lsmMergesUptoCard

/-- THE SECOND FORM's CARD OF 'witlaw2.LsmPlays'. -/
def lsmPlaysUptoCard : Claim7 := { stood := { row := lsmPlaysUptoRow, standIns := [], harness := (true, "5428e7cb65906b14fef4787ef7884d4ea300eb83d367f31bc78c95a7befec8db"), looks := true }, kinds := [], alts := [], laidByText := true, laidKinds := [.handle], laidTests := true, laidLooks := .later }
def LsmPlaysUptoCardSaid : Prop := Claim7.holds Tryz.pinned (.plain (OpenSpec.upto lsmPlaysSpec)) lsmPlaysUptoCard

/-- THE SECOND FORM's CARD OF 'witlaw2.WalStops'. -/
def walStopsUptoCard : Claim7 := { stood := { row := walStopsUptoRow, standIns := [], harness := (true, "5428e7cb65906b14fef4787ef7884d4ea300eb83d367f31bc78c95a7befec8db"), looks := true }, kinds := [], alts := [], laidByText := true, laidKinds := [.handle], laidTests := true, laidLooks := .later }
def WalStopsUptoCardSaid : Prop := Claim7.holds Tryz.pinned (.plain (OpenSpec.upto walStopsSpec)) walStopsUptoCard

/-- THE SECOND FORM's CARD OF 'witlaw4.WalWhole'. -/
def walWholeUptoCard : Claim7 := { stood := { row := walWholeUptoRow, standIns := [], harness := (true, "5428e7cb65906b14fef4787ef7884d4ea300eb83d367f31bc78c95a7befec8db"), looks := true }, kinds := [], alts := [], laidByText := true, laidKinds := [.handle], laidTests := true, laidLooks := .later }
def WalWholeUptoCardSaid : Prop := Claim7.holds Tryz.pinned (.plain (OpenSpec.upto walWholeSpec)) walWholeUptoCard
end Rows
end Go.Proofs.YtofaegcljcpceafGreatDoor
