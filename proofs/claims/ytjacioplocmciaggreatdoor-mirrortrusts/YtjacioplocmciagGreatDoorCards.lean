/-
  DERIVED. GIVEN WITH THE SEED: THE CARDS: each row of YtjacioplocmciagGreatDoorRows.lean that lists a variable, with what it lists TIED to the program's text (the seventh form; the later family's looks); each row that meets fmt, with fmt's text TOLD by the authors' own Lean function (tested against real Go, not proved from fmt's source: count such statements apart). THE CARD IS WHAT COUNTS. Prove the row's statement (the work); the ties are given (YtjacioplocmciagGreatDoorTie.lean); close each card by the builder's one call (the guide's Derived/Test/ToyasCard.lean, 'card_holds'). Laid BY PROGRAM, IN A SANDBOX (cutbox-door.mjs). By AI agents, Wed Nov 11 2026. No macro, syntax, notation, axiom, sorry.
-/
import Derived.Test.YtjacioplocmciagGreatDoorRows
import GoSem.ClaimSeven
namespace Go.Proofs.YtjacioplocmciagGreatDoor
namespace Rows

/-- THE TIED CARD OF 'witlaw2.WalKeeps'. -/
def walKeepsCard : Claim7 := { stood := { row := walKeepsRow, standIns := [], harness := (true, "78876e05126e24281bf5122b12cbbc18b3447c7a491d3fd9fcd1e33e92cf3193"), looks := true }, kinds := [], alts := [], laidByText := true, laidKinds := [.handle], laidTests := true, laidLooks := .later }
def WalKeepsCardSaid : Prop := Claim7.holds Tryz.pinned (.plain (OpenSpec.ofChange walKeepsSpec)) walKeepsCard

/-- THE TIED CARD OF 'witlaw2.MirrorPlays'. -/
def mirrorPlaysCard : Claim7 := { stood := { row := mirrorPlaysRow, standIns := [], harness := (true, "78876e05126e24281bf5122b12cbbc18b3447c7a491d3fd9fcd1e33e92cf3193"), looks := true }, kinds := [], alts := [], laidByText := true, laidKinds := [.data, .data, .data, .handle], laidTests := true, laidLooks := .later }
def MirrorPlaysCardSaid : Prop := Claim7.holds Tryz.pinned (.plain (OpenSpec.ofChange mirrorPlaysSpec)) mirrorPlaysCard

/-- THE TIED CARD OF 'witlaw2.MirrorTrusts'. -/
def mirrorTrustsCard : Claim7 := { stood := { row := mirrorTrustsRow, standIns := [], harness := (true, "78876e05126e24281bf5122b12cbbc18b3447c7a491d3fd9fcd1e33e92cf3193"), looks := true }, kinds := [], alts := [], laidByText := true, laidKinds := [.data, .data, .data], laidTests := true, laidLooks := .later }
def MirrorTrustsCardSaid : Prop := Claim7.holds Tryz.pinned (.plain (OpenSpec.ofChange mirrorTrustsSpec)) mirrorTrustsCard

/-- THE TIED CARD OF 'witlaw2.ServeTells'. -/
def serveTellsCard : Claim7 := { stood := { row := serveTellsRow, standIns := [], harness := (true, "78876e05126e24281bf5122b12cbbc18b3447c7a491d3fd9fcd1e33e92cf3193"), looks := true }, kinds := [], alts := [], laidByText := true, laidKinds := [.data, .data, .data, .data, .handle, .sentinel, .sentinel, .pinned], laidTests := true, laidLooks := .later }
def ServeTellsCardSaid : Prop := Claim7.holds Tryz.pinned (.plain (OpenSpec.ofChange serveTellsSpec)) serveTellsCard

/-- THE SECOND FORM's CARD OF 'witlaw2.WalKeeps'. -/
def walKeepsUptoCard : Claim7 := { stood := { row := walKeepsUptoRow, standIns := [], harness := (true, "78876e05126e24281bf5122b12cbbc18b3447c7a491d3fd9fcd1e33e92cf3193"), looks := true }, kinds := [], alts := [], laidByText := true, laidKinds := [.handle], laidTests := true, laidLooks := .later }
def WalKeepsUptoCardSaid : Prop := Claim7.holds Tryz.pinned (.plain (OpenSpec.upto walKeepsSpec)) walKeepsUptoCard

/-- THE SECOND FORM's CARD OF 'witlaw2.MirrorPlays'. -/
def mirrorPlaysUptoCard : Claim7 := { stood := { row := mirrorPlaysUptoRow, standIns := [], harness := (true, "78876e05126e24281bf5122b12cbbc18b3447c7a491d3fd9fcd1e33e92cf3193"), looks := true }, kinds := [], alts := [], laidByText := true, laidKinds := [.data, .data, .data, .handle], laidTests := true, laidLooks := .later }
def MirrorPlaysUptoCardSaid : Prop := Claim7.holds Tryz.pinned (.plain (OpenSpec.upto mirrorPlaysSpec)) mirrorPlaysUptoCard

/-- THE SECOND FORM's CARD OF 'witlaw2.MirrorTrusts'. -/
def mirrorTrustsUptoCard : Claim7 := { stood := { row := mirrorTrustsUptoRow, standIns := [], harness := (true, "78876e05126e24281bf5122b12cbbc18b3447c7a491d3fd9fcd1e33e92cf3193"), looks := true }, kinds := [], alts := [], laidByText := true, laidKinds := [.data, .data, .data], laidTests := true, laidLooks := .later }
def MirrorTrustsUptoCardSaid : Prop := Claim7.holds Tryz.pinned (.plain (OpenSpec.upto mirrorTrustsSpec)) mirrorTrustsUptoCard

/-- THE SECOND FORM's CARD OF 'witlaw2.ServeTells'. -/
def serveTellsUptoCard : Claim7 := { stood := { row := serveTellsUptoRow, standIns := [], harness := (true, "78876e05126e24281bf5122b12cbbc18b3447c7a491d3fd9fcd1e33e92cf3193"), looks := true }, kinds := [], alts := [], laidByText := true, laidKinds := [.data, .data, .data, .data, .handle, .sentinel, .sentinel, .pinned], laidTests := true, laidLooks := .later }
def ServeTellsUptoCardSaid : Prop := Claim7.holds Tryz.pinned (.plain (OpenSpec.upto serveTellsSpec)) serveTellsUptoCard
end Rows
end Go.Proofs.YtjacioplocmciagGreatDoor
