/-
  DERIVED. GIVEN WITH THE SEED: THE CARDS: each row of YthaibjidfgmdmahDoorRows.lean that lists a variable, with what it lists TIED to the program's text (the seventh form; the later family's looks); each row that meets fmt, with fmt's text TOLD by the authors' own Lean function (tested against real Go, not proved from fmt's source: count such statements apart). THE CARD IS WHAT COUNTS. Prove the row's statement (the work); the ties are given (YthaibjidfgmdmahDoorTie.lean); close each card by the builder's one call (the guide's Derived/Test/ToyasCard.lean, 'card_holds'). Laid BY PROGRAM, IN A SANDBOX (cutbox-door.mjs). By AI agents, Wed Nov 11 2026. No macro, syntax, notation, axiom, sorry.
-/
import Derived.Test.YthaibjidfgmdmahDoorRows
import GoSem.ClaimSeven
namespace Go.Proofs.YthaibjidfgmdmahDoor
namespace Rows

/-- THE TIED CARD OF 'witlaw4.MirrorPages'. -/
def mirrorPagesCard : Claim7 := { stood := { row := mirrorPagesRow, standIns := [], harness := (true, "0d39f3969a485c387c783230fa122671c9a7b73b0cec753eb4a1361e5e56652f"), looks := true }, kinds := [], alts := [], laidByText := true, laidKinds := [.data, .data, .data], laidTests := true, laidLooks := .later }
def MirrorPagesCardSaid : Prop := Claim7.holds Tryd.pinned (.plain (OpenSpec.ofChange mirrorPagesSpec)) mirrorPagesCard

/-- THE TIED CARD OF 'witlaw3.ForkTells'. -/
def forkTellsCard : Claim7 := { stood := { row := forkTellsRow, standIns := [], harness := (true, "0d39f3969a485c387c783230fa122671c9a7b73b0cec753eb4a1361e5e56652f"), looks := true }, kinds := [], alts := [], laidByText := true, laidKinds := [.data, .data, .data, .handle], laidTests := true, laidLooks := .later }
def ForkTellsCardSaid : Prop := Claim7.holds Tryd.pinned (.plain (OpenSpec.ofChange forkTellsSpec)) forkTellsCard

/-- THE TIED CARD OF 'witlaw3.ForkFinds'. -/
def forkFindsCard : Claim7 := { stood := { row := forkFindsRow, standIns := [], harness := (true, "0d39f3969a485c387c783230fa122671c9a7b73b0cec753eb4a1361e5e56652f"), looks := true }, kinds := [], alts := [], laidByText := true, laidKinds := [.data, .data, .data, .handle], laidTests := true, laidLooks := .later }
def ForkFindsCardSaid : Prop := Claim7.holds Tryd.pinned (.plain (OpenSpec.ofChange forkFindsSpec)) forkFindsCard

/-- THE TIED CARD OF 'witlaw4.ForkOlder'. -/
def forkOlderCard : Claim7 := { stood := { row := forkOlderRow, standIns := [], harness := (true, "0d39f3969a485c387c783230fa122671c9a7b73b0cec753eb4a1361e5e56652f"), looks := true }, kinds := [], alts := [], laidByText := true, laidKinds := [.data, .data, .data, .handle], laidTests := true, laidLooks := .later }
def ForkOlderCardSaid : Prop := Claim7.holds Tryd.pinned (.plain (OpenSpec.ofChange forkOlderSpec)) forkOlderCard

/-- THE SECOND FORM's CARD OF 'witlaw4.MirrorPages'. -/
def mirrorPagesUptoCard : Claim7 := { stood := { row := mirrorPagesUptoRow, standIns := [], harness := (true, "0d39f3969a485c387c783230fa122671c9a7b73b0cec753eb4a1361e5e56652f"), looks := true }, kinds := [], alts := [], laidByText := true, laidKinds := [.data, .data, .data], laidTests := true, laidLooks := .later }
def MirrorPagesUptoCardSaid : Prop := Claim7.holds Tryd.pinned (.plain (OpenSpec.upto mirrorPagesSpec)) mirrorPagesUptoCard

/-- THE SECOND FORM's CARD OF 'witlaw3.ForkTells'. -/
def forkTellsUptoCard : Claim7 := { stood := { row := forkTellsUptoRow, standIns := [], harness := (true, "0d39f3969a485c387c783230fa122671c9a7b73b0cec753eb4a1361e5e56652f"), looks := true }, kinds := [], alts := [], laidByText := true, laidKinds := [.data, .data, .data, .handle], laidTests := true, laidLooks := .later }
def ForkTellsUptoCardSaid : Prop := Claim7.holds Tryd.pinned (.plain (OpenSpec.upto forkTellsSpec)) forkTellsUptoCard

/-- THE SECOND FORM's CARD OF 'witlaw3.ForkFinds'. -/
def forkFindsUptoCard : Claim7 := { stood := { row := forkFindsUptoRow, standIns := [], harness := (true, "0d39f3969a485c387c783230fa122671c9a7b73b0cec753eb4a1361e5e56652f"), looks := true }, kinds := [], alts := [], laidByText := true, laidKinds := [.data, .data, .data, .handle], laidTests := true, laidLooks := .later }
def ForkFindsUptoCardSaid : Prop := Claim7.holds Tryd.pinned (.plain (OpenSpec.upto forkFindsSpec)) forkFindsUptoCard

/-- THE SECOND FORM's CARD OF 'witlaw4.ForkOlder'. -/
def forkOlderUptoCard : Claim7 := { stood := { row := forkOlderUptoRow, standIns := [], harness := (true, "0d39f3969a485c387c783230fa122671c9a7b73b0cec753eb4a1361e5e56652f"), looks := true }, kinds := [], alts := [], laidByText := true, laidKinds := [.data, .data, .data, .handle], laidTests := true, laidLooks := .later }
def ForkOlderUptoCardSaid : Prop := Claim7.holds Tryd.pinned (.plain (OpenSpec.upto forkOlderSpec)) forkOlderUptoCard
end Rows
end Go.Proofs.YthaibjidfgmdmahDoor
