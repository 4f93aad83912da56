/-
  DERIVED. GIVEN WITH THE SEED: THE CARDS: each row of YtibmgmadoaencacDoorRows.lean that lists a variable, with what it lists TIED to the program's text (the seventh form; the later family's looks); each row that meets fmt, with fmt's text TOLD by the authors' own Lean function (tested against real Go, not proved from fmt's source: count such statements apart). THE CARD IS WHAT COUNTS. Prove the row's statement (the work); the ties are given (YtibmgmadoaencacDoorTie.lean); close each card by the builder's one call (the guide's Derived/Test/ToyasCard.lean, 'card_holds'). Laid BY PROGRAM, IN A SANDBOX (cutbox-door.mjs). By AI agents, Wed Nov 11 2026. No macro, syntax, notation, axiom, sorry.
-/
import Derived.Test.YtibmgmadoaencacDoorRows
import GoSem.ClaimSeven
namespace Go.Proofs.YtibmgmadoaencacDoor
namespace Rows

/-- THE TIED CARD OF 'witlaw4.ProofLong'. -/
def proofLongCard : Claim7 := { stood := { row := proofLongRow, standIns := [], harness := (true, "ed14f4f3fd3ee6d836e6f05dd2c5c5a2070c59e02afe51fb2a5e773a067aebc7"), looks := true }, kinds := [], alts := [], laidByText := true, laidKinds := [.handle], laidTests := true, laidLooks := .later }
def ProofLongCardSaid : Prop := Claim7.holds Tryd.pinned (.plain (OpenSpec.ofChange proofLongSpec)) proofLongCard

/-- THE TIED CARD OF 'witlaw1.GrowTells'. -/
def growTellsCard : Claim7 := { stood := { row := growTellsRow, standIns := [], harness := (true, "ed14f4f3fd3ee6d836e6f05dd2c5c5a2070c59e02afe51fb2a5e773a067aebc7"), looks := true }, kinds := [], alts := [], laidByText := true, laidKinds := [.handle], laidTests := true, laidLooks := .later }
def GrowTellsCardSaid : Prop := Claim7.holds Tryd.pinned (.plain (OpenSpec.ofChange growTellsSpec)) growTellsCard

/-- THE TIED CARD OF 'witlaw1.GrowProves'. -/
def growProvesCard : Claim7 := { stood := { row := growProvesRow, standIns := [], harness := (true, "ed14f4f3fd3ee6d836e6f05dd2c5c5a2070c59e02afe51fb2a5e773a067aebc7"), looks := true }, kinds := [], alts := [], laidByText := true, laidKinds := [.handle], laidTests := true, laidLooks := .later }
def GrowProvesCardSaid : Prop := Claim7.holds Tryd.pinned (.plain (OpenSpec.ofChange growProvesSpec)) growProvesCard

/-- THE TIED CARD OF 'witlaw4.GrowSame'. -/
def growSameCard : Claim7 := { stood := { row := growSameRow, standIns := [], harness := (true, "ed14f4f3fd3ee6d836e6f05dd2c5c5a2070c59e02afe51fb2a5e773a067aebc7"), looks := true }, kinds := [], alts := [], laidByText := true, laidKinds := [.handle], laidTests := true, laidLooks := .later }
def GrowSameCardSaid : Prop := Claim7.holds Tryd.pinned (.plain (OpenSpec.ofChange growSameSpec)) growSameCard

/-- THE TIED CARD OF 'witlaw1.TileTells'. -/
def tileTellsCard : Claim7 := { stood := { row := tileTellsRow, standIns := [], harness := (true, "ed14f4f3fd3ee6d836e6f05dd2c5c5a2070c59e02afe51fb2a5e773a067aebc7"), looks := true }, kinds := [], alts := [], laidByText := true, laidKinds := [.handle], laidTests := true, laidLooks := .later }
def TileTellsCardSaid : Prop := Claim7.holds Tryd.pinned (.plain (OpenSpec.ofChange tileTellsSpec)) tileTellsCard

/-- THE SECOND FORM's CARD OF 'witlaw4.ProofLong'. -/
def proofLongUptoCard : Claim7 := { stood := { row := proofLongUptoRow, standIns := [], harness := (true, "ed14f4f3fd3ee6d836e6f05dd2c5c5a2070c59e02afe51fb2a5e773a067aebc7"), looks := true }, kinds := [], alts := [], laidByText := true, laidKinds := [.handle], laidTests := true, laidLooks := .later }
def ProofLongUptoCardSaid : Prop := Claim7.holds Tryd.pinned (.plain (OpenSpec.upto proofLongSpec)) proofLongUptoCard

/-- THE SECOND FORM's CARD OF 'witlaw1.GrowTells'. -/
def growTellsUptoCard : Claim7 := { stood := { row := growTellsUptoRow, standIns := [], harness := (true, "ed14f4f3fd3ee6d836e6f05dd2c5c5a2070c59e02afe51fb2a5e773a067aebc7"), looks := true }, kinds := [], alts := [], laidByText := true, laidKinds := [.handle], laidTests := true, laidLooks := .later }
def GrowTellsUptoCardSaid : Prop := Claim7.holds Tryd.pinned (.plain (OpenSpec.upto growTellsSpec)) growTellsUptoCard

/-- THE SECOND FORM's CARD OF 'witlaw1.GrowProves'. -/
def growProvesUptoCard : Claim7 := { stood := { row := growProvesUptoRow, standIns := [], harness := (true, "ed14f4f3fd3ee6d836e6f05dd2c5c5a2070c59e02afe51fb2a5e773a067aebc7"), looks := true }, kinds := [], alts := [], laidByText := true, laidKinds := [.handle], laidTests := true, laidLooks := .later }
def GrowProvesUptoCardSaid : Prop := Claim7.holds Tryd.pinned (.plain (OpenSpec.upto growProvesSpec)) growProvesUptoCard

/-- THE SECOND FORM's CARD OF 'witlaw4.GrowSame'. -/
def growSameUptoCard : Claim7 := { stood := { row := growSameUptoRow, standIns := [], harness := (true, "ed14f4f3fd3ee6d836e6f05dd2c5c5a2070c59e02afe51fb2a5e773a067aebc7"), looks := true }, kinds := [], alts := [], laidByText := true, laidKinds := [.handle], laidTests := true, laidLooks := .later }
def GrowSameUptoCardSaid : Prop := Claim7.holds Tryd.pinned (.plain (OpenSpec.upto growSameSpec)) growSameUptoCard

/-- THE SECOND FORM's CARD OF 'witlaw1.TileTells'. -/
def tileTellsUptoCard : Claim7 := { stood := { row := tileTellsUptoRow, standIns := [], harness := (true, "ed14f4f3fd3ee6d836e6f05dd2c5c5a2070c59e02afe51fb2a5e773a067aebc7"), looks := true }, kinds := [], alts := [], laidByText := true, laidKinds := [.handle], laidTests := true, laidLooks := .later }
def TileTellsUptoCardSaid : Prop := Claim7.holds Tryd.pinned (.plain (OpenSpec.upto tileTellsSpec)) tileTellsUptoCard
end Rows
end Go.Proofs.YtibmgmadoaencacDoor
