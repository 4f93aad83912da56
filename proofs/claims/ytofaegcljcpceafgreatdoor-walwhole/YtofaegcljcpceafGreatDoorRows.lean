/-
  NARROWER THAN 'FOR EVERY INPUT', by the rows' own cells (each row's printed sentence says how): LsmMerges: laid · LsmPlays: laid · WalStops: laid · WalWhole: laid.
  DERIVED. THE GIVEN ROWS OF THIS SEAT. 4 by the template 'for every input the law returns true; each argument reads behind the call as it read before'; 0 by the template 'total and deterministic' (their statements: YtofaegcljcpceafGreatDoorTotals.lean).
  GIVEN WITH THE SEED: the statements are not yours to turn. If you find one false, say at which input.
  Laid BY PROGRAM, IN A SANDBOX (cutbox-rows.mjs): the forced cells as the released guide's own fill.sh prints them over the translation 59357c07d8996b53… (all of the seat's roots in one cut). By AI agents, Wed Nov 11 2026. No macro, syntax, notation, axiom, sorry.
-/
import Derived.Test.YtofaegcljcpceafGreatDoorChecked
import GoSem.Claim
import GoSem.ClaimJoined
import GoSem.ClaimMapViews
import Derived.JoinedTies
import Derived.KernelRfl
namespace Go.Proofs.YtofaegcljcpceafGreatDoor
/- THE CELL 'sum', in the pinned program and in every row, IS THE sha256 OF THE DUMP (.gsa) THAT YtofaegcljcpceafGreatDoorProg.lean LOADS. Nothing in Lean hashes anything: it is a label: what it is worth is what the hold of that sum in a sandbox is worth. -/
noncomputable def Tryz.pinned : Pinned := { name := "ytofaegcljcpceafgreatdoor", sum := "59357c07d8996b53d67838c75e3c40dd9b8b68eff0566814cc88bee1e0a13f6a", checked := Tryz.checked }
namespace Rows
def none {H : Type} : Left H := { results := [], args := [] }

/- WHAT THE LISTED PACKAGE-LEVEL VARIABLES READ AS WHEN THE CALL BEGINS. Each datum BY PROGRAM (the guide's laid-datum.mjs) off the statement by which the dump's own 'gosem.cut.vars' lays the variable. In a bare row this is a premise. The card (YtofaegcljcpceafGreatDoorCards.lean) ties it to the program's text. -/
def laid_errors_errorType {H : Type} : DataW H := .iface "internal/reflectlite.rtype" (.agg [.ptr (.lit (.string [101, 114, 114, 111, 114]))])

/-- 'witlaw4.LsmMerges': WHATEVER THE INPUT: true; the input reads as it did. -/
def lsmMergesSpec : ChangeSpec := { name := "lsmMerges", fn := fun _ => fun
  | [d1, d2] => { results := [.lit (.bool true)], args := [d1, d2] }
  | _ => none }
def lsmMergesRow : OpenClaim := { program := "ytofaegcljcpceafgreatdoor", sum := "59357c07d8996b53d67838c75e3c40dd9b8b68eff0566814cc88bee1e0a13f6a", func := "witnessbox/witlaw4.LsmMerges", spec := "lsmMerges", inPlace := ["internal/bytealg.abigen_runtime_cmpstring", "slices.overlaps[witnessbox/api.Pair]", "slices.overlaps[*witnessbox/table.Table]", "internal/reflectlite.ValueOf", "(internal/reflectlite.Value).Type", "(internal/reflectlite.Value).IsNil", "internal/reflectlite.TypeOf", "(internal/reflectlite.Value).Elem", "(internal/reflectlite.Value).Set", "slices.overlaps[[]witnessbox/api.Pair]"], unfollowed := true, recurses := true, named := ["errors.errorType"], apart := false, laid := [("errors.errorType", laid_errors_errorType)] }
def LsmMergesSaid : Prop := lsmMergesRow.holds Tryz.pinned (OpenSpec.ofChange lsmMergesSpec)

/-- ITS FALSE NEIGHBOUR: 'it returns false'. Refute it at one input. -/
def lsmMergesWrong : ChangeSpec := { name := "lsmMerges", fn := fun _ => fun
  | [d1, d2] => { results := [.lit (.bool false)], args := [d1, d2] }
  | _ => none }
def LsmMergesWrongFalsely : Prop := lsmMergesRow.holds Tryz.pinned (OpenSpec.ofChange lsmMergesWrong)

/-- 'witlaw2.LsmPlays': WHATEVER THE INPUT: true; the input reads as it did. -/
def lsmPlaysSpec : ChangeSpec := { name := "lsmPlays", fn := fun _ => fun
  | [d1, d2, d3] => { results := [.lit (.bool true)], args := [d1, d2, d3] }
  | _ => none }
def lsmPlaysRow : OpenClaim := { program := "ytofaegcljcpceafgreatdoor", sum := "59357c07d8996b53d67838c75e3c40dd9b8b68eff0566814cc88bee1e0a13f6a", func := "witnessbox/witlaw2.LsmPlays", spec := "lsmPlays", inPlace := ["internal/reflectlite.ValueOf", "(internal/reflectlite.Value).Type", "(internal/reflectlite.Value).IsNil", "internal/reflectlite.TypeOf", "(internal/reflectlite.Value).Elem", "(internal/reflectlite.Value).Set", "internal/bytealg.abigen_runtime_cmpstring", "slices.overlaps[*witnessbox/table.Table]", "slices.overlaps[witnessbox/api.Pair]", "slices.overlaps[[]witnessbox/api.Pair]"], unfollowed := true, recurses := true, named := ["errors.errorType"], apart := false, laid := [("errors.errorType", laid_errors_errorType)] }
def LsmPlaysSaid : Prop := lsmPlaysRow.holds Tryz.pinned (OpenSpec.ofChange lsmPlaysSpec)

/-- ITS FALSE NEIGHBOUR: 'it returns false'. Refute it at one input. -/
def lsmPlaysWrong : ChangeSpec := { name := "lsmPlays", fn := fun _ => fun
  | [d1, d2, d3] => { results := [.lit (.bool false)], args := [d1, d2, d3] }
  | _ => none }
def LsmPlaysWrongFalsely : Prop := lsmPlaysRow.holds Tryz.pinned (OpenSpec.ofChange lsmPlaysWrong)

/-- 'witlaw2.WalStops': WHATEVER THE INPUT: true; the input reads as it did. -/
def walStopsSpec : ChangeSpec := { name := "walStops", fn := fun _ => fun
  | [d1, d2, d3] => { results := [.lit (.bool true)], args := [d1, d2, d3] }
  | _ => none }
def walStopsRow : OpenClaim := { program := "ytofaegcljcpceafgreatdoor", sum := "59357c07d8996b53d67838c75e3c40dd9b8b68eff0566814cc88bee1e0a13f6a", func := "witnessbox/witlaw2.WalStops", spec := "walStops", inPlace := ["internal/bytealg.abigen_runtime_cmpstring", "slices.overlaps[witnessbox/api.Pair]", "slices.overlaps[*witnessbox/table.Table]", "internal/reflectlite.ValueOf", "(internal/reflectlite.Value).Type", "(internal/reflectlite.Value).IsNil", "internal/reflectlite.TypeOf", "(internal/reflectlite.Value).Elem", "(internal/reflectlite.Value).Set"], unfollowed := true, recurses := true, named := ["errors.errorType"], apart := false, laid := [("errors.errorType", laid_errors_errorType)] }
def WalStopsSaid : Prop := walStopsRow.holds Tryz.pinned (OpenSpec.ofChange walStopsSpec)

/-- ITS FALSE NEIGHBOUR: 'it returns false'. Refute it at one input. -/
def walStopsWrong : ChangeSpec := { name := "walStops", fn := fun _ => fun
  | [d1, d2, d3] => { results := [.lit (.bool false)], args := [d1, d2, d3] }
  | _ => none }
def WalStopsWrongFalsely : Prop := walStopsRow.holds Tryz.pinned (OpenSpec.ofChange walStopsWrong)

/-- 'witlaw4.WalWhole': WHATEVER THE INPUT: true; the input reads as it did. -/
def walWholeSpec : ChangeSpec := { name := "walWhole", fn := fun _ => fun
  | [d1, d2] => { results := [.lit (.bool true)], args := [d1, d2] }
  | _ => none }
def walWholeRow : OpenClaim := { program := "ytofaegcljcpceafgreatdoor", sum := "59357c07d8996b53d67838c75e3c40dd9b8b68eff0566814cc88bee1e0a13f6a", func := "witnessbox/witlaw4.WalWhole", spec := "walWhole", inPlace := ["internal/bytealg.abigen_runtime_cmpstring", "slices.overlaps[witnessbox/api.Pair]", "slices.overlaps[*witnessbox/table.Table]", "slices.overlaps[[]witnessbox/api.Pair]", "internal/reflectlite.ValueOf", "(internal/reflectlite.Value).Type", "(internal/reflectlite.Value).IsNil", "internal/reflectlite.TypeOf", "(internal/reflectlite.Value).Elem", "(internal/reflectlite.Value).Set"], unfollowed := true, recurses := true, named := ["errors.errorType"], apart := false, laid := [("errors.errorType", laid_errors_errorType)] }
def WalWholeSaid : Prop := walWholeRow.holds Tryz.pinned (OpenSpec.ofChange walWholeSpec)

/-- ITS FALSE NEIGHBOUR: 'it returns false'. Refute it at one input. -/
def walWholeWrong : ChangeSpec := { name := "walWhole", fn := fun _ => fun
  | [d1, d2] => { results := [.lit (.bool false)], args := [d1, d2] }
  | _ => none }
def WalWholeWrongFalsely : Prop := walWholeRow.holds Tryz.pinned (OpenSpec.ofChange walWholeWrong)

/- THE SECOND FORM. 'bulk': how many values and letters a reading holds, each counted each time it is reached (what is shared counts as often as it is met; a slice's spare places count too). A statement '..UptoSaid' is the law's where the arguments, and the package variables that the reading takes, are together of bulk at most 1048576: NARROWER than '..Said'. Prove '..Said' where nothing that the law and all that it calls make is longer than what came in: it says more and counts as full. Else prove '..UptoSaid'. A law counts once. -/
mutual
def uptoBulk {H : Type} : DataW H → Nat
  | .lit (.string bytes) => bytes.length + 1
  | .lit _ => 1
  | .nil => 1
  | .ptr d => uptoBulk d + 1
  | .slice elems spare => uptoBulkAll elems + uptoBulkAll spare + 1
  | .agg parts => uptoBulkAll parts + 1
  | .iface _ d => uptoBulk d + 1
  | .map entries => uptoBulkEntries entries + 1
  | .held _ => 1
def uptoBulkAll {H : Type} : List (DataW H) → Nat
  | [] => 0
  | d :: r => uptoBulk d + uptoBulkAll r
def uptoBulkEntries {H : Type} : List (Lit × DataW H) → Nat
  | [] => 0
  | x :: r => uptoBulkEntry x + uptoBulkEntries r
def uptoBulkEntry {H : Type} : Lit × DataW H → Nat
  | (.string bytes, d) => bytes.length + uptoBulk d + 1
  | (_, d) => uptoBulk d + 1
 end
def uptoSmall : (H : Type) → List (DataW H) → Bool := fun _ ds => decide (uptoBulkAll ds ≤ 1048576)
def OpenSpec.upto (s : _root_.Go.ChangeSpec) : _root_.Go.OpenSpec := { _root_.Go.OpenSpec.ofChange s with cond := some uptoSmall }

/-- 'witlaw4.LsmMerges', WHERE WHAT IT READS IS OF BULK AT MOST 1048576: true; the input reads as it did. -/
def lsmMergesUptoRow : OpenClaim := { program := "ytofaegcljcpceafgreatdoor", sum := "59357c07d8996b53d67838c75e3c40dd9b8b68eff0566814cc88bee1e0a13f6a", func := "witnessbox/witlaw4.LsmMerges", spec := "lsmMerges", inPlace := ["internal/bytealg.abigen_runtime_cmpstring", "slices.overlaps[witnessbox/api.Pair]", "slices.overlaps[*witnessbox/table.Table]", "internal/reflectlite.ValueOf", "(internal/reflectlite.Value).Type", "(internal/reflectlite.Value).IsNil", "internal/reflectlite.TypeOf", "(internal/reflectlite.Value).Elem", "(internal/reflectlite.Value).Set", "slices.overlaps[[]witnessbox/api.Pair]"], unfollowed := true, recurses := true, named := ["errors.errorType"], apart := false, laid := [("errors.errorType", laid_errors_errorType)], narrowed := true }
def LsmMergesUptoSaid : Prop := lsmMergesUptoRow.holds Tryz.pinned (OpenSpec.upto lsmMergesSpec)

/-- 'witlaw2.LsmPlays', WHERE WHAT IT READS IS OF BULK AT MOST 1048576: true; the input reads as it did. -/
def lsmPlaysUptoRow : OpenClaim := { program := "ytofaegcljcpceafgreatdoor", sum := "59357c07d8996b53d67838c75e3c40dd9b8b68eff0566814cc88bee1e0a13f6a", func := "witnessbox/witlaw2.LsmPlays", spec := "lsmPlays", inPlace := ["internal/reflectlite.ValueOf", "(internal/reflectlite.Value).Type", "(internal/reflectlite.Value).IsNil", "internal/reflectlite.TypeOf", "(internal/reflectlite.Value).Elem", "(internal/reflectlite.Value).Set", "internal/bytealg.abigen_runtime_cmpstring", "slices.overlaps[*witnessbox/table.Table]", "slices.overlaps[witnessbox/api.Pair]", "slices.overlaps[[]witnessbox/api.Pair]"], unfollowed := true, recurses := true, named := ["errors.errorType"], apart := false, laid := [("errors.errorType", laid_errors_errorType)], narrowed := true }
def LsmPlaysUptoSaid : Prop := lsmPlaysUptoRow.holds Tryz.pinned (OpenSpec.upto lsmPlaysSpec)

/-- 'witlaw2.WalStops', WHERE WHAT IT READS IS OF BULK AT MOST 1048576: true; the input reads as it did. -/
def walStopsUptoRow : OpenClaim := { program := "ytofaegcljcpceafgreatdoor", sum := "59357c07d8996b53d67838c75e3c40dd9b8b68eff0566814cc88bee1e0a13f6a", func := "witnessbox/witlaw2.WalStops", spec := "walStops", inPlace := ["internal/bytealg.abigen_runtime_cmpstring", "slices.overlaps[witnessbox/api.Pair]", "slices.overlaps[*witnessbox/table.Table]", "internal/reflectlite.ValueOf", "(internal/reflectlite.Value).Type", "(internal/reflectlite.Value).IsNil", "internal/reflectlite.TypeOf", "(internal/reflectlite.Value).Elem", "(internal/reflectlite.Value).Set"], unfollowed := true, recurses := true, named := ["errors.errorType"], apart := false, laid := [("errors.errorType", laid_errors_errorType)], narrowed := true }
def WalStopsUptoSaid : Prop := walStopsUptoRow.holds Tryz.pinned (OpenSpec.upto walStopsSpec)

/-- 'witlaw4.WalWhole', WHERE WHAT IT READS IS OF BULK AT MOST 1048576: true; the input reads as it did. -/
def walWholeUptoRow : OpenClaim := { program := "ytofaegcljcpceafgreatdoor", sum := "59357c07d8996b53d67838c75e3c40dd9b8b68eff0566814cc88bee1e0a13f6a", func := "witnessbox/witlaw4.WalWhole", spec := "walWhole", inPlace := ["internal/bytealg.abigen_runtime_cmpstring", "slices.overlaps[witnessbox/api.Pair]", "slices.overlaps[*witnessbox/table.Table]", "slices.overlaps[[]witnessbox/api.Pair]", "internal/reflectlite.ValueOf", "(internal/reflectlite.Value).Type", "(internal/reflectlite.Value).IsNil", "internal/reflectlite.TypeOf", "(internal/reflectlite.Value).Elem", "(internal/reflectlite.Value).Set"], unfollowed := true, recurses := true, named := ["errors.errorType"], apart := false, laid := [("errors.errorType", laid_errors_errorType)], narrowed := true }
def WalWholeUptoSaid : Prop := walWholeUptoRow.holds Tryz.pinned (OpenSpec.upto walWholeSpec)

end Rows
end Go.Proofs.YtofaegcljcpceafGreatDoor
