/-
  For every two numbers: a batch of which one pair is refused does nothing; else all of it is done.
-/
import Derived.Test.YtofaegcljcpceafGreatDoorRows
import Derived.Test.YtofaegcljcpceafGreatDoorSums
import Derived.Test.YtofaegcljcpceafGreatDoorNums
import Derived.Test.YtofaegcljcpceafGreatDoorLists
import Derived.Test.YtofaegcljcpceafGreatDoorKeeps
import Derived.Test.YtofaegcljcpceafGreatDoorWides
import Derived.Test.YtofaegcljcpceafGreatDoorStores
import Derived.Test.YtofaegcljcpceafGreatDoorPairRows
import Derived.Test.YtofaegcljcpceafGreatDoorPlains
import Derived.Test.YtofaegcljcpceafGreatDoorEntries
import Derived.Test.YtofaegcljcpceafGreatDoorWalPlain
import Derived.Test.YtofaegcljcpceafGreatDoorWalOnes
import Derived.Test.YtofaegcljcpceafGreatDoorErrs
import Derived.Test.YtofaegcljcpceafGreatDoorWalkLetters
import Derived.Test.YtofaegcljcpceafGreatDoorSpots
import Derived.Test.YtofaegcljcpceafGreatDoorWalkStoFind
import Derived.Test.YtofaegcljcpceafGreatDoorWideCopy
import Derived.Test.YtofaegcljcpceafGreatDoorWalkStoIns
import Derived.Test.YtofaegcljcpceafGreatDoorSorts
import Derived.Test.YtofaegcljcpceafGreatDoorLsmRows
import Derived.Test.YtofaegcljcpceafGreatDoorWalkConcat
import Derived.Test.YtofaegcljcpceafGreatDoorWalkSum
import Derived.Test.YtofaegcljcpceafGreatDoorWalkMix
import Derived.Test.YtofaegcljcpceafGreatDoorWalkTabOne
import Derived.Test.YtofaegcljcpceafGreatDoorWalkClone
import Derived.Test.YtofaegcljcpceafGreatDoorWalkTabTake
import Derived.Test.YtofaegcljcpceafGreatDoorWalkTabFind
import Derived.Test.YtofaegcljcpceafGreatDoorWalkTab
import Derived.Test.YtofaegcljcpceafGreatDoorWalkLiving
import Derived.Test.YtofaegcljcpceafGreatDoorWalkStoOwn
import Derived.Test.YtofaegcljcpceafGreatDoorWalkStoSet
import Derived.Test.YtofaegcljcpceafGreatDoorWalkSto
import Derived.Test.YtofaegcljcpceafGreatDoorWalkIns1
import Derived.Test.YtofaegcljcpceafGreatDoorLsAll
import Derived.Test.YtofaegcljcpceafGreatDoorWaAll
import Derived.Test.YtofaegcljcpceafGreatDoorWalkWalAt
import Derived.Test.YtofaegcljcpceafGreatDoorWalkTold
import Derived.Test.YtofaegcljcpceafGreatDoorWalkWalWhole
import Derived.Test.YtofaegcljcpceafGreatDoorCards
import Derived.Test.YtofaegcljcpceafGreatDoorTie
import Derived.Test.YtofaegcljcpceafGreatDoorHandle
import Derived.SevenTiedAt
import Derived.Stop.LaidErr
import Derived.WalkKit
import Derived.ProofKit
import Derived.ChangeSlices
import Derived.SliceStrings
import Derived.Carry
import Derived.OpenShut
import Derived.ShutString
import Derived.ChangeOld
import Derived.Below
import Derived.SizedLaws
import Derived.Deep.DeepHandedRow
import Derived.LaidLaws
import Derived.LaidHandle
namespace Go.Proofs.YtofaegcljcpceafGreatDoor.walWhole
open Go.ChangeShapes Go.WideShapes Go.ChangeAt Go.RowKit
open Go.ChangeMaps (open_string shut_string)
set_option linter.unusedVariables false

theorem own : ownKnob Tryz.prog.godebug = none := by kernel_rfl
theorem laidOut : laidOutB Tryz.prog = true := by kernel_rfl

set_option maxRecDepth 100000 in
theorem contract (H : Type) (enc : TypeId × Value → H) (W : World) (base : Nat) (args : Array Value) (ds gs : List (DataW H)) (before : List MemPlace)
    (hval0 : ∀ (j : Nat) t v, Tryz.f6.params[j]? = some t → args[j]? = some v → Value.okWide Tryz.prog W .any base t v)
    (hW : DataW.Whole enc Tryz.prog Tryz.f6.params.toList Rows.walWholeSpec.vars false W args.toList ds gs before)
    (hsz0 : (DataW.weightsEach Tryz.prog (Tryz.f6.params.toList ++ (OpenSpec.ofChange Rows.walWholeSpec).bare.plain.varTypes Tryz.prog) (ds ++ gs)).all (· ≤ reachBytes) = true) (hL : laidMetH Tryz.prog Rows.walWholeRow.laid W) (hsh : W.ShapedOpen Tryz.prog) :
    Calls Tryz.prog 6 args W fun e W' => ∃ v, e = .returned v ∧ Rows.walWholeSpec.post enc Tryz.prog Tryz.f6 false true false false W args v W' := by
  have hval : ∀ (j : Nat) t v, Tryz.f6.params[j]? = some t → args[j]? = some v → Value.okWide Tryz.prog W .any base t v := hval0
  have hW' := hW
  obtain ⟨p, q, hA0, hV, rfl, hfz, hnd⟩ := hW
  have hA : DataW.TrodAll enc Tryz.prog W 0 (fun _ => true) true Tryz.f6.params.toList args.toList ds p := hA0
  have hsz : (DataW.weightsEach Tryz.prog (Tryz.f6.params.toList ++ Rows.walWholeSpec.plain.varTypes Tryz.prog) (ds ++ gs)).all (· ≤ reachBytes) = true := hsz0
  rw [Tryz.params6] at hA hval hsz
  obtain ⟨v0, vs0, d0, ds0, p0, q0, hargs, rfl, rfl, h0, r0⟩ := trodAll_cons hA
  obtain ⟨v1, vs1, d1, ds1, p1, q1, rfl, rfl, rfl, h1, r1⟩ := trodAll_cons r0
  obtain ⟨rfl, rfl, rfl⟩ := trodAll_nil r1
  obtain rfl : args = #[v0, v1] := by cases args; simp_all
  obtain ⟨rfl, rfl⟩ := trodVars_none hV
  obtain ⟨a0, rfl, rfl, rfl, w0⟩ := open_int Tryz.underlying3 (hval 0 3 v0 rfl rfl) h0
  obtain ⟨a1, rfl, rfl, rfl, w1⟩ := open_int Tryz.underlying3 (hval 1 3 v1 rfl rfl) h1
  clear hA0 hval0 hsz0
  have hM : laidMet Tryz.prog [] W ∧ handlesMet Tryz.prog [("errors.errorType", Rows.laid_errors_errorType)] W := hL
  refine (WalkWalWhole.walk a0 w0 a1 w1 W (Handle.handle_of_met hM.2)).mono fun e W' ⟨he, bel⟩ => ?_
  subst he
  exact ⟨_, rfl, _, _, _, [], _, [], hW', trodAll_mk1 (shut_bool Tryz.underlying4 _), (trodAll_cons_mk (shut_int Tryz.underlying3 w0) (trodAll_cons_mk (shut_int Tryz.underlying3 w1) trodAll_mk0)), rfl, bel.frame _, fun h => by cases h⟩

set_option maxRecDepth 100000 in
theorem lifted (os : Os) (started : os.Started) (H : Type) (enc : TypeId × Value → H) (F : Stop.Interp) :
    ReturnsInHanded {} Tryz.checked os 6 .any ((OpenSpec.ofChange Rows.walWholeSpec).preRow enc Tryz.prog Tryz.f6 Rows.walWholeRow.domain false Rows.walWholeRow.laid) (((OpenSpec.ofChange Rows.walWholeSpec).at F).post enc Tryz.prog Tryz.f6 false true false false) := by
  refine returnsInHanded_of_row (C := Tryz.checked) (s := OpenSpec.ofChange Rows.walWholeSpec) own started (by kernel_rfl) Tryz.func6
    (witness_row_at (enc := enc) (C := Tryz.checked) false ({ World.holding Tryz.prog os ⟨#[], #[], []⟩ with heap := ((World.holding Tryz.prog os ⟨#[], #[], []⟩).heap.modify 0 (fun | .cells _ t frozen => .cells #[.iface 160 (.agg #[.pointer (some ⟨2, 24, none⟩)])] t frozen | o => o)) }) #[.int .i64 0, .int .i64 0] rfl (by kernel_rfl) (by kernel_rfl) (by kernel_rfl)
      (OpenSpec.preRow_of_cond 8 (x := ([.lit (.int .i64 0), .lit (.int .i64 0)], [], [])) (by kernel_rfl) (by kernel_rfl) (fun k hk => by cases hk) (by kernel_rfl) (laidMetH_of_parts (laidMet_nil _ _) (by kernel_rfl)))) ?_
  intro W base args ds gs before hval hW _ hcond hsz hL hsh _
  exact contract H enc W base args ds gs before hval hW hsz hL hsh

theorem said : Rows.WalWholeSaid :=
  OpenClaim.holds_of_cond 6 Tryz.f6 rfl rfl rfl rfl rfl rfl rfl ⟨rfl, rfl, rfl, rfl, rfl⟩ rfl rfl rfl rfl rfl (by kernel_rfl) Tryz.func6 (by kernel_rfl)
    (of_decide_eq_true (by kernel_rfl)) (by unfold Func.isWrapper; first | (rw [if_pos (by decide +kernel)]; kernel_rfl) | (rw [if_neg (by decide +kernel)]; exact ⟨rfl, rfl⟩))
    (fun os started H enc _ F => by rw [OpenClaim.pre_eq_preRow]; exact lifted os started H enc F)

theorem plain (f : FuncId) (fn : Func) (hf : Tryz.pinned.checked.prog.funcNamed "witnessbox/witlaw4.WalWhole" = some f) (hfn : Tryz.pinned.checked.prog.funcs[f]? = some fn) :
    true = Tryz.pinned.checked.prog.looks [] ∧ ∀ (j : Nat) t, fn.params[j]? = some t → Tryz.pinned.checked.prog.wantsStandIn t = false := by
  obtain rfl : f = 6 := Option.some.inj ((show Tryz.prog.funcNamed "witnessbox/witlaw4.WalWhole" = some 6 by kernel_rfl).symm.trans hf) |>.symm
  obtain rfl : fn = Tryz.f6 := (Option.some.inj (Tryz.func6.symm.trans hfn)).symm
  refine ⟨by kernel_rfl, fun j t ht => ?_⟩
  have hall : (Tryz.f6.params.toList.all fun t => !Tryz.prog.wantsStandIn t) = true := by kernel_rfl
  have hm : t ∈ Tryz.f6.params.toList := Array.mem_toList_iff.2 (Array.mem_of_getElem? ht)
  have h := List.all_eq_true.1 hall t hm
  rw [Bool.not_eq_true'] at h
  exact h

theorem proved : Rows.WalWholeCardSaid :=
  Claim7.holds_tied_plain_at .later [] _ _ _ _ said (fun _ h => by cases h) (by kernel_rfl) (fun _ h => by cases h) walWhole_row_tie rfl ⟨rfl, rfl⟩ (by kernel_rfl) rfl plain (by kernel_rfl)
end Go.Proofs.YtofaegcljcpceafGreatDoor.walWhole
