/-
  For every number of keys and every limit: of a hundred keys at most that are put, flushed and merged there is one table with all of them, or none where there were none; dropped again, flushed and merged, there is no table and nothing to get.
-/
import Derived.Test.YtbepfeajaoaocafGreatDoorRows
import Derived.Test.YtbepfeajaoaocafGreatDoorSums
import Derived.Test.YtbepfeajaoaocafGreatDoorStores
import Derived.Test.YtbepfeajaoaocafGreatDoorSpots
import Derived.Test.YtbepfeajaoaocafGreatDoorLists
import Derived.Test.YtbepfeajaoaocafGreatDoorKeeps
import Derived.Test.YtbepfeajaoaocafGreatDoorWides
import Derived.Test.YtbepfeajaoaocafGreatDoorPairRows
import Derived.Test.YtbepfeajaoaocafGreatDoorWalkStoFind
import Derived.Test.YtbepfeajaoaocafGreatDoorWideCopy
import Derived.Test.YtbepfeajaoaocafGreatDoorWalkStoIns
import Derived.Test.YtbepfeajaoaocafGreatDoorNums
import Derived.Test.YtbepfeajaoaocafGreatDoorPlains
import Derived.Test.YtbepfeajaoaocafGreatDoorSorts
import Derived.Test.YtbepfeajaoaocafGreatDoorLsmRows
import Derived.Test.YtbepfeajaoaocafGreatDoorWalkConcat
import Derived.Test.YtbepfeajaoaocafGreatDoorErrs
import Derived.Test.YtbepfeajaoaocafGreatDoorWalkSum
import Derived.Test.YtbepfeajaoaocafGreatDoorWalkMix
import Derived.Test.YtbepfeajaoaocafGreatDoorWalkTabOne
import Derived.Test.YtbepfeajaoaocafGreatDoorWalkClone
import Derived.Test.YtbepfeajaoaocafGreatDoorWalkTabTake
import Derived.Test.YtbepfeajaoaocafGreatDoorWalkTabFind
import Derived.Test.YtbepfeajaoaocafGreatDoorWalkTab
import Derived.Test.YtbepfeajaoaocafGreatDoorWalkLiving
import Derived.Test.YtbepfeajaoaocafGreatDoorWalkStoOwn
import Derived.Test.YtbepfeajaoaocafGreatDoorWalkStoSet
import Derived.Test.YtbepfeajaoaocafGreatDoorWalkSto
import Derived.Test.YtbepfeajaoaocafGreatDoorWalkIns1
import Derived.Test.YtbepfeajaoaocafGreatDoorLsAll
import Derived.Test.YtbepfeajaoaocafGreatDoorWalkTold
import Derived.Test.YtbepfeajaoaocafGreatDoorWalkLsmMerges
import Derived.Test.YtbepfeajaoaocafGreatDoorCards
import Derived.Test.YtbepfeajaoaocafGreatDoorTie
import Derived.Test.YtbepfeajaoaocafGreatDoorHandle
import Derived.SevenTiedAt
import Derived.Stop.LaidErr
import Derived.WalkKit
import Derived.ProofKit
import Derived.ChangeSlices
import Derived.SliceStrings
import Derived.Carry
import Derived.OpenShut
import Derived.ShutString
import Derived.ChangeOld
import Derived.Below
import Derived.SizedLaws
import Derived.Deep.DeepHandedRow
import Derived.LaidLaws
import Derived.LaidHandle
namespace Go.Proofs.YtbepfeajaoaocafGreatDoor.lsmMerges
open Go.ChangeShapes Go.WideShapes Go.ChangeAt Go.RowKit
open Go.ChangeMaps (open_string shut_string)
set_option linter.unusedVariables false

theorem own : ownKnob Tryz.prog.godebug = none := by kernel_rfl
theorem laidOut : laidOutB Tryz.prog = true := by kernel_rfl

set_option maxRecDepth 100000 in
theorem contract (H : Type) (enc : TypeId × Value → H) (W : World) (base : Nat) (args : Array Value) (ds gs : List (DataW H)) (before : List MemPlace)
    (hval0 : ∀ (j : Nat) t v, Tryz.f3.params[j]? = some t → args[j]? = some v → Value.okWide Tryz.prog W .any base t v)
    (hW : DataW.Whole enc Tryz.prog Tryz.f3.params.toList Rows.lsmMergesSpec.vars false W args.toList ds gs before)
    (hsz0 : (DataW.weightsEach Tryz.prog (Tryz.f3.params.toList ++ (OpenSpec.ofChange Rows.lsmMergesSpec).bare.plain.varTypes Tryz.prog) (ds ++ gs)).all (· ≤ reachBytes) = true) (hL : laidMetH Tryz.prog Rows.lsmMergesRow.laid W) (hsh : W.ShapedOpen Tryz.prog) :
    Calls Tryz.prog 3 args W fun e W' => ∃ v, e = .returned v ∧ Rows.lsmMergesSpec.post enc Tryz.prog Tryz.f3 false true false false W args v W' := by
  have hval : ∀ (j : Nat) t v, Tryz.f3.params[j]? = some t → args[j]? = some v → Value.okWide Tryz.prog W .any base t v := hval0
  have hW' := hW
  obtain ⟨p, q, hA0, hV, rfl, hfz, hnd⟩ := hW
  have hA : DataW.TrodAll enc Tryz.prog W 0 (fun _ => true) true Tryz.f3.params.toList args.toList ds p := hA0
  have hsz : (DataW.weightsEach Tryz.prog (Tryz.f3.params.toList ++ Rows.lsmMergesSpec.plain.varTypes Tryz.prog) (ds ++ gs)).all (· ≤ reachBytes) = true := hsz0
  rw [Tryz.params3] at hA hval hsz
  obtain ⟨v0, vs0, d0, ds0, p0, q0, hargs, rfl, rfl, h0, r0⟩ := trodAll_cons hA
  obtain ⟨v1, vs1, d1, ds1, p1, q1, rfl, rfl, rfl, h1, r1⟩ := trodAll_cons r0
  obtain ⟨rfl, rfl, rfl⟩ := trodAll_nil r1
  obtain rfl : args = #[v0, v1] := by cases args; simp_all
  obtain ⟨rfl, rfl⟩ := trodVars_none hV
  obtain ⟨a0, rfl, rfl, rfl, w0⟩ := open_int Tryz.underlying3 (hval 0 3 v0 rfl rfl) h0
  obtain ⟨a1, rfl, rfl, rfl, w1⟩ := open_int Tryz.underlying3 (hval 1 3 v1 rfl rfl) h1
  clear hA0 hval0 hsz0
  have hM : laidMet Tryz.prog [] W ∧ handlesMet Tryz.prog [("errors.errorType", Rows.laid_errors_errorType)] W := hL
  refine (WalkLsmMerges.walk a0 w0 a1 w1 W (Handle.handle_of_met hM.2)).mono fun e W' ⟨he, bel⟩ => ?_
  subst he
  exact ⟨_, rfl, _, _, _, [], _, [], hW', trodAll_mk1 (shut_bool Tryz.underlying4 _), (trodAll_cons_mk (shut_int Tryz.underlying3 w0) (trodAll_cons_mk (shut_int Tryz.underlying3 w1) trodAll_mk0)), rfl, bel.frame _, fun h => by cases h⟩

set_option maxRecDepth 100000 in
theorem lifted (os : Os) (started : os.Started) (H : Type) (enc : TypeId × Value → H) (F : Stop.Interp) :
    ReturnsInHanded {} Tryz.checked os 3 .any ((OpenSpec.ofChange Rows.lsmMergesSpec).preRow enc Tryz.prog Tryz.f3 Rows.lsmMergesRow.domain false Rows.lsmMergesRow.laid) (((OpenSpec.ofChange Rows.lsmMergesSpec).at F).post enc Tryz.prog Tryz.f3 false true false false) := by
  refine returnsInHanded_of_row (C := Tryz.checked) (s := OpenSpec.ofChange Rows.lsmMergesSpec) own started (by kernel_rfl) Tryz.func3
    (witness_row_at (enc := enc) (C := Tryz.checked) false ({ World.holding Tryz.prog os ⟨#[], #[], []⟩ with heap := ((World.holding Tryz.prog os ⟨#[], #[], []⟩).heap.modify 0 (fun | .cells _ t frozen => .cells #[.iface 142 (.agg #[.pointer (some ⟨2, 24, none⟩)])] t frozen | o => o)) }) #[.int .i64 0, .int .i64 0] rfl (by kernel_rfl) (by kernel_rfl) (by kernel_rfl)
      (OpenSpec.preRow_of_cond 8 (x := ([.lit (.int .i64 0), .lit (.int .i64 0)], [], [])) (by kernel_rfl) (by kernel_rfl) (fun k hk => by cases hk) (by kernel_rfl) (laidMetH_of_parts (laidMet_nil _ _) (by kernel_rfl)))) ?_
  intro W base args ds gs before hval hW _ hcond hsz hL hsh _
  exact contract H enc W base args ds gs before hval hW hsz hL hsh

theorem said : Rows.LsmMergesSaid :=
  OpenClaim.holds_of_cond 3 Tryz.f3 rfl rfl rfl rfl rfl rfl rfl ⟨rfl, rfl, rfl, rfl, rfl⟩ rfl rfl rfl rfl rfl (by kernel_rfl) Tryz.func3 (by kernel_rfl)
    (of_decide_eq_true (by kernel_rfl)) (by unfold Func.isWrapper; first | (rw [if_pos (by decide +kernel)]; kernel_rfl) | (rw [if_neg (by decide +kernel)]; exact ⟨rfl, rfl⟩))
    (fun os started H enc _ F => by rw [OpenClaim.pre_eq_preRow]; exact lifted os started H enc F)

theorem plain (f : FuncId) (fn : Func) (hf : Tryz.pinned.checked.prog.funcNamed "witnessbox/witlaw4.LsmMerges" = some f) (hfn : Tryz.pinned.checked.prog.funcs[f]? = some fn) :
    true = Tryz.pinned.checked.prog.looks [] ∧ ∀ (j : Nat) t, fn.params[j]? = some t → Tryz.pinned.checked.prog.wantsStandIn t = false := by
  obtain rfl : f = 3 := Option.some.inj ((show Tryz.prog.funcNamed "witnessbox/witlaw4.LsmMerges" = some 3 by kernel_rfl).symm.trans hf) |>.symm
  obtain rfl : fn = Tryz.f3 := (Option.some.inj (Tryz.func3.symm.trans hfn)).symm
  refine ⟨by kernel_rfl, fun j t ht => ?_⟩
  have hall : (Tryz.f3.params.toList.all fun t => !Tryz.prog.wantsStandIn t) = true := by kernel_rfl
  have hm : t ∈ Tryz.f3.params.toList := Array.mem_toList_iff.2 (Array.mem_of_getElem? ht)
  have h := List.all_eq_true.1 hall t hm
  rw [Bool.not_eq_true'] at h
  exact h

theorem proved : Rows.LsmMergesCardSaid :=
  Claim7.holds_tied_plain_at .later [] _ _ _ _ said (fun _ h => by cases h) (by kernel_rfl) (fun _ h => by cases h) lsmMerges_row_tie rfl ⟨rfl, rfl⟩ (by kernel_rfl) rfl plain (by kernel_rfl)
end Go.Proofs.YtbepfeajaoaocafGreatDoor.lsmMerges
