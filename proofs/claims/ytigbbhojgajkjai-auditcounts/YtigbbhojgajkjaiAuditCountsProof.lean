/-
  For every number of entries, sixty at most: the tiles of so many entries are as many as All names for as many leafs, each of as many sums as that tile is wide.
-/
import Derived.Test.YtigbbhojgajkjaiRows
import Derived.Test.YtigbbhojgajkjaiSums
import Derived.Test.YtigbbhojgajkjaiNums
import Derived.Test.YtigbbhojgajkjaiDecimals
import Derived.Test.YtigbbhojgajkjaiHeads
import Derived.Test.YtigbbhojgajkjaiEntries
import Derived.Test.YtigbbhojgajkjaiTrees
import Derived.Test.YtigbbhojgajkjaiWays
import Derived.Test.YtigbbhojgajkjaiClimbs
import Derived.Test.YtigbbhojgajkjaiTurns
import Derived.Test.YtigbbhojgajkjaiGrows
import Derived.Test.YtigbbhojgajkjaiGrowsE
import Derived.Test.YtigbbhojgajkjaiMirrors
import Derived.Test.YtigbbhojgajkjaiTiles
import Derived.Test.YtigbbhojgajkjaiGrowRight
import Derived.Test.YtigbbhojgajkjaiAudits
import Derived.Test.YtigbbhojgajkjaiLists
import Derived.Test.YtigbbhojgajkjaiKeeps
import Derived.Test.YtigbbhojgajkjaiWides
import Derived.Test.YtigbbhojgajkjaiIntRows
import Derived.Test.YtigbbhojgajkjaiSumRows
import Derived.Test.YtigbbhojgajkjaiEntRows
import Derived.Test.YtigbbhojgajkjaiErrs
import Derived.Test.YtigbbhojgajkjaiWalkSum
import Derived.Test.YtigbbhojgajkjaiWalkMix
import Derived.Test.YtigbbhojgajkjaiWalkEntOne
import Derived.Test.YtigbbhojgajkjaiWalkEntTake
import Derived.Test.YtigbbhojgajkjaiWalkEnt
import Derived.Test.YtigbbhojgajkjaiTileRows
import Derived.Test.YtigbbhojgajkjaiTilesRoot
import Derived.Test.YtigbbhojgajkjaiWalkTileAll
import Derived.Test.YtigbbhojgajkjaiWalkTree
import Derived.Test.YtigbbhojgajkjaiWalkCheck
import Derived.Test.YtigbbhojgajkjaiWalkTile
import Derived.Test.YtigbbhojgajkjaiWalkAuTiles
import Derived.Test.YtigbbhojgajkjaiSomes
import Derived.Test.YtigbbhojgajkjaiWalkHex
import Derived.Test.YtigbbhojgajkjaiWalkRef
import Derived.Test.YtigbbhojgajkjaiWalkDigits
import Derived.Test.YtigbbhojgajkjaiWalkSome
import Derived.Test.YtigbbhojgajkjaiWalkAuditCounts
import Derived.WalkKit
import Derived.ProofKit
import Derived.ChangeSlices
import Derived.SliceStrings
import Derived.Carry
import Derived.OpenShut
import Derived.ShutString
import Derived.ChangeOld
import Derived.Below
import Derived.SizedLaws
import Derived.Deep.DeepHandedRow
import Derived.LaidLaws
import Derived.LaidHandle
namespace Go.Proofs.Ytigbbhojgajkjai.auditCounts
open Go.ChangeShapes Go.WideShapes Go.ChangeAt Go.RowKit
open Go.ChangeMaps (open_string shut_string)
set_option linter.unusedVariables false

theorem own : ownKnob Try.prog.godebug = none := by kernel_rfl
theorem laidOut : laidOutB Try.prog = true := by kernel_rfl

set_option maxRecDepth 100000 in
theorem contract (H : Type) (enc : TypeId × Value → H) (W : World) (base : Nat) (args : Array Value) (ds gs : List (DataW H)) (before : List MemPlace)
    (hval0 : ∀ (j : Nat) t v, Try.f3.params[j]? = some t → args[j]? = some v → Value.okWide Try.prog W .any base t v)
    (hW : DataW.Whole enc Try.prog Try.f3.params.toList Rows.auditCountsSpec.vars false W args.toList ds gs before)
    (hsz0 : (DataW.weightsEach Try.prog (Try.f3.params.toList ++ (OpenSpec.ofChange Rows.auditCountsSpec).bare.plain.varTypes Try.prog) (ds ++ gs)).all (· ≤ reachBytes) = true) :
    Calls Try.prog 3 args W fun e W' => ∃ v, e = .returned v ∧ Rows.auditCountsSpec.post enc Try.prog Try.f3 false true false false W args v W' := by
  have hval : ∀ (j : Nat) t v, Try.f3.params[j]? = some t → args[j]? = some v → Value.okWide Try.prog W .any base t v := hval0
  have hW' := hW
  obtain ⟨p, q, hA0, hV, rfl, hfz, hnd⟩ := hW
  have hA : DataW.TrodAll enc Try.prog W 0 (fun _ => true) true Try.f3.params.toList args.toList ds p := hA0
  have hsz : (DataW.weightsEach Try.prog (Try.f3.params.toList ++ Rows.auditCountsSpec.plain.varTypes Try.prog) (ds ++ gs)).all (· ≤ reachBytes) = true := hsz0
  rw [Try.params3] at hA hval hsz
  obtain ⟨v0, vs0, d0, ds0, p0, q0, hargs, rfl, rfl, h0, r0⟩ := trodAll_cons hA
  obtain ⟨rfl, rfl, rfl⟩ := trodAll_nil r0
  obtain rfl : args = #[v0] := by cases args; simp_all
  obtain ⟨rfl, rfl⟩ := trodVars_none hV
  obtain ⟨a0, rfl, rfl, rfl, w0⟩ := open_int Try.underlying3 (hval 0 3 v0 rfl rfl) h0
  clear hA0 hval0 hsz0
  refine (WalkAuditCounts.walk a0 w0 W).mono fun e W' ⟨he, bel⟩ => ?_
  subst he
  exact ⟨_, rfl, _, _, _, [], _, [], hW', trodAll_mk1 (shut_bool Try.underlying4 _), (trodAll_cons_mk (shut_int Try.underlying3 w0) trodAll_mk0), rfl, bel.frame _, fun h => by cases h⟩

set_option maxRecDepth 100000 in
theorem lifted (os : Os) (started : os.Started) (H : Type) (enc : TypeId × Value → H) (F : Stop.Interp) :
    ReturnsInHanded {} Try.checked os 3 .any ((OpenSpec.ofChange Rows.auditCountsSpec).preRow enc Try.prog Try.f3 Rows.auditCountsRow.domain false Rows.auditCountsRow.laid) (((OpenSpec.ofChange Rows.auditCountsSpec).at F).post enc Try.prog Try.f3 false true false false) := by
  refine returnsInHanded_of_row (C := Try.checked) (s := OpenSpec.ofChange Rows.auditCountsSpec) own started (by kernel_rfl) Try.func3
    (witness_row_at (enc := enc) (C := Try.checked) false (World.holding Try.prog os ⟨#[], #[], []⟩) #[.int .i64 0] rfl (by kernel_rfl) (by kernel_rfl) (by kernel_rfl)
      (OpenSpec.preRow_of_cond 8 (x := ([.lit (.int .i64 0)], [], [])) (by kernel_rfl) (by kernel_rfl) (fun k hk => by cases hk) (by kernel_rfl) (laidMetH_of_parts (laidMet_nil _ _) (by kernel_rfl)))) ?_
  intro W base args ds gs before hval hW _ hcond hsz hL hsh _
  exact contract H enc W base args ds gs before hval hW hsz

theorem said : Rows.AuditCountsSaid :=
  OpenClaim.holds_of_cond 3 Try.f3 rfl rfl rfl rfl rfl rfl rfl ⟨rfl, rfl, rfl, rfl, rfl⟩ rfl rfl rfl rfl rfl (by kernel_rfl) Try.func3 (by kernel_rfl)
    (of_decide_eq_true (by kernel_rfl)) (by unfold Func.isWrapper; first | (rw [if_pos (by decide +kernel)]; kernel_rfl) | (rw [if_neg (by decide +kernel)]; exact ⟨rfl, rfl⟩))
    (fun os started H enc _ F => by rw [OpenClaim.pre_eq_preRow]; exact lifted os started H enc F)

theorem proved : Rows.AuditCountsSaid := said
end Go.Proofs.Ytigbbhojgajkjai.auditCounts
