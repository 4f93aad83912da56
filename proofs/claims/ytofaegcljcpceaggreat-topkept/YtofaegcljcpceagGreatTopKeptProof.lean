/-
  For all entries and two numbers: entries that are put into what is kept, each by its place, come back behind a crash, as far as they were made safe; and the log they make has but grown to what it was.
-/
import Derived.Test.YtofaegcljcpceagGreatRows
import Derived.Test.YtofaegcljcpceagGreatSums
import Derived.Test.YtofaegcljcpceagGreatNums
import Derived.Test.YtofaegcljcpceagGreatGrowPlain
import Derived.Test.YtofaegcljcpceagGreatLists
import Derived.Test.YtofaegcljcpceagGreatKeeps
import Derived.Test.YtofaegcljcpceagGreatWides
import Derived.Test.YtofaegcljcpceagGreatStores
import Derived.Test.YtofaegcljcpceagGreatPairRows
import Derived.Test.YtofaegcljcpceagGreatPlains
import Derived.Test.YtofaegcljcpceagGreatEntries
import Derived.Test.YtofaegcljcpceagGreatWalPlain
import Derived.Test.YtofaegcljcpceagGreatEntRows
import Derived.Test.YtofaegcljcpceagGreatGrowRight
import Derived.Test.YtofaegcljcpceagGreatErrs
import Derived.Test.YtofaegcljcpceagGreatWalkSum
import Derived.Test.YtofaegcljcpceagGreatWalkMix
import Derived.Test.YtofaegcljcpceagGreatWalkTree
import Derived.Test.YtofaegcljcpceagGreatWalkCheck
import Derived.Test.YtofaegcljcpceagGreatWalkSplit
import Derived.Test.YtofaegcljcpceagGreatWalkClimb
import Derived.Test.YtofaegcljcpceagGreatWalkSteps
import Derived.Test.YtofaegcljcpceagGreatWalkMake
import Derived.Test.YtofaegcljcpceagGreatWalkFrom
import Derived.Test.YtofaegcljcpceagGreatWalkProofCheck
import Derived.Test.YtofaegcljcpceagGreatWalkTopOne
import Derived.Test.YtofaegcljcpceagGreatWalkGrowClimb
import Derived.Test.YtofaegcljcpceagGreatWalkGrowMake
import Derived.Test.YtofaegcljcpceagGreatWalkGrowFrom
import Derived.Test.YtofaegcljcpceagGreatWalkGrowCheck
import Derived.Test.YtofaegcljcpceagGreatWalkGrow
import Derived.Test.YtofaegcljcpceagGreatWalkEntOne
import Derived.Test.YtofaegcljcpceagGreatWalkEntTake
import Derived.Test.YtofaegcljcpceagGreatWalkEnt
import Derived.Test.YtofaegcljcpceagGreatSpots
import Derived.Test.YtofaegcljcpceagGreatWalkStoFind
import Derived.Test.YtofaegcljcpceagGreatWideCopy
import Derived.Test.YtofaegcljcpceagGreatWalkStoIns
import Derived.Test.YtofaegcljcpceagGreatSorts
import Derived.Test.YtofaegcljcpceagGreatLsmRows
import Derived.Test.YtofaegcljcpceagGreatWalkConcat
import Derived.Test.YtofaegcljcpceagGreatWalkTabOne
import Derived.Test.YtofaegcljcpceagGreatWalkClone
import Derived.Test.YtofaegcljcpceagGreatWalkTabTake
import Derived.Test.YtofaegcljcpceagGreatWalkTabFind
import Derived.Test.YtofaegcljcpceagGreatWalkTab
import Derived.Test.YtofaegcljcpceagGreatWalkLiving
import Derived.Test.YtofaegcljcpceagGreatWalkStoOwn
import Derived.Test.YtofaegcljcpceagGreatWalkStoSet
import Derived.Test.YtofaegcljcpceagGreatWalkSto
import Derived.Test.YtofaegcljcpceagGreatWalkIns1
import Derived.Test.YtofaegcljcpceagGreatLsAll
import Derived.Test.YtofaegcljcpceagGreatWaAll
import Derived.Test.YtofaegcljcpceagGreatWalkWalAt
import Derived.Test.YtofaegcljcpceagGreatWalkTopKept
import Derived.WalkKit
import Derived.ProofKit
import Derived.ChangeSlices
import Derived.SliceStrings
import Derived.Carry
import Derived.OpenShut
import Derived.ShutString
import Derived.ChangeOld
import Derived.Below
import Derived.SizedLaws
import Derived.Deep.DeepHandedRow
import Derived.LaidLaws
import Derived.LaidHandle
namespace Go.Proofs.YtofaegcljcpceagGreat.topKept
open Go.ChangeShapes Go.WideShapes Go.ChangeAt Go.RowKit
open Go.ChangeMaps (open_string shut_string)
set_option linter.unusedVariables false

theorem own : ownKnob Tryz.prog.godebug = none := by kernel_rfl
theorem laidOut : laidOutB Tryz.prog = true := by kernel_rfl

set_option maxRecDepth 100000 in
theorem contract (H : Type) (enc : TypeId × Value → H) (W : World) (base : Nat) (args : Array Value) (ds gs : List (DataW H)) (before : List MemPlace)
    (hval0 : ∀ (j : Nat) t v, Tryz.f3.params[j]? = some t → args[j]? = some v → Value.okWide Tryz.prog W .any base t v)
    (hW : DataW.Whole enc Tryz.prog Tryz.f3.params.toList Rows.topKeptSpec.vars false W args.toList ds gs before)
    (hsz0 : (DataW.weightsEach Tryz.prog (Tryz.f3.params.toList ++ (OpenSpec.ofChange Rows.topKeptSpec).bare.plain.varTypes Tryz.prog) (ds ++ gs)).all (· ≤ reachBytes) = true) :
    Calls Tryz.prog 3 args W fun e W' => ∃ v, e = .returned v ∧ Rows.topKeptSpec.post enc Tryz.prog Tryz.f3 false true false false W args v W' := by
  have hval : ∀ (j : Nat) t v, Tryz.f3.params[j]? = some t → args[j]? = some v → Value.okWide Tryz.prog W .any base t v := hval0
  have hW' := hW
  obtain ⟨p, q, hA0, hV, rfl, hfz, hnd⟩ := hW
  have hA : DataW.TrodAll enc Tryz.prog W 0 (fun _ => true) true Tryz.f3.params.toList args.toList ds p := hA0
  have hsz : (DataW.weightsEach Tryz.prog (Tryz.f3.params.toList ++ Rows.topKeptSpec.plain.varTypes Tryz.prog) (ds ++ gs)).all (· ≤ reachBytes) = true := hsz0
  rw [Tryz.params3] at hA hval hsz
  obtain ⟨v0, vs0, d0, ds0, p0, q0, hargs, rfl, rfl, h0, r0⟩ := trodAll_cons hA
  obtain ⟨v1, vs1, d1, ds1, p1, q1, rfl, rfl, rfl, h1, r1⟩ := trodAll_cons r0
  obtain ⟨v2, vs2, d2, ds2, p2, q2, rfl, rfl, rfl, h2, r2⟩ := trodAll_cons r1
  obtain ⟨rfl, rfl, rfl⟩ := trodAll_nil r2
  obtain rfl : args = #[v0, v1, v2] := by cases args; simp_all
  obtain ⟨rfl, rfl⟩ := trodVars_none hV
  obtain ⟨a0, n0, cap0, rfl⟩ := okWide_slice Tryz.underlying22 (hval 0 22 v0 rfl rfl)
  have k0 := h0
  have lt0 : ∀ x ∈ p0, x.block < W.heap.size := by obtain ⟨m, hm⟩ := k0; exact DataW.trod_lt m _ _ _ hm
  obtain ⟨l0, r0_, z0, w0⟩ : ∃ l : List Entries.Entry, Wides.Wide 2 W a0 n0 cap0 (EntRows.cells l) ∧ l.length * 24 ≤ 140737488351232 ∧ ∀ x ∈ l, (Lit.int .i64 x.1).wf = true ∧ x.2.size ≤ maxLen := by
    obtain ⟨fuel, hf⟩ := h0
    obtain ⟨l, h1, h2, h3⟩ := EntRows.open_entries Tryz.underlying22 Tryz.underlying35 (by kernel_rfl) rfl rfl (by kernel_rfl) (by kernel_rfl) Tryz.underlying3 Tryz.underlying9 hf
    refine ⟨l, h1, ?_, h2⟩
    rcases h3 with rfl | ⟨ls, sp, hx, hl⟩
    · simp
    · simp only at hx
      subst hx
      have hb : Tryz.prog.bytesOf 35 = 24 := by kernel_rfl
      have := sized_slice hsz (j := 0) (t := 22) (e := 35) rfl rfl Tryz.underlying22
      rw [hb, hl] at this
      simp only [reachBytes] at this
      omega
  obtain ⟨a1, rfl, rfl, rfl, w1⟩ := open_int Tryz.underlying3 (hval 1 3 v1 rfl rfl) h1
  obtain ⟨a2, rfl, rfl, rfl, w2⟩ := open_int Tryz.underlying3 (hval 2 3 v2 rfl rfl) h2
  clear hA0 hval0 hsz0
  refine (WalkTopKept.walk a0 n0 cap0 l0 z0 w0 a1 w1 a2 w2 W r0_).mono fun e W' ⟨he, bel⟩ => ?_
  subst he
  exact ⟨_, rfl, _, _, _, [], _, [], hW', trodAll_mk1 (shut_bool Tryz.underlying4 _), (trodAll_cons_mk (Below.trod laidOut (by kernel_rfl) (of_decide_eq_true (by kernel_rfl)) k0 bel lt0) (trodAll_cons_mk (shut_int Tryz.underlying3 w1) (trodAll_cons_mk (shut_int Tryz.underlying3 w2) trodAll_mk0))), rfl, bel.frame _, fun h => by cases h⟩

set_option maxRecDepth 100000 in
theorem lifted (os : Os) (started : os.Started) (H : Type) (enc : TypeId × Value → H) (F : Stop.Interp) :
    ReturnsInHanded {} Tryz.checked os 3 .any ((OpenSpec.ofChange Rows.topKeptSpec).preRow enc Tryz.prog Tryz.f3 Rows.topKeptRow.domain false Rows.topKeptRow.laid) (((OpenSpec.ofChange Rows.topKeptSpec).at F).post enc Tryz.prog Tryz.f3 false true false false) := by
  refine returnsInHanded_of_row (C := Tryz.checked) (s := OpenSpec.ofChange Rows.topKeptSpec) own started (by kernel_rfl) Tryz.func3
    (witness_row_at (enc := enc) (C := Tryz.checked) false (World.holding Tryz.prog os ⟨#[], #[], []⟩) #[.slice none 0 0, .int .i64 0, .int .i64 0] rfl (by kernel_rfl) (by kernel_rfl) (by kernel_rfl)
      (OpenSpec.preRow_of_cond 8 (x := ([.nil, .lit (.int .i64 0), .lit (.int .i64 0)], [], [])) (by kernel_rfl) (by kernel_rfl) (fun k hk => by cases hk) (by kernel_rfl) (laidMetH_of_parts (laidMet_nil _ _) (by kernel_rfl)))) ?_
  intro W base args ds gs before hval hW _ hcond hsz hL hsh _
  exact contract H enc W base args ds gs before hval hW hsz

theorem said : Rows.TopKeptSaid :=
  OpenClaim.holds_of_cond 3 Tryz.f3 rfl rfl rfl rfl rfl rfl rfl ⟨rfl, rfl, rfl, rfl, rfl⟩ rfl rfl rfl rfl rfl (by kernel_rfl) Tryz.func3 (by kernel_rfl)
    (of_decide_eq_true (by kernel_rfl)) (by unfold Func.isWrapper; first | (rw [if_pos (by decide +kernel)]; kernel_rfl) | (rw [if_neg (by decide +kernel)]; exact ⟨rfl, rfl⟩))
    (fun os started H enc _ F => by rw [OpenClaim.pre_eq_preRow]; exact lifted os started H enc F)

theorem proved : Rows.TopKeptSaid := said
end Go.Proofs.YtofaegcljcpceagGreat.topKept
