/-
  For any leafs, size, root, steps and proof: what a tree of which the root is known refuses as it learns and forgets leafs, what it knows of each place, by which proof, and how many it knows, are as the document says.
-/
import Derived.Test.YtlibjdkofajahaaDoorRows
import Derived.Test.YtlibjdkofajahaaDoorSums
import Derived.Test.YtlibjdkofajahaaDoorNums
import Derived.Test.YtlibjdkofajahaaDoorTrees
import Derived.Test.YtlibjdkofajahaaDoorLists
import Derived.Test.YtlibjdkofajahaaDoorWays
import Derived.Test.YtlibjdkofajahaaDoorClimbs
import Derived.Test.YtlibjdkofajahaaDoorKeeps
import Derived.Test.YtlibjdkofajahaaDoorWides
import Derived.Test.YtlibjdkofajahaaDoorIntRows
import Derived.Test.YtlibjdkofajahaaDoorPrunes
import Derived.Test.YtlibjdkofajahaaDoorWalkSum
import Derived.Test.YtlibjdkofajahaaDoorWalkMix
import Derived.Test.YtlibjdkofajahaaDoorWalkTree
import Derived.Test.YtlibjdkofajahaaDoorWalkCheck
import Derived.Test.YtlibjdkofajahaaDoorWalkSplit
import Derived.Test.YtlibjdkofajahaaDoorWalkClimb
import Derived.Test.YtlibjdkofajahaaDoorWalkSteps
import Derived.Test.YtlibjdkofajahaaDoorWalkMake
import Derived.Test.YtlibjdkofajahaaDoorWalkFrom
import Derived.Test.YtlibjdkofajahaaDoorWalkProofCheck
import Derived.Test.YtlibjdkofajahaaDoorWalkPrObj
import Derived.Test.YtlibjdkofajahaaDoorWalkPr
import Derived.Test.YtlibjdkofajahaaDoorWalkPrLearn
import Derived.Test.YtlibjdkofajahaaDoorWalkPrMarks
import Derived.Test.YtlibjdkofajahaaDoorWalkRef
import Derived.Test.YtlibjdkofajahaaDoorWalkTreeRef
import Derived.Test.YtlibjdkofajahaaDoorWalkStepsRef
import Derived.Test.YtlibjdkofajahaaDoorWalkAllRef
import Derived.Test.YtlibjdkofajahaaDoorWalkWayRef
import Derived.Test.YtlibjdkofajahaaDoorWalkTold
import Derived.Test.YtlibjdkofajahaaDoorWalkInts
import Derived.Test.YtlibjdkofajahaaDoorWalkPrunePlays
import Derived.Test.YtlibjdkofajahaaDoorCards
import Derived.Test.YtlibjdkofajahaaDoorTie
import Derived.Test.YtlibjdkofajahaaDoorHandle
import Derived.SevenTiedAt
import Derived.Stop.LaidErr
import Derived.WalkKit
import Derived.ProofKit
import Derived.ChangeSlices
import Derived.SliceStrings
import Derived.Carry
import Derived.OpenShut
import Derived.ShutString
import Derived.ChangeOld
import Derived.Below
import Derived.SizedLaws
import Derived.Deep.DeepHandedRow
import Derived.LaidLaws
import Derived.LaidHandle
namespace Go.Proofs.YtlibjdkofajahaaDoor.prunePlays
open Go.ChangeShapes Go.WideShapes Go.ChangeAt Go.RowKit
open Go.ChangeMaps (open_string shut_string)
set_option linter.unusedVariables false

theorem own : ownKnob Tryd.prog.godebug = none := by kernel_rfl
theorem laidOut : laidOutB Tryd.prog = true := by kernel_rfl

set_option maxRecDepth 100000 in
theorem contract (H : Type) (enc : TypeId × Value → H) (W : World) (base : Nat) (args : Array Value) (ds gs : List (DataW H)) (before : List MemPlace)
    (hval0 : ∀ (j : Nat) t v, Tryd.f4.params[j]? = some t → args[j]? = some v → Value.okWide Tryd.prog W .any base t v)
    (hW : DataW.Whole enc Tryd.prog Tryd.f4.params.toList Rows.prunePlaysSpec.vars false W args.toList ds gs before)
    (hsz0 : (DataW.weightsEach Tryd.prog (Tryd.f4.params.toList ++ (OpenSpec.ofChange Rows.prunePlaysSpec).bare.plain.varTypes Tryd.prog) (ds ++ gs)).all (· ≤ reachBytes) = true) (hL : laidMetH Tryd.prog Rows.prunePlaysRow.laid W) (hsh : W.ShapedOpen Tryd.prog) :
    Calls Tryd.prog 4 args W fun e W' => ∃ v, e = .returned v ∧ Rows.prunePlaysSpec.post enc Tryd.prog Tryd.f4 false true false false W args v W' := by
  have hval : ∀ (j : Nat) t v, Tryd.f4.params[j]? = some t → args[j]? = some v → Value.okWide Tryd.prog W .any base t v := hval0
  have hW' := hW
  obtain ⟨p, q, hA0, hV, rfl, hfz, hnd⟩ := hW
  have hA : DataW.TrodAll enc Tryd.prog W 0 (fun _ => true) true Tryd.f4.params.toList args.toList ds p := hA0
  have hsz : (DataW.weightsEach Tryd.prog (Tryd.f4.params.toList ++ Rows.prunePlaysSpec.plain.varTypes Tryd.prog) (ds ++ gs)).all (· ≤ reachBytes) = true := hsz0
  rw [Tryd.params4] at hA hval hsz
  obtain ⟨v0, vs0, d0, ds0, p0, q0, hargs, rfl, rfl, h0, r0⟩ := trodAll_cons hA
  obtain ⟨v1, vs1, d1, ds1, p1, q1, rfl, rfl, rfl, h1, r1⟩ := trodAll_cons r0
  obtain ⟨v2, vs2, d2, ds2, p2, q2, rfl, rfl, rfl, h2, r2⟩ := trodAll_cons r1
  obtain ⟨v3, vs3, d3, ds3, p3, q3, rfl, rfl, rfl, h3, r3⟩ := trodAll_cons r2
  obtain ⟨v4, vs4, d4, ds4, p4, q4, rfl, rfl, rfl, h4, r4⟩ := trodAll_cons r3
  obtain ⟨rfl, rfl, rfl⟩ := trodAll_nil r4
  obtain rfl : args = #[v0, v1, v2, v3, v4] := by cases args; simp_all
  obtain ⟨rfl, rfl⟩ := trodVars_none hV
  obtain ⟨a0, n0, cap0, rfl⟩ := okWide_slice Tryd.underlying22 (hval 0 22 v0 rfl rfl)
  have k0 := h0
  have lt0 : ∀ x ∈ p0, x.block < W.heap.size := by obtain ⟨m, hm⟩ := k0; exact DataW.trod_lt m _ _ _ hm
  obtain ⟨l0, r0_, z0, w0⟩ : ∃ l, Lists.Row W a0 n0 cap0 (Lists.ints l) ∧ l.length * 8 ≤ 140737488351232 ∧ ∀ x ∈ l, (Lit.int .i64 x).wf = true := by
    obtain ⟨fuel, hf⟩ := h0
    rcases open_ints Tryd.underlying22 Tryd.underlying3 (by kernel_rfl) hf with ⟨hcs, _⟩ | ⟨x, len, c, zs, hcs, _, hl, hm, hz, hd, hcell, hwz⟩
    · simp [Value.cells] at hcs
      obtain ⟨rfl, rfl, rfl⟩ := hcs
      exact ⟨[], Lists.Row.nil _ _ _, by simp, by simp⟩
    · simp [Value.cells] at hcs
      obtain ⟨rfl, rfl, rfl⟩ := hcs
      simp only [Prod.mk.injEq] at hd
      obtain ⟨rfl, rfl⟩ := hd
      simp only [if_true] at hz
      have hb : Tryd.prog.bytesOf 3 = 8 := by kernel_rfl
      have := sized_slice hsz (j := 0) (t := 22) (e := 3) rfl rfl Tryd.underlying22
      rw [hb] at this
      simp only [lits, List.length_map, List.length_take, List.length_drop, reachBytes] at this
      exact ⟨zs.take n0, Lists.row_ints (by omega) hl hcell, by rw [List.length_take]; omega, fun y hy => hwz y (List.mem_of_mem_take hy)⟩
  obtain ⟨a1, rfl, rfl, rfl, w1⟩ := open_int Tryd.underlying3 (hval 1 3 v1 rfl rfl) h1
  obtain ⟨a2, rfl, rfl, rfl, w2⟩ := open_int Tryd.underlying3 (hval 2 3 v2 rfl rfl) h2
  obtain ⟨a3, n3, cap3, rfl⟩ := okWide_slice Tryd.underlying38 (hval 3 38 v3 rfl rfl)
  have k3 := h3
  have lt3 : ∀ x ∈ p3, x.block < W.heap.size := by obtain ⟨m, hm⟩ := k3; exact DataW.trod_lt m _ _ _ hm
  have sz3 : ∀ k ∈ d3.weights Tryd.prog 38, k ≤ reachBytes := fun k hk => by
    have := List.all_eq_true.1 hsz k (DataW.weights_mem_each (j := 3) (t := 38) rfl rfl k hk)
    simpa using this
  obtain ⟨l3, r3_, z3, w3⟩ : ∃ l : List (List Int), IntRows.Rowss W a3 n3 cap3 l ∧ l.length * 24 ≤ 140737488351232 ∧ ∀ x ∈ l, ∀ z ∈ x, (Lit.int .i64 z).wf = true := by
    obtain ⟨fuel, hf⟩ := h3
    obtain ⟨l, h1, h2, h3⟩ := IntRows.open_rows Tryd.underlying38 Tryd.underlying22 Tryd.underlying3 (by kernel_rfl) (by kernel_rfl) hf
    refine ⟨l, h1, ?_, h2⟩
    rcases h3 with rfl | ⟨ls, sp, hx, hl⟩
    · simp
    · simp only at hx
      subst hx
      have hb : Tryd.prog.bytesOf 22 = 24 := by kernel_rfl
      have := sized_slice hsz (j := 3) (t := 38) (e := 22) rfl rfl Tryd.underlying38
      rw [hb, hl] at this
      simp only [reachBytes] at this
      omega
  obtain ⟨a4, n4, cap4, rfl⟩ := okWide_slice Tryd.underlying22 (hval 4 22 v4 rfl rfl)
  have k4 := h4
  have lt4 : ∀ x ∈ p4, x.block < W.heap.size := by obtain ⟨m, hm⟩ := k4; exact DataW.trod_lt m _ _ _ hm
  obtain ⟨l4, r4_, z4, w4⟩ : ∃ l, Lists.Row W a4 n4 cap4 (Lists.ints l) ∧ l.length * 8 ≤ 140737488351232 ∧ ∀ x ∈ l, (Lit.int .i64 x).wf = true := by
    obtain ⟨fuel, hf⟩ := h4
    rcases open_ints Tryd.underlying22 Tryd.underlying3 (by kernel_rfl) hf with ⟨hcs, _⟩ | ⟨x, len, c, zs, hcs, _, hl, hm, hz, hd, hcell, hwz⟩
    · simp [Value.cells] at hcs
      obtain ⟨rfl, rfl, rfl⟩ := hcs
      exact ⟨[], Lists.Row.nil _ _ _, by simp, by simp⟩
    · simp [Value.cells] at hcs
      obtain ⟨rfl, rfl, rfl⟩ := hcs
      simp only [Prod.mk.injEq] at hd
      obtain ⟨rfl, rfl⟩ := hd
      simp only [if_true] at hz
      have hb : Tryd.prog.bytesOf 3 = 8 := by kernel_rfl
      have := sized_slice hsz (j := 4) (t := 22) (e := 3) rfl rfl Tryd.underlying22
      rw [hb] at this
      simp only [lits, List.length_map, List.length_take, List.length_drop, reachBytes] at this
      exact ⟨zs.take n4, Lists.row_ints (by omega) hl hcell, by rw [List.length_take]; omega, fun y hy => hwz y (List.mem_of_mem_take hy)⟩
  clear hA0 hval0 hsz0
  have hM : laidMet Tryd.prog [] W ∧ handlesMet Tryd.prog [("errors.errorType", Rows.laid_errors_errorType)] W := hL
  refine (WalkPrunePlays.walk a0 n0 cap0 l0 z0 w0 a1 w1 a2 w2 a3 n3 cap3 l3 z3 w3 a4 n4 cap4 l4 z4 w4 W r0_ r3_ r4_ (Handle.handle_of_met hM.2)).mono fun e W' ⟨he, bel⟩ => ?_
  subst he
  exact ⟨_, rfl, _, _, _, [], _, [], hW', trodAll_mk1 (shut_bool Tryd.underlying4 _), (trodAll_cons_mk (Below.trod laidOut (by kernel_rfl) (of_decide_eq_true (by kernel_rfl)) k0 bel lt0) (trodAll_cons_mk (shut_int Tryd.underlying3 w1) (trodAll_cons_mk (shut_int Tryd.underlying3 w2) (trodAll_cons_mk (Below.trod laidOut (by kernel_rfl) (of_decide_eq_true (by kernel_rfl)) k3 bel lt3) (trodAll_cons_mk (Below.trod laidOut (by kernel_rfl) (of_decide_eq_true (by kernel_rfl)) k4 bel lt4) trodAll_mk0))))), rfl, bel.frame _, fun h => by cases h⟩

set_option maxRecDepth 100000 in
theorem lifted (os : Os) (started : os.Started) (H : Type) (enc : TypeId × Value → H) (F : Stop.Interp) :
    ReturnsInHanded {} Tryd.checked os 4 .any ((OpenSpec.ofChange Rows.prunePlaysSpec).preRow enc Tryd.prog Tryd.f4 Rows.prunePlaysRow.domain false Rows.prunePlaysRow.laid) (((OpenSpec.ofChange Rows.prunePlaysSpec).at F).post enc Tryd.prog Tryd.f4 false true false false) := by
  refine returnsInHanded_of_row (C := Tryd.checked) (s := OpenSpec.ofChange Rows.prunePlaysSpec) own started (by kernel_rfl) Tryd.func4
    (witness_row_at (enc := enc) (C := Tryd.checked) false ({ World.holding Tryd.prog os ⟨#[], #[], []⟩ with heap := ((World.holding Tryd.prog os ⟨#[], #[], []⟩).heap.modify 0 (fun | .cells _ t frozen => .cells #[.iface 95 (.agg #[.pointer (some ⟨1, 24, none⟩)])] t frozen | o => o)) }) #[.slice none 0 0, .int .i64 0, .int .i64 0, .slice none 0 0, .slice none 0 0] rfl (by kernel_rfl) (by kernel_rfl) (by kernel_rfl)
      (OpenSpec.preRow_of_cond 8 (x := ([.nil, .lit (.int .i64 0), .lit (.int .i64 0), .nil, .nil], [], [])) (by kernel_rfl) (by kernel_rfl) (fun k hk => by cases hk) (by kernel_rfl) (laidMetH_of_parts (laidMet_nil _ _) (by kernel_rfl)))) ?_
  intro W base args ds gs before hval hW _ hcond hsz hL hsh _
  exact contract H enc W base args ds gs before hval hW hsz hL hsh

theorem said : Rows.PrunePlaysSaid :=
  OpenClaim.holds_of_cond 4 Tryd.f4 rfl rfl rfl rfl rfl rfl rfl ⟨rfl, rfl, rfl, rfl, rfl⟩ rfl rfl rfl rfl rfl (by kernel_rfl) Tryd.func4 (by kernel_rfl)
    (of_decide_eq_true (by kernel_rfl)) (by unfold Func.isWrapper; first | (rw [if_pos (by decide +kernel)]; kernel_rfl) | (rw [if_neg (by decide +kernel)]; exact ⟨rfl, rfl⟩))
    (fun os started H enc _ F => by rw [OpenClaim.pre_eq_preRow]; exact lifted os started H enc F)

theorem plain (f : FuncId) (fn : Func) (hf : Tryd.pinned.checked.prog.funcNamed "witnessbox/witlaw3.PrunePlays" = some f) (hfn : Tryd.pinned.checked.prog.funcs[f]? = some fn) :
    true = Tryd.pinned.checked.prog.looks [] ∧ ∀ (j : Nat) t, fn.params[j]? = some t → Tryd.pinned.checked.prog.wantsStandIn t = false := by
  obtain rfl : f = 4 := Option.some.inj ((show Tryd.prog.funcNamed "witnessbox/witlaw3.PrunePlays" = some 4 by kernel_rfl).symm.trans hf) |>.symm
  obtain rfl : fn = Tryd.f4 := (Option.some.inj (Tryd.func4.symm.trans hfn)).symm
  refine ⟨by kernel_rfl, fun j t ht => ?_⟩
  have hall : (Tryd.f4.params.toList.all fun t => !Tryd.prog.wantsStandIn t) = true := by kernel_rfl
  have hm : t ∈ Tryd.f4.params.toList := Array.mem_toList_iff.2 (Array.mem_of_getElem? ht)
  have h := List.all_eq_true.1 hall t hm
  rw [Bool.not_eq_true'] at h
  exact h

theorem proved : Rows.PrunePlaysCardSaid :=
  Claim7.holds_tied_plain_at .later [] _ _ _ _ said (fun _ h => by cases h) (by kernel_rfl) (fun _ h => by cases h) prunePlays_row_tie rfl ⟨rfl, rfl⟩ (by kernel_rfl) rfl plain (by kernel_rfl)
end Go.Proofs.YtlibjdkofajahaaDoor.prunePlays
