/-
  For every limit, batches, and numbers of syncs, of steps at which it fails and of bytes that are kept: behind each crash there is what as many batches make as are whole among the bytes that are left; a batch is done whole, or not at all; what stopped did nothing.
-/
import Derived.Test.YtofaegcljcpceagGreatDoorRows
import Derived.Test.YtofaegcljcpceagGreatDoorSums
import Derived.Test.YtofaegcljcpceagGreatDoorNums
import Derived.Test.YtofaegcljcpceagGreatDoorLists
import Derived.Test.YtofaegcljcpceagGreatDoorKeeps
import Derived.Test.YtofaegcljcpceagGreatDoorWides
import Derived.Test.YtofaegcljcpceagGreatDoorStores
import Derived.Test.YtofaegcljcpceagGreatDoorPairRows
import Derived.Test.YtofaegcljcpceagGreatDoorPlains
import Derived.Test.YtofaegcljcpceagGreatDoorLsmRows
import Derived.Test.YtofaegcljcpceagGreatDoorLsmDoc
import Derived.Test.YtofaegcljcpceagGreatDoorErrs
import Derived.Test.YtofaegcljcpceagGreatDoorEntries
import Derived.Test.YtofaegcljcpceagGreatDoorWalPlain
import Derived.Test.YtofaegcljcpceagGreatDoorLsmRef
import Derived.Test.YtofaegcljcpceagGreatDoorWalkCopyRef
import Derived.Test.YtofaegcljcpceagGreatDoorWalkBatchRef
import Derived.Test.YtofaegcljcpceagGreatDoorWalPlays
import Derived.Test.YtofaegcljcpceagGreatDoorWalFacts
import Derived.Test.YtofaegcljcpceagGreatDoorBatchRows
import Derived.Test.YtofaegcljcpceagGreatDoorWalkSum
import Derived.Test.YtofaegcljcpceagGreatDoorWalkMix
import Derived.Test.YtofaegcljcpceagGreatDoorWalkHex
import Derived.Test.YtofaegcljcpceagGreatDoorWalkRef
import Derived.Test.YtofaegcljcpceagGreatDoorWalkTabRef
import Derived.Test.YtofaegcljcpceagGreatDoorWalkTableRef
import Derived.Test.YtofaegcljcpceagGreatDoorWalkTablesRef
import Derived.Test.YtofaegcljcpceagGreatDoorWalkPairsSame
import Derived.Test.YtofaegcljcpceagGreatDoorWalkTexts
import Derived.Test.YtofaegcljcpceagGreatDoorSpots
import Derived.Test.YtofaegcljcpceagGreatDoorWalkStoFind
import Derived.Test.YtofaegcljcpceagGreatDoorWideCopy
import Derived.Test.YtofaegcljcpceagGreatDoorWalkStoIns
import Derived.Test.YtofaegcljcpceagGreatDoorSorts
import Derived.Test.YtofaegcljcpceagGreatDoorWalkConcat
import Derived.Test.YtofaegcljcpceagGreatDoorWalkTabOne
import Derived.Test.YtofaegcljcpceagGreatDoorWalkClone
import Derived.Test.YtofaegcljcpceagGreatDoorWalkTabTake
import Derived.Test.YtofaegcljcpceagGreatDoorWalkTabFind
import Derived.Test.YtofaegcljcpceagGreatDoorWalkTab
import Derived.Test.YtofaegcljcpceagGreatDoorWalkLiving
import Derived.Test.YtofaegcljcpceagGreatDoorWalkStoOwn
import Derived.Test.YtofaegcljcpceagGreatDoorWalkStoSet
import Derived.Test.YtofaegcljcpceagGreatDoorWalkSto
import Derived.Test.YtofaegcljcpceagGreatDoorWalkIns1
import Derived.Test.YtofaegcljcpceagGreatDoorLsAll
import Derived.Test.YtofaegcljcpceagGreatDoorWaAll
import Derived.Test.YtofaegcljcpceagGreatDoorWalkWalAt
import Derived.Test.YtofaegcljcpceagGreatDoorWalkWalOff
import Derived.Test.YtofaegcljcpceagGreatDoorWalkWalHas
import Derived.Test.YtofaegcljcpceagGreatDoorWalkTold
import Derived.Test.YtofaegcljcpceagGreatDoorWalkWalKeeps
import Derived.Test.YtofaegcljcpceagGreatDoorCards
import Derived.Test.YtofaegcljcpceagGreatDoorTie
import Derived.Test.YtofaegcljcpceagGreatDoorHandle
import Derived.SevenTiedAt
import Derived.Stop.LaidErr
import Derived.WalkKit
import Derived.ProofKit
import Derived.ChangeSlices
import Derived.SliceStrings
import Derived.Carry
import Derived.OpenShut
import Derived.ShutString
import Derived.ChangeOld
import Derived.Below
import Derived.SizedLaws
import Derived.Deep.DeepHandedRow
import Derived.LaidLaws
import Derived.LaidHandle
namespace Go.Proofs.YtofaegcljcpceagGreatDoor.walKeeps
open Go.ChangeShapes Go.WideShapes Go.ChangeAt Go.RowKit
open Go.ChangeMaps (open_string shut_string)
set_option linter.unusedVariables false

theorem own : ownKnob Tryz.prog.godebug = none := by kernel_rfl
theorem laidOut : laidOutB Tryz.prog = true := by kernel_rfl

set_option maxRecDepth 100000 in
theorem contract (H : Type) (enc : TypeId × Value → H) (W : World) (base : Nat) (args : Array Value) (ds gs : List (DataW H)) (before : List MemPlace)
    (hval0 : ∀ (j : Nat) t v, Tryz.f3.params[j]? = some t → args[j]? = some v → Value.okWide Tryz.prog W .any base t v)
    (hW : DataW.Whole enc Tryz.prog Tryz.f3.params.toList Rows.walKeepsSpec.vars false W args.toList ds gs before)
    (hsz0 : (DataW.weightsEach Tryz.prog (Tryz.f3.params.toList ++ (OpenSpec.ofChange Rows.walKeepsSpec).bare.plain.varTypes Tryz.prog) (ds ++ gs)).all (· ≤ reachBytes) = true) (hL : laidMetH Tryz.prog Rows.walKeepsRow.laid W) (hsh : W.ShapedOpen Tryz.prog) :
    Calls Tryz.prog 3 args W fun e W' => ∃ v, e = .returned v ∧ Rows.walKeepsSpec.post enc Tryz.prog Tryz.f3 false true false false W args v W' := by
  have hval : ∀ (j : Nat) t v, Tryz.f3.params[j]? = some t → args[j]? = some v → Value.okWide Tryz.prog W .any base t v := hval0
  have hW' := hW
  obtain ⟨p, q, hA0, hV, rfl, hfz, hnd⟩ := hW
  have hA : DataW.TrodAll enc Tryz.prog W 0 (fun _ => true) true Tryz.f3.params.toList args.toList ds p := hA0
  have hsz : (DataW.weightsEach Tryz.prog (Tryz.f3.params.toList ++ Rows.walKeepsSpec.plain.varTypes Tryz.prog) (ds ++ gs)).all (· ≤ reachBytes) = true := hsz0
  rw [Tryz.params3] at hA hval hsz
  obtain ⟨v0, vs0, d0, ds0, p0, q0, hargs, rfl, rfl, h0, r0⟩ := trodAll_cons hA
  obtain ⟨v1, vs1, d1, ds1, p1, q1, rfl, rfl, rfl, h1, r1⟩ := trodAll_cons r0
  obtain ⟨v2, vs2, d2, ds2, p2, q2, rfl, rfl, rfl, h2, r2⟩ := trodAll_cons r1
  obtain ⟨v3, vs3, d3, ds3, p3, q3, rfl, rfl, rfl, h3, r3⟩ := trodAll_cons r2
  obtain ⟨v4, vs4, d4, ds4, p4, q4, rfl, rfl, rfl, h4, r4⟩ := trodAll_cons r3
  obtain ⟨rfl, rfl, rfl⟩ := trodAll_nil r4
  obtain rfl : args = #[v0, v1, v2, v3, v4] := by cases args; simp_all
  obtain ⟨rfl, rfl⟩ := trodVars_none hV
  obtain ⟨a0, rfl, rfl, rfl, w0⟩ := open_int Tryz.underlying3 (hval 0 3 v0 rfl rfl) h0
  obtain ⟨a1, n1, cap1, rfl⟩ := okWide_slice Tryz.underlying22 (hval 1 22 v1 rfl rfl)
  have k1 := h1
  have lt1 : ∀ x ∈ p1, x.block < W.heap.size := by obtain ⟨m, hm⟩ := k1; exact DataW.trod_lt m _ _ _ hm
  obtain ⟨l1, r1_, z1, w1⟩ : ∃ bs : List (List Stores.Pair), BatchRows.Batches W a1 n1 cap1 bs ∧ bs.length * 24 ≤ 140737488351232 ∧ ∀ l ∈ bs, ∀ x ∈ l, x.key.size ≤ maxLen ∧ x.val.size ≤ maxLen := by
    obtain ⟨fuel, hf⟩ := h1
    obtain ⟨l, h1, h2, h3⟩ := BatchRows.open_batches Tryz.underlying22 Tryz.underlying32 Tryz.underlying31 (by kernel_rfl) (by kernel_rfl) rfl rfl rfl (by kernel_rfl) (by kernel_rfl) (by kernel_rfl) Tryz.underlying9 Tryz.underlying9 Tryz.underlying4 hf
    refine ⟨l, h1, ?_, h2⟩
    rcases h3 with rfl | ⟨ls, sp, hx, hl⟩
    · simp
    · simp only at hx
      subst hx
      have hb : Tryz.prog.bytesOf 32 = 24 := by kernel_rfl
      have := sized_slice hsz (j := 1) (t := 22) (e := 32) rfl rfl Tryz.underlying22
      rw [hb, hl] at this
      simp only [reachBytes] at this
      omega
  obtain ⟨a2, n2, cap2, rfl⟩ := okWide_slice Tryz.underlying23 (hval 2 23 v2 rfl rfl)
  have k2 := h2
  have lt2 : ∀ x ∈ p2, x.block < W.heap.size := by obtain ⟨m, hm⟩ := k2; exact DataW.trod_lt m _ _ _ hm
  obtain ⟨l2, r2_, z2, w2⟩ : ∃ l, Lists.Row W a2 n2 cap2 (Lists.ints l) ∧ l.length * 8 ≤ 140737488351232 ∧ ∀ x ∈ l, (Lit.int .i64 x).wf = true := by
    obtain ⟨fuel, hf⟩ := h2
    rcases open_ints Tryz.underlying23 Tryz.underlying3 (by kernel_rfl) hf with ⟨hcs, _⟩ | ⟨x, len, c, zs, hcs, _, hl, hm, hz, hd, hcell, hwz⟩
    · simp [Value.cells] at hcs
      obtain ⟨rfl, rfl, rfl⟩ := hcs
      exact ⟨[], Lists.Row.nil _ _ _, by simp, by simp⟩
    · simp [Value.cells] at hcs
      obtain ⟨rfl, rfl, rfl⟩ := hcs
      simp only [Prod.mk.injEq] at hd
      obtain ⟨rfl, rfl⟩ := hd
      simp only [if_true] at hz
      have hb : Tryz.prog.bytesOf 3 = 8 := by kernel_rfl
      have := sized_slice hsz (j := 2) (t := 23) (e := 3) rfl rfl Tryz.underlying23
      rw [hb] at this
      simp only [lits, List.length_map, List.length_take, List.length_drop, reachBytes] at this
      exact ⟨zs.take n2, Lists.row_ints (by omega) hl hcell, by rw [List.length_take]; omega, fun y hy => hwz y (List.mem_of_mem_take hy)⟩
  obtain ⟨a3, n3, cap3, rfl⟩ := okWide_slice Tryz.underlying23 (hval 3 23 v3 rfl rfl)
  have k3 := h3
  have lt3 : ∀ x ∈ p3, x.block < W.heap.size := by obtain ⟨m, hm⟩ := k3; exact DataW.trod_lt m _ _ _ hm
  obtain ⟨l3, r3_, z3, w3⟩ : ∃ l, Lists.Row W a3 n3 cap3 (Lists.ints l) ∧ l.length * 8 ≤ 140737488351232 ∧ ∀ x ∈ l, (Lit.int .i64 x).wf = true := by
    obtain ⟨fuel, hf⟩ := h3
    rcases open_ints Tryz.underlying23 Tryz.underlying3 (by kernel_rfl) hf with ⟨hcs, _⟩ | ⟨x, len, c, zs, hcs, _, hl, hm, hz, hd, hcell, hwz⟩
    · simp [Value.cells] at hcs
      obtain ⟨rfl, rfl, rfl⟩ := hcs
      exact ⟨[], Lists.Row.nil _ _ _, by simp, by simp⟩
    · simp [Value.cells] at hcs
      obtain ⟨rfl, rfl, rfl⟩ := hcs
      simp only [Prod.mk.injEq] at hd
      obtain ⟨rfl, rfl⟩ := hd
      simp only [if_true] at hz
      have hb : Tryz.prog.bytesOf 3 = 8 := by kernel_rfl
      have := sized_slice hsz (j := 3) (t := 23) (e := 3) rfl rfl Tryz.underlying23
      rw [hb] at this
      simp only [lits, List.length_map, List.length_take, List.length_drop, reachBytes] at this
      exact ⟨zs.take n3, Lists.row_ints (by omega) hl hcell, by rw [List.length_take]; omega, fun y hy => hwz y (List.mem_of_mem_take hy)⟩
  obtain ⟨a4, n4, cap4, rfl⟩ := okWide_slice Tryz.underlying23 (hval 4 23 v4 rfl rfl)
  have k4 := h4
  have lt4 : ∀ x ∈ p4, x.block < W.heap.size := by obtain ⟨m, hm⟩ := k4; exact DataW.trod_lt m _ _ _ hm
  obtain ⟨l4, r4_, z4, w4⟩ : ∃ l, Lists.Row W a4 n4 cap4 (Lists.ints l) ∧ l.length * 8 ≤ 140737488351232 ∧ ∀ x ∈ l, (Lit.int .i64 x).wf = true := by
    obtain ⟨fuel, hf⟩ := h4
    rcases open_ints Tryz.underlying23 Tryz.underlying3 (by kernel_rfl) hf with ⟨hcs, _⟩ | ⟨x, len, c, zs, hcs, _, hl, hm, hz, hd, hcell, hwz⟩
    · simp [Value.cells] at hcs
      obtain ⟨rfl, rfl, rfl⟩ := hcs
      exact ⟨[], Lists.Row.nil _ _ _, by simp, by simp⟩
    · simp [Value.cells] at hcs
      obtain ⟨rfl, rfl, rfl⟩ := hcs
      simp only [Prod.mk.injEq] at hd
      obtain ⟨rfl, rfl⟩ := hd
      simp only [if_true] at hz
      have hb : Tryz.prog.bytesOf 3 = 8 := by kernel_rfl
      have := sized_slice hsz (j := 4) (t := 23) (e := 3) rfl rfl Tryz.underlying23
      rw [hb] at this
      simp only [lits, List.length_map, List.length_take, List.length_drop, reachBytes] at this
      exact ⟨zs.take n4, Lists.row_ints (by omega) hl hcell, by rw [List.length_take]; omega, fun y hy => hwz y (List.mem_of_mem_take hy)⟩
  clear hA0 hval0 hsz0
  have hM : laidMet Tryz.prog [] W ∧ handlesMet Tryz.prog [("errors.errorType", Rows.laid_errors_errorType)] W := hL
  refine (WalkWalKeeps.walk a0 w0 a1 n1 cap1 l1 z1 w1 a2 n2 cap2 l2 z2 w2 a3 n3 cap3 l3 z3 w3 a4 n4 cap4 l4 z4 w4 W r1_ r2_ r3_ r4_ (Handle.handle_of_met hM.2)).mono fun e W' ⟨he, bel⟩ => ?_
  subst he
  exact ⟨_, rfl, _, _, _, [], _, [], hW', trodAll_mk1 (shut_bool Tryz.underlying4 _), (trodAll_cons_mk (shut_int Tryz.underlying3 w0) (trodAll_cons_mk (Below.trod laidOut (by kernel_rfl) (of_decide_eq_true (by kernel_rfl)) k1 bel lt1) (trodAll_cons_mk (Below.trod laidOut (by kernel_rfl) (of_decide_eq_true (by kernel_rfl)) k2 bel lt2) (trodAll_cons_mk (Below.trod laidOut (by kernel_rfl) (of_decide_eq_true (by kernel_rfl)) k3 bel lt3) (trodAll_cons_mk (Below.trod laidOut (by kernel_rfl) (of_decide_eq_true (by kernel_rfl)) k4 bel lt4) trodAll_mk0))))), rfl, bel.frame _, fun h => by cases h⟩

set_option maxRecDepth 100000 in
theorem lifted (os : Os) (started : os.Started) (H : Type) (enc : TypeId × Value → H) (F : Stop.Interp) :
    ReturnsInHanded {} Tryz.checked os 3 .any ((OpenSpec.ofChange Rows.walKeepsSpec).preRow enc Tryz.prog Tryz.f3 Rows.walKeepsRow.domain false Rows.walKeepsRow.laid) (((OpenSpec.ofChange Rows.walKeepsSpec).at F).post enc Tryz.prog Tryz.f3 false true false false) := by
  refine returnsInHanded_of_row (C := Tryz.checked) (s := OpenSpec.ofChange Rows.walKeepsSpec) own started (by kernel_rfl) Tryz.func3
    (witness_row_at (enc := enc) (C := Tryz.checked) false ({ World.holding Tryz.prog os ⟨#[], #[], []⟩ with heap := ((World.holding Tryz.prog os ⟨#[], #[], []⟩).heap.modify 0 (fun | .cells _ t frozen => .cells #[.iface 134 (.agg #[.pointer (some ⟨2, 26, none⟩)])] t frozen | o => o)) }) #[.int .i64 0, .slice none 0 0, .slice none 0 0, .slice none 0 0, .slice none 0 0] rfl (by kernel_rfl) (by kernel_rfl) (by kernel_rfl)
      (OpenSpec.preRow_of_cond 8 (x := ([.lit (.int .i64 0), .nil, .nil, .nil, .nil], [], [])) (by kernel_rfl) (by kernel_rfl) (fun k hk => by cases hk) (by kernel_rfl) (laidMetH_of_parts (laidMet_nil _ _) (by kernel_rfl)))) ?_
  intro W base args ds gs before hval hW _ hcond hsz hL hsh _
  exact contract H enc W base args ds gs before hval hW hsz hL hsh

theorem said : Rows.WalKeepsSaid :=
  OpenClaim.holds_of_cond 3 Tryz.f3 rfl rfl rfl rfl rfl rfl rfl ⟨rfl, rfl, rfl, rfl, rfl⟩ rfl rfl rfl rfl rfl (by kernel_rfl) Tryz.func3 (by kernel_rfl)
    (of_decide_eq_true (by kernel_rfl)) (by unfold Func.isWrapper; first | (rw [if_pos (by decide +kernel)]; kernel_rfl) | (rw [if_neg (by decide +kernel)]; exact ⟨rfl, rfl⟩))
    (fun os started H enc _ F => by rw [OpenClaim.pre_eq_preRow]; exact lifted os started H enc F)

theorem plain (f : FuncId) (fn : Func) (hf : Tryz.pinned.checked.prog.funcNamed "witnessbox/witlaw2.WalKeeps" = some f) (hfn : Tryz.pinned.checked.prog.funcs[f]? = some fn) :
    true = Tryz.pinned.checked.prog.looks [] ∧ ∀ (j : Nat) t, fn.params[j]? = some t → Tryz.pinned.checked.prog.wantsStandIn t = false := by
  obtain rfl : f = 3 := Option.some.inj ((show Tryz.prog.funcNamed "witnessbox/witlaw2.WalKeeps" = some 3 by kernel_rfl).symm.trans hf) |>.symm
  obtain rfl : fn = Tryz.f3 := (Option.some.inj (Tryz.func3.symm.trans hfn)).symm
  refine ⟨by kernel_rfl, fun j t ht => ?_⟩
  have hall : (Tryz.f3.params.toList.all fun t => !Tryz.prog.wantsStandIn t) = true := by kernel_rfl
  have hm : t ∈ Tryz.f3.params.toList := Array.mem_toList_iff.2 (Array.mem_of_getElem? ht)
  have h := List.all_eq_true.1 hall t hm
  rw [Bool.not_eq_true'] at h
  exact h

theorem proved : Rows.WalKeepsCardSaid :=
  Claim7.holds_tied_plain_at .later [] _ _ _ _ said (fun _ h => by cases h) (by kernel_rfl) (fun _ h => by cases h) walKeeps_row_tie rfl ⟨rfl, rfl⟩ (by kernel_rfl) rfl plain (by kernel_rfl)
end Go.Proofs.YtofaegcljcpceagGreatDoor.walKeeps
