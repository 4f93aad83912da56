/-
  For every limit, list of numbers and list of pairs: of the first eighty numbers each flushes, merges, or puts or drops a pair of the list, in levels and in the document's own; what is refused, what one can get, all of it, the tables and how many are young are those of the document.
-/
import Derived.Test.YtbepfeajaoaocafGreatDoorRows
import Derived.Test.YtbepfeajaoaocafGreatDoorSums
import Derived.Test.YtbepfeajaoaocafGreatDoorStores
import Derived.Test.YtbepfeajaoaocafGreatDoorSpots
import Derived.Test.YtbepfeajaoaocafGreatDoorLists
import Derived.Test.YtbepfeajaoaocafGreatDoorKeeps
import Derived.Test.YtbepfeajaoaocafGreatDoorWides
import Derived.Test.YtbepfeajaoaocafGreatDoorPairRows
import Derived.Test.YtbepfeajaoaocafGreatDoorWalkStoFind
import Derived.Test.YtbepfeajaoaocafGreatDoorWideCopy
import Derived.Test.YtbepfeajaoaocafGreatDoorWalkStoIns
import Derived.Test.YtbepfeajaoaocafGreatDoorNums
import Derived.Test.YtbepfeajaoaocafGreatDoorPlains
import Derived.Test.YtbepfeajaoaocafGreatDoorSorts
import Derived.Test.YtbepfeajaoaocafGreatDoorLsmRows
import Derived.Test.YtbepfeajaoaocafGreatDoorWalkConcat
import Derived.Test.YtbepfeajaoaocafGreatDoorErrs
import Derived.Test.YtbepfeajaoaocafGreatDoorWalkSum
import Derived.Test.YtbepfeajaoaocafGreatDoorWalkMix
import Derived.Test.YtbepfeajaoaocafGreatDoorWalkTabOne
import Derived.Test.YtbepfeajaoaocafGreatDoorWalkClone
import Derived.Test.YtbepfeajaoaocafGreatDoorWalkTabTake
import Derived.Test.YtbepfeajaoaocafGreatDoorWalkTabFind
import Derived.Test.YtbepfeajaoaocafGreatDoorWalkTab
import Derived.Test.YtbepfeajaoaocafGreatDoorWalkLiving
import Derived.Test.YtbepfeajaoaocafGreatDoorWalkStoOwn
import Derived.Test.YtbepfeajaoaocafGreatDoorWalkStoSet
import Derived.Test.YtbepfeajaoaocafGreatDoorWalkSto
import Derived.Test.YtbepfeajaoaocafGreatDoorWalkIns1
import Derived.Test.YtbepfeajaoaocafGreatDoorLsAll
import Derived.Test.YtbepfeajaoaocafGreatDoorWalkTold
import Derived.Test.YtbepfeajaoaocafGreatDoorLsmDoc
import Derived.Test.YtbepfeajaoaocafGreatDoorWalkStoreRef
import Derived.Test.YtbepfeajaoaocafGreatDoorWalkWithRef
import Derived.Test.YtbepfeajaoaocafGreatDoorWalkLiveRef
import Derived.Test.YtbepfeajaoaocafGreatDoorWalkMergeRef
import Derived.Test.YtbepfeajaoaocafGreatDoorWalkFlushRef
import Derived.Test.YtbepfeajaoaocafGreatDoorWalkLPutRef
import Derived.Test.YtbepfeajaoaocafGreatDoorWalkTabRef
import Derived.Test.YtbepfeajaoaocafGreatDoorWalkHex
import Derived.Test.YtbepfeajaoaocafGreatDoorWalkRef
import Derived.Test.YtbepfeajaoaocafGreatDoorWalkTableRef
import Derived.Test.YtbepfeajaoaocafGreatDoorWalkTablesRef
import Derived.Test.YtbepfeajaoaocafGreatDoorWalkPairsSame
import Derived.Test.YtbepfeajaoaocafGreatDoorWalkTexts
import Derived.Test.YtbepfeajaoaocafGreatDoorWalkLsmPlays
import Derived.Test.YtbepfeajaoaocafGreatDoorCards
import Derived.Test.YtbepfeajaoaocafGreatDoorTie
import Derived.Test.YtbepfeajaoaocafGreatDoorHandle
import Derived.SevenTiedAt
import Derived.Stop.LaidErr
import Derived.WalkKit
import Derived.ProofKit
import Derived.ChangeSlices
import Derived.SliceStrings
import Derived.Carry
import Derived.OpenShut
import Derived.ShutString
import Derived.ChangeOld
import Derived.Below
import Derived.SizedLaws
import Derived.Deep.DeepHandedRow
import Derived.LaidLaws
import Derived.LaidHandle
namespace Go.Proofs.YtbepfeajaoaocafGreatDoor.lsmPlays
open Go.ChangeShapes Go.WideShapes Go.ChangeAt Go.RowKit
open Go.ChangeMaps (open_string shut_string)
set_option linter.unusedVariables false

theorem own : ownKnob Tryz.prog.godebug = none := by kernel_rfl
theorem laidOut : laidOutB Tryz.prog = true := by kernel_rfl

set_option maxRecDepth 100000 in
theorem contract (H : Type) (enc : TypeId × Value → H) (W : World) (base : Nat) (args : Array Value) (ds gs : List (DataW H)) (before : List MemPlace)
    (hval0 : ∀ (j : Nat) t v, Tryz.f4.params[j]? = some t → args[j]? = some v → Value.okWide Tryz.prog W .any base t v)
    (hW : DataW.Whole enc Tryz.prog Tryz.f4.params.toList Rows.lsmPlaysSpec.vars false W args.toList ds gs before)
    (hsz0 : (DataW.weightsEach Tryz.prog (Tryz.f4.params.toList ++ (OpenSpec.ofChange Rows.lsmPlaysSpec).bare.plain.varTypes Tryz.prog) (ds ++ gs)).all (· ≤ reachBytes) = true) (hL : laidMetH Tryz.prog Rows.lsmPlaysRow.laid W) (hsh : W.ShapedOpen Tryz.prog) :
    Calls Tryz.prog 4 args W fun e W' => ∃ v, e = .returned v ∧ Rows.lsmPlaysSpec.post enc Tryz.prog Tryz.f4 false true false false W args v W' := by
  have hval : ∀ (j : Nat) t v, Tryz.f4.params[j]? = some t → args[j]? = some v → Value.okWide Tryz.prog W .any base t v := hval0
  have hW' := hW
  obtain ⟨p, q, hA0, hV, rfl, hfz, hnd⟩ := hW
  have hA : DataW.TrodAll enc Tryz.prog W 0 (fun _ => true) true Tryz.f4.params.toList args.toList ds p := hA0
  have hsz : (DataW.weightsEach Tryz.prog (Tryz.f4.params.toList ++ Rows.lsmPlaysSpec.plain.varTypes Tryz.prog) (ds ++ gs)).all (· ≤ reachBytes) = true := hsz0
  rw [Tryz.params4] at hA hval hsz
  obtain ⟨v0, vs0, d0, ds0, p0, q0, hargs, rfl, rfl, h0, r0⟩ := trodAll_cons hA
  obtain ⟨v1, vs1, d1, ds1, p1, q1, rfl, rfl, rfl, h1, r1⟩ := trodAll_cons r0
  obtain ⟨v2, vs2, d2, ds2, p2, q2, rfl, rfl, rfl, h2, r2⟩ := trodAll_cons r1
  obtain ⟨rfl, rfl, rfl⟩ := trodAll_nil r2
  obtain rfl : args = #[v0, v1, v2] := by cases args; simp_all
  obtain ⟨rfl, rfl⟩ := trodVars_none hV
  obtain ⟨a0, rfl, rfl, rfl, w0⟩ := open_int Tryz.underlying3 (hval 0 3 v0 rfl rfl) h0
  obtain ⟨a1, n1, cap1, rfl⟩ := okWide_slice Tryz.underlying38 (hval 1 38 v1 rfl rfl)
  have k1 := h1
  have lt1 : ∀ x ∈ p1, x.block < W.heap.size := by obtain ⟨m, hm⟩ := k1; exact DataW.trod_lt m _ _ _ hm
  obtain ⟨l1, r1_, z1, w1⟩ : ∃ l, Lists.Row W a1 n1 cap1 (Lists.ints l) ∧ l.length * 8 ≤ 140737488351232 ∧ ∀ x ∈ l, (Lit.int .i64 x).wf = true := by
    obtain ⟨fuel, hf⟩ := h1
    rcases open_ints Tryz.underlying38 Tryz.underlying3 (by kernel_rfl) hf with ⟨hcs, _⟩ | ⟨x, len, c, zs, hcs, _, hl, hm, hz, hd, hcell, hwz⟩
    · simp [Value.cells] at hcs
      obtain ⟨rfl, rfl, rfl⟩ := hcs
      exact ⟨[], Lists.Row.nil _ _ _, by simp, by simp⟩
    · simp [Value.cells] at hcs
      obtain ⟨rfl, rfl, rfl⟩ := hcs
      simp only [Prod.mk.injEq] at hd
      obtain ⟨rfl, rfl⟩ := hd
      simp only [if_true] at hz
      have hb : Tryz.prog.bytesOf 3 = 8 := by kernel_rfl
      have := sized_slice hsz (j := 1) (t := 38) (e := 3) rfl rfl Tryz.underlying38
      rw [hb] at this
      simp only [lits, List.length_map, List.length_take, List.length_drop, reachBytes] at this
      exact ⟨zs.take n1, Lists.row_ints (by omega) hl hcell, by rw [List.length_take]; omega, fun y hy => hwz y (List.mem_of_mem_take hy)⟩
  obtain ⟨a2, n2, cap2, rfl⟩ := okWide_slice Tryz.underlying34 (hval 2 34 v2 rfl rfl)
  have k2 := h2
  have lt2 : ∀ x ∈ p2, x.block < W.heap.size := by obtain ⟨m, hm⟩ := k2; exact DataW.trod_lt m _ _ _ hm
  obtain ⟨l2, r2_, z2, w2⟩ : ∃ l : List Stores.Pair, Wides.Wide 3 W a2 n2 cap2 (PairRows.cells l) ∧ l.length * 40 ≤ 140737488351232 ∧ ∀ x ∈ l, x.key.size ≤ maxLen ∧ x.val.size ≤ maxLen := by
    obtain ⟨fuel, hf⟩ := h2
    obtain ⟨l, h1, h2, h3⟩ := PairRows.open_pairs Tryz.underlying34 Tryz.underlying44 (by kernel_rfl) rfl rfl rfl (by kernel_rfl) (by kernel_rfl) (by kernel_rfl) Tryz.underlying9 Tryz.underlying9 Tryz.underlying4 hf
    refine ⟨l, h1, ?_, h2⟩
    rcases h3 with rfl | ⟨ls, sp, hx, hl⟩
    · simp
    · simp only at hx
      subst hx
      have hb : Tryz.prog.bytesOf 44 = 40 := by kernel_rfl
      have := sized_slice hsz (j := 2) (t := 34) (e := 44) rfl rfl Tryz.underlying34
      rw [hb, hl] at this
      simp only [reachBytes] at this
      omega
  clear hA0 hval0 hsz0
  have hM : laidMet Tryz.prog [] W ∧ handlesMet Tryz.prog [("errors.errorType", Rows.laid_errors_errorType)] W := hL
  refine (WalkLsmPlays.walk a0 w0 a1 n1 cap1 l1 z1 w1 a2 n2 cap2 l2 z2 w2 W r1_ r2_ (Handle.handle_of_met hM.2)).mono fun e W' ⟨he, bel⟩ => ?_
  subst he
  exact ⟨_, rfl, _, _, _, [], _, [], hW', trodAll_mk1 (shut_bool Tryz.underlying4 _), (trodAll_cons_mk (shut_int Tryz.underlying3 w0) (trodAll_cons_mk (Below.trod laidOut (by kernel_rfl) (of_decide_eq_true (by kernel_rfl)) k1 bel lt1) (trodAll_cons_mk (Below.trod laidOut (by kernel_rfl) (of_decide_eq_true (by kernel_rfl)) k2 bel lt2) trodAll_mk0))), rfl, bel.frame _, fun h => by cases h⟩

set_option maxRecDepth 100000 in
theorem lifted (os : Os) (started : os.Started) (H : Type) (enc : TypeId × Value → H) (F : Stop.Interp) :
    ReturnsInHanded {} Tryz.checked os 4 .any ((OpenSpec.ofChange Rows.lsmPlaysSpec).preRow enc Tryz.prog Tryz.f4 Rows.lsmPlaysRow.domain false Rows.lsmPlaysRow.laid) (((OpenSpec.ofChange Rows.lsmPlaysSpec).at F).post enc Tryz.prog Tryz.f4 false true false false) := by
  refine returnsInHanded_of_row (C := Tryz.checked) (s := OpenSpec.ofChange Rows.lsmPlaysSpec) own started (by kernel_rfl) Tryz.func4
    (witness_row_at (enc := enc) (C := Tryz.checked) false ({ World.holding Tryz.prog os ⟨#[], #[], []⟩ with heap := ((World.holding Tryz.prog os ⟨#[], #[], []⟩).heap.modify 0 (fun | .cells _ t frozen => .cells #[.iface 142 (.agg #[.pointer (some ⟨2, 24, none⟩)])] t frozen | o => o)) }) #[.int .i64 0, .slice none 0 0, .slice none 0 0] rfl (by kernel_rfl) (by kernel_rfl) (by kernel_rfl)
      (OpenSpec.preRow_of_cond 8 (x := ([.lit (.int .i64 0), .nil, .nil], [], [])) (by kernel_rfl) (by kernel_rfl) (fun k hk => by cases hk) (by kernel_rfl) (laidMetH_of_parts (laidMet_nil _ _) (by kernel_rfl)))) ?_
  intro W base args ds gs before hval hW _ hcond hsz hL hsh _
  exact contract H enc W base args ds gs before hval hW hsz hL hsh

theorem said : Rows.LsmPlaysSaid :=
  OpenClaim.holds_of_cond 4 Tryz.f4 rfl rfl rfl rfl rfl rfl rfl ⟨rfl, rfl, rfl, rfl, rfl⟩ rfl rfl rfl rfl rfl (by kernel_rfl) Tryz.func4 (by kernel_rfl)
    (of_decide_eq_true (by kernel_rfl)) (by unfold Func.isWrapper; first | (rw [if_pos (by decide +kernel)]; kernel_rfl) | (rw [if_neg (by decide +kernel)]; exact ⟨rfl, rfl⟩))
    (fun os started H enc _ F => by rw [OpenClaim.pre_eq_preRow]; exact lifted os started H enc F)

theorem plain (f : FuncId) (fn : Func) (hf : Tryz.pinned.checked.prog.funcNamed "witnessbox/witlaw2.LsmPlays" = some f) (hfn : Tryz.pinned.checked.prog.funcs[f]? = some fn) :
    true = Tryz.pinned.checked.prog.looks [] ∧ ∀ (j : Nat) t, fn.params[j]? = some t → Tryz.pinned.checked.prog.wantsStandIn t = false := by
  obtain rfl : f = 4 := Option.some.inj ((show Tryz.prog.funcNamed "witnessbox/witlaw2.LsmPlays" = some 4 by kernel_rfl).symm.trans hf) |>.symm
  obtain rfl : fn = Tryz.f4 := (Option.some.inj (Tryz.func4.symm.trans hfn)).symm
  refine ⟨by kernel_rfl, fun j t ht => ?_⟩
  have hall : (Tryz.f4.params.toList.all fun t => !Tryz.prog.wantsStandIn t) = true := by kernel_rfl
  have hm : t ∈ Tryz.f4.params.toList := Array.mem_toList_iff.2 (Array.mem_of_getElem? ht)
  have h := List.all_eq_true.1 hall t hm
  rw [Bool.not_eq_true'] at h
  exact h

theorem proved : Rows.LsmPlaysCardSaid :=
  Claim7.holds_tied_plain_at .later [] _ _ _ _ said (fun _ h => by cases h) (by kernel_rfl) (fun _ h => by cases h) lsmPlays_row_tie rfl ⟨rfl, rfl⟩ (by kernel_rfl) rfl plain (by kernel_rfl)
end Go.Proofs.YtbepfeajaoaocafGreatDoor.lsmPlays
