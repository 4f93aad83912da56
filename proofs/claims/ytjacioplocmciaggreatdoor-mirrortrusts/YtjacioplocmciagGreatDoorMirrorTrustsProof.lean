/-
  For every key, log, list of steps and list of replies: of the first sixty replies, of a log that grows or lies or any others, a mirror keeps the entries that it had as the first ones; and where it has some they are those of the head by which it went last, which is signed with its key.
-/
import Derived.Test.YtjacioplocmciagGreatDoorRows
import Derived.Test.YtjacioplocmciagGreatDoorMirPlain
import Derived.Test.YtjacioplocmciagGreatDoorGrowPlain
import Derived.Test.YtjacioplocmciagGreatDoorMirrors
import Derived.Test.YtjacioplocmciagGreatDoorSePlain
import Derived.Test.YtjacioplocmciagGreatDoorListRows
import Derived.Test.YtjacioplocmciagGreatDoorMirObj
import Derived.Test.YtjacioplocmciagGreatDoorHeadRows
import Derived.Test.YtjacioplocmciagGreatDoorMirVals
import Derived.Test.YtjacioplocmciagGreatDoorWideCopy
import Derived.Test.YtjacioplocmciagGreatDoorWalkMiLists
import Derived.Test.YtjacioplocmciagGreatDoorErrs
import Derived.Test.YtjacioplocmciagGreatDoorWalkSum
import Derived.Test.YtjacioplocmciagGreatDoorWalkMix
import Derived.Test.YtjacioplocmciagGreatDoorEntAll
import Derived.Test.YtjacioplocmciagGreatDoorWalkTree
import Derived.Test.YtjacioplocmciagGreatDoorWalkCheck
import Derived.Test.YtjacioplocmciagGreatDoorShelf
import Derived.Test.YtjacioplocmciagGreatDoorHdWords
import Derived.Test.YtjacioplocmciagGreatDoorWalkHdLib
import Derived.Test.YtjacioplocmciagGreatDoorWalkIsSum
import Derived.Test.YtjacioplocmciagGreatDoorWalkHdOne
import Derived.Test.YtjacioplocmciagGreatDoorWalkHex
import Derived.Test.YtjacioplocmciagGreatDoorWalkHdText
import Derived.Test.YtjacioplocmciagGreatDoorWalkHdSign
import Derived.Test.YtjacioplocmciagGreatDoorWalkMiOne
import Derived.Test.YtjacioplocmciagGreatDoorWalkMiGo
import Derived.Test.YtjacioplocmciagGreatDoorWalkSplit
import Derived.Test.YtjacioplocmciagGreatDoorGrowRun
import Derived.Test.YtjacioplocmciagGreatDoorWalkMiTake
import Derived.Test.YtjacioplocmciagGreatDoorWalkMiEnts
import Derived.Test.YtjacioplocmciagGreatDoorReplyAll
import Derived.Test.YtjacioplocmciagGreatDoorWalkMiHear
import Derived.Test.YtjacioplocmciagGreatDoorWalkMi
import Derived.Test.YtjacioplocmciagGreatDoorMirOne
import Derived.Test.YtjacioplocmciagGreatDoorWalkMiOff
import Derived.Test.YtjacioplocmciagGreatDoorWalkSe
import Derived.Test.YtjacioplocmciagGreatDoorWalkRef
import Derived.Test.YtjacioplocmciagGreatDoorWalkTreeRef
import Derived.Test.YtjacioplocmciagGreatDoorWalkRootOf
import Derived.Test.YtjacioplocmciagGreatDoorEntRuns
import Derived.Test.YtjacioplocmciagGreatDoorEntRef
import Derived.Test.YtjacioplocmciagGreatDoorWalkAnyLeaf
import Derived.Test.YtjacioplocmciagGreatDoorHeadRef
import Derived.Test.YtjacioplocmciagGreatDoorWalkLogRef
import Derived.Test.YtjacioplocmciagGreatDoorGrowRef
import Derived.Test.YtjacioplocmciagGreatDoorWalkReplies
import Derived.Test.YtjacioplocmciagGreatDoorWalkEntsSame
import Derived.Test.YtjacioplocmciagGreatDoorEntCuts
import Derived.Test.YtjacioplocmciagGreatDoorWalkMirrorTrusts
import Derived.Test.YtjacioplocmciagGreatDoorEntSized
import Derived.Test.YtjacioplocmciagGreatDoorCards
import Derived.Test.YtjacioplocmciagGreatDoorTie
import Derived.Test.YtjacioplocmciagGreatDoorHandlePow
import Derived.SevenTiedAt
import Derived.Stop.LaidErr
import Derived.WalkKit
import Derived.ProofKit
import Derived.ChangeSlices
import Derived.SliceStrings
import Derived.Carry
import Derived.OpenShut
import Derived.ShutString
import Derived.ChangeOld
import Derived.Below
import Derived.SizedLaws
import Derived.Deep.DeepHandedRow
import Derived.LaidLaws
import Derived.LaidHandle
namespace Go.Proofs.YtjacioplocmciagGreatDoor.mirrorTrusts
open Go.ChangeShapes Go.WideShapes Go.ChangeAt Go.RowKit
open Go.ChangeMaps (open_string shut_string)
set_option linter.unusedVariables false

theorem own : ownKnob Tryz.prog.godebug = none := by kernel_rfl
theorem laidOut : laidOutB Tryz.prog = true := by kernel_rfl

set_option maxRecDepth 100000 in
theorem contract (H : Type) (enc : TypeId × Value → H) (W : World) (base : Nat) (args : Array Value) (ds gs : List (DataW H)) (before : List MemPlace)
    (hval0 : ∀ (j : Nat) t v, Tryz.f5.params[j]? = some t → args[j]? = some v → Value.okWide Tryz.prog W .any base t v)
    (hW : DataW.Whole enc Tryz.prog Tryz.f5.params.toList Rows.mirrorTrustsSpec.vars false W args.toList ds gs before)
    (hsz0 : (DataW.weightsEach Tryz.prog (Tryz.f5.params.toList ++ (OpenSpec.ofChange Rows.mirrorTrustsSpec).bare.plain.varTypes Tryz.prog) (ds ++ gs)).all (· ≤ reachBytes) = true) (hL : laidMetH Tryz.prog Rows.mirrorTrustsRow.laid W) (hsh : W.ShapedOpen Tryz.prog) :
    Calls Tryz.prog 5 args W fun e W' => ∃ v, e = .returned v ∧ Rows.mirrorTrustsSpec.post enc Tryz.prog Tryz.f5 false true false false W args v W' := by
  have hval : ∀ (j : Nat) t v, Tryz.f5.params[j]? = some t → args[j]? = some v → Value.okWide Tryz.prog W .any base t v := hval0
  have hW' := hW
  obtain ⟨p, q, hA0, hV, rfl, hfz, hnd⟩ := hW
  have hA : DataW.TrodAll enc Tryz.prog W 0 (fun _ => true) true Tryz.f5.params.toList args.toList ds p := hA0
  have hsz : (DataW.weightsEach Tryz.prog (Tryz.f5.params.toList ++ Rows.mirrorTrustsSpec.plain.varTypes Tryz.prog) (ds ++ gs)).all (· ≤ reachBytes) = true := hsz0
  rw [Tryz.params5] at hA hval hsz
  obtain ⟨v0, vs0, d0, ds0, p0, q0, hargs, rfl, rfl, h0, r0⟩ := trodAll_cons hA
  obtain ⟨v1, vs1, d1, ds1, p1, q1, rfl, rfl, rfl, h1, r1⟩ := trodAll_cons r0
  obtain ⟨v2, vs2, d2, ds2, p2, q2, rfl, rfl, rfl, h2, r2⟩ := trodAll_cons r1
  obtain ⟨v3, vs3, d3, ds3, p3, q3, rfl, rfl, rfl, h3, r3⟩ := trodAll_cons r2
  obtain ⟨rfl, rfl, rfl⟩ := trodAll_nil r3
  obtain rfl : args = #[v0, v1, v2, v3] := by cases args; simp_all
  obtain ⟨rfl, rfl⟩ := trodVars_none hV
  obtain ⟨a0, rfl, rfl, rfl, w0⟩ := open_int Tryz.underlying3 (hval 0 3 v0 rfl rfl) h0
  obtain ⟨a1, n1, cap1, rfl⟩ := okWide_slice Tryz.underlying51 (hval 1 51 v1 rfl rfl)
  have k1 := h1
  have lt1 : ∀ x ∈ p1, x.block < W.heap.size := by obtain ⟨m, hm⟩ := k1; exact DataW.trod_lt m _ _ _ hm
  have sz1 : ∀ k ∈ d1.weights Tryz.prog 51, k ≤ reachBytes := fun k hk => by
    have := List.all_eq_true.1 hsz k (DataW.weights_mem_each (j := 1) (t := 51) rfl rfl k hk)
    simpa using this
  obtain ⟨l1, r1_, z1, w1⟩ : ∃ l : List Entries.Entry, Wides.Wide 2 W a1 n1 cap1 (EntRows.cells l) ∧ l.length * 24 ≤ 140737488351232 ∧ ∀ x ∈ l, (Lit.int .i64 x.1).wf = true ∧ x.2.size ≤ 140737488351232 := by
    obtain ⟨fuel, hf⟩ := h1
    obtain ⟨l, h1, h2, h3⟩ := EntSized.open_entries Tryz.underlying51 Tryz.underlying79 (by kernel_rfl) rfl rfl (by kernel_rfl) (by kernel_rfl) Tryz.underlying3 Tryz.underlying9 hf sz1
    refine ⟨l, h1, ?_, h2⟩
    rcases h3 with rfl | ⟨ls, sp, hx, hl⟩
    · simp
    · simp only at hx
      subst hx
      have hb : Tryz.prog.bytesOf 79 = 24 := by kernel_rfl
      have := sized_slice hsz (j := 1) (t := 51) (e := 79) rfl rfl Tryz.underlying51
      rw [hb, hl] at this
      simp only [reachBytes] at this
      omega
  obtain ⟨a2, n2, cap2, rfl⟩ := okWide_slice Tryz.underlying52 (hval 2 52 v2 rfl rfl)
  have k2 := h2
  have lt2 : ∀ x ∈ p2, x.block < W.heap.size := by obtain ⟨m, hm⟩ := k2; exact DataW.trod_lt m _ _ _ hm
  have sz2 : ∀ k ∈ d2.weights Tryz.prog 52, k ≤ reachBytes := fun k hk => by
    have := List.all_eq_true.1 hsz k (DataW.weights_mem_each (j := 2) (t := 52) rfl rfl k hk)
    simpa using this
  obtain ⟨l2, r2_, z2, w2⟩ : ∃ l : List (List Int), IntRows.Rowss W a2 n2 cap2 l ∧ l.length * 24 ≤ 140737488351232 ∧ ∀ x ∈ l, ∀ z ∈ x, (Lit.int .i64 z).wf = true := by
    obtain ⟨fuel, hf⟩ := h2
    obtain ⟨l, h1, h2, h3⟩ := IntRows.open_rows Tryz.underlying52 Tryz.underlying23 Tryz.underlying3 (by kernel_rfl) (by kernel_rfl) hf
    refine ⟨l, h1, ?_, h2⟩
    rcases h3 with rfl | ⟨ls, sp, hx, hl⟩
    · simp
    · simp only at hx
      subst hx
      have hb : Tryz.prog.bytesOf 23 = 24 := by kernel_rfl
      have := sized_slice hsz (j := 2) (t := 52) (e := 23) rfl rfl Tryz.underlying52
      rw [hb, hl] at this
      simp only [reachBytes] at this
      omega
  obtain ⟨a3, n3, cap3, rfl⟩ := okWide_slice Tryz.underlying53 (hval 3 53 v3 rfl rfl)
  have k3 := h3
  have lt3 : ∀ x ∈ p3, x.block < W.heap.size := by obtain ⟨m, hm⟩ := k3; exact DataW.trod_lt m _ _ _ hm
  have sz3 : ∀ k ∈ d3.weights Tryz.prog 53, k ≤ reachBytes := fun k hk => by
    have := List.all_eq_true.1 hsz k (DataW.weights_mem_each (j := 3) (t := 53) rfl rfl k hk)
    simpa using this
  obtain ⟨l3, r3_, z3, w3⟩ : ∃ l : List Mirrors.Reply, ReplyRows.Replies W a3 n3 cap3 l ∧ l.length * 88 ≤ 140737488351232 ∧ ∀ x ∈ l, ReplyRows.RFine x := by
    obtain ⟨fuel, hf⟩ := h3
    obtain ⟨l, h1, h2, h3⟩ := ReplyRows.open_replies Tryz.underlying53 Tryz.underlying65 Tryz.underlying60 Tryz.underlying51 Tryz.underlying79 (by kernel_rfl) rfl rfl rfl rfl rfl rfl rfl (by kernel_rfl) (by kernel_rfl) (by kernel_rfl) (by kernel_rfl) rfl rfl rfl rfl (by kernel_rfl) (by kernel_rfl) (by kernel_rfl) (by kernel_rfl) Tryz.underlying3 Tryz.underlying3 Tryz.underlying3 Tryz.underlying3 Tryz.underlying3 (by kernel_rfl) rfl rfl (by kernel_rfl) (by kernel_rfl) Tryz.underlying3 Tryz.underlying9 Tryz.underlying23 Tryz.underlying3 (by kernel_rfl) (by kernel_rfl) (by kernel_rfl) hf sz3
    refine ⟨l, h1, ?_, h2⟩
    rcases h3 with rfl | ⟨ls, sp, hx, hl⟩
    · simp
    · simp only at hx
      subst hx
      have hb : Tryz.prog.bytesOf 65 = 88 := by kernel_rfl
      have := sized_slice hsz (j := 3) (t := 53) (e := 65) rfl rfl Tryz.underlying53
      rw [hb, hl] at this
      simp only [reachBytes] at this
      omega
  clear hA0 hval0 hsz0
  have hM : laidMet Tryz.prog [("math/bits.deBruijn32tab", Rows.laid_math_bits_deBruijn32tab), ("math/bits.deBruijn64tab", Rows.laid_math_bits_deBruijn64tab), ("internal/strconv.uint64pow10", Rows.laid_internal_strconv_uint64pow10)] W ∧ handlesMet Tryz.prog [] W := ⟨hL, fun _ h => by cases h⟩
  refine (WalkMirrorTrusts.walk a0 w0 a1 n1 cap1 l1 z1 w1 a2 n2 cap2 l2 z2 w2 a3 n3 cap3 l3 z3 w3 W r1_ r2_ r3_ (HandlePow.tabs_of_met hM.1.tail.tail)).mono fun e W' ⟨he, bel⟩ => ?_
  subst he
  exact ⟨_, rfl, _, _, _, [], _, [], hW', trodAll_mk1 (shut_bool Tryz.underlying4 _), (trodAll_cons_mk (shut_int Tryz.underlying3 w0) (trodAll_cons_mk (Below.trod laidOut (by kernel_rfl) (of_decide_eq_true (by kernel_rfl)) k1 bel lt1) (trodAll_cons_mk (Below.trod laidOut (by kernel_rfl) (of_decide_eq_true (by kernel_rfl)) k2 bel lt2) (trodAll_cons_mk (Below.trod laidOut (by kernel_rfl) (of_decide_eq_true (by kernel_rfl)) k3 bel lt3) trodAll_mk0)))), rfl, bel.frame _, fun h => by cases h⟩

set_option maxRecDepth 100000 in
theorem lifted (os : Os) (started : os.Started) (H : Type) (enc : TypeId × Value → H) (F : Stop.Interp) :
    ReturnsInHanded {} Tryz.checked os 5 .any ((OpenSpec.ofChange Rows.mirrorTrustsSpec).preRow enc Tryz.prog Tryz.f5 Rows.mirrorTrustsRow.domain false Rows.mirrorTrustsRow.laid) (((OpenSpec.ofChange Rows.mirrorTrustsSpec).at F).post enc Tryz.prog Tryz.f5 false true false false) := by
  refine returnsInHanded_of_row (C := Tryz.checked) (s := OpenSpec.ofChange Rows.mirrorTrustsSpec) own started (by kernel_rfl) Tryz.func5
    (witness_row_at (enc := enc) (C := Tryz.checked) false ({ World.holding Tryz.prog os ⟨#[], #[], []⟩ with heap := ((((World.holding Tryz.prog os ⟨#[], #[], []⟩).heap.modify 7 (fun | .cells _ t frozen => .cells #[.int .u8 0, .int .u8 1, .int .u8 28, .int .u8 2, .int .u8 29, .int .u8 14, .int .u8 24, .int .u8 3, .int .u8 30, .int .u8 22, .int .u8 20, .int .u8 15, .int .u8 25, .int .u8 17, .int .u8 4, .int .u8 8, .int .u8 31, .int .u8 27, .int .u8 13, .int .u8 23, .int .u8 21, .int .u8 19, .int .u8 16, .int .u8 7, .int .u8 26, .int .u8 12, .int .u8 18, .int .u8 6, .int .u8 11, .int .u8 5, .int .u8 10, .int .u8 9] t frozen | o => o)).modify 8 (fun | .cells _ t frozen => .cells #[.int .u8 0, .int .u8 1, .int .u8 56, .int .u8 2, .int .u8 57, .int .u8 49, .int .u8 28, .int .u8 3, .int .u8 61, .int .u8 58, .int .u8 42, .int .u8 50, .int .u8 38, .int .u8 29, .int .u8 17, .int .u8 4, .int .u8 62, .int .u8 47, .int .u8 59, .int .u8 36, .int .u8 45, .int .u8 43, .int .u8 51, .int .u8 22, .int .u8 53, .int .u8 39, .int .u8 33, .int .u8 30, .int .u8 24, .int .u8 18, .int .u8 12, .int .u8 5, .int .u8 63, .int .u8 55, .int .u8 48, .int .u8 27, .int .u8 60, .int .u8 41, .int .u8 37, .int .u8 16, .int .u8 46, .int .u8 35, .int .u8 44, .int .u8 21, .int .u8 52, .int .u8 32, .int .u8 23, .int .u8 11, .int .u8 54, .int .u8 26, .int .u8 40, .int .u8 15, .int .u8 34, .int .u8 20, .int .u8 31, .int .u8 10, .int .u8 25, .int .u8 14, .int .u8 19, .int .u8 9, .int .u8 13, .int .u8 8, .int .u8 7, .int .u8 6] t frozen | o => o)).modify 2 (fun | .cells _ t frozen => .cells #[.int .u64 1, .int .u64 10, .int .u64 100, .int .u64 1000, .int .u64 10000, .int .u64 100000, .int .u64 1000000, .int .u64 10000000, .int .u64 100000000, .int .u64 1000000000, .int .u64 10000000000, .int .u64 100000000000, .int .u64 1000000000000, .int .u64 10000000000000, .int .u64 100000000000000, .int .u64 1000000000000000, .int .u64 10000000000000000, .int .u64 100000000000000000, .int .u64 1000000000000000000, .int .u64 10000000000000000000] t frozen | o => o)) }) #[.int .i64 0, .slice none 0 0, .slice none 0 0, .slice none 0 0] rfl (by kernel_rfl) (by kernel_rfl) (by kernel_rfl)
      (OpenSpec.preRow_of_cond 8 (x := ([.lit (.int .i64 0), .nil, .nil, .nil], [], [])) (by kernel_rfl) (by kernel_rfl) (fun k hk => by cases hk) (by kernel_rfl) (laidMetH_of_parts (laidMet_of_run' 8 (by kernel_rfl) (by kernel_rfl)) (by kernel_rfl)))) ?_
  intro W base args ds gs before hval hW _ hcond hsz hL hsh _
  exact contract H enc W base args ds gs before hval hW hsz hL hsh

theorem said : Rows.MirrorTrustsSaid :=
  OpenClaim.holds_of_cond 5 Tryz.f5 rfl rfl rfl rfl rfl rfl rfl ⟨rfl, rfl, rfl, rfl, rfl⟩ rfl rfl rfl rfl rfl (by kernel_rfl) Tryz.func5 (by kernel_rfl)
    (of_decide_eq_true (by kernel_rfl)) (by unfold Func.isWrapper; first | (rw [if_pos (by decide +kernel)]; kernel_rfl) | (rw [if_neg (by decide +kernel)]; exact ⟨rfl, rfl⟩))
    (fun os started H enc _ F => by rw [OpenClaim.pre_eq_preRow]; exact lifted os started H enc F)

theorem plain (f : FuncId) (fn : Func) (hf : Tryz.pinned.checked.prog.funcNamed "witnessbox/witlaw2.MirrorTrusts" = some f) (hfn : Tryz.pinned.checked.prog.funcs[f]? = some fn) :
    true = Tryz.pinned.checked.prog.looks [] ∧ ∀ (j : Nat) t, fn.params[j]? = some t → Tryz.pinned.checked.prog.wantsStandIn t = false := by
  obtain rfl : f = 5 := Option.some.inj ((show Tryz.prog.funcNamed "witnessbox/witlaw2.MirrorTrusts" = some 5 by kernel_rfl).symm.trans hf) |>.symm
  obtain rfl : fn = Tryz.f5 := (Option.some.inj (Tryz.func5.symm.trans hfn)).symm
  refine ⟨by kernel_rfl, fun j t ht => ?_⟩
  have hall : (Tryz.f5.params.toList.all fun t => !Tryz.prog.wantsStandIn t) = true := by kernel_rfl
  have hm : t ∈ Tryz.f5.params.toList := Array.mem_toList_iff.2 (Array.mem_of_getElem? ht)
  have h := List.all_eq_true.1 hall t hm
  rw [Bool.not_eq_true'] at h
  exact h

theorem proved : Rows.MirrorTrustsCardSaid :=
  Claim7.holds_tied_plain_at .later [] _ _ _ _ said (fun _ h => by cases h) (by kernel_rfl) (fun _ h => by cases h) mirrorTrusts_row_tie rfl ⟨rfl, rfl⟩ (by kernel_rfl) rfl plain (by kernel_rfl)
end Go.Proofs.YtjacioplocmciagGreatDoor.mirrorTrusts
