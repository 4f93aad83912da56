/-
  For every key, log, list of steps and list of replies: of the first sixty replies, of a log that grows or lies or any others, a mirror refuses what the document's own mirror refuses, wants what it wants, and has its entries, size, root and head.
-/
import Derived.Test.YtncddfgclpdgfagGreatDoorRows
import Derived.Test.YtncddfgclpdgfagGreatDoorMirPlain
import Derived.Test.YtncddfgclpdgfagGreatDoorGrowPlain
import Derived.Test.YtncddfgclpdgfagGreatDoorMirrors
import Derived.Test.YtncddfgclpdgfagGreatDoorListRows
import Derived.Test.YtncddfgclpdgfagGreatDoorMirObj
import Derived.Test.YtncddfgclpdgfagGreatDoorHeadRows
import Derived.Test.YtncddfgclpdgfagGreatDoorMirVals
import Derived.Test.YtncddfgclpdgfagGreatDoorWideCopy
import Derived.Test.YtncddfgclpdgfagGreatDoorWalkMiLists
import Derived.Test.YtncddfgclpdgfagGreatDoorErrs
import Derived.Test.YtncddfgclpdgfagGreatDoorWalkSum
import Derived.Test.YtncddfgclpdgfagGreatDoorWalkMix
import Derived.Test.YtncddfgclpdgfagGreatDoorEntAll
import Derived.Test.YtncddfgclpdgfagGreatDoorWalkTree
import Derived.Test.YtncddfgclpdgfagGreatDoorWalkCheck
import Derived.Test.YtncddfgclpdgfagGreatDoorShelf
import Derived.Test.YtncddfgclpdgfagGreatDoorHdWords
import Derived.Test.YtncddfgclpdgfagGreatDoorWalkHdLib
import Derived.Test.YtncddfgclpdgfagGreatDoorWalkIsSum
import Derived.Test.YtncddfgclpdgfagGreatDoorWalkHdOne
import Derived.Test.YtncddfgclpdgfagGreatDoorWalkHex
import Derived.Test.YtncddfgclpdgfagGreatDoorWalkHdText
import Derived.Test.YtncddfgclpdgfagGreatDoorWalkHdSign
import Derived.Test.YtncddfgclpdgfagGreatDoorWalkMiOne
import Derived.Test.YtncddfgclpdgfagGreatDoorWalkMiGo
import Derived.Test.YtncddfgclpdgfagGreatDoorWalkSplit
import Derived.Test.YtncddfgclpdgfagGreatDoorGrowRun
import Derived.Test.YtncddfgclpdgfagGreatDoorWalkMiTake
import Derived.Test.YtncddfgclpdgfagGreatDoorWalkMiEnts
import Derived.Test.YtncddfgclpdgfagGreatDoorReplyAll
import Derived.Test.YtncddfgclpdgfagGreatDoorWalkMiHear
import Derived.Test.YtncddfgclpdgfagGreatDoorWalkMi
import Derived.Test.YtncddfgclpdgfagGreatDoorMirDoc
import Derived.Test.YtncddfgclpdgfagGreatDoorWalkRef
import Derived.Test.YtncddfgclpdgfagGreatDoorEntRef
import Derived.Test.YtncddfgclpdgfagGreatDoorWalkTreeRef
import Derived.Test.YtncddfgclpdgfagGreatDoorWalkRootOf
import Derived.Test.YtncddfgclpdgfagGreatDoorWalkMirRef
import Derived.Test.YtncddfgclpdgfagGreatDoorHeadRef
import Derived.Test.YtncddfgclpdgfagGreatDoorGrowRef
import Derived.Test.YtncddfgclpdgfagGreatDoorWalkMirHear
import Derived.Test.YtncddfgclpdgfagGreatDoorMirBoth
import Derived.Test.YtncddfgclpdgfagGreatDoorWalkAnyLeaf
import Derived.Test.YtncddfgclpdgfagGreatDoorWalkLogRef
import Derived.Test.YtncddfgclpdgfagGreatDoorWalkReplies
import Derived.Test.YtncddfgclpdgfagGreatDoorWalkEntsSame
import Derived.Test.YtncddfgclpdgfagGreatDoorWalkTold
import Derived.Test.YtncddfgclpdgfagGreatDoorWalkMirrorPlays
import Derived.Test.YtncddfgclpdgfagGreatDoorEntSized
import Derived.Test.YtncddfgclpdgfagGreatDoorCards
import Derived.Test.YtncddfgclpdgfagGreatDoorTie
import Derived.Test.YtncddfgclpdgfagGreatDoorHandle
import Derived.Test.YtncddfgclpdgfagGreatDoorHandlePow
import Derived.SevenTiedAt
import Derived.Stop.LaidErr
import Derived.WalkKit
import Derived.ProofKit
import Derived.ChangeSlices
import Derived.SliceStrings
import Derived.Carry
import Derived.OpenShut
import Derived.ShutString
import Derived.ChangeOld
import Derived.Below
import Derived.SizedLaws
import Derived.Deep.DeepHandedRow
import Derived.LaidLaws
import Derived.LaidHandle
namespace Go.Proofs.YtncddfgclpdgfagGreatDoor.mirrorPlays
open Go.ChangeShapes Go.WideShapes Go.ChangeAt Go.RowKit
open Go.ChangeMaps (open_string shut_string)
set_option linter.unusedVariables false

theorem own : ownKnob Tryz.prog.godebug = none := by kernel_rfl
theorem laidOut : laidOutB Tryz.prog = true := by kernel_rfl

set_option maxRecDepth 100000 in
theorem contract (H : Type) (enc : TypeId × Value → H) (W : World) (base : Nat) (args : Array Value) (ds gs : List (DataW H)) (before : List MemPlace)
    (hval0 : ∀ (j : Nat) t v, Tryz.f4.params[j]? = some t → args[j]? = some v → Value.okWide Tryz.prog W .any base t v)
    (hW : DataW.Whole enc Tryz.prog Tryz.f4.params.toList Rows.mirrorPlaysSpec.vars false W args.toList ds gs before)
    (hsz0 : (DataW.weightsEach Tryz.prog (Tryz.f4.params.toList ++ (OpenSpec.ofChange Rows.mirrorPlaysSpec).bare.plain.varTypes Tryz.prog) (ds ++ gs)).all (· ≤ reachBytes) = true) (hL : laidMetH Tryz.prog Rows.mirrorPlaysRow.laid W) (hsh : W.ShapedOpen Tryz.prog) :
    Calls Tryz.prog 4 args W fun e W' => ∃ v, e = .returned v ∧ Rows.mirrorPlaysSpec.post enc Tryz.prog Tryz.f4 false true false false W args v W' := by
  have hval : ∀ (j : Nat) t v, Tryz.f4.params[j]? = some t → args[j]? = some v → Value.okWide Tryz.prog W .any base t v := hval0
  have hW' := hW
  obtain ⟨p, q, hA0, hV, rfl, hfz, hnd⟩ := hW
  have hA : DataW.TrodAll enc Tryz.prog W 0 (fun _ => true) true Tryz.f4.params.toList args.toList ds p := hA0
  have hsz : (DataW.weightsEach Tryz.prog (Tryz.f4.params.toList ++ Rows.mirrorPlaysSpec.plain.varTypes Tryz.prog) (ds ++ gs)).all (· ≤ reachBytes) = true := hsz0
  rw [Tryz.params4] at hA hval hsz
  obtain ⟨v0, vs0, d0, ds0, p0, q0, hargs, rfl, rfl, h0, r0⟩ := trodAll_cons hA
  obtain ⟨v1, vs1, d1, ds1, p1, q1, rfl, rfl, rfl, h1, r1⟩ := trodAll_cons r0
  obtain ⟨v2, vs2, d2, ds2, p2, q2, rfl, rfl, rfl, h2, r2⟩ := trodAll_cons r1
  obtain ⟨v3, vs3, d3, ds3, p3, q3, rfl, rfl, rfl, h3, r3⟩ := trodAll_cons r2
  obtain ⟨rfl, rfl, rfl⟩ := trodAll_nil r3
  obtain rfl : args = #[v0, v1, v2, v3] := by cases args; simp_all
  obtain ⟨rfl, rfl⟩ := trodVars_none hV
  obtain ⟨a0, rfl, rfl, rfl, w0⟩ := open_int Tryz.underlying3 (hval 0 3 v0 rfl rfl) h0
  obtain ⟨a1, n1, cap1, rfl⟩ := okWide_slice Tryz.underlying51 (hval 1 51 v1 rfl rfl)
  have k1 := h1
  have lt1 : ∀ x ∈ p1, x.block < W.heap.size := by obtain ⟨m, hm⟩ := k1; exact DataW.trod_lt m _ _ _ hm
  have sz1 : ∀ k ∈ d1.weights Tryz.prog 51, k ≤ reachBytes := fun k hk => by
    have := List.all_eq_true.1 hsz k (DataW.weights_mem_each (j := 1) (t := 51) rfl rfl k hk)
    simpa using this
  obtain ⟨l1, r1_, z1, w1⟩ : ∃ l : List Entries.Entry, Wides.Wide 2 W a1 n1 cap1 (EntRows.cells l) ∧ l.length * 24 ≤ 140737488351232 ∧ ∀ x ∈ l, (Lit.int .i64 x.1).wf = true ∧ x.2.size ≤ 140737488351232 := by
    obtain ⟨fuel, hf⟩ := h1
    obtain ⟨l, h1, h2, h3⟩ := EntSized.open_entries Tryz.underlying51 Tryz.underlying108 (by kernel_rfl) rfl rfl (by kernel_rfl) (by kernel_rfl) Tryz.underlying3 Tryz.underlying9 hf sz1
    refine ⟨l, h1, ?_, h2⟩
    rcases h3 with rfl | ⟨ls, sp, hx, hl⟩
    · simp
    · simp only at hx
      subst hx
      have hb : Tryz.prog.bytesOf 108 = 24 := by kernel_rfl
      have := sized_slice hsz (j := 1) (t := 51) (e := 108) rfl rfl Tryz.underlying51
      rw [hb, hl] at this
      simp only [reachBytes] at this
      omega
  obtain ⟨a2, n2, cap2, rfl⟩ := okWide_slice Tryz.underlying52 (hval 2 52 v2 rfl rfl)
  have k2 := h2
  have lt2 : ∀ x ∈ p2, x.block < W.heap.size := by obtain ⟨m, hm⟩ := k2; exact DataW.trod_lt m _ _ _ hm
  have sz2 : ∀ k ∈ d2.weights Tryz.prog 52, k ≤ reachBytes := fun k hk => by
    have := List.all_eq_true.1 hsz k (DataW.weights_mem_each (j := 2) (t := 52) rfl rfl k hk)
    simpa using this
  obtain ⟨l2, r2_, z2, w2⟩ : ∃ l : List (List Int), IntRows.Rowss W a2 n2 cap2 l ∧ l.length * 24 ≤ 140737488351232 ∧ ∀ x ∈ l, ∀ z ∈ x, (Lit.int .i64 z).wf = true := by
    obtain ⟨fuel, hf⟩ := h2
    obtain ⟨l, h1, h2, h3⟩ := IntRows.open_rows Tryz.underlying52 Tryz.underlying23 Tryz.underlying3 (by kernel_rfl) (by kernel_rfl) hf
    refine ⟨l, h1, ?_, h2⟩
    rcases h3 with rfl | ⟨ls, sp, hx, hl⟩
    · simp
    · simp only at hx
      subst hx
      have hb : Tryz.prog.bytesOf 23 = 24 := by kernel_rfl
      have := sized_slice hsz (j := 2) (t := 52) (e := 23) rfl rfl Tryz.underlying52
      rw [hb, hl] at this
      simp only [reachBytes] at this
      omega
  obtain ⟨a3, n3, cap3, rfl⟩ := okWide_slice Tryz.underlying53 (hval 3 53 v3 rfl rfl)
  have k3 := h3
  have lt3 : ∀ x ∈ p3, x.block < W.heap.size := by obtain ⟨m, hm⟩ := k3; exact DataW.trod_lt m _ _ _ hm
  have sz3 : ∀ k ∈ d3.weights Tryz.prog 53, k ≤ reachBytes := fun k hk => by
    have := List.all_eq_true.1 hsz k (DataW.weights_mem_each (j := 3) (t := 53) rfl rfl k hk)
    simpa using this
  obtain ⟨l3, r3_, z3, w3⟩ : ∃ l : List Mirrors.Reply, ReplyRows.Replies W a3 n3 cap3 l ∧ l.length * 88 ≤ 140737488351232 ∧ ∀ x ∈ l, ReplyRows.RFine x := by
    obtain ⟨fuel, hf⟩ := h3
    obtain ⟨l, h1, h2, h3⟩ := ReplyRows.open_replies Tryz.underlying53 Tryz.underlying65 Tryz.underlying60 Tryz.underlying51 Tryz.underlying108 (by kernel_rfl) rfl rfl rfl rfl rfl rfl rfl (by kernel_rfl) (by kernel_rfl) (by kernel_rfl) (by kernel_rfl) rfl rfl rfl rfl (by kernel_rfl) (by kernel_rfl) (by kernel_rfl) (by kernel_rfl) Tryz.underlying3 Tryz.underlying3 Tryz.underlying3 Tryz.underlying3 Tryz.underlying3 (by kernel_rfl) rfl rfl (by kernel_rfl) (by kernel_rfl) Tryz.underlying3 Tryz.underlying9 Tryz.underlying23 Tryz.underlying3 (by kernel_rfl) (by kernel_rfl) (by kernel_rfl) hf sz3
    refine ⟨l, h1, ?_, h2⟩
    rcases h3 with rfl | ⟨ls, sp, hx, hl⟩
    · simp
    · simp only at hx
      subst hx
      have hb : Tryz.prog.bytesOf 65 = 88 := by kernel_rfl
      have := sized_slice hsz (j := 3) (t := 53) (e := 65) rfl rfl Tryz.underlying53
      rw [hb, hl] at this
      simp only [reachBytes] at this
      omega
  clear hA0 hval0 hsz0
  have hM : laidMet Tryz.prog [("math/bits.deBruijn32tab", Rows.laid_math_bits_deBruijn32tab), ("math/bits.deBruijn64tab", Rows.laid_math_bits_deBruijn64tab), ("internal/strconv.uint64pow10", Rows.laid_internal_strconv_uint64pow10)] W ∧ handlesMet Tryz.prog [("errors.errorType", Rows.laid_errors_errorType)] W := hL
  refine (WalkMirrorPlays.walk a0 w0 a1 n1 cap1 l1 z1 w1 a2 n2 cap2 l2 z2 w2 a3 n3 cap3 l3 z3 w3 W r1_ r2_ r3_ (Handle.handle_of_met hM.2) (HandlePow.tabs_of_met hM.1.tail.tail)).mono fun e W' ⟨he, bel⟩ => ?_
  subst he
  exact ⟨_, rfl, _, _, _, [], _, [], hW', trodAll_mk1 (shut_bool Tryz.underlying4 _), (trodAll_cons_mk (shut_int Tryz.underlying3 w0) (trodAll_cons_mk (Below.trod laidOut (by kernel_rfl) (of_decide_eq_true (by kernel_rfl)) k1 bel lt1) (trodAll_cons_mk (Below.trod laidOut (by kernel_rfl) (of_decide_eq_true (by kernel_rfl)) k2 bel lt2) (trodAll_cons_mk (Below.trod laidOut (by kernel_rfl) (of_decide_eq_true (by kernel_rfl)) k3 bel lt3) trodAll_mk0)))), rfl, bel.frame _, fun h => by cases h⟩

set_option maxRecDepth 100000 in
theorem lifted (os : Os) (started : os.Started) (H : Type) (enc : TypeId × Value → H) (F : Stop.Interp) :
    ReturnsInHanded {} Tryz.checked os 4 .any ((OpenSpec.ofChange Rows.mirrorPlaysSpec).preRow enc Tryz.prog Tryz.f4 Rows.mirrorPlaysRow.domain false Rows.mirrorPlaysRow.laid) (((OpenSpec.ofChange Rows.mirrorPlaysSpec).at F).post enc Tryz.prog Tryz.f4 false true false false) := by
  refine returnsInHanded_of_row (C := Tryz.checked) (s := OpenSpec.ofChange Rows.mirrorPlaysSpec) own started (by kernel_rfl) Tryz.func4
    (witness_row_at (enc := enc) (C := Tryz.checked) false ({ World.holding Tryz.prog os ⟨#[], #[], []⟩ with heap := (((((World.holding Tryz.prog os ⟨#[], #[], []⟩).heap.modify 3 (fun | .cells _ t frozen => .cells #[.int .u8 0, .int .u8 1, .int .u8 28, .int .u8 2, .int .u8 29, .int .u8 14, .int .u8 24, .int .u8 3, .int .u8 30, .int .u8 22, .int .u8 20, .int .u8 15, .int .u8 25, .int .u8 17, .int .u8 4, .int .u8 8, .int .u8 31, .int .u8 27, .int .u8 13, .int .u8 23, .int .u8 21, .int .u8 19, .int .u8 16, .int .u8 7, .int .u8 26, .int .u8 12, .int .u8 18, .int .u8 6, .int .u8 11, .int .u8 5, .int .u8 10, .int .u8 9] t frozen | o => o)).modify 4 (fun | .cells _ t frozen => .cells #[.int .u8 0, .int .u8 1, .int .u8 56, .int .u8 2, .int .u8 57, .int .u8 49, .int .u8 28, .int .u8 3, .int .u8 61, .int .u8 58, .int .u8 42, .int .u8 50, .int .u8 38, .int .u8 29, .int .u8 17, .int .u8 4, .int .u8 62, .int .u8 47, .int .u8 59, .int .u8 36, .int .u8 45, .int .u8 43, .int .u8 51, .int .u8 22, .int .u8 53, .int .u8 39, .int .u8 33, .int .u8 30, .int .u8 24, .int .u8 18, .int .u8 12, .int .u8 5, .int .u8 63, .int .u8 55, .int .u8 48, .int .u8 27, .int .u8 60, .int .u8 41, .int .u8 37, .int .u8 16, .int .u8 46, .int .u8 35, .int .u8 44, .int .u8 21, .int .u8 52, .int .u8 32, .int .u8 23, .int .u8 11, .int .u8 54, .int .u8 26, .int .u8 40, .int .u8 15, .int .u8 34, .int .u8 20, .int .u8 31, .int .u8 10, .int .u8 25, .int .u8 14, .int .u8 19, .int .u8 9, .int .u8 13, .int .u8 8, .int .u8 7, .int .u8 6] t frozen | o => o)).modify 2 (fun | .cells _ t frozen => .cells #[.int .u64 1, .int .u64 10, .int .u64 100, .int .u64 1000, .int .u64 10000, .int .u64 100000, .int .u64 1000000, .int .u64 10000000, .int .u64 100000000, .int .u64 1000000000, .int .u64 10000000000, .int .u64 100000000000, .int .u64 1000000000000, .int .u64 10000000000000, .int .u64 100000000000000, .int .u64 1000000000000000, .int .u64 10000000000000000, .int .u64 100000000000000000, .int .u64 1000000000000000000, .int .u64 10000000000000000000] t frozen | o => o)).modify 0 (fun | .cells _ t frozen => .cells #[.iface 203 (.agg #[.pointer (some ⟨5, 26, none⟩)])] t frozen | o => o)) }) #[.int .i64 0, .slice none 0 0, .slice none 0 0, .slice none 0 0] rfl (by kernel_rfl) (by kernel_rfl) (by kernel_rfl)
      (OpenSpec.preRow_of_cond 8 (x := ([.lit (.int .i64 0), .nil, .nil, .nil], [], [])) (by kernel_rfl) (by kernel_rfl) (fun k hk => by cases hk) (by kernel_rfl) (laidMetH_of_parts (laidMet_of_run' 8 (by kernel_rfl) (by kernel_rfl)) (by kernel_rfl)))) ?_
  intro W base args ds gs before hval hW _ hcond hsz hL hsh _
  exact contract H enc W base args ds gs before hval hW hsz hL hsh

theorem said : Rows.MirrorPlaysSaid :=
  OpenClaim.holds_of_cond 4 Tryz.f4 rfl rfl rfl rfl rfl rfl rfl ⟨rfl, rfl, rfl, rfl, rfl⟩ rfl rfl rfl rfl rfl (by kernel_rfl) Tryz.func4 (by kernel_rfl)
    (of_decide_eq_true (by kernel_rfl)) (by unfold Func.isWrapper; first | (rw [if_pos (by decide +kernel)]; kernel_rfl) | (rw [if_neg (by decide +kernel)]; exact ⟨rfl, rfl⟩))
    (fun os started H enc _ F => by rw [OpenClaim.pre_eq_preRow]; exact lifted os started H enc F)

theorem plain (f : FuncId) (fn : Func) (hf : Tryz.pinned.checked.prog.funcNamed "witnessbox/witlaw2.MirrorPlays" = some f) (hfn : Tryz.pinned.checked.prog.funcs[f]? = some fn) :
    true = Tryz.pinned.checked.prog.looks [] ∧ ∀ (j : Nat) t, fn.params[j]? = some t → Tryz.pinned.checked.prog.wantsStandIn t = false := by
  obtain rfl : f = 4 := Option.some.inj ((show Tryz.prog.funcNamed "witnessbox/witlaw2.MirrorPlays" = some 4 by kernel_rfl).symm.trans hf) |>.symm
  obtain rfl : fn = Tryz.f4 := (Option.some.inj (Tryz.func4.symm.trans hfn)).symm
  refine ⟨by kernel_rfl, fun j t ht => ?_⟩
  have hall : (Tryz.f4.params.toList.all fun t => !Tryz.prog.wantsStandIn t) = true := by kernel_rfl
  have hm : t ∈ Tryz.f4.params.toList := Array.mem_toList_iff.2 (Array.mem_of_getElem? ht)
  have h := List.all_eq_true.1 hall t hm
  rw [Bool.not_eq_true'] at h
  exact h

theorem proved : Rows.MirrorPlaysCardSaid :=
  Claim7.holds_tied_plain_at .later [] _ _ _ _ said (fun _ h => by cases h) (by kernel_rfl) (fun _ h => by cases h) mirrorPlays_row_tie rfl ⟨rfl, rfl⟩ (by kernel_rfl) rfl plain (by kernel_rfl)
end Go.Proofs.YtncddfgclpdgfagGreatDoor.mirrorPlays
