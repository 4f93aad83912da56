/-
  For every list of entries, head, key and list of lists of sums: whether the head is that of the entries, the sums of all of their tiles, and which of the lists are not those of their tile, each with its error, are as the document reckons them.
-/
import Derived.Test.YtigbbhojgajkjaiGreatDoorRows
import Derived.Test.YtigbbhojgajkjaiGreatDoorMirPlain
import Derived.Test.YtigbbhojgajkjaiGreatDoorGrowPlain
import Derived.Test.YtigbbhojgajkjaiGreatDoorMirrors
import Derived.Test.YtigbbhojgajkjaiGreatDoorSePlain
import Derived.Test.YtigbbhojgajkjaiGreatDoorAudits
import Derived.Test.YtigbbhojgajkjaiGreatDoorListRows
import Derived.Test.YtigbbhojgajkjaiGreatDoorReplyAll
import Derived.Test.YtigbbhojgajkjaiGreatDoorSumRows
import Derived.Test.YtigbbhojgajkjaiGreatDoorErrs
import Derived.Test.YtigbbhojgajkjaiGreatDoorWalkSum
import Derived.Test.YtigbbhojgajkjaiGreatDoorWalkMix
import Derived.Test.YtigbbhojgajkjaiGreatDoorEntAll
import Derived.Test.YtigbbhojgajkjaiGreatDoorTilePlain
import Derived.Test.YtigbbhojgajkjaiGreatDoorWalkTileAll
import Derived.Test.YtigbbhojgajkjaiGreatDoorWalkTree
import Derived.Test.YtigbbhojgajkjaiGreatDoorWalkCheck
import Derived.Test.YtigbbhojgajkjaiGreatDoorWalkTile
import Derived.Test.YtigbbhojgajkjaiGreatDoorWalkAuTiles
import Derived.Test.YtigbbhojgajkjaiGreatDoorHeadRows
import Derived.Test.YtigbbhojgajkjaiGreatDoorShelf
import Derived.Test.YtigbbhojgajkjaiGreatDoorHdWords
import Derived.Test.YtigbbhojgajkjaiGreatDoorWalkHdLib
import Derived.Test.YtigbbhojgajkjaiGreatDoorWalkIsSum
import Derived.Test.YtigbbhojgajkjaiGreatDoorWalkHdOne
import Derived.Test.YtigbbhojgajkjaiGreatDoorWalkHex
import Derived.Test.YtigbbhojgajkjaiGreatDoorWalkHdText
import Derived.Test.YtigbbhojgajkjaiGreatDoorWalkHdSign
import Derived.Test.YtigbbhojgajkjaiGreatDoorWalkAu
import Derived.Test.YtigbbhojgajkjaiGreatDoorWalkRef
import Derived.Test.YtigbbhojgajkjaiGreatDoorWalkDigits
import Derived.Test.YtigbbhojgajkjaiGreatDoorHeadRef
import Derived.Test.YtigbbhojgajkjaiGreatDoorEntRef
import Derived.Test.YtigbbhojgajkjaiGreatDoorWalkTreeRef
import Derived.Test.YtigbbhojgajkjaiGreatDoorWalkRootOf
import Derived.Test.YtigbbhojgajkjaiGreatDoorWalkTileRef
import Derived.Test.YtigbbhojgajkjaiGreatDoorWalkTilesSame
import Derived.Test.YtigbbhojgajkjaiGreatDoorWalkInts
import Derived.Test.YtigbbhojgajkjaiGreatDoorWalkListsSame
import Derived.Test.YtigbbhojgajkjaiGreatDoorWalkTold
import Derived.Test.YtigbbhojgajkjaiGreatDoorWalkAuditTells
import Derived.Test.YtigbbhojgajkjaiGreatDoorCards
import Derived.Test.YtigbbhojgajkjaiGreatDoorTie
import Derived.Test.YtigbbhojgajkjaiGreatDoorHandle
import Derived.Test.YtigbbhojgajkjaiGreatDoorHandlePow
import Derived.SevenTiedAt
import Derived.Stop.LaidErr
import Derived.WalkKit
import Derived.ProofKit
import Derived.ChangeSlices
import Derived.SliceStrings
import Derived.Carry
import Derived.OpenShut
import Derived.ShutString
import Derived.ChangeOld
import Derived.Below
import Derived.SizedLaws
import Derived.Deep.DeepHandedRow
import Derived.LaidLaws
import Derived.LaidHandle
import Derived.Lib.SmallJoins
namespace Go.Proofs.YtigbbhojgajkjaiGreatDoor.auditTells
open Go.ChangeShapes Go.WideShapes Go.ChangeAt Go.RowKit
open Go.ChangeMaps (open_string shut_string)
open Go.Joins
set_option linter.unusedVariables false

theorem own : ownKnob Tryz.prog.godebug = none := by kernel_rfl
theorem laidOut : laidOutB Tryz.prog = true := by kernel_rfl

set_option maxRecDepth 100000 in
theorem contract (H : Type) (enc : TypeId × Value → H) (W : World) (base : Nat) (args : Array Value) (ds gs : List (DataW H)) (before : List MemPlace)
    (hval0 : ∀ (j : Nat) t v, Tryz.f3.params[j]? = some t → args[j]? = some v → Value.okWide Tryz.prog W .any base t v)
    (hW : DataW.Whole enc Tryz.prog Tryz.f3.params.toList Rows.auditTellsSpec.vars false W args.toList ds gs before)
    (hsz0 : (DataW.weightsEach Tryz.prog (Tryz.f3.params.toList ++ (OpenSpec.ofChange Rows.auditTellsSpec).bare.plain.varTypes Tryz.prog) (ds ++ gs)).all (· ≤ reachBytes) = true) (hL : laidMetH Tryz.prog Rows.auditTellsRow.laid W) (hsh : W.ShapedOpen Tryz.prog) :
    Calls Tryz.prog 3 args W fun e W' => ∃ v, e = .returned v ∧ Rows.auditTellsSpec.post enc Tryz.prog Tryz.f3 false true false false W args v W' := by
  have hval : ∀ (j : Nat) t v, Tryz.f3.params[j]? = some t → args[j]? = some v → Value.okWide Tryz.prog W .any base t v := hval0
  have hW' := hW
  obtain ⟨p, q, hA0, hV, rfl, hfz, hnd⟩ := hW
  have hA : DataW.TrodAll enc Tryz.prog W 0 (fun _ => true) true Tryz.f3.params.toList args.toList ds p := hA0
  have hsz : (DataW.weightsEach Tryz.prog (Tryz.f3.params.toList ++ Rows.auditTellsSpec.plain.varTypes Tryz.prog) (ds ++ gs)).all (· ≤ reachBytes) = true := hsz0
  rw [Tryz.params3] at hA hval hsz
  obtain ⟨v0, vs0, d0, ds0, p0, q0, hargs, rfl, rfl, h0, r0⟩ := trodAll_cons hA
  obtain ⟨v1, vs1, d1, ds1, p1, q1, rfl, rfl, rfl, h1, r1⟩ := trodAll_cons r0
  obtain ⟨v2, vs2, d2, ds2, p2, q2, rfl, rfl, rfl, h2, r2⟩ := trodAll_cons r1
  obtain ⟨v3, vs3, d3, ds3, p3, q3, rfl, rfl, rfl, h3, r3⟩ := trodAll_cons r2
  obtain ⟨rfl, rfl, rfl⟩ := trodAll_nil r3
  obtain rfl : args = #[v0, v1, v2, v3] := by cases args; simp_all
  obtain ⟨rfl, rfl⟩ := trodVars_none hV
  obtain ⟨a0, n0, cap0, rfl⟩ := okWide_slice Tryz.underlying22 (hval 0 22 v0 rfl rfl)
  have k0 := h0
  have lt0 : ∀ x ∈ p0, x.block < W.heap.size := by obtain ⟨m, hm⟩ := k0; exact DataW.trod_lt m _ _ _ hm
  obtain ⟨l0, r0_, z0, w0⟩ : ∃ l : List Entries.Entry, Wides.Wide 2 W a0 n0 cap0 (EntRows.cells l) ∧ l.length * 24 ≤ 140737488351232 ∧ ∀ x ∈ l, (Lit.int .i64 x.1).wf = true ∧ x.2.size ≤ maxLen := by
    obtain ⟨fuel, hf⟩ := h0
    obtain ⟨l, h1, h2, h3⟩ := EntRows.open_entries Tryz.underlying22 Tryz.underlying65 (by kernel_rfl) rfl rfl (by kernel_rfl) (by kernel_rfl) Tryz.underlying3 Tryz.underlying9 hf
    refine ⟨l, h1, ?_, h2⟩
    rcases h3 with rfl | ⟨ls, sp, hx, hl⟩
    · simp
    · simp only at hx
      subst hx
      have hb : Tryz.prog.bytesOf 65 = 24 := by kernel_rfl
      have := sized_slice hsz (j := 0) (t := 22) (e := 65) rfl rfl Tryz.underlying22
      rw [hb, hl] at this
      simp only [reachBytes] at this
      omega
  obtain ⟨x1_0, x1_1, x1_2, x1_3, y1_0, y1_1, y1_2, y1_3, m1, rfl, rfl, rfl, t1_0, t1_1, t1_2, t1_3⟩ := open_agg4 Tryz.underlying24 (by kernel_rfl) (by kernel_rfl) (hval 1 24 v1 rfl rfl) h1
  obtain ⟨a1_0, e1_0, g1_0, w1_0⟩ := DataW.trod_int Tryz.underlying3 t1_0
  simp only [List.cons.injEq, and_true] at e1_0
  subst e1_0
  subst g1_0
  obtain ⟨a1_1, e1_1, g1_1, w1_1⟩ := DataW.trod_int Tryz.underlying3 t1_1
  simp only [List.cons.injEq, and_true] at e1_1
  subst e1_1
  subst g1_1
  obtain ⟨a1_2, e1_2, g1_2, w1_2⟩ := DataW.trod_int Tryz.underlying3 t1_2
  simp only [List.cons.injEq, and_true] at e1_2
  subst e1_2
  subst g1_2
  obtain ⟨a1_3, e1_3, g1_3, w1_3⟩ := DataW.trod_int Tryz.underlying3 t1_3
  simp only [List.cons.injEq, and_true] at e1_3
  subst e1_3
  subst g1_3
  obtain ⟨a2, rfl, rfl, rfl, w2⟩ := open_int Tryz.underlying3 (hval 2 3 v2 rfl rfl) h2
  obtain ⟨a3, n3, cap3, rfl⟩ := okWide_slice Tryz.underlying25 (hval 3 25 v3 rfl rfl)
  have k3 := h3
  have lt3 : ∀ x ∈ p3, x.block < W.heap.size := by obtain ⟨m, hm⟩ := k3; exact DataW.trod_lt m _ _ _ hm
  have sz3 : ∀ k ∈ d3.weights Tryz.prog 25, k ≤ reachBytes := fun k hk => by
    have := List.all_eq_true.1 hsz k (DataW.weights_mem_each (j := 3) (t := 25) rfl rfl k hk)
    simpa using this
  obtain ⟨l3, r3_, z3, w3⟩ : ∃ l : List (List Int), IntRows.Rowss W a3 n3 cap3 l ∧ l.length * 24 ≤ 140737488351232 ∧ ∀ x ∈ l, ∀ z ∈ x, (Lit.int .i64 z).wf = true := by
    obtain ⟨fuel, hf⟩ := h3
    obtain ⟨l, h1, h2, h3⟩ := IntRows.open_rows Tryz.underlying25 Tryz.underlying28 Tryz.underlying3 (by kernel_rfl) (by kernel_rfl) hf
    refine ⟨l, h1, ?_, h2⟩
    rcases h3 with rfl | ⟨ls, sp, hx, hl⟩
    · simp
    · simp only at hx
      subst hx
      have hb : Tryz.prog.bytesOf 28 = 24 := by kernel_rfl
      have := sized_slice hsz (j := 3) (t := 25) (e := 28) rfl rfl Tryz.underlying25
      rw [hb, hl] at this
      simp only [reachBytes] at this
      omega
  clear hA0 hval0 hsz0
  have hM : laidMet Tryz.prog [("math/bits.deBruijn32tab", Rows.laid_math_bits_deBruijn32tab), ("math/bits.deBruijn64tab", Rows.laid_math_bits_deBruijn64tab), ("internal/strconv.uint64pow10", Rows.laid_internal_strconv_uint64pow10)] W ∧ handlesMet Tryz.prog [("errors.errorType", Rows.laid_errors_errorType)] W := hL
  refine (WalkAuditTells.walk a0 n0 cap0 l0 z0 w0 a1_0 w1_0 a1_1 w1_1 a1_2 w1_2 a1_3 w1_3 a2 w2 a3 n3 cap3 l3 z3 w3 W r0_ r3_ (Handle.handle_of_met hM.2) (HandlePow.tabs_of_met hM.1.tail.tail)).mono fun e W' ⟨he, bel⟩ => ?_
  subst he
  exact ⟨_, rfl, _, _, _, [], _, [], hW', trodAll_mk1 (shut_bool Tryz.underlying4 _), (trodAll_cons_mk (Below.trod laidOut (by kernel_rfl) (of_decide_eq_true (by kernel_rfl)) k0 bel lt0) (trodAll_cons_mk (shut_agg4 Tryz.underlying24 (by kernel_rfl) (by kernel_rfl) (field_of_Trod (shut_int Tryz.underlying3 w1_0) rfl) (field_of_Trod (shut_int Tryz.underlying3 w1_1) rfl) (field_of_Trod (shut_int Tryz.underlying3 w1_2) rfl) (field_of_Trod (shut_int Tryz.underlying3 w1_3) rfl)) (trodAll_cons_mk (shut_int Tryz.underlying3 w2) (trodAll_cons_mk (Below.trod laidOut (by kernel_rfl) (of_decide_eq_true (by kernel_rfl)) k3 bel lt3) trodAll_mk0)))), rfl, bel.frame _, fun h => by cases h⟩

set_option maxRecDepth 100000 in
theorem lifted (os : Os) (started : os.Started) (H : Type) (enc : TypeId × Value → H) (F : Stop.Interp) :
    ReturnsInHanded {} Tryz.checked os 3 .any ((OpenSpec.ofChange Rows.auditTellsSpec).preRow enc Tryz.prog Tryz.f3 Rows.auditTellsRow.domain false Rows.auditTellsRow.laid) (((OpenSpec.ofChange Rows.auditTellsSpec).at F).post enc Tryz.prog Tryz.f3 false true false false) := by
  refine returnsInHanded_of_row (C := Tryz.checked) (s := OpenSpec.ofChange Rows.auditTellsSpec) own started (by kernel_rfl) Tryz.func3
    (witness_row_at (enc := enc) (C := Tryz.checked) false ({ World.holding Tryz.prog os ⟨#[], #[], []⟩ with heap := (((((World.holding Tryz.prog os ⟨#[], #[], []⟩).heap.modify 7 (fun | .cells _ t frozen => .cells #[.int .u8 0, .int .u8 1, .int .u8 28, .int .u8 2, .int .u8 29, .int .u8 14, .int .u8 24, .int .u8 3, .int .u8 30, .int .u8 22, .int .u8 20, .int .u8 15, .int .u8 25, .int .u8 17, .int .u8 4, .int .u8 8, .int .u8 31, .int .u8 27, .int .u8 13, .int .u8 23, .int .u8 21, .int .u8 19, .int .u8 16, .int .u8 7, .int .u8 26, .int .u8 12, .int .u8 18, .int .u8 6, .int .u8 11, .int .u8 5, .int .u8 10, .int .u8 9] t frozen | o => o)).modify 8 (fun | .cells _ t frozen => .cells #[.int .u8 0, .int .u8 1, .int .u8 56, .int .u8 2, .int .u8 57, .int .u8 49, .int .u8 28, .int .u8 3, .int .u8 61, .int .u8 58, .int .u8 42, .int .u8 50, .int .u8 38, .int .u8 29, .int .u8 17, .int .u8 4, .int .u8 62, .int .u8 47, .int .u8 59, .int .u8 36, .int .u8 45, .int .u8 43, .int .u8 51, .int .u8 22, .int .u8 53, .int .u8 39, .int .u8 33, .int .u8 30, .int .u8 24, .int .u8 18, .int .u8 12, .int .u8 5, .int .u8 63, .int .u8 55, .int .u8 48, .int .u8 27, .int .u8 60, .int .u8 41, .int .u8 37, .int .u8 16, .int .u8 46, .int .u8 35, .int .u8 44, .int .u8 21, .int .u8 52, .int .u8 32, .int .u8 23, .int .u8 11, .int .u8 54, .int .u8 26, .int .u8 40, .int .u8 15, .int .u8 34, .int .u8 20, .int .u8 31, .int .u8 10, .int .u8 25, .int .u8 14, .int .u8 19, .int .u8 9, .int .u8 13, .int .u8 8, .int .u8 7, .int .u8 6] t frozen | o => o)).modify 4 (fun | .cells _ t frozen => .cells #[.int .u64 1, .int .u64 10, .int .u64 100, .int .u64 1000, .int .u64 10000, .int .u64 100000, .int .u64 1000000, .int .u64 10000000, .int .u64 100000000, .int .u64 1000000000, .int .u64 10000000000, .int .u64 100000000000, .int .u64 1000000000000, .int .u64 10000000000000, .int .u64 100000000000000, .int .u64 1000000000000000, .int .u64 10000000000000000, .int .u64 100000000000000000, .int .u64 1000000000000000000, .int .u64 10000000000000000000] t frozen | o => o)).modify 0 (fun | .cells _ t frozen => .cells #[.iface 160 (.agg #[.pointer (some ⟨9, 33, none⟩)])] t frozen | o => o)) }) #[.slice none 0 0, .agg #[.int .i64 0, .int .i64 0, .int .i64 0, .int .i64 0], .int .i64 0, .slice none 0 0] rfl (by kernel_rfl) (by kernel_rfl) (by kernel_rfl)
      (OpenSpec.preRow_of_cond 8 (x := ([.nil, .agg [.lit (.int .i64 0), .lit (.int .i64 0), .lit (.int .i64 0), .lit (.int .i64 0)], .lit (.int .i64 0), .nil], [], [])) (by kernel_rfl) (by kernel_rfl) (fun k hk => by cases hk) (by kernel_rfl) (laidMetH_of_parts (laidMet_of_run' 8 (by kernel_rfl) (by kernel_rfl)) (by kernel_rfl)))) ?_
  intro W base args ds gs before hval hW _ hcond hsz hL hsh _
  exact contract H enc W base args ds gs before hval hW hsz hL hsh

theorem said : Rows.AuditTellsSaid :=
  OpenClaim.holds_of_cond 3 Tryz.f3 rfl rfl rfl rfl rfl rfl rfl ⟨rfl, rfl, rfl, rfl, rfl⟩ rfl rfl rfl rfl rfl (by kernel_rfl) Tryz.func3 (by kernel_rfl)
    (of_decide_eq_true (by kernel_rfl)) (by unfold Func.isWrapper; first | (rw [if_pos (by decide +kernel)]; kernel_rfl) | (rw [if_neg (by decide +kernel)]; exact ⟨rfl, rfl⟩))
    (fun os started H enc _ F => by rw [OpenClaim.pre_eq_preRow]; exact lifted os started H enc F)

theorem plain (f : FuncId) (fn : Func) (hf : Tryz.pinned.checked.prog.funcNamed "witnessbox/witlaw3.AuditTells" = some f) (hfn : Tryz.pinned.checked.prog.funcs[f]? = some fn) :
    true = Tryz.pinned.checked.prog.looks [] ∧ ∀ (j : Nat) t, fn.params[j]? = some t → Tryz.pinned.checked.prog.wantsStandIn t = false := by
  obtain rfl : f = 3 := Option.some.inj ((show Tryz.prog.funcNamed "witnessbox/witlaw3.AuditTells" = some 3 by kernel_rfl).symm.trans hf) |>.symm
  obtain rfl : fn = Tryz.f3 := (Option.some.inj (Tryz.func3.symm.trans hfn)).symm
  refine ⟨by kernel_rfl, fun j t ht => ?_⟩
  have hall : (Tryz.f3.params.toList.all fun t => !Tryz.prog.wantsStandIn t) = true := by kernel_rfl
  have hm : t ∈ Tryz.f3.params.toList := Array.mem_toList_iff.2 (Array.mem_of_getElem? ht)
  have h := List.all_eq_true.1 hall t hm
  rw [Bool.not_eq_true'] at h
  exact h

theorem proved : Rows.AuditTellsCardSaid :=
  Claim7.holds_tied_plain_at .later [] _ _ _ _ said (fun _ h => by cases h) (by kernel_rfl) (fun _ h => by cases h) auditTells_row_tie rfl ⟨rfl, rfl⟩ (by kernel_rfl) rfl plain (by kernel_rfl)
end Go.Proofs.YtigbbhojgajkjaiGreatDoor.auditTells
