/-
  For every limit, list of numbers and list of pairs: of the first sixty pairs that are put, or dropped, in levels and in a store, flushed and merged between as the numbers say, each is refused by both or by none, there are never more than eight tables nor as many young pairs as the limit, and what one can get of the levels is what one can get of the store.
-/
import Derived.Test.YtbepfeajaoaocafRows
import Derived.Test.YtbepfeajaoaocafSums
import Derived.Test.YtbepfeajaoaocafStores
import Derived.Test.YtbepfeajaoaocafSpots
import Derived.Test.YtbepfeajaoaocafLists
import Derived.Test.YtbepfeajaoaocafKeeps
import Derived.Test.YtbepfeajaoaocafWides
import Derived.Test.YtbepfeajaoaocafPairRows
import Derived.Test.YtbepfeajaoaocafWalkStoFind
import Derived.Test.YtbepfeajaoaocafWideCopy
import Derived.Test.YtbepfeajaoaocafWalkStoIns
import Derived.Test.YtbepfeajaoaocafStables
import Derived.Test.YtbepfeajaoaocafMerges
import Derived.Test.YtbepfeajaoaocafWalkSwap
import Derived.Test.YtbepfeajaoaocafWalkInsSort
import Derived.Test.YtbepfeajaoaocafWalkSymMerge
import Derived.Test.YtbepfeajaoaocafWalkSymHalves
import Derived.Test.YtbepfeajaoaocafLsms
import Derived.Test.YtbepfeajaoaocafBlocks
import Derived.Test.YtbepfeajaoaocafWalkStable
import Derived.Test.YtbepfeajaoaocafWalkDelete
import Derived.Test.YtbepfeajaoaocafWalkCompact
import Derived.Test.YtbepfeajaoaocafLsmRows
import Derived.Test.YtbepfeajaoaocafWalkConcat
import Derived.Test.YtbepfeajaoaocafNums
import Derived.Test.YtbepfeajaoaocafTabs
import Derived.Test.YtbepfeajaoaocafTabOpens
import Derived.Test.YtbepfeajaoaocafErrs
import Derived.Test.YtbepfeajaoaocafWalkSum
import Derived.Test.YtbepfeajaoaocafWalkMix
import Derived.Test.YtbepfeajaoaocafWalkTabOne
import Derived.Test.YtbepfeajaoaocafWalkClone
import Derived.Test.YtbepfeajaoaocafWalkTabTake
import Derived.Test.YtbepfeajaoaocafWalkTabFind
import Derived.Test.YtbepfeajaoaocafWalkTab
import Derived.Test.YtbepfeajaoaocafLetters
import Derived.Test.YtbepfeajaoaocafLsmLetters
import Derived.Test.YtbepfeajaoaocafLsmFines
import Derived.Test.YtbepfeajaoaocafWalkLiving
import Derived.Test.YtbepfeajaoaocafWalkStoOwn
import Derived.Test.YtbepfeajaoaocafWalkStoSet
import Derived.Test.YtbepfeajaoaocafWalkSto
import Derived.Test.YtbepfeajaoaocafWalkIns1
import Derived.Test.YtbepfeajaoaocafWalkLsObj
import Derived.Test.YtbepfeajaoaocafWalkLsPut
import Derived.Test.YtbepfeajaoaocafWalkLs
import Derived.Test.YtbepfeajaoaocafLsmSames
import Derived.Test.YtbepfeajaoaocafWalkPairsSame
import Derived.Test.YtbepfeajaoaocafWalkLsmSame
import Derived.WalkKit
import Derived.ProofKit
import Derived.ChangeSlices
import Derived.SliceStrings
import Derived.Carry
import Derived.OpenShut
import Derived.ShutString
import Derived.ChangeOld
import Derived.Below
import Derived.SizedLaws
import Derived.Deep.DeepHandedRow
import Derived.LaidLaws
import Derived.LaidHandle
namespace Go.Proofs.Ytbepfeajaoaocaf.lsmSame
open Go.ChangeShapes Go.WideShapes Go.ChangeAt Go.RowKit
open Go.ChangeMaps (open_string shut_string)
set_option linter.unusedVariables false

theorem own : ownKnob Try.prog.godebug = none := by kernel_rfl
theorem laidOut : laidOutB Try.prog = true := by kernel_rfl

set_option maxRecDepth 100000 in
theorem contract (H : Type) (enc : TypeId × Value → H) (W : World) (base : Nat) (args : Array Value) (ds gs : List (DataW H)) (before : List MemPlace)
    (hval0 : ∀ (j : Nat) t v, Try.f3.params[j]? = some t → args[j]? = some v → Value.okWide Try.prog W .any base t v)
    (hW : DataW.Whole enc Try.prog Try.f3.params.toList Rows.lsmSameSpec.vars false W args.toList ds gs before)
    (hsz0 : (DataW.weightsEach Try.prog (Try.f3.params.toList ++ (OpenSpec.ofChange Rows.lsmSameSpec).bare.plain.varTypes Try.prog) (ds ++ gs)).all (· ≤ reachBytes) = true) :
    Calls Try.prog 3 args W fun e W' => ∃ v, e = .returned v ∧ Rows.lsmSameSpec.post enc Try.prog Try.f3 false true false false W args v W' := by
  have hval : ∀ (j : Nat) t v, Try.f3.params[j]? = some t → args[j]? = some v → Value.okWide Try.prog W .any base t v := hval0
  have hW' := hW
  obtain ⟨p, q, hA0, hV, rfl, hfz, hnd⟩ := hW
  have hA : DataW.TrodAll enc Try.prog W 0 (fun _ => true) true Try.f3.params.toList args.toList ds p := hA0
  have hsz : (DataW.weightsEach Try.prog (Try.f3.params.toList ++ Rows.lsmSameSpec.plain.varTypes Try.prog) (ds ++ gs)).all (· ≤ reachBytes) = true := hsz0
  rw [Try.params3] at hA hval hsz
  obtain ⟨v0, vs0, d0, ds0, p0, q0, hargs, rfl, rfl, h0, r0⟩ := trodAll_cons hA
  obtain ⟨v1, vs1, d1, ds1, p1, q1, rfl, rfl, rfl, h1, r1⟩ := trodAll_cons r0
  obtain ⟨v2, vs2, d2, ds2, p2, q2, rfl, rfl, rfl, h2, r2⟩ := trodAll_cons r1
  obtain ⟨rfl, rfl, rfl⟩ := trodAll_nil r2
  obtain rfl : args = #[v0, v1, v2] := by cases args; simp_all
  obtain ⟨rfl, rfl⟩ := trodVars_none hV
  obtain ⟨a0, rfl, rfl, rfl, w0⟩ := open_int Try.underlying3 (hval 0 3 v0 rfl rfl) h0
  obtain ⟨a1, n1, cap1, rfl⟩ := okWide_slice Try.underlying22 (hval 1 22 v1 rfl rfl)
  have k1 := h1
  have lt1 : ∀ x ∈ p1, x.block < W.heap.size := by obtain ⟨m, hm⟩ := k1; exact DataW.trod_lt m _ _ _ hm
  obtain ⟨l1, r1_, z1, w1⟩ : ∃ l, Lists.Row W a1 n1 cap1 (Lists.ints l) ∧ l.length * 8 ≤ 140737488351232 ∧ ∀ x ∈ l, (Lit.int .i64 x).wf = true := by
    obtain ⟨fuel, hf⟩ := h1
    rcases open_ints Try.underlying22 Try.underlying3 (by kernel_rfl) hf with ⟨hcs, _⟩ | ⟨x, len, c, zs, hcs, _, hl, hm, hz, hd, hcell, hwz⟩
    · simp [Value.cells] at hcs
      obtain ⟨rfl, rfl, rfl⟩ := hcs
      exact ⟨[], Lists.Row.nil _ _ _, by simp, by simp⟩
    · simp [Value.cells] at hcs
      obtain ⟨rfl, rfl, rfl⟩ := hcs
      simp only [Prod.mk.injEq] at hd
      obtain ⟨rfl, rfl⟩ := hd
      simp only [if_true] at hz
      have hb : Try.prog.bytesOf 3 = 8 := by kernel_rfl
      have := sized_slice hsz (j := 1) (t := 22) (e := 3) rfl rfl Try.underlying22
      rw [hb] at this
      simp only [lits, List.length_map, List.length_take, List.length_drop, reachBytes] at this
      exact ⟨zs.take n1, Lists.row_ints (by omega) hl hcell, by rw [List.length_take]; omega, fun y hy => hwz y (List.mem_of_mem_take hy)⟩
  obtain ⟨a2, n2, cap2, rfl⟩ := okWide_slice Try.underlying23 (hval 2 23 v2 rfl rfl)
  have k2 := h2
  have lt2 : ∀ x ∈ p2, x.block < W.heap.size := by obtain ⟨m, hm⟩ := k2; exact DataW.trod_lt m _ _ _ hm
  obtain ⟨l2, r2_, z2, w2⟩ : ∃ l : List Stores.Pair, Wides.Wide 3 W a2 n2 cap2 (PairRows.cells l) ∧ l.length * 40 ≤ 140737488351232 ∧ ∀ x ∈ l, x.key.size ≤ maxLen ∧ x.val.size ≤ maxLen := by
    obtain ⟨fuel, hf⟩ := h2
    obtain ⟨l, h1, h2, h3⟩ := PairRows.open_pairs Try.underlying23 Try.underlying38 (by kernel_rfl) rfl rfl rfl (by kernel_rfl) (by kernel_rfl) (by kernel_rfl) Try.underlying9 Try.underlying9 Try.underlying4 hf
    refine ⟨l, h1, ?_, h2⟩
    rcases h3 with rfl | ⟨ls, sp, hx, hl⟩
    · simp
    · simp only at hx
      subst hx
      have hb : Try.prog.bytesOf 38 = 40 := by kernel_rfl
      have := sized_slice hsz (j := 2) (t := 23) (e := 38) rfl rfl Try.underlying23
      rw [hb, hl] at this
      simp only [reachBytes] at this
      omega
  clear hA0 hval0 hsz0
  refine (WalkLsmSame.walk a0 w0 a1 n1 cap1 l1 z1 w1 a2 n2 cap2 l2 z2 w2 W r1_ r2_).mono fun e W' ⟨he, bel⟩ => ?_
  subst he
  exact ⟨_, rfl, _, _, _, [], _, [], hW', trodAll_mk1 (shut_bool Try.underlying4 _), (trodAll_cons_mk (shut_int Try.underlying3 w0) (trodAll_cons_mk (Below.trod laidOut (by kernel_rfl) (of_decide_eq_true (by kernel_rfl)) k1 bel lt1) (trodAll_cons_mk (Below.trod laidOut (by kernel_rfl) (of_decide_eq_true (by kernel_rfl)) k2 bel lt2) trodAll_mk0))), rfl, bel.frame _, fun h => by cases h⟩

set_option maxRecDepth 100000 in
theorem lifted (os : Os) (started : os.Started) (H : Type) (enc : TypeId × Value → H) (F : Stop.Interp) :
    ReturnsInHanded {} Try.checked os 3 .any ((OpenSpec.ofChange Rows.lsmSameSpec).preRow enc Try.prog Try.f3 Rows.lsmSameRow.domain false Rows.lsmSameRow.laid) (((OpenSpec.ofChange Rows.lsmSameSpec).at F).post enc Try.prog Try.f3 false true false false) := by
  refine returnsInHanded_of_row (C := Try.checked) (s := OpenSpec.ofChange Rows.lsmSameSpec) own started (by kernel_rfl) Try.func3
    (witness_row_at (enc := enc) (C := Try.checked) false (World.holding Try.prog os ⟨#[], #[], []⟩) #[.int .i64 0, .slice none 0 0, .slice none 0 0] rfl (by kernel_rfl) (by kernel_rfl) (by kernel_rfl)
      (OpenSpec.preRow_of_cond 8 (x := ([.lit (.int .i64 0), .nil, .nil], [], [])) (by kernel_rfl) (by kernel_rfl) (fun k hk => by cases hk) (by kernel_rfl) (laidMetH_of_parts (laidMet_nil _ _) (by kernel_rfl)))) ?_
  intro W base args ds gs before hval hW _ hcond hsz hL hsh _
  exact contract H enc W base args ds gs before hval hW hsz

theorem said : Rows.LsmSameSaid :=
  OpenClaim.holds_of_cond 3 Try.f3 rfl rfl rfl rfl rfl rfl rfl ⟨rfl, rfl, rfl, rfl, rfl⟩ rfl rfl rfl rfl rfl (by kernel_rfl) Try.func3 (by kernel_rfl)
    (of_decide_eq_true (by kernel_rfl)) (by unfold Func.isWrapper; first | (rw [if_pos (by decide +kernel)]; kernel_rfl) | (rw [if_neg (by decide +kernel)]; exact ⟨rfl, rfl⟩))
    (fun os started H enc _ F => by rw [OpenClaim.pre_eq_preRow]; exact lifted os started H enc F)

theorem proved : Rows.LsmSameSaid := said
end Go.Proofs.Ytbepfeajaoaocaf.lsmSame
