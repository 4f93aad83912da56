/-
  The fact of the whole's laws: a leaf of two is proved.
-/
import Derived.Test.YticadkggaanbjaaGreatDoorProofMake
import Derived.Test.YticadkggaanbjaaGreatDoorProofChk
import Derived.Deep.CutBlock
namespace Go.Proofs.YticadkggaanbjaaGreatDoor.WalkTopOne
open Go.RowKit
open Lists (Row ints bt)
open Keeps (owns_row)

theorem made : WalkMake.makeE [5, 6] 1 2 = 0 ∧ WalkMake.makeL [5, 6] 1 2 = [5] := by decide +kernel
theorem right : WalkProofCheck.checkE (Sums.sum (Nums.nodeBytes 5 6)) 2 1 6 [5] = 0 := by decide +kernel
theorem two_row (w : World) : Row (w.alloc (.cells #[.int .i64 5, .int .i64 6] 3)) (some ⟨w.heap.size, 0, none⟩) 2 2 (ints [5, 6]) := by
  refine ⟨rfl, Nat.le_refl _, fun _ => ⟨_, 0, rfl, ?_⟩⟩
  intro j u hj
  match j, hj with
  | 0, hj => simp [ints] at hj; subst hj; simp
  | 1, hj => simp [ints] at hj; subst hj; simp
  | j + 2, hj => simp [ints] at hj

set_option maxHeartbeats 2000000 in
set_option maxRecDepth 100000 in
theorem one_any (w : World) : Calls Tryz.prog 19 #[] w fun e w' => e = .returned (.bool true) ∧ Below w.heap.size w w' := by
  have cN := WalkMix.node_yes 5 6 w (by decide) (by decide)
  have HR : Hid (WalkProofCheck.checkE (Sums.sum (Nums.nodeBytes 5 6)) 2 1 6 [5] = 0) := right
  generalize Sums.sum (Nums.nodeBytes 5 6) = S at cN HR
  go_enter Tryz.func19, Tryz.ntmps19
  go_wp2_with fail
  refine cN.mono ?_
  rintro e w1 ⟨rfl, b1⟩
  have b2 := b1.alloc b1.size (.cells #[.int .i64 5, .int .i64 6] 3)
  have cM := WalkMake.make_any [5, 6] (some ⟨w1.heap.size, 0, none⟩) 2 2 1 2 _ (two_row w1)
  rw [made.1, made.2, WalkCheck.errv0] at cM
  clear cN b1
  go_wp2_with fail
  refine cM.mono ?_
  rintro e w3 ⟨v, rfl, o3, b3⟩
  obtain ⟨a3, c3, rfl, r3, z3⟩ := owns_row o3
  obtain ⟨bk, off, rfl, hc⟩ := r3.2.2 (by decide)
  have p0 := hc 0 (.int .i64 5) rfl
  have cC := WalkProofCheck.check_any S 2 1 6 [5] (some ⟨bk, off, none⟩) 1 c3 w3 r3 (by decide)
  rw [HR.out, WalkCheck.errv0] at cC
  have b4 := bt b2 b3
  simp only [Nat.add_zero] at p0
  clear cM o3 b3 b2 r3 z3 hc
  go_wp2_with fail
  refine cC.mono ?_
  rintro e w5 ⟨rfl, b5⟩
  have HB : Hid (Below w.heap.size w w5) := bt b4 b5
  clear cC b4 b5 p0
  go_wp2_with fail
  go_ret
  exact ⟨rfl, HB.out⟩

end Go.Proofs.YticadkggaanbjaaGreatDoor.WalkTopOne
