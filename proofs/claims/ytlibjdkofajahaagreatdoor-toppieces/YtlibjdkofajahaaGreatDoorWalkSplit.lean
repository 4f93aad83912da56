/-
  Where the program parts a number of leafs: tree.Split.
-/
import Derived.Test.YtlibjdkofajahaaGreatDoorGrowPlain
import Derived.Test.YtlibjdkofajahaaGreatDoorListRows
import Derived.Test.YtlibjdkofajahaaGreatDoorRows
import Derived.WalkKit
import Derived.Lib.BitFns
import Derived.Lib.Walk
import Derived.Lib.Small
namespace Go.Proofs.YtlibjdkofajahaaGreatDoor.WalkSplit
open Go.RowKit

theorem len8_size : Lib.len8tab.size = 256 := by decide +kernel
theorem len8_tab : ∀ n : Fin 256, ((Lib.len8tab[n.val]'(by rw [len8_size]; exact n.isLt)).toNat) = Lib.bitLen n.val := by decide +kernel
theorem len8_at (x : Int) (h0 : 0 ≤ x) (h1 : x < 256) (h : x.toNat < Lib.len8tab.size) : wrap64 (wrap64 (Lib.len8tab[x.toNat].toNat : Int)) = (Lib.bitLen x.toNat : Int) := by
  have e := len8_tab ⟨x.toNat, by omega⟩
  have l := Lib.bitLen_le8' x h0 (by omega)
  simp only at e
  rw [e]
  simp only [wrap64]
  omega

set_option maxHeartbeats 4000000 in
set_option maxRecDepth 100000 in
theorem len64_small (x : Int) (w : World) (h0 : 0 ≤ x) (h1 : x < 256) :
    Calls Tryz.prog 102 #[.int .u64 x] w fun e w' => e = .returned (.int .i64 (Lib.bitLen x.toNat)) ∧ w' = w := by
  go_enter Tryz.func102, Tryz.ntmps102
  go_wp2
  go_ret
  exact ⟨congrArg Ending.returned (congrArg (Value.int IntKind.i64) (len8_at x h0 h1 _)), rfl⟩

theorem len_small (x : Int) (w : World) (h0 : 0 ≤ x) (h1 : x < 256) :
    Calls Tryz.prog 92 #[.int .u64 x] w fun e w' => e = .returned (.int .i64 (Lib.bitLen x.toNat)) ∧ w' = w := by
  go_enter Tryz.func92, Tryz.ntmps92
  go_wp2_with (go_at_call 102; refine (len64_small _ _ h0 h1).mono ?_; rintro e w' ⟨rfl, rfl⟩)
  go_ret
  exact ⟨rfl, rfl⟩

theorem bits_half : ∀ n : Fin 201, 2 ≤ n.val → 1 ≤ Lib.bitLen (n.val - 1) ∧ Lib.bitLen (n.val - 1) ≤ 8 ∧ 2 ^ (Lib.bitLen (n.val - 1) - 1) = Trees.half n.val := by decide +kernel

theorem split_any (n : Nat) (w : World) (h0 : 2 ≤ n) (h1 : n ≤ 200) :
    Calls Tryz.prog 85 #[.int .i64 (n : Int)] w fun e w' => e = .returned (.int .i64 (Trees.half n : Nat)) ∧ w' = w := by
  obtain ⟨b0, b1, b2⟩ := bits_half ⟨n, by omega⟩ h0
  go_enter Tryz.func85, Tryz.ntmps85
  go_wp2_with fail
  refine (len_small _ _ (by omega) (by omega)).mono ?_
  rintro e w' ⟨rfl, rfl⟩
  go_wp2_with fail
  go_ret
  refine ⟨congrArg Ending.returned (congrArg (Value.int IntKind.i64) ?_), rfl⟩
  have hl := Trees.half_lt n h0
  have e : ((2 : Int) ^ (Lib.bitLen (n - 1) - 1)) = (Trees.half n : Int) := by rw [← b2]; norm_cast
  rw [e]
  simp only [wrap64]
  omega

/-- where a number of leafs is parted -/
theorem split_yes (N : Int) (n : Nat) (w : World) (hN : N = n) (h0 : 2 ≤ n) (h1 : n ≤ 200) :
    Calls Tryz.prog 71 #[.int .i64 N] w fun e w' => e = .returned (.tuple #[.int .i64 (Trees.half n : Nat), .nilIface]) ∧ w' = w := by
  subst hN
  go_enter Tryz.func71, Tryz.ntmps71
  go_wp2_with (go_at_call 85; refine (split_any _ _ h0 h1).mono ?_; rintro e w1 ⟨rfl, rfl⟩)
  go_ret2
  exact ⟨rfl, rfl⟩

end Go.Proofs.YtlibjdkofajahaaGreatDoor.WalkSplit
