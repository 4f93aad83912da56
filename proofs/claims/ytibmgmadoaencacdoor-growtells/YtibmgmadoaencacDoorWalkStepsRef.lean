/-
  What the document's own answers (package witref1) return on how long a proof is: Half and Steps.
-/
import Derived.Test.YtibmgmadoaencacDoorClimbs
import Derived.Test.YtibmgmadoaencacDoorLists
import Derived.Test.YtibmgmadoaencacDoorRows
import Derived.WalkKit
namespace Go.Proofs.YtibmgmadoaencacDoor.WalkStepsRef
open Go.RowKit
open Trees (half half_lt half_pos)

theorem half_any (n : Nat) (w : World) (h0 : 2 ≤ n) (h1 : n ≤ 1000000) :
    Calls Tryd.prog 30 #[.int .i64 (n : Int)] w fun e w' => e = .returned (.int .i64 (Trees.half n : Nat)) ∧ w' = w := by
  go_enter Tryd.func30, Tryd.ntmps30
  go_wp2_with fail
  go_loop [3] (fun i => ∃ k : Nat, i = .int .i64 (k : Int) ∧ k < n ∧ 1 ≤ k ∧ Hid (∃ j : Nat, k = 2 ^ j)) (fun i => n - (intOf i).toNat)
  case atStart => exact ⟨1, rfl, by omega, by omega, 0, rfl⟩
  case round =>
    obtain ⟨k, rfl, hk, hk1, HP⟩ := hrel
    by_cases hlt : 2 * k < n
    · have i1 : 2 * (k : Int) < (n : Int) := by omega
      go_wp2_with fail
      go_round
      case rel =>
        refine ⟨2 * k, by go_num, hlt, by omega, ?_⟩
        obtain ⟨j, hj⟩ := HP.out
        exact ⟨j + 1, by rw [Nat.pow_succ, hj, Nat.mul_comm]⟩
      case measure => simp [intOf]; omega
    · have i1 : ¬ 2 * (k : Int) < (n : Int) := by omega
      have HH : Hid (Trees.half n = k) := by
        obtain ⟨j, hj⟩ := HP.out
        rw [hj]
        exact Trees.half_unique n j h0 (by omega) (by omega)
      go_wp2_with fail
      go_ret
      exact ⟨by rw [HH.out]; rfl, rfl⟩

theorem half_int (N : Int) (n : Nat) (w : World) (hN : N = n) (h0 : 2 ≤ n) (h1 : n ≤ 1000000) :
    Calls Tryd.prog 30 #[.int .i64 N] w fun e w' => e = .returned (.int .i64 (half n : Nat)) ∧ w' = w := by
  subst hN; exact half_any n w h0 h1


end Go.Proofs.YtibmgmadoaencacDoor.WalkStepsRef
