/-
  What the program's Sum, Leaf and sumFrom return, for every string: the sum of its bytes, and the world stands.
-/
import Derived.Test.YtlibjdkofajahaaGreatDoorRows
import Derived.Test.YtlibjdkofajahaaGreatDoorMirPlain
import Derived.WalkKit
namespace Go.Proofs.YtlibjdkofajahaaGreatDoor.WalkSum
open Go.RowKit

theorem ret_int {k : IntKind} {a b : Int} (h : a = b) : Ending.returned (.int k a) = .returned (.int k b) := by rw [h]

theorem wrap64_in (n : Int) (h : -9223372036854775808 ≤ n ∧ n ≤ 9223372036854775807) : wrap64 n = n := by unfold wrap64; omega

theorem step_walk (m : Int) (c : UInt8) (h0 : 0 ≤ m) (h1 : m < 2147483647) :
    (wrap64 (wrap64 (m * 131 + wrap64 (c.toNat : Int)) + 1)).tmod 2147483647 = Sums.step m c := by
  have hc := c.toNat_lt
  unfold Sums.step
  rw [wrap64_in (c.toNat : Int) (by omega), wrap64_in (m * 131 + (c.toNat : Int)) (by omega), wrap64_in _ (by omega)]
  exact Int.tmod_eq_emod_of_nonneg (by omega)

set_option maxHeartbeats 400000 in
theorem sumFrom_any (n : Int) (s : ByteArray) (w : World) (h0 : 0 ≤ n) (h1 : n < 2147483647) (hs : s.size ≤ maxLen) :
    Calls Tryz.prog 60 #[.int .i64 n, .string s] w fun e w' => e = .returned (.int .i64 (Sums.sumFrom n s.data.toList)) ∧ w' = w := by
  unfold maxLen at hs
  go_enter Tryz.func60, Tryz.ntmps60
  go_wp2
  go_loop [0, 8] (fun t i => ∃ k : Nat, k ≤ s.size ∧ i = .int .i64 k ∧ t = .int .i64 (Sums.sumFrom n (s.data.toList.take k))) (fun _ i => s.size - (intOf i).toNat)
  case atStart => exact ⟨0, Nat.zero_le _, rfl, rfl⟩
  case round =>
    obtain ⟨k, hk, rfl, rfl⟩ := hrel
    have hb := Sums.sumFrom_bd n (s.data.toList.take k) h0 h1
    obtain ⟨hb0, hb1⟩ := hb
    by_cases hlt : k < s.size
    · have HS : Hid (Sums.sumFrom n (s.data.toList.take (k + 1)) = Sums.step (Sums.sumFrom n (s.data.toList.take k)) s[k]) := by
        rw [Sums.take_snoc s k hlt]; exact Sums.sumFrom_snoc _ _ _
      go_wp2
      go_round
      case rel => exact ⟨k + 1, by omega, by go_num, by rw [HS.out]; exact congrArg (Value.int .i64) (step_walk _ _ hb0 hb1)⟩
      case measure => simp [intOf]; omega
    · go_wp2
      go_ret
      exact ⟨ret_int (by rw [List.take_of_length_le (by simp; omega)]), rfl⟩

set_option maxHeartbeats 400000 in
theorem sum_any (s : ByteArray) (w : World) (hs : s.size ≤ maxLen) :
    Calls Tryz.prog 39 #[.string s] w fun e w' => e = .returned (.int .i64 (Sums.sum s.data.toList)) ∧ w' = w := by
  go_enter Tryz.func39, Tryz.ntmps39
  go_wp2_with (first | (go_at_call 60; refine (sumFrom_any _ _ _ (by omega) (by omega) hs).mono ?_; rintro e w' ⟨rfl, rfl⟩))
  go_ret
  exact ⟨rfl, rfl⟩

set_option maxHeartbeats 400000 in
theorem leaf_any (s : ByteArray) (w : World) (hs : s.size ≤ maxLen) :
    Calls Tryz.prog 25 #[.string s] w fun e w' => e = .returned (.int .i64 (Sums.sum (0 :: s.data.toList))) ∧ w' = w := by
  go_enter Tryz.func25, Tryz.ntmps25
  go_wp2_with fail
  refine (sum_any _ _ (by decide)).mono ?_
  rintro e w' ⟨rfl, rfl⟩
  have hb := Sums.sum_bd [0]
  go_wp2_with fail
  refine (sumFrom_any _ _ _ hb.1 hb.2 hs).mono ?_
  rintro e w' ⟨rfl, rfl⟩
  go_wp2
  go_ret
  exact ⟨rfl, rfl⟩

end Go.Proofs.YtlibjdkofajahaaGreatDoor.WalkSum
