/-
  The walk of Names: all names of errors are the ones of the document, so it returns true.
-/
import Derived.Test.YtibmgmadoaencaaRows
import Derived.WalkKit
import Derived.Below
namespace Go.Proofs.Ytibmgmadoaencaa.WalkNames
open Go.RowKit

def name (k : Nat) : ByteArray := ⟨#[#[79, 75], #[69, 114, 114, 82, 97, 110, 103, 101], #[69, 114, 114, 83, 121, 110, 116, 97, 120], #[69, 114, 114, 83, 104, 97, 112, 101], #[69, 114, 114, 70, 117, 108, 108], #[69, 114, 114, 78, 111, 110, 101], #[69, 114, 114, 83, 116, 97, 116, 101], #[69, 114, 114, 67, 108, 97, 115, 104], #[69, 114, 114, 80, 114, 111, 111, 102], #[69, 114, 114, 83, 105, 103, 110]].getD k #[]⟩

set_option maxHeartbeats 400000 in
theorem error_at (k : Nat) (hk : k < 10) (w : World) :
    Calls Try.prog 6 #[.int .i64 (k : Int)] w fun e w' => e = .returned (.string (name k)) ∧ w' = w := by
  match k, hk with
  | 0, _ | 1, _ | 2, _ | 3, _ | 4, _ | 5, _ | 6, _ | 7, _ | 8, _ | 9, _ =>
    all_goals
      go_enter Try.func6, Try.ntmps6
      go_wp2
      go_ret
      exact ⟨rfl, rfl⟩

set_option maxHeartbeats 400000 in
theorem walk (w : World) :
    Calls Try.prog 3 #[] w fun e w' => e = .returned (.bool true) ∧ Below w.heap.size w w' := by
  go_enter Try.func3, Try.ntmps3
  go_wp2
  go_loop [4] (fun i => ∃ k : Int, i = .int .i64 k ∧ 0 ≤ k ∧ k ≤ 10) (fun i => 10 - (intOf i).toNat)
  case atStart => exact ⟨0, rfl, by omega, by omega⟩
  case round =>
    obtain ⟨kk, rfl, hk0, hk⟩ := hrel
    obtain ⟨k, rfl⟩ := Int.eq_ofNat_of_zero_le hk0
    have n0 : (name 0).toList = [79, 75] := by rw [ByteArray.toList_eq]; rfl
    have n1 : (name 1).toList = [69, 114, 114, 82, 97, 110, 103, 101] := by rw [ByteArray.toList_eq]; rfl
    have n2 : (name 2).toList = [69, 114, 114, 83, 121, 110, 116, 97, 120] := by rw [ByteArray.toList_eq]; rfl
    have n3 : (name 3).toList = [69, 114, 114, 83, 104, 97, 112, 101] := by rw [ByteArray.toList_eq]; rfl
    have n4 : (name 4).toList = [69, 114, 114, 70, 117, 108, 108] := by rw [ByteArray.toList_eq]; rfl
    have n5 : (name 5).toList = [69, 114, 114, 78, 111, 110, 101] := by rw [ByteArray.toList_eq]; rfl
    have n6 : (name 6).toList = [69, 114, 114, 83, 116, 97, 116, 101] := by rw [ByteArray.toList_eq]; rfl
    have n7 : (name 7).toList = [69, 114, 114, 67, 108, 97, 115, 104] := by rw [ByteArray.toList_eq]; rfl
    have n8 : (name 8).toList = [69, 114, 114, 80, 114, 111, 111, 102] := by rw [ByteArray.toList_eq]; rfl
    have n9 : (name 9).toList = [69, 114, 114, 83, 105, 103, 110] := by rw [ByteArray.toList_eq]; rfl
    by_cases hlt : k < 10
    · match k, hlt with
      | 0, _ | 1, _ | 2, _ | 3, _ | 4, _ | 5, _ | 6, _ | 7, _ | 8, _ | 9, _ =>
        go_wp2_with (go_at_call 6; refine (error_at _ (by omega) _).mono ?_; rintro e w' ⟨rfl, rfl⟩)
        go_round
        case rel => exact ⟨_, rfl, by omega, by omega⟩
        case measure => simp [intOf]
    · obtain rfl : k = 10 := by omega
      go_wp2
      go_ret
      exact ⟨rfl, (Below.refl _ _).alloc (Nat.le_refl _) _⟩

end Go.Proofs.Ytibmgmadoaencaa.WalkNames
