/-
  What the document's own answers (package witref2) return of a key: Spot, Bits, Placed, KeyRoot and Beside.
-/
import Derived.Test.YtfpkngpgmllhnaaGreatDoorKeyTrees
import Derived.Test.YtfpkngpgmllhnaaGreatDoorReplyAll
import Derived.Test.YtfpkngpgmllhnaaGreatDoorRefTree
import Derived.Deep.DeepMust
import Derived.Deep.CutBlock
namespace Go.Proofs.YtfpkngpgmllhnaaGreatDoor.WalkSpotRef
open Go.RowKit
open Nums (str)
open Lists (Row ints bt)
open Keeps (Kept owns_kept owns_row owns_base)
open IntRows (Rowss)
open Ways (up1 upL node)
open KeyTrees

theorem spot_any (k : ByteArray) (w : World) (hk : k.size ≤ maxLen) : Calls Tryz.prog 48 #[.string k] w fun e w' => e = .returned (.int .i64 (spot k : Nat)) ∧ w' = w := by
  have HS : Hid (Sums.sum k.data.toList % 256 = ((spot k : Nat) : Int)) := spot_int k
  have hb := Sums.sum_bd k.data.toList
  have cS := WalkRef.sum_any k w hk
  generalize Sums.sum k.data.toList = S at HS hb cS
  obtain ⟨h0, h1⟩ := hb
  go_enter Tryz.func48, Tryz.ntmps48
  go_wp2_with fail
  refine cS.mono ?_
  rintro e w1 ⟨rfl, rfl⟩
  clear cS
  go_wp2_with fail
  go_ret
  exact ⟨by rw [← HS.out]; rfl, rfl⟩

theorem cut_bit (M : Int) (h0 : 0 ≤ M) : (ByteArray.mk #[48, 49]).extract (M % 2).toNat (M % 2 + 1).toNat = str [letter (decide (M.toNat % 2 = 1))] := by
  have h : M % 2 = 0 ∨ M % 2 = 1 := by omega
  rcases h with h | h
  · rw [h, show decide (M.toNat % 2 = 1) = false from decide_eq_false (by omega)]
    rfl
  · rw [h, show decide (M.toNat % 2 = 1) = true from decide_eq_true (by omega)]
    rfl
theorem next_bit (N j : Nat) (M : Int) (hM : ((N / 2 ^ j : Nat) : Int) = M) : (ByteArray.mk #[48, 49]).extract (M % 2).toNat (M % 2 + 1).toNat ++ str (bitsF j N) = str (bitsF (j + 1) N) := by
  rw [cut_bit M (by rw [← hM]; exact Int.natCast_nonneg _), bitsF_cons, ← hM, Int.toNat_natCast, Nums.str_append]
  rfl
theorem bit_div (N j : Nat) (M : Int) (hM : ((N / 2 ^ j : Nat) : Int) = M) : Value.int .i64 (M / 2) = .int .i64 ((N / 2 ^ (j + 1) : Nat) : Int) := by
  rw [half_pow, ← hM]
  rfl

set_option maxHeartbeats 1000000 in
theorem bits_any (k : ByteArray) (w : World) (hk : k.size ≤ maxLen) : Calls Tryz.prog 26 #[.string k] w fun e w' => e = .returned (.string (str (bitsT (spot k)))) ∧ w' = w := by
  have cS := spot_any k w hk
  have hlt := spot_lt k
  generalize spot k = N at cS hlt ⊢
  have hst : Hid ((N : Int) = ((N / 2 ^ 0 : Nat) : Int)) := by show _ = _; rw [Nat.pow_zero, Nat.div_one]
  go_enter Tryz.func26, Tryz.ntmps26
  go_wp2_with fail
  refine cS.mono ?_
  rintro e w1 ⟨rfl, rfl⟩
  clear cS
  go_wp2_with fail
  go_loop [3, 4, 5] (fun m t i => ∃ j : Nat, j ≤ 8 ∧ m = .int .i64 ((N / 2 ^ j : Nat) : Int) ∧ t = .string (str (bitsF j N)) ∧ i = .int .i64 (j : Int)) (fun _ _ i => 8 - (intOf i).toNat)
  case atStart => exact ⟨0, by omega, congrArg (Value.int .i64) hst.out, rfl, rfl⟩
  case round =>
    obtain ⟨j, hj, rfl, rfl, rfl⟩ := hrel
    by_cases hlt : j < 8
    · have hb : N / 2 ^ j ≤ N := Nat.div_le_self _ _
      generalize hM : ((N / 2 ^ j : Nat) : Int) = M
      have HM : Hid (((N / 2 ^ j : Nat) : Int) = M) := hM
      have hb0 : 0 ≤ M := by rw [← hM]; exact Int.natCast_nonneg _
      have hb1 : M < 256 := by omega
      have hsz : (str (bitsF j N)).size = j := by rw [Nums.str_size, bitsF_length]
      clear hM hb
      go_wp2_with fail
      go_round
      case rel => exact ⟨j + 1, by omega, bit_div N j M HM.out, congrArg Value.string (next_bit N j M HM.out), by go_num⟩
      case measure => simp [intOf]; omega
    · obtain rfl : j = 8 := by omega
      generalize ((N / 2 ^ 8 : Nat) : Int) = M
      go_wp2_with fail
      go_ret
      exact ⟨rfl, rfl⟩

theorem placed_data (k v : ByteArray) : (0 : UInt8) :: (k ++ (⟨#[0]⟩ : ByteArray) ++ v).data.toList = 0 :: (k.data.toList ++ 0 :: v.data.toList) := by
  simp [ByteArray.data_append]

theorem up_even {s y : Int} {n : Nat} (h : n % 2 = 0) : up1 s y (decide (n % 2 = 1)) = Sums.sum (Nums.nodeBytes s y) := by
  rw [decide_eq_false (by omega)]
  rfl
theorem up_odd {s y : Int} {n : Nat} (h : n % 2 = 1) : up1 s y (decide (n % 2 = 1)) = Sums.sum (Nums.nodeBytes y s) := by
  rw [decide_eq_true h]
  rfl


theorem infoI : (Tryz.prog.info? 3).map (fun i => (i.zero, i.size, i.bytes)) = some (some (.int .i64 0), 1, 8) := by kernel_rfl


end Go.Proofs.YtfpkngpgmllhnaaGreatDoor.WalkSpotRef
