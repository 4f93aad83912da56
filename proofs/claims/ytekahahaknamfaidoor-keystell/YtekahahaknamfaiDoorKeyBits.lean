/-
  Plain mathematics of the bits of a place, the high one first: one more of them, the first ones, and those of the place beside. Nothing of the program is named here.
-/
import Derived.Test.YtekahahaknamfaiDoorKeyTrees
namespace Go.Proofs.YtekahahaknamfaiDoor.KeyBits
open KeyTrees

theorem bits_snoc (k n : Nat) : bitsF (k + 1) n = bitsF k (n / 2) ++ [letter (decide (n % 2 = 1))] := by
  unfold bitsF
  rw [turnsF, List.map_cons, List.reverse_cons]
theorem bits_low (k p : Nat) : bitsF (k + 1) (2 * p) = bitsF k p ++ [48] := by
  rw [bits_snoc, show 2 * p / 2 = p by omega, decide_eq_false (by omega)]
  rfl
theorem bits_high (k p : Nat) : bitsF (k + 1) (2 * p + 1) = bitsF k p ++ [49] := by
  rw [bits_snoc, show (2 * p + 1) / 2 = p by omega, decide_eq_true (by omega)]
  rfl
/-- the first ones -/
theorem bits_take (k : Nat) : ∀ i n, (bitsF (k + i) n).take k = bitsF k (n / 2 ^ i)
  | 0, n => by rw [Nat.add_zero, Nat.pow_zero, Nat.div_one, List.take_of_length_le (by rw [bitsF_length]; exact Nat.le_refl _)]
  | i + 1, n => by
    rw [show k + (i + 1) = (k + i) + 1 by omega, bits_snoc, List.take_append_of_le_length (by rw [bitsF_length]; omega), bits_take k i (n / 2), Nat.div_div_eq_div_mul, Nat.pow_succ, Nat.mul_comm 2]
/-- one of them -/
theorem bits_at {n i : Nat} (h : i < 8) : (bitsT n)[i]? = some (letter (decide (n / 2 ^ (7 - i) % 2 = 1))) := by
  have e : (bitsF (i + 1 + (7 - i)) n).take (i + 1) = bitsF (i + 1) (n / 2 ^ (7 - i)) := bits_take (i + 1) (7 - i) n
  rw [show i + 1 + (7 - i) = 8 by omega] at e
  have q := congrArg (fun l => l[i]?) e
  simp only [List.getElem?_take] at q
  rw [if_pos (by omega), bits_snoc i, List.getElem?_append_right (by rw [bitsF_length]; exact Nat.le_refl _), bitsF_length, Nat.sub_self] at q
  exact q
/-- the first ones when the next is laid -/
theorem take_set {bs : List UInt8} {j : Nat} (h : j < bs.length) (c : UInt8) : (bs.set j c).take (j + 1) = bs.take j ++ [c] := by
  rw [List.take_succ_eq_append_getElem (by rw [List.length_set]; exact h), List.take_set_of_le (Nat.le_refl _), List.getElem_set_self]
theorem sib_half (m : Nat) : sib m / 2 = m / 2 := by unfold sib; split <;> omega
theorem sib_bit (m : Nat) : decide (sib m % 2 = 1) = !decide (m % 2 = 1) := by
  unfold sib
  by_cases h : m % 2 = 1
  · rw [if_pos h, decide_eq_true h, decide_eq_false (by omega)]
    rfl
  · rw [if_neg h, decide_eq_false h, decide_eq_true (by omega)]
    rfl
/-- the bits of the place beside the way -/
theorem bits_beside (n : Nat) {i : Nat} (h : i < 8) : ((bitsT n).set (7 - i) (letter (!decide (n / 2 ^ i % 2 = 1)))).take (8 - i) = bitsF (8 - i) (sib (n / 2 ^ i)) := by
  rw [show 8 - i = (7 - i) + 1 by omega, take_set (by rw [bitsT_length]; omega), bits_snoc, sib_half, sib_bit]
  congr 1
  have e := bits_take (7 - i) (i + 1) n
  rw [show 7 - i + (i + 1) = 8 by omega, half_pow] at e
  exact e
/-- the first ones of a key's letters, and nothing behind them -/
def filled (n i : Nat) : List UInt8 := (bitsT n).take i ++ List.replicate (8 - i) 0
theorem filled_length (n : Nat) {i : Nat} (h : i ≤ 8) : (filled n i).length = 8 := by
  unfold filled
  rw [List.length_append, List.length_take, bitsT_length, List.length_replicate]
  omega
theorem filled_zero (n : Nat) : filled n 0 = List.replicate 8 0 := rfl
theorem filled_all (n : Nat) : filled n 8 = bitsT n := by
  unfold filled
  rw [List.take_of_length_le (by rw [bitsT_length]; exact Nat.le_refl _)]
  simp
theorem filled_next (n : Nat) {i : Nat} (h : i < 8) : (filled n i).set i (letter (decide (n / 2 ^ (7 - i) % 2 = 1))) = filled n (i + 1) := by
  have hl : ((bitsT n).take i).length = i := by rw [List.length_take, bitsT_length]; omega
  unfold filled
  rw [List.set_append_right _ _ (by omega), hl, Nat.sub_self, List.take_add_one, bits_at h, show 8 - i = (8 - (i + 1)) + 1 by omega, List.replicate_succ, List.set_cons_zero]
  simp

end Go.Proofs.YtekahahaknamfaiDoor.KeyBits
