/-
  One pair alone: as it lies, what is wrong with it; and which keys are some.
-/
import Derived.Test.YtekahahaknamfaiDoorKeyTrees
import Derived.Test.YtekahahaknamfaiDoorPairRows
namespace Go.Proofs.YtekahahaknamfaiDoor.KeyOnes
open Go.RowKit
open Wides (Wide)
open Stores (Pair keyE)
open PairRows (cells)
open KeyTrees

theorem one_wide (w : World) (k v : ByteArray) (t : TypeId) : Wide 3 (w.alloc (.cells #[.string k, .string v, .bool false] t)) (some ⟨w.heap.size, 0, none⟩) 1 1 (cells [⟨k, v, false⟩]) := by
  refine ⟨rfl, Nat.le_refl _, fun _ => ⟨_, _, rfl, fun j u hj => ?_⟩⟩
  match j, hj with
  | 0, h | 1, h | 2, h => rw [← h]; simp [cells]
  | j + 3, h => simp [cells] at h
theorem one_fault (k v : ByteArray) : pairsE [⟨k, v, false⟩] = if keyE k ≠ 0 then keyE k else if 200 < v.size then 4 else 0 := by
  have e : pairsE [⟨k, v, false⟩] = oneE [] ⟨k, v, false⟩ := rfl
  rw [e]
  by_cases h : keyE k ≠ 0
  · rw [one_key h, if_pos h]
  · rw [if_neg h]
    have h' : keyE k = 0 := Decidable.not_not.1 h
    by_cases h2 : 200 < v.size
    · rw [one_val h' h2, if_pos h2]
    · rw [if_neg h2]
      exact one_fine h' h2 rfl (fun q hq => by simp at hq) (fun q hq => by cases hq)
theorem key_no {k : ByteArray} (h : keyE k ≠ 0) : (k.size = 0) ∨ (k.size ≠ 0 ∧ 200 < k.size) := by
  unfold Stores.keyE at h
  by_cases h0 : k.size = 0
  · exact .inl h0
  · rw [if_neg h0] at h
    by_cases h2 : 200 < k.size
    · exact .inr ⟨h0, h2⟩
    · rw [if_neg h2] at h
      exact absurd rfl h
theorem key_yes {k : ByteArray} (h : keyE k = 0) : k.size ≠ 0 ∧ ¬ 200 < k.size := by
  unfold Stores.keyE at h
  split at h
  · contradiction
  split at h
  · contradiction
  · rename_i a b
    exact ⟨a, b⟩
theorem empty_yes {x : ByteArray} (h : x.size = 0) : (x.toList == []) = true := by
  have : x.toList = [] := by rw [ByteArray.toList_eq]; exact List.length_eq_zero_iff.1 (by rw [Array.length_toList]; exact h)
  rw [this]
  rfl
theorem empty_no {x : ByteArray} (h : x.size ≠ 0) : (x.toList == []) = false := by
  rw [beq_eq_false_iff_ne]
  intro e
  rw [ByteArray.toList_eq] at e
  exact h (by have := congrArg List.length e; rw [Array.length_toList] at this; exact this)

end Go.Proofs.YtekahahaknamfaiDoor.KeyOnes
