/-
  Plain mathematics of keys that rise: two letters for each number, put one behind the other: sixty, and no more.
-/
import Derived.Test.YtbepfeajaoaocafStores
namespace Go.Proofs.Ytbepfeajaoaocaf.Letters
open Stores

/-- the two letters of a number -/
def ltr (i : Nat) : ByteArray := ⟨#[UInt8.ofNat (97 + i / 26 % 26), UInt8.ofNat (97 + i % 26)]⟩
def bytesOf (i : Nat) : List UInt8 := [UInt8.ofNat (97 + i / 26 % 26), UInt8.ofNat (97 + i % 26)]
theorem ltr_list (i : Nat) : (ltr i).toList = bytesOf i := by rw [ByteArray.toList_eq]; rfl
theorem rise_all : ∀ i : Fin 70, ∀ j : Fin 70, i.val < j.val → less (bytesOf i.val) (bytesOf j.val) = true := by decide +kernel
theorem rise {i j : Nat} (h : i < j) (hj : j < 70) : lt (ltr i) (ltr j) = true := by
  show less _ _ = true
  rw [ltr_list, ltr_list]
  exact rise_all ⟨i, by omega⟩ ⟨j, hj⟩ h
theorem ltr_size (i : Nat) : (ltr i).size = 2 := rfl
def ex : ByteArray := ⟨#[120]⟩
def why : ByteArray := ⟨#[121]⟩
/-- so many of them -/
def L (k : Nat) : List Pair := (List.range k).map fun i => ⟨ltr i, ex, false⟩
theorem L_length (k : Nat) : (L k).length = k := by simp [L]
theorem L_mem {k : Nat} {p : Pair} (h : p ∈ L k) : ∃ i, i < k ∧ p = ⟨ltr i, ex, false⟩ := by
  obtain ⟨i, hi, rfl⟩ := List.mem_map.1 h
  exact ⟨i, List.mem_range.1 hi, rfl⟩
theorem find_new {k j : Nat} (h : k ≤ j) (hj : j < 70) : find (L k) (ltr j) = none := find_none.2 fun p hp => by
  obtain ⟨i, hi, rfl⟩ := L_mem hp
  exact lt_ne (rise (by omega) hj)
theorem key_ok (j : Nat) : keyE (ltr j) = 0 := by
  unfold keyE
  rw [ltr_size]
  rfl
theorem put_new {k : Nat} (h : k < 60) : putE (L k) ⟨ltr k, ex, false⟩ = 0 ∧ putL (L k) ⟨ltr k, ex, false⟩ = L (k + 1) := by
  have h0 : putE (L k) ⟨ltr k, ex, false⟩ = 0 := by
    unfold putE
    simp only
    rw [key_ok, if_neg (by decide), if_neg]
    rintro (q | ⟨_, q⟩)
    · exact absurd q (by decide)
    · rw [L_length] at q
      omega
  refine ⟨h0, ?_⟩
  unfold putL
  rw [if_pos h0, with_end (fun q hq => by obtain ⟨i, hi, rfl⟩ := L_mem hq; exact rise hi (by omega))]
  unfold L
  rw [List.range_succ, List.map_append]
  rfl
theorem put_full {j : Nat} (h : 60 ≤ j) (hj : j < 70) : putE (L 60) ⟨ltr j, ex, false⟩ = 4 ∧ putL (L 60) ⟨ltr j, ex, false⟩ = L 60 := by
  have h0 : putE (L 60) ⟨ltr j, ex, false⟩ = 4 := by
    unfold putE
    simp only
    rw [key_ok, if_neg (by decide), if_pos (.inr ⟨find_new h hj, by rw [L_length]; omega⟩)]
  refine ⟨h0, ?_⟩
  unfold putL
  rw [if_neg (by rw [h0]; decide)]
/-- one step -/
theorem put_step {j : Nat} (hj : j < 70) : putE (L (min j 60)) ⟨ltr j, ex, false⟩ = (if j < 60 then 0 else 4) ∧ putL (L (min j 60)) ⟨ltr j, ex, false⟩ = L (min (j + 1) 60) := by
  by_cases h : j < 60
  · rw [if_pos h, Nat.min_eq_left (by omega), Nat.min_eq_left (by omega)]
    exact put_new h
  · rw [if_neg h, Nat.min_eq_right (by omega), Nat.min_eq_right (by omega)]
    exact put_full (by omega) hj
theorem rising_L {k : Nat} (h : k ≤ 60) : Rising (L k) := by
  unfold Rising L
  rw [List.pairwise_map]
  exact (List.pairwise_lt_range (n := k)).imp_of_mem fun ha hb h1 => rise h1 (by have := List.mem_range.1 hb; omega)
theorem find_old {k i : Nat} (hi : i < k) : find (L k) (ltr i) ≠ none := fun h => find_none.1 h ⟨ltr i, ex, false⟩ (List.mem_map.2 ⟨i, List.mem_range.2 hi, rfl⟩) rfl
/-- what is there can be put anew -/
theorem put_again {k i : Nat} (hi : i < k) (hk : k ≤ 60) : putE (L k) ⟨ltr i, why, false⟩ = 0 ∧ Rising (putL (L k) ⟨ltr i, why, false⟩) ∧ (putL (L k) ⟨ltr i, why, false⟩).length = k ∧ find (putL (L k) ⟨ltr i, why, false⟩) (ltr i) ≠ none := by
  have h0 : putE (L k) ⟨ltr i, why, false⟩ = 0 := by
    unfold putE
    simp only
    rw [key_ok, if_neg (by decide), if_neg]
    rintro (q | ⟨q, _⟩)
    · exact absurd q (by decide)
    · exact find_old hi q
  have hp : putL (L k) ⟨ltr i, why, false⟩ = withP (L k) ⟨ltr i, why, false⟩ := if_pos h0
  rw [hp]
  refine ⟨h0, rising_with _ (rising_L hk), ?_, ?_⟩
  · rw [with_length _ (rising_L hk), if_neg (find_old hi), L_length]
  · rw [find_with_same (L k) ⟨ltr i, why, false⟩]
    exact fun h => by cases h
/-- and dropped -/
theorem drop_again {m : List Pair} {i : Nat} (hr : Rising m) (hf : find m (ltr i) ≠ none) : putE m ⟨ltr i, ⟨#[]⟩, true⟩ = 0 ∧ (putL m ⟨ltr i, ⟨#[]⟩, true⟩).length = m.length ∧ getE (putL m ⟨ltr i, ⟨#[]⟩, true⟩) (ltr i) = 5 := by
  have h0 : putE m ⟨ltr i, ⟨#[]⟩, true⟩ = 0 := by
    unfold putE
    simp only
    rw [key_ok, if_neg (by decide), if_neg]
    rintro (q | ⟨q, _⟩)
    · exact absurd q (by decide)
    · exact hf q
  have hp : putL m ⟨ltr i, ⟨#[]⟩, true⟩ = withP m ⟨ltr i, ⟨#[]⟩, true⟩ := if_pos h0
  rw [hp]
  refine ⟨h0, ?_, ?_⟩
  · rw [with_length _ hr, if_neg hf]
  · unfold getE
    rw [find_with_same m ⟨ltr i, ⟨#[]⟩, true⟩]
    rfl

end Go.Proofs.Ytbepfeajaoaocaf.Letters
