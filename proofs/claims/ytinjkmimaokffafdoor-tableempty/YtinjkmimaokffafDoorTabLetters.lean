/-
  Plain mathematics of TableEmpty: so many pairs of rising keys are right; each is found, and none beyond; the first and the last key.
-/
import Derived.Test.YtinjkmimaokffafDoorLetters
import Derived.Test.YtinjkmimaokffafDoorTabs
namespace Go.Proofs.YtinjkmimaokffafDoor.TabLetters
open Stores (Pair find find_none find_at lt_ne keyE)
open Letters (ltr ltr_size rise key_ok)
open Tabs (pairsE pairsF fault last getP getPE firstK lastK buildV table)
open Nums (str)

def vee : ByteArray := ⟨#[118]⟩
def zed : ByteArray := ⟨#[122, 122, 122]⟩
def one (i : Nat) : Pair := ⟨ltr i, vee, false⟩
def V (k : Nat) : List Pair := (List.range k).map one
theorem V_length (k : Nat) : (V k).length = k := by simp [V]
theorem V_succ (k : Nat) : V (k + 1) = V k ++ [one k] := by simp [V, List.range_succ]
theorem V_at {k j : Nat} (h : j < (V k).length) : (V k)[j] = one j := by simp [V]
theorem V_mem {k : Nat} {p : Pair} (h : p ∈ V k) : ∃ i, i < k ∧ p = one i := by
  obtain ⟨i, hi, rfl⟩ := List.mem_map.1 h
  exact ⟨i, List.mem_range.1 hi, rfl⟩
theorem V_last : ∀ (k : Nat), last none (V (k + 1)) = some (ltr k)
  | k => by rw [V_succ, Tabs.last_snoc]; rfl
theorem fault_one {q : Option ByteArray} {k : Nat} (h : ∀ x, q = some x → Stores.lt x (ltr k) = true) : fault q (one k) = 0 := by
  unfold fault
  rw [if_neg (by rw [show (one k).key = ltr k from rfl, key_ok]; exact fun g => g rfl), if_neg (by show ¬ 200 < vee.size; decide), if_neg (by rintro ⟨h, _⟩; cases h)]
  cases q with
  | none => rfl
  | some x => exact if_pos (h x rfl)
theorem V_ok : ∀ (k : Nat), k ≤ 60 → pairsE (V k) = 0
  | 0, _ => rfl
  | k + 1, h => by
    have i := V_ok k (by omega)
    rw [V_succ]
    unfold pairsE at i ⊢
    rw [Tabs.pairsF_append, if_neg (by rw [i]; exact fun g => g rfl), pairsF]
    have hf : fault (last none (V k)) (one k) = 0 := fault_one fun x hx => by
      cases k with
      | zero => cases hx
      | succ m =>
        rw [V_last] at hx
        obtain rfl : ltr m = x := by simpa using hx
        exact rise (by omega) (by omega)
    rw [if_neg (by rw [hf]; exact fun g => g rfl)]
    rfl
theorem V_get {k j : Nat} (hk : k ≤ 60) (hj : j < k) : getPE (V k) (ltr j) = 0 ∧ getP (V k) (ltr j) = one j := by
  have hl : j < (V k).length := by rw [V_length]; exact hj
  have h : find (V k) (ltr j) = some (one j) := by
    have := find_at (l := V k) (k := ltr j) j hl (fun q hq => by
      obtain ⟨i, hi, he⟩ := List.getElem_of_mem hq
      rw [List.length_take] at hi
      rw [List.getElem_take, V_at (by omega)] at he
      rw [← he]
      exact lt_ne (rise (by omega) (by omega))) (by rw [V_at]; rfl)
    rw [V_at hl] at this
    exact this
  unfold getPE getP
  rw [h]
  exact ⟨rfl, rfl⟩
theorem V_zed (k : Nat) : getPE (V k) zed = 5 := by
  have h : find (V k) zed = none := find_none.2 fun p hp => by
    obtain ⟨i, _, rfl⟩ := V_mem hp
    intro e
    have := congrArg ByteArray.size e
    rw [show (one i).key = ltr i from rfl, ltr_size] at this
    exact absurd this (by decide)
  unfold getPE
  rw [h]
  rfl
theorem V_first (k : Nat) : firstK (V (k + 1)) = ltr 0 := by
  unfold firstK V
  rw [List.range_succ_eq_map]
  rfl
theorem V_end (k : Nat) : lastK (V (k + 1)) = ltr k := by
  unfold lastK
  rw [V_succ, List.getLast?_concat]
  rfl
theorem V_build (k : Nat) (h : k ≤ 60) : buildV (V k) = table (V k) := if_pos (V_ok k h)
theorem V_size (k : Nat) (h : k ≤ 60) : (str (buildV (V k))).size ≤ 2097152 := by
  rw [Nums.str_size, V_build k h, Tabs.table_length]
  have := Tabs.body_len (V k) 60 (fun p hp => by obtain ⟨i, _, rfl⟩ := V_mem hp; rw [show (one i).key = ltr i from rfl, ltr_size]; exact ⟨by decide, by show vee.size ≤ 200; decide⟩) (by rw [V_length]; exact h)
  omega
theorem V_open (k : Nat) (h : k ≤ 60) : Tabs.openT (str (buildV (V k))).data.toList = some (V k) := by
  rw [Nums.str_data, V_build k h]
  exact Tabs.open_table (V_ok k h)

end Go.Proofs.YtinjkmimaokffafDoor.TabLetters
