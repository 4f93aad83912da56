/-
  Plain mathematics of what is wrong with a proof that a tree has but grown, and with what is asked for. Nothing of the program is named here.
-/
import Derived.Test.YtigbbhojgajkjaiGrows
namespace Go.Proofs.Ytigbbhojgajkjai.GrowsE
open Grows (gsteps grow oldOf newOf grownE)

/-- may the first o have become n? -/
def inGrow (o n m : Int) : Bool := decide (1 ≤ o ∧ o ≤ n ∧ n ≤ m)
theorem inGrow_of {O N m : Int} (h : inGrow O N m = true) : ∃ o n : Nat, O = o ∧ N = n ∧ 1 ≤ o ∧ o ≤ n ∧ (n : Int) ≤ m := by
  have h' := of_decide_eq_true h
  obtain ⟨o, rfl⟩ := Int.eq_ofNat_of_zero_le (show 0 ≤ O by omega)
  obtain ⟨n, rfl⟩ := Int.eq_ofNat_of_zero_le (show 0 ≤ N by omega)
  exact ⟨o, n, rfl, rfl, by omega, by omega, h'.2.2⟩
theorem inGrow_no {O N m : Int} (h : inGrow O N m = false) : O < 1 ∨ (¬ O < 1 ∧ N < O) ∨ (¬ O < 1 ∧ ¬ N < O ∧ m < N) := by
  have := of_decide_eq_false h
  omega
/-- the fault of a proof -/
def growE (ra O rb N : Int) (p : List Int) : Nat := if inGrow O N 200 = true ∧ Nums.valid ra = true ∧ Nums.valid rb = true ∧ Trees.allOk p = true then grownE ra rb O.toNat N.toNat p else 1

/-- what is wrong with what is asked for, and the proof that is made -/
def gmakeE (l : List Int) (o n : Int) : Nat := if Trees.leafsE l = 0 then (if inGrow o n l.length = true then 0 else 1) else Trees.leafsE l
def gmakeL (l : List Int) (o n : Int) : List Int := if gmakeE l o n = 0 then grow (l.take n.toNat) o.toNat true else []
theorem gmake_of {l : List Int} {o n : Int} (h : gmakeE l o n = 0) : Trees.leafsE l = 0 ∧ inGrow o n l.length = true := by
  unfold gmakeE at h
  split at h
  · rename_i h0
    refine ⟨h0, ?_⟩
    split at h
    · assumption
    · cases h
  · rename_i h0
    exact absurd h h0
theorem gmakeE_eq (l : List Int) (o n : Int) : gmakeE l o n = if (decide (Trees.leafsE l = 0) && !inGrow o n l.length) = true then 1 else Trees.leafsE l := by
  unfold gmakeE
  by_cases h : Trees.leafsE l = 0
  · rw [if_pos h, decide_eq_true h]
    cases hi : inGrow o n l.length
    · rfl
    · exact h.symm
  · rw [if_neg h, decide_eq_false h]
    rfl
theorem leafs_ok {l : List Int} {n : Nat} (hln : l.length = n) (h : Trees.leafsE l = 0) : n ≤ 200 ∧ ∀ x ∈ l, Nums.valid x = true := by
  unfold Trees.leafsE at h
  rw [hln] at h
  split at h
  · cases h
  · split at h
    · exact ⟨by omega, Trees.allOk_mem (by assumption)⟩
    · cases h
theorem all_ok {l : List Int} (h : ∀ x ∈ l, Nums.valid x = true) : Trees.allOk l = true := List.all_eq_true.2 h
theorem leafs_zero {l : List Int} (hn : l.length ≤ 200) (h : ∀ x ∈ l, Nums.valid x = true) : Trees.leafsE l = 0 := by
  unfold Trees.leafsE
  rw [if_neg (by omega), if_pos (all_ok h)]
theorem gmakeL_len (l : List Int) (o n : Int) : (gmakeL l o n).length ≤ 201 := by
  unfold gmakeL
  split
  · rename_i h
    obtain ⟨h0, h1⟩ := gmake_of h
    obtain ⟨o', n', rfl, rfl, h2, h3, h4⟩ := inGrow_of h1
    have n2 := (leafs_ok rfl h0).1
    rw [Int.toNat_natCast, Int.toNat_natCast, Grows.grow_length _ _ _ _ (Nat.le_refl _) h2 (by rw [List.length_take]; omega)]
    have := Grows.gsteps_le o' (l.take n').length true
    rw [List.length_take] at this
    rw [List.length_take]
    omega
  · exact Nat.zero_le _
theorem growE_is {ra rb O N : Int} {p : List Int} {o n : Nat} (hO : O = o) (hN : N = n) (h1 : 1 ≤ o) (h2 : o ≤ n) (hn : n ≤ 200) (va : Nums.valid ra = true) (vb : Nums.valid rb = true) (vp : ∀ x ∈ p, Nums.valid x = true) : growE ra O rb N p = grownE ra rb o n p := by
  unfold growE
  rw [if_pos ⟨decide_eq_true ⟨by omega, by omega, by omega⟩, va, vb, all_ok vp⟩, hO, hN, Int.toNat_natCast, Int.toNat_natCast]

end Go.Proofs.Ytigbbhojgajkjai.GrowsE
