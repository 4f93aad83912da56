/-
  Plain mathematics of a tree of which the root is known: what it knows of each place. Nothing of the program is named here.
-/
import Derived.Test.YticadkggaanbjaaGreatDoorGrowPlain
namespace Go.Proofs.YticadkggaanbjaaGreatDoor.Prunes

/-- what is known of each place: its sum, and the proof by which it was learned last -/
abbrev Known := List (Option (Int × List Int))

def has (k : Known) (i : Nat) : Bool := (k.getD i none).isSome
def sumOf (k : Known) (i : Nat) : Int := match k.getD i none with | none => 0 | some v => v.1
def proofOf (k : Known) (i : Nat) : List Int := match k.getD i none with | none => [] | some v => v.2
/-- how many are known -/
def many : Known → Nat
  | [] => 0
  | none :: k => many k
  | some _ :: k => many k + 1
/-- what is wrong with a place that is asked for -/
def findE (k : Known) (i : Int) : Nat := if 0 ≤ i ∧ i < (k.length : Int) then (if has k i.toNat = true then 0 else 5) else 1
/-- what Knows and Prove tell -/
def knowsV (k : Known) (i : Int) : Int := if findE k i = 0 then sumOf k i.toNat else 0
def proveV (k : Known) (i : Int) : List Int := if findE k i = 0 then proofOf k i.toNat else []
/-- what Learn says: c is what the check of the proof says -/
def learnE (c : Nat) (k : Known) (i sum : Int) : Nat := if c ≠ 0 then c else if has k i.toNat = true ∧ sumOf k i.toNat ≠ sum then 7 else 0
def learned (c : Nat) (k : Known) (i sum : Int) (p : List Int) : Known := if learnE c k i sum = 0 then k.set i.toNat (some (sum, p)) else k
def forgot (k : Known) (i : Int) : Known := if findE k i = 0 then k.set i.toNat none else k
/-- nothing is known -/
def fresh (n : Nat) : Known := List.replicate n none

theorem fresh_length (n : Nat) : (fresh n).length = n := List.length_replicate
theorem fresh_at (n i : Nat) : (fresh n).getD i none = none := by
  unfold fresh
  rw [List.getD_eq_getElem?_getD, List.getElem?_replicate]
  split <;> rfl
theorem fresh_has (n i : Nat) : has (fresh n) i = false := by unfold has; rw [fresh_at]; rfl
theorem fresh_many : ∀ n, many (fresh n) = 0
  | 0 => rfl
  | n + 1 => by
    have := fresh_many n
    unfold fresh at this ⊢
    rw [List.replicate_succ, many, this]
theorem learned_length (c : Nat) (k : Known) (i sum : Int) (p : List Int) : (learned c k i sum p).length = k.length := by
  unfold learned
  split
  · exact List.length_set ..
  · rfl
theorem forgot_length (k : Known) (i : Int) : (forgot k i).length = k.length := by
  unfold forgot
  split
  · exact List.length_set ..
  · rfl
theorem many_le : ∀ k : Known, many k ≤ k.length
  | [] => Nat.le_refl _
  | none :: k => by have := many_le k; rw [many, List.length_cons]; omega
  | some _ :: k => by have := many_le k; rw [many, List.length_cons]; omega
theorem set_at (k : Known) {i : Nat} (h : i < k.length) (v : Option (Int × List Int)) : (k.set i v).getD i none = v := by
  rw [List.getD_eq_getElem?_getD, List.getElem?_set_self h]
  rfl
theorem set_other (k : Known) {i j : Nat} (h : i ≠ j) (v : Option (Int × List Int)) : (k.set i v).getD j none = k.getD j none := by
  rw [List.getD_eq_getElem?_getD, List.getElem?_set_ne h, List.getD_eq_getElem?_getD]
theorem many_set : ∀ (k : Known) {i : Nat} (_ : i < k.length) (v : Int × List Int), many (k.set i (some v)) = if has k i = true then many k else many k + 1
  | [], _, h, _ => by simp at h
  | x :: k, 0, _, v => by
    cases x with
    | none => rfl
    | some y => rfl
  | x :: k, i + 1, h, v => by
    have h1 := many_set k (i := i) (by simpa using h) v
    have h2 : has (x :: k) (i + 1) = has k i := rfl
    rw [List.set_cons_succ, h2]
    cases x with
    | none => rw [many, h1, many]
    | some y =>
      rw [many, h1, many]
      split <;> rfl
theorem many_unset : ∀ (k : Known) {i : Nat} (_ : i < k.length), many (k.set i none) + (if has k i = true then 1 else 0) = many k
  | [], _, h => by simp at h
  | x :: k, 0, _ => by
    cases x with
    | none => rfl
    | some y => rfl
  | x :: k, i + 1, h => by
    have h1 := many_unset k (i := i) (by simpa using h)
    have h2 : has (x :: k) (i + 1) = has k i := rfl
    rw [List.set_cons_succ, h2]
    cases x with
    | none => rw [many, h1, many]
    | some y =>
      rw [many, many, ← h1]
      omega
theorem findE_zero {k : Known} {i : Int} (h : findE k i = 0) : 0 ≤ i ∧ i < (k.length : Int) ∧ has k i.toNat = true := by
  unfold findE at h
  split at h
  · rename_i q
    split at h
    · rename_i q2
      exact ⟨q.1, q.2, q2⟩
    · cases h
  · cases h
theorem has_iff {k : Known} {i : Nat} : has k i = true ↔ ∃ s p, k.getD i none = some (s, p) := by
  unfold has
  cases k.getD i none with
  | none => simp
  | some v => exact ⟨fun _ => ⟨v.1, v.2, rfl⟩, fun _ => rfl⟩
theorem sum_of {k : Known} {i : Nat} {s : Int} {p : List Int} (h : k.getD i none = some (s, p)) : sumOf k i = s ∧ proofOf k i = p := by
  unfold sumOf proofOf
  rw [h]
  exact ⟨rfl, rfl⟩
theorem not_has {k : Known} {i : Nat} (h : has k i = false) : k.getD i none = none ∧ sumOf k i = 0 ∧ proofOf k i = [] := by
  unfold has at h
  unfold sumOf proofOf
  cases e : k.getD i none with
  | none => exact ⟨rfl, rfl, rfl⟩
  | some v => rw [e] at h; cases h

/-! one leaf alone -/
theorem one_known {n Z : Nat} (s : Int) (p : List Int) : learnE 0 (fresh n) Z s = 0 ∧ learned 0 (fresh n) Z s p = (fresh n).set Z (some (s, p)) := by
  have e : learnE 0 (fresh n) Z s = 0 := by
    unfold learnE
    rw [if_neg (fun z => z rfl), if_neg (fun z => by rw [fresh_has] at z; cases z.1)]
  refine ⟨e, ?_⟩
  unfold learned
  rw [if_pos e, Int.toNat_natCast]
theorem one_find {n Z : Nat} (h : Z < n) (s : Int) (p : List Int) : findE ((fresh n).set Z (some (s, p))) Z = 0 ∧ knowsV ((fresh n).set Z (some (s, p))) Z = s ∧ proveV ((fresh n).set Z (some (s, p))) Z = p := by
  have a := set_at (fresh n) (i := Z) (by rw [fresh_length]; exact h) (some (s, p))
  have e : findE ((fresh n).set Z (some (s, p))) Z = 0 := by
    unfold findE
    rw [if_pos ⟨by omega, by rw [List.length_set, fresh_length]; omega⟩, if_pos]
    rw [Int.toNat_natCast]
    exact has_iff.2 ⟨s, p, a⟩
  unfold knowsV proveV
  rw [if_pos e, if_pos e, Int.toNat_natCast]
  exact ⟨e, (sum_of a).1, (sum_of a).2⟩
theorem one_other {n Z : Nat} (s : Int) (p : List Int) {K : Nat} (hK : K < n) (hne : K ≠ Z) : findE ((fresh n).set Z (some (s, p))) K = 5 ∧ knowsV ((fresh n).set Z (some (s, p))) K = 0 := by
  have e : findE ((fresh n).set Z (some (s, p))) K = 5 := by
    unfold findE
    rw [if_pos ⟨by omega, by rw [List.length_set, fresh_length]; omega⟩, if_neg]
    unfold has
    rw [Int.toNat_natCast, set_other _ (Ne.symm hne), fresh_at]
    simp
  exact ⟨e, by unfold knowsV; rw [e]; rfl⟩
theorem one_many {n Z : Nat} (h : Z < n) (s : Int) (p : List Int) : many ((fresh n).set Z (some (s, p))) = 1 ∧ many (forgot ((fresh n).set Z (some (s, p))) Z) = 0 := by
  have l : (fresh n).length = n := fresh_length n
  refine ⟨by rw [many_set _ (by rw [l]; exact h), fresh_has, if_neg (by simp), fresh_many], ?_⟩
  unfold forgot
  rw [if_pos (one_find h s p).1, Int.toNat_natCast]
  have := many_unset ((fresh n).set Z (some (s, p))) (i := Z) (by rw [List.length_set, l]; exact h)
  rw [if_pos (has_iff.2 ⟨s, p, set_at _ (by rw [l]; exact h) _⟩), many_set _ (by rw [l]; exact h), fresh_has, if_neg (by simp), fresh_many] at this
  omega

end Go.Proofs.YticadkggaanbjaaGreatDoor.Prunes
