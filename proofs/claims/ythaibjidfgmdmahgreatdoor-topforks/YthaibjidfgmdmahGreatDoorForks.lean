/-
  Plain mathematics of two heads that do not go together. Nothing of the program is named here.
-/
import Derived.Test.YthaibjidfgmdmahGreatDoorMirPlain
import Derived.Test.YthaibjidfgmdmahGreatDoorGrowPlain
namespace Go.Proofs.YthaibjidfgmdmahGreatDoor.Forks
open Heads (Head verifyE)
open GrowsE (growE)

/-- do two heads prove that a log lies? -/
def lies (a b : Head) : Bool := decide (a.size = b.size ∧ a.root ≠ b.root)
/-- what is wrong with the first of two heads that is none -/
def bothE (a b : Head) (key : Int) : Nat := if verifyE a key = 0 then verifyE b key else verifyE a key
def provesV (a b : Head) (key : Int) : Bool := if bothE a b key = 0 then lies a b else false
/-- do two heads go together, by a proof? -/
def checkE (a b : Head) (key : Int) (p : List Int) : Nat :=
  if bothE a b key ≠ 0 then bothE a b key
  else if b.size < a.size then 3
  else if a.size = 0 ∧ 0 < b.size then 0
  else if a.size = b.size then (if p = [] then 0 else 3)
  else if growE a.root a.size b.root b.size p = 8 then 0 else growE a.root a.size b.root b.size p
def checkV (a b : Head) (key : Int) (p : List Int) : Bool :=
  if bothE a b key ≠ 0 then false
  else if b.size < a.size then false
  else if a.size = 0 ∧ 0 < b.size then true
  else if a.size = b.size then (if p = [] then decide (a.root = b.root) else false)
  else decide (growE a.root a.size b.root b.size p = 0)
/-- the first of a list that is none -/
def allE (l : List Head) (key : Int) : Nat := match l with
  | [] => 0
  | h :: l => if verifyE h key = 0 then allE l key else verifyE h key
theorem allE_zero {key : Int} : ∀ {l : List Head}, allE l key = 0 ↔ ∀ h ∈ l, verifyE h key = 0
  | [] => by simp [allE]
  | h :: l => by
    unfold allE
    by_cases e : verifyE h key = 0
    · rw [if_pos e, allE_zero]
      simp [e]
    · rw [if_neg e]
      simp [e]
theorem allE_first {key : Int} : ∀ {l : List Head} {k : Nat} (hk : k < l.length), (∀ h ∈ l.take k, verifyE h key = 0) → verifyE l[k] key ≠ 0 → allE l key = verifyE l[k] key
  | [], k, hk, _, _ => by simp at hk
  | h :: l, 0, _, _, hx => if_neg hx
  | h :: l, k + 1, hk, hy, hx => by
    unfold allE
    rw [if_pos (hy h (by simp))]
    exact allE_first (by simpa using hk) (fun x hm => hy x (by simp [hm])) hx
/-- the first of those ahead of the k-th that does not go with it -/
def clashAt (l : List Head) (k : Nat) : Option Nat := match l[k]? with
  | none => none
  | some h => (l.take k).findIdx? (fun x => lies x h)
/-- the first two, the least k, then the least i -/
def pairF (l : List Head) : Nat → Option (Nat × Nat)
  | 0 => none
  | k + 1 => match pairF l k with
    | some p => some p
    | none => (clashAt l k).map (fun i => (i, k))
def pair (l : List Head) : Option (Nat × Nat) := pairF l l.length
def findE (l : List Head) (key : Int) : Nat := if 20 < l.length then 4 else if allE l key ≠ 0 then allE l key else if pair l = none then 5 else 0
def findP (l : List Head) (key : Int) : Nat × Nat := if findE l key = 0 then (pair l).getD (0, 0) else (0, 0)
theorem pairF_mono {l : List Head} {p : Nat × Nat} : ∀ {k n : Nat}, k ≤ n → pairF l k = some p → pairF l n = some p
  | k, 0, h, e => by
    obtain rfl : k = 0 := by omega
    exact e
  | k, n + 1, h, e => by
    rcases Nat.lt_or_ge k (n + 1) with h1 | h1
    · rw [pairF, pairF_mono (k := k) (n := n) (by omega) e]
    · obtain rfl : k = n + 1 := by omega
      exact e
theorem pair_at {l : List Head} {i k : Nat} (hk : k < l.length) (h0 : pairF l k = none) (hc : clashAt l k = some i) : pair l = some (i, k) := by
  have h1 : pairF l (k + 1) = some (i, k) := by
    rw [pairF, h0, hc]
    rfl
  exact pairF_mono (by omega) h1
theorem pair_next {l : List Head} {k : Nat} (h0 : pairF l k = none) (hc : clashAt l k = none) : pairF l (k + 1) = none := by
  rw [pairF, h0, hc]
  rfl
theorem clash_yes {l : List Head} {i k : Nat} (hk : k < l.length) (hi : i < k) (hx : ∀ j (hj : j < i), lies (l[j]'(by omega)) l[k] = false) (hy : lies (l[i]'(by omega)) l[k] = true) : clashAt l k = some i := by
  unfold clashAt
  rw [List.getElem?_eq_getElem hk]
  simp only
  rw [List.findIdx?_eq_some_iff_getElem]
  refine ⟨by simp; omega, ?_, fun j hj => ?_⟩
  · simpa using hy
  · have := hx j hj
    simpa using this
theorem clash_no {l : List Head} {k : Nat} (hk : k < l.length) (hx : ∀ j (hj : j < k), lies (l[j]'(by omega)) l[k] = false) : clashAt l k = none := by
  unfold clashAt
  rw [List.getElem?_eq_getElem hk]
  simp only
  rw [List.findIdx?_eq_none_iff]
  intro x hm
  obtain ⟨j, hj, rfl⟩ := List.mem_iff_getElem.1 hm
  simp only [List.length_take] at hj
  have := hx j (by omega)
  simpa using this

end Go.Proofs.YthaibjidfgmdmahGreatDoor.Forks
