/-
  Plain mathematics of an audit: whether a head is that of entries, the sums of all of their tiles, and which tiles are not as they are told. Nothing of the program is named here.
-/
import Derived.Test.YtigbbhojgajkjaiGreatDoorMirrors
import Derived.Test.YtigbbhojgajkjaiGreatDoorSePlain
namespace Go.Proofs.YtigbbhojgajkjaiGreatDoor.Audits
open Entries (Entry entsE leafsOf)
open Heads (Head verifyE)
open Mirrors (rootE)
open Tiles (Tile tiles sumsOf)

/-- is a head that of entries? -/
def wholeE (l : List Entry) (h : Head) (key : Int) : Nat :=
  if verifyE h key ≠ 0 then verifyE h key else if entsE l ≠ 0 then entsE l else if (l.length : Int) ≠ h.size then 3 else if rootE l ≠ h.root then 8 else 0
/-- the sums of the tiles of entries -/
def want (l : List Entry) : List (List Int) := (tiles l.length).map (sumsOf (leafsOf l))
def tilesL (l : List Entry) : List (List Int) := if entsE l = 0 then want l else []
theorem want_length (l : List Entry) : (want l).length = (tiles l.length).length := by simp [want]
theorem want_at (l : List Entry) (k : Nat) : (want l)[k]? = (tiles l.length)[k]?.map (sumsOf (leafsOf l)) := by simp [want]
/-- those of the first k that are told otherwise -/
def badF (ts : List Tile) (w g : List (List Int)) : Nat → List Tile
  | 0 => []
  | k + 1 => badF ts w g k ++ (if g[k]? = w[k]? then [] else (ts[k]?).toList)
def badE (l : List Entry) (g : List (List Int)) : Nat := if entsE l ≠ 0 then entsE l else if g.length ≠ (tiles l.length).length then 3 else 0
def badT (l : List Entry) (g : List (List Int)) : List Tile := if badE l g = 0 then badF (tiles l.length) (want l) g (tiles l.length).length else []
theorem badF_same {ts : List Tile} {w g : List (List Int)} {k : Nat} (h : g[k]? = w[k]?) : badF ts w g (k + 1) = badF ts w g k := by
  rw [badF, if_pos h, List.append_nil]
theorem badF_other {ts : List Tile} {w g : List (List Int)} {k : Nat} {t : Tile} (h : g[k]? ≠ w[k]?) (ht : ts[k]? = some t) : badF ts w g (k + 1) = badF ts w g k ++ [t] := by
  rw [badF, if_neg h, ht]
  rfl
theorem badF_length (ts : List Tile) (w g : List (List Int)) : ∀ k, (badF ts w g k).length ≤ k
  | 0 => Nat.le_refl _
  | k + 1 => by
    have := badF_length ts w g k
    rw [badF, List.length_append]
    split
    · simp; omega
    · cases ts[k]? <;> simp <;> omega
/-- of all tiles none is bad -/
theorem none_bad {l : List Entry} (h : entsE l = 0) : badE l (want l) = 0 ∧ badT l (want l) = [] := by
  have hE : badE l (want l) = 0 := by
    unfold badE
    rw [if_neg (by omega), if_neg (by rw [want_length]; simp)]
  refine ⟨hE, ?_⟩
  unfold badT
  rw [if_pos hE]
  have key : ∀ k, badF (tiles l.length) (want l) (want l) k = [] := by
    intro k
    induction k with
    | zero => rfl
    | succ k ih => rw [badF_same rfl, ih]
  exact key _
/-- with one changed just that one is -/
theorem one_bad {l : List Entry} (h : entsE l = 0) {k : Nat} {t : Tile} (hk : (tiles l.length)[k]? = some t) {x : List Int} (hx : x ≠ sumsOf (leafsOf l) t) : badE l ((want l).set k x) = 0 ∧ badT l ((want l).set k x) = [t] := by
  have hlt : k < (tiles l.length).length := (List.getElem?_eq_some_iff.1 hk).1
  have hE : badE l ((want l).set k x) = 0 := by
    unfold badE
    rw [if_neg (by omega), if_neg (by rw [List.length_set, want_length]; simp)]
  refine ⟨hE, ?_⟩
  unfold badT
  rw [if_pos hE]
  have lo : ∀ j, j ≤ k → badF (tiles l.length) (want l) ((want l).set k x) j = [] := by
    intro j
    induction j with
    | zero => intro _; rfl
    | succ j ih => intro hj; rw [badF_same (by rw [List.getElem?_set_ne (by omega)]), ih (by omega)]
  have at_ : badF (tiles l.length) (want l) ((want l).set k x) (k + 1) = [t] := by
    rw [badF_other (t := t) _ hk, lo k (Nat.le_refl _)]
    · rfl
    · rw [List.getElem?_set_self (by rw [want_length]; exact hlt), want_at, hk]
      simp only [Option.map_some, ne_eq, Option.some.injEq]
      exact hx
  have hi : ∀ j, badF (tiles l.length) (want l) ((want l).set k x) (k + 1 + j) = [t] := by
    intro j
    induction j with
    | zero => exact at_
    | succ j ih => rw [show k + 1 + (j + 1) = (k + 1 + j) + 1 by omega, badF_same (by rw [List.getElem?_set_ne (by omega)]), ih]
  have := hi ((tiles l.length).length - (k + 1))
  rwa [show k + 1 + ((tiles l.length).length - (k + 1)) = (tiles l.length).length by omega] at this
/-- a head of entries is whole -/
theorem whole_of {l : List Entry} {h : Head} {key : Int} (hv : verifyE h key = 0) (hl : entsE l = 0) (hs : h.size = (l.length : Int)) (hr : h.root = rootE l) : wholeE l h key = 0 := by
  unfold wholeE
  rw [if_neg (by omega), if_neg (by omega), if_neg (by rw [hs]; simp), if_neg (by rw [hr]; simp)]

end Go.Proofs.YtigbbhojgajkjaiGreatDoor.Audits
