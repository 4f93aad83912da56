/-
  What the document's own answer (package witref2) returns of sums as a text.
-/
import Derived.Test.YtjacioplocmciahGreatDoorSePlain
import Derived.Test.YtjacioplocmciahGreatDoorWalkRef
import Derived.Test.YtjacioplocmciahGreatDoorHeadRef
import Derived.Test.YtjacioplocmciahGreatDoorListRows
namespace Go.Proofs.YtjacioplocmciahGreatDoor.WalkSumsText
open Go.RowKit
open Lists (Row ints bt)
open Nums (str text)
open Answers (sumsT joined_snoc)
open Decimals (joined)

theorem joined_next (l : List Int) {k : Nat} (hk : k < l.length) : joined 32 ((l.take (k + 1)).map text) = (if k = 0 then joined 32 ((l.take k).map text) else joined 32 ((l.take k).map text) ++ [32]) ++ text l[k] := by
  rw [List.take_succ_eq_append_getElem hk, List.map_append]
  by_cases h : k = 0
  · subst h
    rw [if_pos rfl]
    simp [joined]
  · rw [if_neg h]
    have hne : (l.take k).map text ≠ [] := fun e => by
      have h2 : ((l.take k).map text).length = 0 := by rw [e]; rfl
      rw [List.length_map, List.length_take] at h2
      omega
    show joined 32 ((l.take k).map text ++ [text l[k]]) = _
    rw [joined_snoc 32 _ _ hne]
    simp
theorem joined_len : ∀ (l : List Int), (joined 32 (l.map text)).length ≤ 9 * l.length
  | [] => by simp [joined]
  | [x] => by simp [joined, Nums.text_length]
  | x :: y :: l => by
    have i := joined_len (y :: l)
    simp only [List.map_cons] at i ⊢
    rw [joined]
    simp only [List.length_append, List.length_cons, Nums.text_length] at i ⊢
    omega

end Go.Proofs.YtjacioplocmciahGreatDoor.WalkSumsText
