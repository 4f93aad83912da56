/-
  What the document's own answer (package witref1) returns on the text of a head: ReadHead.
-/
import Derived.Test.YticadkggaanbjaaGreatDoorHeadRows
import Derived.Test.YticadkggaanbjaaGreatDoorHeadRef
import Derived.Test.YticadkggaanbjaaGreatDoorWalkNumberRef
import Derived.Laws.ResultCell
import Derived.Deep.MidRow
namespace Go.Proofs.YticadkggaanbjaaGreatDoor.WalkReadRef
open Go.RowKit
open Lists (Row strs bt)
open Keeps (owns_open)
open Heads (Head ok headE parse zero)
open Decimals (number words)
open Nums (str read)
open HeadVals (hv aggH sizeH)
open WalkNumberRef (numV numB)

theorem parse_not {s : List UInt8} (h : (words 32 s).length ≠ 4) : parse s = (zero, 2) := by
  unfold parse
  split
  · rename_i hw
    rw [hw] at h
    exact absurd rfl h
  · rfl
/-- what four words come to -/
def fourE (a b c d : List UInt8) : Nat := if numB a = true ∧ numB c = true ∧ (read b).2 ≠ 2 ∧ (read d).2 ≠ 2 then (if (read b).2 = 0 ∧ (read d).2 = 0 ∧ ok ⟨(numV a : Nat), (read b).1, (numV c : Nat), (read d).1⟩ = true then 0 else 1) else 2
theorem parse_four {s a b c d : List UInt8} (h : words 32 s = [a, b, c, d]) : parse s = (if fourE a b c d = 0 then ⟨(numV a : Nat), (read b).1, (numV c : Nat), (read d).1⟩ else zero, fourE a b c d) := by
  unfold parse
  simp only [h]
  cases ha : number a 9 with
  | none =>
    have e : numB a = false := by unfold numB; rw [ha]; rfl
    have hf : fourE a b c d = 2 := if_neg (fun q => by rw [e] at q; cases q.1)
    rw [hf]
    rfl
  | some x =>
    have e1 : numB a = true := by unfold numB; rw [ha]; rfl
    have e2 : numV a = x := by unfold numV; rw [ha]; rfl
    cases hc : number c 9 with
    | none =>
      have e : numB c = false := by unfold numB; rw [hc]; rfl
      have hf : fourE a b c d = 2 := if_neg (fun q => by rw [e] at q; cases q.2.1)
      rw [hf]
      rfl
    | some y =>
      have e3 : numB c = true := by unfold numB; rw [hc]; rfl
      have e4 : numV c = y := by unfold numV; rw [hc]; rfl
      by_cases hq : (read b).2 = 2 ∨ (read d).2 = 2
      · have hf : fourE a b c d = 2 := if_neg (fun q => by rcases hq with r | r; exact q.2.2.1 r; exact q.2.2.2 r)
        rw [hf]
        simp only [if_pos hq]
        rfl
      · have hf : fourE a b c d = if (read b).2 = 0 ∧ (read d).2 = 0 ∧ ok ⟨(x : Int), (read b).1, (y : Int), (read d).1⟩ = true then 0 else 1 := by
          unfold fourE
          rw [if_pos ⟨e1, e3, fun q => hq (.inl q), fun q => hq (.inr q)⟩, e2, e4]
        rw [hf, e2, e4]
        simp only [if_neg hq]
        by_cases hr : (read b).2 = 0 ∧ (read d).2 = 0 ∧ ok ⟨(x : Int), (read b).1, (y : Int), (read d).1⟩ = true
        · rw [if_pos hr, if_pos hr]
          rfl
        · rw [if_neg hr, if_neg hr]
          rfl

end Go.Proofs.YticadkggaanbjaaGreatDoor.WalkReadRef
