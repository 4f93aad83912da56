/-
  What the walks are told of a slice of slices of pairs.
-/
import Derived.Test.YtofaegcljcpceagGreatDoorPairRows
import Derived.Test.YtofaegcljcpceagGreatDoorPlains
namespace Go.Proofs.YtofaegcljcpceagGreatDoor.LsmRows
open Go.RowKit
open Lists (Row bt)
open Wides (Wide)
open Stores (Pair)
open PairRows (cells)

/-- the pairs behind a slice value -/
def PRow (w : World) (v : Value) (l : List Pair) : Prop := ∃ a cap, v = .slice a l.length cap ∧ Wide 3 w a l.length cap (cells l)
theorem PRow.below {w w' : World} {v : Value} {l : List Pair} (h : PRow w v l) (b : Below w.heap.size w w') : PRow w' v l := by
  obtain ⟨a, cap, h1, h2⟩ := h
  exact ⟨a, cap, h1, h2.below b⟩
theorem PRow.nil (w : World) : PRow w (.slice none 0 0) [] := ⟨none, 0, rfl, Wides.Wide.nil _ _ _ _⟩
/-- those behind some of them -/
def LRows (w : World) (vs : List Value) (r : List (List Pair)) : Prop := vs.length = r.length ∧ ∀ i (h : i < vs.length) (h' : i < r.length), PRow w vs[i] r[i]
theorem LRows.below {w w' : World} {vs : List Value} {r : List (List Pair)} (h : LRows w vs r) (b : Below w.heap.size w w') : LRows w' vs r := ⟨h.1, fun i hi hr => (h.2 i hi hr).below b⟩
theorem LRows.nil (w : World) : LRows w [] [] := ⟨rfl, fun i h => by simp at h⟩
theorem LRows.cons {w : World} {v : Value} {l : List Pair} {vs : List Value} {r : List (List Pair)} (h : PRow w v l) (k : LRows w vs r) : LRows w (v :: vs) (l :: r) := by
  refine ⟨by simp [k.1], fun i hi hr => ?_⟩
  cases i with
  | zero => exact h
  | succ i => exact k.2 i (by simpa using hi) (by simpa using hr)
theorem total_take : ∀ (r : List (List Pair)) (i : Nat), Lsms.total (r.take i) ≤ Lsms.total r
  | [], i => by simp [Lsms.total]
  | l :: r, 0 => Nat.zero_le _
  | l :: r, i + 1 => by
    have := total_take r i
    simp only [List.take_succ_cons, Lsms.total]
    omega
theorem total_at : ∀ (r : List (List Pair)) (i : Nat) (h : i < r.length), Lsms.total (r.take i) + (r[i]).length ≤ Lsms.total r
  | l :: r, 0, _ => by simp [Lsms.total]
  | l :: r, i + 1, h => by
    have := total_at r i (by simpa using h)
    simp only [List.take_succ_cons, Lsms.total, List.getElem_cons_succ]
    omega

end Go.Proofs.YtofaegcljcpceagGreatDoor.LsmRows
