/-
  Some of the entries that lie one behind the other.
-/
import Derived.Test.YtfpkngpgmllhnaaGreatDoorListRows
namespace Go.Proofs.YtfpkngpgmllhnaaGreatDoor.EntCuts
open Go.RowKit
open Wides (Wide)
open Entries (Entry)
open EntRows (cells cells_length)

theorem cells_drop : ∀ (k : Nat) (l : List Entry), cells (l.drop k) = (cells l).drop (k * 2)
  | 0, l => rfl
  | k + 1, [] => by simp [cells]
  | k + 1, e :: l => by
    rw [List.drop_succ_cons, cells_drop k l, show (k + 1) * 2 = k * 2 + 2 by omega]
    rfl
theorem cells_take : ∀ (k : Nat) (l : List Entry), cells (l.take k) = (cells l).take (k * 2)
  | 0, l => by simp [cells]
  | k + 1, [] => by simp [cells]
  | k + 1, e :: l => by
    rw [List.take_succ_cons, show (k + 1) * 2 = k * 2 + 2 by omega, cells, cells, cells_take k l]
    rfl
/-- those from lo to below hi -/
theorem cut {w : World} {g off n cap : Nat} {l : List Entry} (h : Wide 2 w (some ⟨g, off, none⟩) n cap (cells l)) (lo hi : Nat) (h0 : lo ≤ hi) (h1 : hi ≤ n) : Wide 2 w (some ⟨g, off + lo * 2, none⟩) (hi - lo) (cap - lo) (cells ((l.take hi).drop lo)) := by
  have hl := h.1
  rw [cells_length] at hl
  refine ⟨by rw [cells_length, List.length_drop, List.length_take]; omega, by have := h.2.1; omega, fun hp => ⟨g, off + lo * 2, rfl, fun j u hj => ?_⟩⟩
  obtain ⟨g', off', ha, hc⟩ := h.2.2 (by omega)
  obtain ⟨rfl, rfl⟩ : g = g' ∧ off = off' := by simpa using ha
  rw [cells_drop, cells_take, List.getElem?_drop, List.getElem?_take] at hj
  split at hj
  · rw [Nat.add_assoc]
    exact hc _ _ hj
  · cases hj
/-- the first ones -/
theorem first {w : World} {a : Option Addr} {n cap : Nat} {l : List Entry} (h : Wide 2 w a n cap (cells l)) (t : Nat) (ht : t ≤ n) : Wide 2 w a t cap (cells (l.take t)) := by
  have hl := h.1
  rw [cells_length] at hl
  refine ⟨by rw [cells_length, List.length_take]; omega, by have := h.2.1; omega, fun hp => ?_⟩
  obtain ⟨g, off, ha, hc⟩ := h.2.2 (by omega)
  refine ⟨g, off, ha, fun j u hj => ?_⟩
  rw [cells_take, List.getElem?_take] at hj
  split at hj
  · exact hc _ _ hj
  · cases hj

end Go.Proofs.YtfpkngpgmllhnaaGreatDoor.EntCuts
