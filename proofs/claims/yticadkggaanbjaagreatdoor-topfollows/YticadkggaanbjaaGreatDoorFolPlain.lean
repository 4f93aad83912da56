/-
  Plain mathematics of a mirror that has followed a log from nothing on: its head is the log's. Nothing of the program is named here.
-/
import Derived.Test.YticadkggaanbjaaGreatDoorSePlain
import Derived.Test.YticadkggaanbjaaGreatDoorListRows
namespace Go.Proofs.YticadkggaanbjaaGreatDoor.FollowEnds
open Entries (Entry entsE)
open Heads (Head zero)
open Mirrors
open Answers (logE logH)
open Follows (At Goes)

theorem page_head {key now : Int} {l : List Entry} {t c : Nat} {m : Mir} (h : Goes key now l 0 t c m) (hc : c ≠ t) (r : Reply) (hr1 : r.what = 2) (hA : At key l t (hearM key m r)) : (hearM key m r).head = logH (l.take t) key now := by
  have hw := h.want
  rw [if_neg hc] at hw
  have e2 : hearM key m r = someM m r.ents := by
    unfold hearM
    rw [hw, hr1]
    rfl
  have h0 : m.own = [] := by rw [h.own, List.take_zero]
  have hne : l.take t ≠ [] := fun q => by
    have h1 := h.ot
    have h2 := h.le
    have := congrArg List.length q
    rw [List.length_take, List.length_nil] at this
    omega
  rw [e2] at hA ⊢
  unfold someM at hA ⊢
  split
  · rename_i g1
    rw [if_pos g1] at hA
    split
    · rename_i g2
      rw [if_pos g2] at hA
      unfold Mir.settled at hA ⊢
      split
      · exact h.next
      · rename_i g3
        rw [if_neg g3] at hA
        exact absurd hA.own.symm (by show ¬ l.take t = m.own; rw [h0]; exact hne)
    · rename_i g2
      rw [if_neg g2] at hA
      exact absurd hA.own.symm (by show ¬ l.take t = m.own; rw [h0]; exact hne)
  · rename_i g1
    rw [if_neg g1] at hA
    exact absurd hA.own.symm (by show ¬ l.take t = m.own; rw [h0]; exact hne)

end Go.Proofs.YticadkggaanbjaaGreatDoor.FollowEnds

/-
  Some of the entries that lie one behind the other.
-/
namespace Go.Proofs.YticadkggaanbjaaGreatDoor.EntCuts
open Go.RowKit
open Wides (Wide)
open Entries (Entry)
open EntRows (cells cells_length)

theorem cells_drop : ∀ (k : Nat) (l : List Entry), cells (l.drop k) = (cells l).drop (k * 2)
  | 0, l => rfl
  | k + 1, [] => by simp [cells]
  | k + 1, e :: l => by
    rw [List.drop_succ_cons, cells_drop k l, show (k + 1) * 2 = k * 2 + 2 by omega]
    rfl
theorem cells_take : ∀ (k : Nat) (l : List Entry), cells (l.take k) = (cells l).take (k * 2)
  | 0, l => by simp [cells]
  | k + 1, [] => by simp [cells]
  | k + 1, e :: l => by
    rw [List.take_succ_cons, show (k + 1) * 2 = k * 2 + 2 by omega, cells, cells, cells_take k l]
    rfl
/-- those from lo to below hi -/
theorem cut {w : World} {g off n cap : Nat} {l : List Entry} (h : Wide 2 w (some ⟨g, off, none⟩) n cap (cells l)) (lo hi : Nat) (h0 : lo ≤ hi) (h1 : hi ≤ n) : Wide 2 w (some ⟨g, off + lo * 2, none⟩) (hi - lo) (cap - lo) (cells ((l.take hi).drop lo)) := by
  have hl := h.1
  rw [cells_length] at hl
  refine ⟨by rw [cells_length, List.length_drop, List.length_take]; omega, by have := h.2.1; omega, fun hp => ⟨g, off + lo * 2, rfl, fun j u hj => ?_⟩⟩
  obtain ⟨g', off', ha, hc⟩ := h.2.2 (by omega)
  obtain ⟨rfl, rfl⟩ : g = g' ∧ off = off' := by simpa using ha
  rw [cells_drop, cells_take, List.getElem?_drop, List.getElem?_take] at hj
  split at hj
  · rw [Nat.add_assoc]
    exact hc _ _ hj
  · cases hj
/-- the first ones -/
theorem first {w : World} {a : Option Addr} {n cap : Nat} {l : List Entry} (h : Wide 2 w a n cap (cells l)) (t : Nat) (ht : t ≤ n) : Wide 2 w a t cap (cells (l.take t)) := by
  have hl := h.1
  rw [cells_length] at hl
  refine ⟨by rw [cells_length, List.length_take]; omega, by have := h.2.1; omega, fun hp => ?_⟩
  obtain ⟨g, off, ha, hc⟩ := h.2.2 (by omega)
  refine ⟨g, off, ha, fun j u hj => ?_⟩
  rw [cells_take, List.getElem?_take] at hj
  split at hj
  · exact hc _ _ hj
  · cases hj

end Go.Proofs.YticadkggaanbjaaGreatDoor.EntCuts

