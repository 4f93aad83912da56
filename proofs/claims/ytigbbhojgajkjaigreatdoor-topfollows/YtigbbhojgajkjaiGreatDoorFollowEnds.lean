/-
  Plain mathematics of a mirror that has followed a log from nothing on: its head is the log's. Nothing of the program is named here.
-/
import Derived.Test.YtigbbhojgajkjaiGreatDoorSePlain
namespace Go.Proofs.YtigbbhojgajkjaiGreatDoor.FollowEnds
open Entries (Entry entsE)
open Heads (Head zero)
open Mirrors
open Answers (logE logH)
open Follows (At Goes)

theorem page_head {key now : Int} {l : List Entry} {t c : Nat} {m : Mir} (h : Goes key now l 0 t c m) (hc : c ≠ t) (r : Reply) (hr1 : r.what = 2) (hA : At key l t (hearM key m r)) : (hearM key m r).head = logH (l.take t) key now := by
  have hw := h.want
  rw [if_neg hc] at hw
  have e2 : hearM key m r = someM m r.ents := by
    unfold hearM
    rw [hw, hr1]
    rfl
  have h0 : m.own = [] := by rw [h.own, List.take_zero]
  have hne : l.take t ≠ [] := fun q => by
    have h1 := h.ot
    have h2 := h.le
    have := congrArg List.length q
    rw [List.length_take, List.length_nil] at this
    omega
  rw [e2] at hA ⊢
  unfold someM at hA ⊢
  split
  · rename_i g1
    rw [if_pos g1] at hA
    split
    · rename_i g2
      rw [if_pos g2] at hA
      unfold Mir.settled at hA ⊢
      split
      · exact h.next
      · rename_i g3
        rw [if_neg g3] at hA
        exact absurd hA.own.symm (by show ¬ l.take t = m.own; rw [h0]; exact hne)
    · rename_i g2
      rw [if_neg g2] at hA
      exact absurd hA.own.symm (by show ¬ l.take t = m.own; rw [h0]; exact hne)
  · rename_i g1
    rw [if_neg g1] at hA
    exact absurd hA.own.symm (by show ¬ l.take t = m.own; rw [h0]; exact hne)

end Go.Proofs.YtigbbhojgajkjaiGreatDoor.FollowEnds
