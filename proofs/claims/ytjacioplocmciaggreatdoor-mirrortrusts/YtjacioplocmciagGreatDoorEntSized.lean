/-
  A list of entries, as the reading opens it, and how long each one's data is at most.
-/
import Derived.Test.YtjacioplocmciagGreatDoorListRows
import Derived.Test.YtjacioplocmciagGreatDoorReplyAll
namespace Go.Proofs.YtjacioplocmciagGreatDoor.EntSized
open Go.RowKit
open Wides (Wide)
open Entries (Entry)
open EntRows (cells wide_of)

section
variable {H : Type} {enc : TypeId × Value → H} {w : World} {base : Nat} {spare : Nat → Bool} {held : Bool}
theorem open_entries {P : Program} {t e : TypeId} {f0 f1 : Field} {fuel : Nat} {a : Option Addr} {n cap : Nat} {x : DataW H × List MemPlace} (ht : P.underlying t = some (.slice e)) (he : P.underlying e = some (.struct #[f0, f1]))
    (ce : P.cellsOf e = 2) (o0 : f0.offset = 0) (o1 : f1.offset = 1) (c0 : P.cellsOf f0.type = 1) (c1 : P.cellsOf f1.type = 1) (u0 : P.underlying f0.type = some (.int .i64)) (u1 : P.underlying f1.type = some .string)
    (h : DataW.trod enc P w base spare held fuel t [.slice a n cap] = some x) (hsz : ∀ k ∈ x.1.weights P t, k ≤ reachBytes) :
    ∃ l : List Entry, Wide 2 w a n cap (cells l) ∧ (∀ e ∈ l, (Lit.int .i64 e.1).wf = true ∧ e.2.size ≤ 140737488351232) ∧ (l = [] ∨ ∃ ls sp, x.1 = .slice ls sp ∧ ls.length = l.length) := by
  rcases Deep.open_slice_pairs ht he ce o0 o1 c0 c1 h with ⟨hcs, _⟩ | ⟨x', len, cap', m, k, V0, V1, D0, D1, P0, P1, hcs, _, hl, hm, hmm, rfl, hc⟩
  · simp at hcs
    obtain ⟨rfl, rfl, rfl⟩ := hcs
    refine ⟨[], Wide.nil _ _ _ _, ?_, .inl rfl⟩
    intro e he
    cases he
  · simp at hcs
    obtain ⟨rfl, rfl, rfl⟩ := hcs
    have hlm : n ≤ m := by rw [hmm]; split <;> omega
    have hw := (IntRows.weights_slice ht hsz).2
    have each : ∀ i, i < n → ∃ q : Entry, (w.cell? (x'.add (i * 2)) = some (.int .i64 q.1) ∧ w.cell? (x'.add (i * 2 + 1)) = some (.string q.2)) ∧ (Lit.int .i64 q.1).wf = true ∧ q.2.size ≤ 140737488351232 := by
      intro i hi
      have hDi : ∀ k ∈ (DataW.agg [D0 i, D1 i] : DataW H).weights P e, k ≤ reachBytes := hw _ (List.mem_map.2 ⟨i, List.mem_range.2 hi, rfl⟩)
      have W1 := IntRows.weights_struct he hDi (j := 1) (f := f1) (d := D1 i) rfl rfl
      obtain ⟨h1, h2, h3, h4⟩ := hc i (by omega)
      obtain ⟨a0, e0, _, w0⟩ := DataW.trod_int u0 h3
      obtain ⟨s0, e1, g1, _⟩ := DataW.trod_string u1 h4
      simp only [List.cons.injEq, and_true] at e0 e1
      rw [e0] at h1
      rw [e1] at h2
      refine ⟨(a0, s0), ⟨h1, h2⟩, w0, ?_⟩
      simp only [Prod.mk.injEq] at g1
      rw [g1.1] at W1
      have := W1 s0.data.toList.length (by simp [DataW.weights])
      rw [Array.length_toList] at this
      simp only [reachBytes] at this
      exact this
    obtain ⟨q, hq⟩ := Deep.choose_lt each
    refine ⟨(List.range n).map q, wide_of q hl (fun i hi => (hq i hi).1), ?_, .inr ⟨_, _, rfl, by simp⟩⟩
    intro e he
    obtain ⟨i, hi, rfl⟩ := List.mem_map.1 he
    exact (hq i (List.mem_range.1 hi)).2
end

end Go.Proofs.YtjacioplocmciagGreatDoor.EntSized
