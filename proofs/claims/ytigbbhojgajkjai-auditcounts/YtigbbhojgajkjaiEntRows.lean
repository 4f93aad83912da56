/-
  What the walks are told of a slice of entries: two cells each; and how an argument of that type is read.
-/
import Derived.Test.YtigbbhojgajkjaiWides
import Derived.Test.YtigbbhojgajkjaiEntries
import Derived.Deep.SlicePairs
namespace Go.Proofs.Ytigbbhojgajkjai.EntRows
open Go.RowKit
open Wides (Wide)
open Entries (Entry)

def cells : List Entry → List Value
  | [] => []
  | e :: l => .int .i64 e.1 :: .string e.2 :: cells l
theorem cells_length : ∀ l : List Entry, (cells l).length = l.length * 2
  | [] => rfl
  | e :: l => by simp [cells, cells_length l]; omega
theorem cells_append : ∀ a b : List Entry, cells (a ++ b) = cells a ++ cells b
  | [], b => rfl
  | e :: a, b => by simp [cells, cells_append a b]
theorem cells_at : ∀ (l : List Entry) (j : Nat) (h : j < l.length), (cells l)[j * 2]? = some (.int .i64 (l[j]).1) ∧ (cells l)[j * 2 + 1]? = some (.string (l[j]).2)
  | e :: l, 0, _ => ⟨rfl, rfl⟩
  | e :: l, j + 1, h => by
    have q : (j + 1) * 2 = j * 2 + 2 := by omega
    rw [q]
    exact cells_at l j (by simpa using h)
/-- the two cells of one -/
theorem at_two {w : World} {b off n cap : Nat} {l : List Entry} (h : Wide 2 w (some ⟨b, off, none⟩) n cap (cells l)) (j : Nat) (hj : j < l.length) :
    w.cell? ⟨b, off + j * 2, none⟩ = some (.int .i64 (l[j]).1) ∧ w.cell? ⟨b, off + j * 2 + 1, none⟩ = some (.string (l[j]).2) := by
  have h1 := h.1
  rw [cells_length] at h1
  obtain ⟨b', off', ha, hc⟩ := h.2.2 (by omega)
  obtain ⟨rfl, rfl⟩ : b = b' ∧ off = off' := by simpa using ha
  obtain ⟨c0, c1⟩ := cells_at l j hj
  rw [Nat.add_assoc]
  exact ⟨hc _ _ c0, hc _ _ c1⟩
theorem len_of {w : World} {a : Option Addr} {n cap : Nat} {l : List Entry} (h : Wide 2 w a n cap (cells l)) : l.length = n := by
  have := h.1
  rw [cells_length] at this
  omega

/-- from each element's two cells -/
theorem wide_of {w : World} {a : Addr} {n cap : Nat} (q : Nat → Entry) (hc : n ≤ cap) (h : ∀ i, i < n → w.cell? (a.add (i * 2)) = some (.int .i64 (q i).1) ∧ w.cell? (a.add (i * 2 + 1)) = some (.string (q i).2)) :
    Wide 2 w (some a) n cap (cells ((List.range n).map q)) := by
  refine ⟨by rw [cells_length]; simp, hc, fun h0 => ?_⟩
  obtain ⟨b, off, spot⟩ := a
  have hspot : spot = none := by simpa [Addr.add] using World.cell?_spot (h 0 h0).1
  subst hspot
  refine ⟨b, off, rfl, fun j u hj => ?_⟩
  have ea : ∀ k, (⟨b, off, none⟩ : Addr).add k = ⟨b, off + k, none⟩ := fun k => by unfold Addr.add; split <;> simp_all
  have hl : j < n * 2 := by
    have := (List.getElem?_eq_some_iff.1 hj).1
    rw [cells_length] at this
    simpa using this
  have hi : j / 2 < n := by omega
  obtain ⟨c0, c1⟩ := cells_at ((List.range n).map q) (j / 2) (by simpa using hi)
  obtain ⟨k0, k1⟩ := h (j / 2) hi
  rw [ea] at k0 k1
  simp only [List.getElem_map, List.getElem_range] at c0 c1
  rcases Nat.mod_two_eq_zero_or_one j with hm | hm
  · have e : j / 2 * 2 = j := by omega
    rw [e] at c0 k0
    rw [c0] at hj
    rw [k0]; exact hj
  · have e : j / 2 * 2 + 1 = j := by omega
    rw [e] at c1 k1
    rw [c1] at hj
    rw [k1]; exact hj

section
variable {H : Type} {enc : TypeId × Value → H} {w : World} {base : Nat} {spare : Nat → Bool} {held : Bool}
/-- an argument, as the reading opens it -/
theorem open_entries {P : Program} {t e : TypeId} {f0 f1 : Field} {fuel : Nat} {a : Option Addr} {n cap : Nat} {x : DataW H × List MemPlace} (ht : P.underlying t = some (.slice e)) (he : P.underlying e = some (.struct #[f0, f1]))
    (ce : P.cellsOf e = 2) (o0 : f0.offset = 0) (o1 : f1.offset = 1) (c0 : P.cellsOf f0.type = 1) (c1 : P.cellsOf f1.type = 1) (u0 : P.underlying f0.type = some (.int .i64)) (u1 : P.underlying f1.type = some .string)
    (h : DataW.trod enc P w base spare held fuel t [.slice a n cap] = some x) :
    ∃ l : List Entry, Wide 2 w a n cap (cells l) ∧ (∀ e ∈ l, (Lit.int .i64 e.1).wf = true ∧ e.2.size ≤ maxLen) ∧ (l = [] ∨ ∃ ls sp, x.1 = .slice ls sp ∧ ls.length = l.length) := by
  rcases Deep.open_slice_pairs ht he ce o0 o1 c0 c1 h with ⟨hcs, _⟩ | ⟨x', len, cap', m, k, V0, V1, D0, D1, P0, P1, hcs, _, hl, hm, hmm, rfl, hc⟩
  · simp at hcs
    obtain ⟨rfl, rfl, rfl⟩ := hcs
    refine ⟨[], Wide.nil _ _ _ _, ?_, .inl rfl⟩
    intro e he
    cases he
  · simp at hcs
    obtain ⟨rfl, rfl, rfl⟩ := hcs
    have hlm : n ≤ m := by rw [hmm]; split <;> omega
    have each : ∀ i, i < n → ∃ q : Entry, (w.cell? (x'.add (i * 2)) = some (.int .i64 q.1) ∧ w.cell? (x'.add (i * 2 + 1)) = some (.string q.2)) ∧ (Lit.int .i64 q.1).wf = true ∧ q.2.size ≤ maxLen := by
      intro i hi
      obtain ⟨h1, h2, h3, h4⟩ := hc i (by omega)
      obtain ⟨a0, e0, _, w0⟩ := DataW.trod_int u0 h3
      obtain ⟨s0, e1, _, w1⟩ := DataW.trod_string u1 h4
      simp only [List.cons.injEq, and_true] at e0 e1
      rw [e0] at h1
      rw [e1] at h2
      exact ⟨(a0, s0), ⟨h1, h2⟩, w0, w1⟩
    obtain ⟨q, hq⟩ := Deep.choose_lt each
    refine ⟨(List.range n).map q, wide_of q hl (fun i hi => (hq i hi).1), ?_, .inr ⟨_, _, rfl, by simp⟩⟩
    intro e he
    obtain ⟨i, hi, rfl⟩ := List.mem_map.1 he
    exact (hq i (List.mem_range.1 hi)).2
end

end Go.Proofs.Ytigbbhojgajkjai.EntRows
