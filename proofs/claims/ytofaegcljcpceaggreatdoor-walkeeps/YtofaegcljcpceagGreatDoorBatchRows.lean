/-
  A list of lists of pairs, as the walks and the reading have it.
-/
import Derived.Test.YtofaegcljcpceagGreatDoorPairRows
namespace Go.Proofs.YtofaegcljcpceagGreatDoor.BatchRows
open Go.RowKit
open Lists (Row)
open Stores (Pair)
open Wides (Wide)
open PairRows (cells)

/-- the list at a, of n lists of pairs -/
def Batches (w : World) (a : Option Addr) (n cap : Nat) (bs : List (List Pair)) : Prop :=
  bs.length = n ∧ n ≤ cap ∧ (0 < n → ∃ b off, a = some ⟨b, off, none⟩ ∧ ∀ i l, bs[i]? = some l → ∃ ai ci, w.cell? ⟨b, off + i, none⟩ = some (.slice ai l.length ci) ∧ Wide 3 w ai l.length ci (cells l))
theorem Batches.below {w w' : World} {a : Option Addr} {n cap : Nat} {bs : List (List Pair)} (h : Batches w a n cap bs) (b : Below w.heap.size w w') : Batches w' a n cap bs := by
  obtain ⟨h1, h2, h3⟩ := h
  refine ⟨h1, h2, fun h0 => ?_⟩
  obtain ⟨bk, off, e, hc⟩ := h3 h0
  refine ⟨bk, off, e, fun i l hi => ?_⟩
  obtain ⟨ai, ci, c1, c2⟩ := hc i l hi
  exact ⟨ai, ci, Lists.cell_below b c1, c2.below b⟩

section
variable {H : Type} {enc : TypeId × Value → H} {w : World} {base : Nat} {spare : Nat → Bool} {held : Bool}
theorem open_batches {P : Program} {t e q : TypeId} {f0 f1 f2 : Field} {fuel : Nat} {a : Option Addr} {n cap : Nat} {x : DataW H × List MemPlace} (ht : P.underlying t = some (.slice e)) (hs : P.underlying e = some (.slice q)) (he : P.underlying q = some (.struct #[f0, f1, f2]))
    (c : P.cellsOf e = 1) (ce : P.cellsOf q = 3) (o0 : f0.offset = 0) (o1 : f1.offset = 1) (o2 : f2.offset = 2) (c0 : P.cellsOf f0.type = 1) (c1 : P.cellsOf f1.type = 1) (c2 : P.cellsOf f2.type = 1)
    (u0 : P.underlying f0.type = some .string) (u1 : P.underlying f1.type = some .string) (u2 : P.underlying f2.type = some .bool)
    (h : DataW.trod enc P w base spare held fuel t [.slice a n cap] = some x) :
    ∃ bs : List (List Pair), Batches w a n cap bs ∧ (∀ l ∈ bs, ∀ e ∈ l, e.key.size ≤ maxLen ∧ e.val.size ≤ maxLen) ∧ (bs = [] ∨ ∃ ls sp, x.1 = .slice ls sp ∧ ls.length = bs.length) := by
  rcases Deep.open_slice1 ht c h with ⟨hcs, _⟩ | ⟨x', len, cap', m, k, V, D, Pl, hcs, _, hl, hm, hmm, rfl, hx⟩
  · simp at hcs
    obtain ⟨rfl, rfl, rfl⟩ := hcs
    refine ⟨[], ⟨rfl, Nat.zero_le _, fun h => by omega⟩, ?_, .inl rfl⟩
    intro l hl
    cases hl
  · simp at hcs
    obtain ⟨rfl, rfl, rfl⟩ := hcs
    have hlm : n ≤ m := by rw [hmm]; split <;> omega
    have each : ∀ i, i < n → ∃ l : List Pair, (∃ ai ci, w.cell? (x'.add i) = some (.slice ai l.length ci) ∧ Wide 3 w ai l.length ci (cells l)) ∧ ∀ e ∈ l, e.key.size ≤ maxLen ∧ e.val.size ≤ maxLen := by
      intro i hi
      obtain ⟨h1, h2⟩ := hx i (by omega)
      obtain ⟨ai, li, ci, hv⟩ : ∃ ai li ci, V i = .slice ai li ci := by
        rcases Deep.open_slice hs h2 with ⟨q1, _⟩ | ⟨y, ly, cy, _, _, _, _, q1, _⟩
        · simp at q1
          exact ⟨none, 0, 0, q1⟩
        · simp at q1
          exact ⟨_, _, _, q1⟩
      rw [hv] at h1 h2
      obtain ⟨l, g1, g2, _⟩ := PairRows.open_pairs_data hs he ce o0 o1 o2 c0 c1 c2 u0 u1 u2 h2
      have hl2 := PairRows.len_of g1
      rw [← hl2] at h1 g1
      exact ⟨l, ⟨ai, ci, h1, g1⟩, g2⟩
    obtain ⟨B, hB⟩ := Deep.choose_lt each
    refine ⟨(List.range n).map B, ⟨by simp, hl, fun h0 => ?_⟩, ?_, .inr ⟨_, _, rfl, by simp⟩⟩
    · obtain ⟨b, off, spot⟩ := x'
      obtain ⟨ai, ci, g1, _⟩ := (hB 0 h0).1
      have hspot : spot = none := by simpa [Addr.add] using World.cell?_spot g1
      subst hspot
      have ea : ∀ k, (⟨b, off, none⟩ : Addr).add k = ⟨b, off + k, none⟩ := fun k => by unfold Addr.add; split <;> simp_all
      refine ⟨b, off, rfl, fun i l hi => ?_⟩
      have hin : i < n := by
        have := (List.getElem?_eq_some_iff.1 hi).1
        simpa using this
      rw [List.getElem?_map, List.getElem?_range hin, Option.map_some, Option.some.injEq] at hi
      subst hi
      obtain ⟨ai, ci, g1, g2⟩ := (hB i hin).1
      rw [ea] at g1
      exact ⟨ai, ci, g1, g2⟩
    · intro l hl
      obtain ⟨i, hi, rfl⟩ := List.mem_map.1 hl
      exact (hB i (List.mem_range.1 hi)).2
end

end Go.Proofs.YtofaegcljcpceagGreatDoor.BatchRows
