/-
  What the walks are told of a slice of pairs: three cells each (key, value, gone); and how an argument of that type is read.
-/
import Derived.Test.YtekahahaknamfaiDoorWides
import Derived.Test.YtekahahaknamfaiDoorStores
import Derived.Deep.SlicePairs
namespace Go.Proofs.YtekahahaknamfaiDoor.PairRows
open Go.RowKit
open Wides (Wide)
open Stores (Pair)

def cells : List Pair → List Value
  | [] => []
  | p :: l => .string p.key :: .string p.val :: .bool p.gone :: cells l
theorem cells_length : ∀ l : List Pair, (cells l).length = l.length * 3
  | [] => rfl
  | p :: l => by simp [cells, cells_length l]; omega
theorem cells_append : ∀ a b : List Pair, cells (a ++ b) = cells a ++ cells b
  | [], b => rfl
  | p :: a, b => by simp [cells, cells_append a b]
theorem cells_at : ∀ (l : List Pair) (j : Nat) (h : j < l.length), (cells l)[j * 3]? = some (.string (l[j]).key) ∧ (cells l)[j * 3 + 1]? = some (.string (l[j]).val) ∧ (cells l)[j * 3 + 2]? = some (.bool (l[j]).gone)
  | p :: l, 0, _ => ⟨rfl, rfl, rfl⟩
  | p :: l, j + 1, h => by
    have e : (j + 1) * 3 = j * 3 + 3 := by omega
    rw [e]
    exact cells_at l j (by simpa using h)
/-- the three cells of one -/
theorem at_three {w : World} {b off n cap : Nat} {l : List Pair} (h : Wide 3 w (some ⟨b, off, none⟩) n cap (cells l)) (j : Nat) (hj : j < l.length) :
    w.cell? ⟨b, off + j * 3, none⟩ = some (.string (l[j]).key) ∧ w.cell? ⟨b, off + j * 3 + 1, none⟩ = some (.string (l[j]).val) ∧ w.cell? ⟨b, off + j * 3 + 2, none⟩ = some (.bool (l[j]).gone) := by
  have h1 := h.1
  rw [cells_length] at h1
  obtain ⟨b', off', ha, hc⟩ := h.2.2 (by omega)
  obtain ⟨rfl, rfl⟩ : b = b' ∧ off = off' := by simpa using ha
  obtain ⟨c0, c1, c2⟩ := cells_at l j hj
  rw [Nat.add_assoc, Nat.add_assoc]
  exact ⟨hc _ _ c0, hc _ _ c1, hc _ _ c2⟩
theorem len_of {w : World} {a : Option Addr} {n cap : Nat} {l : List Pair} (h : Wide 3 w a n cap (cells l)) : l.length = n := by
  have := h.1
  rw [cells_length] at this
  omega

/-- from each element's three cells -/
theorem wide_of {w : World} {a : Addr} {n cap : Nat} (q : Nat → Pair) (hc : n ≤ cap) (h : ∀ i, i < n → w.cell? (a.add (i * 3)) = some (.string (q i).key) ∧ w.cell? (a.add (i * 3 + 1)) = some (.string (q i).val) ∧ w.cell? (a.add (i * 3 + 2)) = some (.bool (q i).gone)) :
    Wide 3 w (some a) n cap (cells ((List.range n).map q)) := by
  refine ⟨by rw [cells_length]; simp, hc, fun h0 => ?_⟩
  obtain ⟨b, off, spot⟩ := a
  have hspot : spot = none := by simpa [Addr.add] using World.cell?_spot (h 0 h0).1
  subst hspot
  refine ⟨b, off, rfl, fun j u hj => ?_⟩
  have ea : ∀ k, (⟨b, off, none⟩ : Addr).add k = ⟨b, off + k, none⟩ := fun k => by unfold Addr.add; split <;> simp_all
  have hl : j < n * 3 := by
    have := (List.getElem?_eq_some_iff.1 hj).1
    rw [cells_length] at this
    simpa using this
  have hi : j / 3 < n := by omega
  obtain ⟨c0, c1, c2⟩ := cells_at ((List.range n).map q) (j / 3) (by simpa using hi)
  obtain ⟨k0, k1, k2⟩ := h (j / 3) hi
  rw [ea] at k0 k1 k2
  simp only [List.getElem_map, List.getElem_range] at c0 c1 c2
  have hm : j % 3 = 0 ∨ j % 3 = 1 ∨ j % 3 = 2 := by omega
  rcases hm with hm | hm | hm
  · have e : j / 3 * 3 = j := by omega
    rw [e] at c0 k0
    rw [c0] at hj
    rw [k0]; exact hj
  · have e : j / 3 * 3 + 1 = j := by omega
    rw [e] at c1 k1
    rw [c1] at hj
    rw [k1]; exact hj
  · have e : j / 3 * 3 + 2 = j := by omega
    rw [e] at c2 k2
    rw [c2] at hj
    rw [k2]; exact hj

section
variable {H : Type} {enc : TypeId × Value → H} {w : World} {base : Nat} {spare : Nat → Bool} {held : Bool}
/-- what the reading has for one -/
def datum (p : Pair) : DataW H := .agg [.lit (.string p.key.data.toList), .lit (.string p.val.data.toList), .lit (.bool p.gone)]
/-- an argument, as the reading opens it -/
theorem open_pairs_data {P : Program} {t e : TypeId} {f0 f1 f2 : Field} {fuel : Nat} {a : Option Addr} {n cap : Nat} {x : DataW H × List MemPlace} (ht : P.underlying t = some (.slice e)) (he : P.underlying e = some (.struct #[f0, f1, f2]))
    (ce : P.cellsOf e = 3) (o0 : f0.offset = 0) (o1 : f1.offset = 1) (o2 : f2.offset = 2) (c0 : P.cellsOf f0.type = 1) (c1 : P.cellsOf f1.type = 1) (c2 : P.cellsOf f2.type = 1)
    (u0 : P.underlying f0.type = some .string) (u1 : P.underlying f1.type = some .string) (u2 : P.underlying f2.type = some .bool)
    (h : DataW.trod enc P w base spare held fuel t [.slice a n cap] = some x) :
    ∃ l : List Pair, Wide 3 w a n cap (cells l) ∧ (∀ e ∈ l, e.key.size ≤ maxLen ∧ e.val.size ≤ maxLen) ∧ (l = [] ∨ ∃ sp, x.1 = .slice (l.map datum) sp) := by
  rcases Deep.open_slice ht h with ⟨hcs, _⟩ | ⟨x', len, cap', m, k, D, Pl, hcs, _, hl, hm, hmm, rfl, hx⟩
  · simp at hcs
    obtain ⟨rfl, rfl, rfl⟩ := hcs
    refine ⟨[], Wide.nil _ _ _ _, ?_, .inl rfl⟩
    intro e he
    cases he
  · simp at hcs
    obtain ⟨rfl, rfl, rfl⟩ := hcs
    have hlm : n ≤ m := by rw [hmm]; split <;> omega
    have each : ∀ i, i < n → ∃ q : Pair, (w.cell? (x'.add (i * 3)) = some (.string q.key) ∧ w.cell? (x'.add (i * 3 + 1)) = some (.string q.val) ∧ w.cell? (x'.add (i * 3 + 2)) = some (.bool q.gone)) ∧ (q.key.size ≤ maxLen ∧ q.val.size ≤ maxLen) ∧ D i = datum q := by
      intro i hi
      obtain ⟨cs', h1, h2⟩ := hx i (by omega)
      rw [ce] at h1
      obtain ⟨_, hlen, hcell⟩ := World.cells?_some h1
      obtain ⟨xs, k', hk, hxy, _, hxl, hf⟩ := DataW.trod_struct he h2
      match xs, hxl, cs', hlen with
      | [y0, y1, y2], _, [v0, v1, v2], _ =>
        have g0 := hf 0 f0 rfl
        have g1 := hf 1 f1 rfl
        have g2 := hf 2 f2 rfl
        simp [o0, o1, o2, c0, c1, c2] at g0 g1 g2
        have e0 := hcell 0 (by omega)
        have e1 := hcell 1 (by omega)
        have e2 := hcell 2 (by omega)
        rw [Deep.add_add] at e0 e1 e2
        obtain ⟨s0, q0, d0, w0⟩ := DataW.trod_string u0 g0
        obtain ⟨s1, q1, d1, w1⟩ := DataW.trod_string u1 g1
        obtain ⟨b2, q2, d2⟩ := DataW.trod_bool u2 g2
        simp only [List.cons.injEq, and_true] at q0 q1 q2
        subst q0
        subst q1
        subst q2
        exact ⟨⟨s0, s1, b2⟩, ⟨by simpa using e0, by simpa using e1, by simpa using e2⟩, ⟨w0, w1⟩, by simp only [Prod.mk.injEq] at hxy; rw [hxy.1, d0, d1, d2]; rfl⟩
    obtain ⟨q, hq⟩ := Deep.choose_lt each
    refine ⟨(List.range n).map q, wide_of q hl (fun i hi => (hq i hi).1), ?_, .inr ⟨(List.range (m - n)).map fun j => D (n + j), by show DataW.slice _ _ = _; rw [List.map_map]; congr 1; exact List.map_congr_left fun i hi => (hq i (List.mem_range.1 hi)).2.2⟩⟩
    intro e he
    obtain ⟨i, hi, rfl⟩ := List.mem_map.1 he
    exact (hq i (List.mem_range.1 hi)).2.1
/-- an argument, as the reading opens it -/
theorem open_pairs {P : Program} {t e : TypeId} {f0 f1 f2 : Field} {fuel : Nat} {a : Option Addr} {n cap : Nat} {x : DataW H × List MemPlace} (ht : P.underlying t = some (.slice e)) (he : P.underlying e = some (.struct #[f0, f1, f2]))
    (ce : P.cellsOf e = 3) (o0 : f0.offset = 0) (o1 : f1.offset = 1) (o2 : f2.offset = 2) (c0 : P.cellsOf f0.type = 1) (c1 : P.cellsOf f1.type = 1) (c2 : P.cellsOf f2.type = 1)
    (u0 : P.underlying f0.type = some .string) (u1 : P.underlying f1.type = some .string) (u2 : P.underlying f2.type = some .bool)
    (h : DataW.trod enc P w base spare held fuel t [.slice a n cap] = some x) :
    ∃ l : List Pair, Wide 3 w a n cap (cells l) ∧ (∀ e ∈ l, e.key.size ≤ maxLen ∧ e.val.size ≤ maxLen) ∧ (l = [] ∨ ∃ ls sp, x.1 = .slice ls sp ∧ ls.length = l.length) := by
  obtain ⟨l, h1, h2, h3⟩ := open_pairs_data ht he ce o0 o1 o2 c0 c1 c2 u0 u1 u2 h
  refine ⟨l, h1, h2, h3.imp id ?_⟩
  rintro ⟨sp, hx⟩
  exact ⟨_, sp, hx, by simp⟩
end

end Go.Proofs.YtekahahaknamfaiDoor.PairRows
