/-
  What the walks are told of a slice of heads: four cells each; and how an argument of that type is read.
-/
import Derived.Test.YthaibjidfgmdmahGreatDoorListRows
import Derived.Test.YthaibjidfgmdmahGreatDoorMirPlain
import Derived.Deep.SlicePairs
namespace Go.Proofs.YthaibjidfgmdmahGreatDoor.HeadList
open Go.RowKit
open Wides (Wide)
open Heads (Head)

def cells : List Head → List Value
  | [] => []
  | h :: l => .int .i64 h.size :: .int .i64 h.root :: .int .i64 h.time :: .int .i64 h.sign :: cells l
theorem cells_length : ∀ l : List Head, (cells l).length = l.length * 4
  | [] => rfl
  | h :: l => by simp [cells, cells_length l]; omega
theorem cells_append : ∀ a b : List Head, cells (a ++ b) = cells a ++ cells b
  | [], b => rfl
  | h :: a, b => by simp [cells, cells_append a b]
theorem cells_at : ∀ (l : List Head) (j : Nat) (h : j < l.length), (cells l)[j * 4]? = some (.int .i64 (l[j]).size) ∧ (cells l)[j * 4 + 1]? = some (.int .i64 (l[j]).root) ∧ (cells l)[j * 4 + 2]? = some (.int .i64 (l[j]).time) ∧ (cells l)[j * 4 + 3]? = some (.int .i64 (l[j]).sign)
  | x :: l, 0, _ => ⟨rfl, rfl, rfl, rfl⟩
  | x :: l, j + 1, h => by
    have q : (j + 1) * 4 = j * 4 + 4 := by omega
    rw [q]
    exact cells_at l j (by simpa using h)
/-- the four cells of one -/
theorem at_four {w : World} {b off n cap : Nat} {l : List Head} (h : Wide 4 w (some ⟨b, off, none⟩) n cap (cells l)) (j : Nat) (hj : j < l.length) :
    w.cell? ⟨b, off + j * 4, none⟩ = some (.int .i64 (l[j]).size) ∧ w.cell? ⟨b, off + j * 4 + 1, none⟩ = some (.int .i64 (l[j]).root) ∧ w.cell? ⟨b, off + j * 4 + 2, none⟩ = some (.int .i64 (l[j]).time) ∧ w.cell? ⟨b, off + j * 4 + 3, none⟩ = some (.int .i64 (l[j]).sign) := by
  have h1 := h.1
  rw [cells_length] at h1
  obtain ⟨b', off', ha, hc⟩ := h.2.2 (by omega)
  obtain ⟨rfl, rfl⟩ : b = b' ∧ off = off' := by simpa using ha
  obtain ⟨c0, c1, c2, c3⟩ := cells_at l j hj
  rw [Nat.add_assoc, Nat.add_assoc, Nat.add_assoc]
  exact ⟨hc _ _ c0, hc _ _ c1, hc _ _ c2, hc _ _ c3⟩
theorem len_of {w : World} {a : Option Addr} {n cap : Nat} {l : List Head} (h : Wide 4 w a n cap (cells l)) : l.length = n := by
  have := h.1
  rw [cells_length] at this
  omega
/-- from each element's four cells -/
theorem wide_of {w : World} {a : Addr} {n cap : Nat} (q : Nat → Head) (hc : n ≤ cap) (h : ∀ i, i < n → w.cell? (a.add (i * 4)) = some (.int .i64 (q i).size) ∧ w.cell? (a.add (i * 4 + 1)) = some (.int .i64 (q i).root) ∧ w.cell? (a.add (i * 4 + 2)) = some (.int .i64 (q i).time) ∧ w.cell? (a.add (i * 4 + 3)) = some (.int .i64 (q i).sign)) :
    Wide 4 w (some a) n cap (cells ((List.range n).map q)) := by
  refine ⟨by rw [cells_length]; simp, hc, fun h0 => ?_⟩
  obtain ⟨b, off, spot⟩ := a
  have hspot : spot = none := by simpa [Addr.add] using World.cell?_spot (h 0 h0).1
  subst hspot
  refine ⟨b, off, rfl, fun j u hj => ?_⟩
  have ea : ∀ k, (⟨b, off, none⟩ : Addr).add k = ⟨b, off + k, none⟩ := fun k => by unfold Addr.add; split <;> simp_all
  have hl : j < n * 4 := by
    have := (List.getElem?_eq_some_iff.1 hj).1
    rw [cells_length] at this
    simpa using this
  have hi : j / 4 < n := by omega
  obtain ⟨c0, c1, c2, c3⟩ := cells_at ((List.range n).map q) (j / 4) (by simpa using hi)
  obtain ⟨k0, k1, k2, k3⟩ := h (j / 4) hi
  rw [ea] at k0 k1 k2 k3
  simp only [List.getElem_map, List.getElem_range] at c0 c1 c2 c3
  have hm : j % 4 = 0 ∨ j % 4 = 1 ∨ j % 4 = 2 ∨ j % 4 = 3 := by omega
  rcases hm with hm | hm | hm | hm
  · have e : j / 4 * 4 = j := by omega
    rw [e] at c0 k0
    rw [c0] at hj
    rw [k0]; exact hj
  · have e : j / 4 * 4 + 1 = j := by omega
    rw [e] at c1 k1
    rw [c1] at hj
    rw [k1]; exact hj
  · have e : j / 4 * 4 + 2 = j := by omega
    rw [e] at c2 k2
    rw [c2] at hj
    rw [k2]; exact hj
  · have e : j / 4 * 4 + 3 = j := by omega
    rw [e] at c3 k3
    rw [c3] at hj
    rw [k3]; exact hj

section
variable {H : Type} {enc : TypeId × Value → H} {w : World} {base : Nat} {spare : Nat → Bool} {held : Bool}
instance : Inhabited Head := ⟨Heads.zero⟩
def Fine (h : Head) : Prop := (Lit.int .i64 h.size).wf = true ∧ (Lit.int .i64 h.root).wf = true ∧ (Lit.int .i64 h.time).wf = true ∧ (Lit.int .i64 h.sign).wf = true
/-- an argument, as the reading opens it -/
theorem open_heads {P : Program} {t e : TypeId} {f0 f1 f2 f3 : Field} {fuel : Nat} {a : Option Addr} {n cap : Nat} {x : DataW H × List MemPlace} (ht : P.underlying t = some (.slice e)) (he : P.underlying e = some (.struct #[f0, f1, f2, f3]))
    (ce : P.cellsOf e = 4) (o0 : f0.offset = 0) (o1 : f1.offset = 1) (o2 : f2.offset = 2) (o3 : f3.offset = 3) (c0 : P.cellsOf f0.type = 1) (c1 : P.cellsOf f1.type = 1) (c2 : P.cellsOf f2.type = 1) (c3 : P.cellsOf f3.type = 1)
    (u0 : P.underlying f0.type = some (.int .i64)) (u1 : P.underlying f1.type = some (.int .i64)) (u2 : P.underlying f2.type = some (.int .i64)) (u3 : P.underlying f3.type = some (.int .i64))
    (h : DataW.trod enc P w base spare held fuel t [.slice a n cap] = some x) :
    ∃ l : List Head, Wide 4 w a n cap (cells l) ∧ (∀ e ∈ l, Fine e) ∧ (l = [] ∨ ∃ ls sp, x.1 = .slice ls sp ∧ ls.length = l.length) := by
  rcases Deep.open_slice ht h with ⟨hcs, _⟩ | ⟨x', len, cap', m, k, D, Pl, hcs, _, hl, hm, hmm, rfl, hx⟩
  · simp at hcs
    obtain ⟨rfl, rfl, rfl⟩ := hcs
    refine ⟨[], Wide.nil _ _ _ _, ?_, .inl rfl⟩
    intro e he
    cases he
  · simp at hcs
    obtain ⟨rfl, rfl, rfl⟩ := hcs
    have hlm : n ≤ m := by rw [hmm]; split <;> omega
    have each : ∀ i, i < n → ∃ q : Head, (w.cell? (x'.add (i * 4)) = some (.int .i64 q.size) ∧ w.cell? (x'.add (i * 4 + 1)) = some (.int .i64 q.root) ∧ w.cell? (x'.add (i * 4 + 2)) = some (.int .i64 q.time) ∧ w.cell? (x'.add (i * 4 + 3)) = some (.int .i64 q.sign)) ∧ Fine q := by
      intro i hi
      obtain ⟨cs', h1, h2⟩ := hx i (by omega)
      rw [ce] at h1
      obtain ⟨_, hlen, hcell⟩ := World.cells?_some h1
      obtain ⟨xs, k', hk, hxy, _, hxl, hf⟩ := DataW.trod_struct he h2
      match xs, hxl, cs', hlen with
      | [y0, y1, y2, y3], _, [v0, v1, v2, v3], _ =>
        have g0 := hf 0 f0 rfl
        have g1 := hf 1 f1 rfl
        have g2 := hf 2 f2 rfl
        have g3 := hf 3 f3 rfl
        simp [o0, o1, o2, o3, c0, c1, c2, c3] at g0 g1 g2 g3
        have e0 := hcell 0 (by omega)
        have e1 := hcell 1 (by omega)
        have e2 := hcell 2 (by omega)
        have e3 := hcell 3 (by omega)
        rw [Deep.add_add] at e0 e1 e2 e3
        obtain ⟨s0, q0, d0, w0⟩ := DataW.trod_int u0 g0
        obtain ⟨s1, q1, d1, w1⟩ := DataW.trod_int u1 g1
        obtain ⟨s2, q2, d2, w2⟩ := DataW.trod_int u2 g2
        obtain ⟨s3, q3, d3, w3⟩ := DataW.trod_int u3 g3
        simp only [List.cons.injEq, and_true] at q0 q1 q2 q3
        subst q0
        subst q1
        subst q2
        subst q3
        exact ⟨⟨s0, s1, s2, s3⟩, ⟨by simpa using e0, by simpa using e1, by simpa using e2, by simpa using e3⟩, ⟨w0, w1, w2, w3⟩⟩
    obtain ⟨q, hq⟩ := Deep.choose_lt each
    refine ⟨(List.range n).map q, wide_of q hl (fun i hi => (hq i hi).1), ?_, .inr ⟨(List.range n).map D, (List.range (m - n)).map fun j => D (n + j), rfl, by simp⟩⟩
    intro e he
    obtain ⟨i, hi, rfl⟩ := List.mem_map.1 he
    exact (hq i (List.mem_range.1 hi)).2
end

end Go.Proofs.YthaibjidfgmdmahGreatDoor.HeadList
