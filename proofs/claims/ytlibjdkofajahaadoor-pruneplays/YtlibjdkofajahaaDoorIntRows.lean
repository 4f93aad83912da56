/-
  Lists of ints, and lists of lists of ints, as the walks and the reading have them.
-/
import Derived.Test.YtlibjdkofajahaaDoorWides
import Derived.Deep.SlicePairs
import Derived.SizedLaws
namespace Go.Proofs.YtlibjdkofajahaaDoor.IntRows
open Go.RowKit
open Lists (Row ints)

section
variable {H : Type} {enc : TypeId × Value → H} {w : World} {base : Nat} {spare : Nat → Bool} {held : Bool}
/-- a list of ints, as the reading opens it -/
theorem open_row {P : Program} {t e : TypeId} {fuel : Nat} {a : Option Addr} {n cap : Nat} {x : DataW H × List MemPlace} (ht : P.underlying t = some (.slice e)) (he : P.underlying e = some (.int .i64)) (ce : P.cellsOf e = 1)
    (h : DataW.trod enc P w base spare held fuel t [.slice a n cap] = some x) :
    ∃ l : List Int, Row w a n cap (ints l) ∧ (∀ z ∈ l, (Lit.int .i64 z).wf = true) ∧ (l = [] ∨ ∃ ls sp, x.1 = .slice ls sp ∧ ls.length = l.length) := by
  rcases Deep.open_slice1 ht ce h with ⟨hcs, _⟩ | ⟨x', len, cap', m, k, V, D, Pl, hcs, _, hl, hm, hmm, rfl, hx⟩
  · simp at hcs
    obtain ⟨rfl, rfl, rfl⟩ := hcs
    refine ⟨[], Row.nil _ _ _, ?_, .inl rfl⟩
    intro z hz
    cases hz
  · simp at hcs
    obtain ⟨rfl, rfl, rfl⟩ := hcs
    have hlm : n ≤ m := by rw [hmm]; split <;> omega
    have each : ∀ i, i < n → ∃ z : Int, w.cell? (x'.add i) = some (.int .i64 z) ∧ (Lit.int .i64 z).wf = true := by
      intro i hi
      obtain ⟨h1, h2⟩ := hx i (by omega)
      obtain ⟨z, q0, _, w0⟩ := DataW.trod_int he h2
      simp only [List.cons.injEq, and_true] at q0
      rw [q0] at h1
      exact ⟨z, h1, w0⟩
    obtain ⟨Z, hZ⟩ := Deep.choose_lt each
    refine ⟨(List.range n).map Z, ?_, ?_, .inr ⟨_, _, rfl, by simp⟩⟩
    · refine ⟨by simp [ints], hl, fun h0 => ?_⟩
      obtain ⟨b, off, spot⟩ := x'
      have hspot : spot = none := by simpa [Addr.add] using World.cell?_spot (hZ 0 h0).1
      subst hspot
      have ea : ∀ k, (⟨b, off, none⟩ : Addr).add k = ⟨b, off + k, none⟩ := fun k => by unfold Addr.add; split <;> simp_all
      refine ⟨b, off, rfl, fun j u hj => ?_⟩
      have hjn : j < n := by
        have := (List.getElem?_eq_some_iff.1 hj).1
        simpa [ints] using this
      have h1 := (hZ j hjn).1
      rw [ea] at h1
      rw [h1]
      simp only [ints, List.map_map, List.getElem?_map, List.getElem?_range hjn, Option.map_some, Function.comp] at hj
      exact hj
    · intro z hz
      obtain ⟨i, hi, rfl⟩ := List.mem_map.1 hz
      exact (hZ i (List.mem_range.1 hi)).2

/-- the list at a, of n lists of ints -/
def Rowss (w : World) (a : Option Addr) (n cap : Nat) (ls : List (List Int)) : Prop :=
  ls.length = n ∧ n ≤ cap ∧ (0 < n → ∃ b off, a = some ⟨b, off, none⟩ ∧ ∀ i l, ls[i]? = some l → ∃ ai ci, w.cell? ⟨b, off + i, none⟩ = some (.slice ai l.length ci) ∧ Row w ai l.length ci (ints l))
theorem Rowss.below {w w' : World} {a : Option Addr} {n cap : Nat} {ls : List (List Int)} (h : Rowss w a n cap ls) (b : Below w.heap.size w w') : Rowss w' a n cap ls := by
  obtain ⟨h1, h2, h3⟩ := h
  refine ⟨h1, h2, fun h0 => ?_⟩
  obtain ⟨bk, off, e, hc⟩ := h3 h0
  refine ⟨bk, off, e, fun i l hi => ?_⟩
  obtain ⟨ai, ci, c1, c2⟩ := hc i l hi
  exact ⟨ai, ci, Lists.cell_below b c1, c2.below b⟩
theorem row_len {w : World} {a : Option Addr} {n cap : Nat} {l : List Int} (h : Row w a n cap (ints l)) : l.length = n := by rw [← h.1, Lists.ints_length]

/-- what is met in reading an element of a list is bounded, too -/
theorem weights_all {P : Program} {e : TypeId} : ∀ {ds : List (DataW H)} {d : DataW H}, d ∈ ds → ∀ k ∈ d.weights P e, k ∈ DataW.weightsAll P e ds
  | d0 :: ds, d, hd, k, hk => by
    simp only [DataW.weightsAll, List.mem_append]
    rcases List.mem_cons.1 hd with rfl | hd
    · exact .inl hk
    · exact .inr (weights_all hd k hk)
theorem weights_slice {P : Program} {t e : TypeId} {ls sp : List (DataW H)} {B : Nat} (ht : P.underlying t = some (.slice e)) (h : ∀ k ∈ (DataW.slice ls sp).weights P t, k ≤ B) :
    (ls.length + sp.length) * P.bytesOf e ≤ B ∧ ∀ d ∈ ls, ∀ k ∈ d.weights P e, k ≤ B := by
  have e1 : (DataW.slice ls sp).weights P t = (ls.length + sp.length) * P.bytesOf e :: (DataW.weightsAll P e ls ++ DataW.weightsAll P e sp) := by simp [DataW.weights, ht]
  rw [e1] at h
  exact ⟨h _ (List.mem_cons_self ..), fun d hd k hk => h k (List.mem_cons_of_mem _ (List.mem_append_left _ (weights_all hd k hk)))⟩
theorem weights_struct {P : Program} {t : TypeId} {fs : Array Field} {ds : List (DataW H)} {B : Nat} (ht : P.underlying t = some (.struct fs)) (h : ∀ k ∈ (DataW.agg ds).weights P t, k ≤ B) {j : Nat} {f : Field} {d : DataW H} (hf : fs[j]? = some f) (hd : ds[j]? = some d) :
    ∀ k ∈ d.weights P f.type, k ≤ B := by
  have e1 : (DataW.agg ds).weights P t = DataW.weightsEach P (fs.toList.map (·.type)) ds := by simp [DataW.weights, ht]
  rw [e1] at h
  exact fun k hk => h k (DataW.weights_mem_each (j := j) (by simp [hf]) hd k hk)

theorem open_rows {P : Program} {t e q : TypeId} {fuel : Nat} {a : Option Addr} {n cap : Nat} {x : DataW H × List MemPlace} (ht : P.underlying t = some (.slice e)) (hs : P.underlying e = some (.slice q)) (hq : P.underlying q = some (.int .i64))
    (c : P.cellsOf e = 1) (cq : P.cellsOf q = 1) (h : DataW.trod enc P w base spare held fuel t [.slice a n cap] = some x) :
    ∃ ls : List (List Int), Rowss w a n cap ls ∧ (∀ l ∈ ls, ∀ z ∈ l, (Lit.int .i64 z).wf = true) ∧ (ls = [] ∨ ∃ es sp, x.1 = .slice es sp ∧ es.length = ls.length) := by
  rcases Deep.open_slice1 ht c h with ⟨hcs, _⟩ | ⟨x', len, cap', m, k, V, D, Pl, hcs, _, hl, hm, hmm, rfl, hx⟩
  · simp at hcs
    obtain ⟨rfl, rfl, rfl⟩ := hcs
    refine ⟨[], ⟨rfl, Nat.zero_le _, fun h => by omega⟩, ?_, .inl rfl⟩
    intro l hl
    cases hl
  · simp at hcs
    obtain ⟨rfl, rfl, rfl⟩ := hcs
    have hlm : n ≤ m := by rw [hmm]; split <;> omega
    have each : ∀ i, i < n → ∃ l : List Int, (∃ ai ci, w.cell? (x'.add i) = some (.slice ai l.length ci) ∧ Row w ai l.length ci (ints l)) ∧ ∀ z ∈ l, (Lit.int .i64 z).wf = true := by
      intro i hi
      obtain ⟨h1, h2⟩ := hx i (by omega)
      obtain ⟨ai, li, ci, hv⟩ : ∃ ai li ci, V i = .slice ai li ci := by
        rcases Deep.open_slice hs h2 with ⟨q1, _⟩ | ⟨y, ly, cy, _, _, _, _, q1, _⟩
        · simp at q1
          exact ⟨none, 0, 0, q1⟩
        · simp at q1
          exact ⟨_, _, _, q1⟩
      rw [hv] at h1 h2
      obtain ⟨l, g1, g2, _⟩ := open_row hs hq cq h2
      have hl2 := row_len g1
      rw [← hl2] at h1 g1
      exact ⟨l, ⟨ai, ci, h1, g1⟩, g2⟩
    obtain ⟨B, hB⟩ := Deep.choose_lt each
    refine ⟨(List.range n).map B, ⟨by simp, hl, fun h0 => ?_⟩, ?_, .inr ⟨_, _, rfl, by simp⟩⟩
    · obtain ⟨b, off, spot⟩ := x'
      obtain ⟨ai, ci, g1, _⟩ := (hB 0 h0).1
      have hspot : spot = none := by simpa [Addr.add] using World.cell?_spot g1
      subst hspot
      have ea : ∀ k, (⟨b, off, none⟩ : Addr).add k = ⟨b, off + k, none⟩ := fun k => by unfold Addr.add; split <;> simp_all
      refine ⟨b, off, rfl, fun i l hi => ?_⟩
      have hin : i < n := by
        have := (List.getElem?_eq_some_iff.1 hi).1
        simpa using this
      rw [List.getElem?_map, List.getElem?_range hin, Option.map_some, Option.some.injEq] at hi
      subst hi
      obtain ⟨ai, ci, g1, g2⟩ := (hB i hin).1
      rw [ea] at g1
      exact ⟨ai, ci, g1, g2⟩
    · intro l hl
      obtain ⟨i, hi, rfl⟩ := List.mem_map.1 hl
      exact (hB i (List.mem_range.1 hi)).2
end

end Go.Proofs.YtlibjdkofajahaaDoor.IntRows
