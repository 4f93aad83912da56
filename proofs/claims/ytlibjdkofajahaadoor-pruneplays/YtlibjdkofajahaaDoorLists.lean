/-
  What the walks are told of a slice whose elements take one cell each: how many there are, and what each is.
-/
import Derived.WalkKit
import Derived.Below
import Derived.ChangeSlices
import Derived.SliceStrings
import Derived.Deep.OwnRows
namespace Go.Proofs.YtlibjdkofajahaaDoor.Lists
open Go.RowKit

/-- the slice at a, of n elements, holds xs -/
def Row (w : World) (a : Option Addr) (n cap : Nat) (xs : List Value) : Prop :=
  xs.length = n ∧ n ≤ cap ∧ (0 < n → ∃ b off, a = some ⟨b, off, none⟩ ∧ ∀ j u, xs[j]? = some u → w.cell? ⟨b, off + j, none⟩ = some u)

def ints (l : List Int) : List Value := l.map (Value.int .i64)
def strs (l : List ByteArray) : List Value := l.map Value.string
theorem ints_length (l : List Int) : (ints l).length = l.length := by simp [ints]
theorem strs_length (l : List ByteArray) : (strs l).length = l.length := by simp [strs]
theorem ints_take (l : List Int) (k : Nat) : ints (l.take k) = (ints l).take k := by simp [ints]
theorem ints_drop (l : List Int) (k : Nat) : ints (l.drop k) = (ints l).drop k := by simp [ints]
theorem strs_take (l : List ByteArray) (k : Nat) : strs (l.take k) = (strs l).take k := by simp [strs]
theorem strs_drop (l : List ByteArray) (k : Nat) : strs (l.drop k) = (strs l).drop k := by simp [strs]
theorem ints_at {l : List Int} {j : Nat} (h : j < l.length) : (ints l)[j]? = some (.int .i64 (l.getD j 0)) := by simp [ints, h]
theorem strs_at {l : List ByteArray} {j : Nat} (h : j < l.length) : (strs l)[j]? = some (.string (l.getD j ByteArray.empty)) := by simp [strs, h]

theorem Row.nil (w : World) (a : Option Addr) (cap : Nat) : Row w a 0 cap [] := ⟨rfl, Nat.zero_le _, fun h => by omega⟩

theorem block_lt {w : World} {p : Addr} {u : Value} (h : w.cell? p = some u) : p.block < w.heap.size := by
  rcases Nat.lt_or_ge p.block w.heap.size with g | g
  · exact g
  · simp [World.cell?, Array.getElem?_eq_none g] at h

theorem cell_below {w w' : World} (b : Below w.heap.size w w') {p : Addr} {u : Value} (h : w.cell? p = some u) : w'.cell? p = some u := by
  rw [b.cell (block_lt h)]; exact h

theorem Row.below {w w' : World} {a : Option Addr} {n cap : Nat} {xs : List Value} (h : Row w a n cap xs) (b : Below w.heap.size w w') : Row w' a n cap xs := by
  refine ⟨h.1, h.2.1, fun h0 => ?_⟩
  obtain ⟨k, off, ha, hc⟩ := h.2.2 h0
  exact ⟨k, off, ha, fun j u hj => cell_below b (hc j u hj)⟩

theorem Row.at {w : World} {b off n cap : Nat} {xs : List Value} (h : Row w (some ⟨b, off, none⟩) n cap xs) (j : Nat) (u : Value) (hj : xs[j]? = some u) : w.cell? ⟨b, off + j, none⟩ = some u := by
  have hl : j < n := by
    rw [← h.1]; exact (List.getElem?_eq_some_iff.1 hj).1
  obtain ⟨k, o, ha, hc⟩ := h.2.2 (by omega)
  obtain ⟨rfl, rfl⟩ : b = k ∧ off = o := by simpa using ha
  exact hc j u hj

/-- the first k -/
theorem Row.take {w : World} {a : Option Addr} {n cap : Nat} {xs : List Value} (h : Row w a n cap xs) (k : Nat) (hk : k ≤ n) : Row w a k cap (xs.take k) := by
  have h1 := h.1
  have h2 := h.2.1
  refine ⟨by simp; omega, by omega, fun h0 => ?_⟩
  obtain ⟨b, off, ha, hc⟩ := h.2.2 (by omega)
  exact ⟨b, off, ha, fun j u hj => hc j u (by rw [List.getElem?_take] at hj; split at hj; exact hj; cases hj)⟩

/-- those from k on -/
theorem Row.drop {w : World} {b off n cap : Nat} {xs : List Value} (h : Row w (some ⟨b, off, none⟩) n cap xs) (k : Nat) (hk : k ≤ n) : Row w (some ⟨b, off + k, none⟩) (n - k) (cap - k) (xs.drop k) := by
  have h1 := h.1
  have h2 := h.2.1
  refine ⟨by simp; omega, by omega, fun h0 => ⟨b, off + k, rfl, fun j u hj => ?_⟩⟩
  rw [List.getElem?_drop] at hj
  have := h.at (k + j) u hj
  rw [Nat.add_assoc]
  exact this

/-- those from lo to below hi, as the slice expression spells them -/
theorem Row.cut {w : World} {a : Option Addr} {n cap : Nat} {xs : List Value} (h : Row w a n cap xs) (lo hi : Nat) (h0 : lo ≤ hi) (h1 : hi ≤ n) :
    Row w (if cap = lo then a else a.map (·.add lo)) (hi - lo) (cap - lo) ((xs.take hi).drop lo) := by
  have e1 := h.1
  have e2 := h.2.1
  refine ⟨by simp; omega, by omega, fun hn => ?_⟩
  obtain ⟨b, off, rfl, hc⟩ := h.2.2 (by omega)
  refine ⟨b, off + lo, ?_, fun j u hj => ?_⟩
  · rw [if_neg (by omega)]
    by_cases hz : lo = 0
    · subst hz; rfl
    · simp [Addr.add, hz]
  · rw [List.getElem?_drop, List.getElem?_take] at hj
    split at hj
    · rw [Nat.add_assoc]; exact hc _ _ hj
    · cases hj

/-- what the call itself owns -/
theorem Row.of_owns {w : World} {base : Nat} {e : TypeId} {a : Option Addr} {n m cap : Nat} {xs : List Value} (h : w.ownsRow base e 1 (.slice a m cap) n xs) : m = n ∧ Row w a m cap xs := by
  obtain ⟨hl, h'⟩ := h
  rw [Nat.mul_one] at hl
  rcases h' with ⟨hv, rfl⟩ | ⟨g, cap', cur, hv, _, hh, hn, hm, hs, ht⟩
  · obtain ⟨rfl, rfl, rfl⟩ : a = none ∧ m = 0 ∧ cap = 0 := by simpa using hv
    exact ⟨rfl, hl, by omega, fun h => by omega⟩
  · obtain ⟨rfl, rfl, rfl⟩ : a = some ⟨g, 0, none⟩ ∧ m = n ∧ cap = cap' := by simpa using hv
    refine ⟨rfl, hl, hn, fun _ => ⟨g, 0, rfl, fun j u hj => ?_⟩⟩
    rw [cell_of_row _ _ _ cur e (0, 0) hh]
    rw [Nat.mul_one] at ht
    rw [← ht, List.getElem?_take] at hj
    split at hj
    · simpa using hj
    · cases hj

/-- an argument, as the reading opens it -/
theorem row_ints {w : World} {x : Addr} {len cap : Nat} {zs : List Int} (hl : len ≤ zs.length) (hc : len ≤ cap) (h : ∀ i, i < zs.length → w.cell? (x.add i) = some (.int .i64 (zs.getD i 0))) : Row w (some x) len cap (ints (zs.take len)) := by
  refine ⟨by simp [ints]; omega, hc, fun h0 => ?_⟩
  obtain ⟨b, off, spot⟩ := x
  have hspot : spot = none := by simpa [Addr.add] using World.cell?_spot (h 0 (by omega))
  subst hspot
  refine ⟨b, off, rfl, fun j u hj => ?_⟩
  have hj' : j < len := by have := (List.getElem?_eq_some_iff.1 hj).1; simp [ints] at this; omega
  have := h j (by omega)
  rw [show (⟨b, off, none⟩ : Addr).add j = ⟨b, off + j, none⟩ by (unfold Addr.add; split <;> simp_all)] at this
  rw [this]
  simp [ints, hj'] at hj
  obtain ⟨y, hy, rfl⟩ := hj
  rw [List.getD_eq_getElem?_getD, hy]; rfl
theorem row_strs {w : World} {x : Addr} {len cap : Nat} {zs : List ByteArray} (hl : len ≤ zs.length) (hc : len ≤ cap) (h : ∀ i, i < zs.length → w.cell? (x.add i) = some (.string (zs.getD i ByteArray.empty))) : Row w (some x) len cap (strs (zs.take len)) := by
  refine ⟨by simp [strs]; omega, hc, fun h0 => ?_⟩
  obtain ⟨b, off, spot⟩ := x
  have hspot : spot = none := by simpa [Addr.add] using World.cell?_spot (h 0 (by omega))
  subst hspot
  refine ⟨b, off, rfl, fun j u hj => ?_⟩
  have hj' : j < len := by have := (List.getElem?_eq_some_iff.1 hj).1; simp [strs] at this; omega
  have := h j (by omega)
  rw [show (⟨b, off, none⟩ : Addr).add j = ⟨b, off + j, none⟩ by (unfold Addr.add; split <;> simp_all)] at this
  rw [this]
  simp [strs, hj'] at hj
  obtain ⟨y, hy, rfl⟩ := hj
  rw [List.getD_eq_getElem?_getD, hy]; rfl

theorem bt {w a b : World} (h : Below w.heap.size w a) (k : Below a.heap.size a b) : Below w.heap.size w b := h.trans (k.mono h.size)

end Go.Proofs.YtlibjdkofajahaaDoor.Lists
