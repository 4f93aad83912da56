/-
  What the walks are told of a slice whose elements take more than one cell each: how many there are, and what each cell is.
-/
import Derived.Test.YtlibjdkofajahaaDoorKeeps
namespace Go.Proofs.YtlibjdkofajahaaDoor.Wides
open Go.RowKit
open Lists (Row cell_below)

/-- the slice at a, of n elements of s cells each, holds the cells xs -/
def Wide (s : Nat) (w : World) (a : Option Addr) (n cap : Nat) (xs : List Value) : Prop :=
  xs.length = n * s ∧ n ≤ cap ∧ (0 < n → ∃ b off, a = some ⟨b, off, none⟩ ∧ ∀ j u, xs[j]? = some u → w.cell? ⟨b, off + j, none⟩ = some u)

theorem Wide.nil (s : Nat) (w : World) (a : Option Addr) (cap : Nat) : Wide s w a 0 cap [] := ⟨by simp, Nat.zero_le _, fun h => by omega⟩
theorem Wide.below {s : Nat} {w w' : World} {a : Option Addr} {n cap : Nat} {xs : List Value} (h : Wide s w a n cap xs) (b : Below w.heap.size w w') : Wide s w' a n cap xs := by
  refine ⟨h.1, h.2.1, fun h0 => ?_⟩
  obtain ⟨k, off, ha, hc⟩ := h.2.2 h0
  exact ⟨k, off, ha, fun j u hj => cell_below b (hc j u hj)⟩
/-- what the call itself owns -/
theorem Wide.of_owns {s : Nat} {w : World} {base : Nat} {e : TypeId} {a : Option Addr} {n m cap : Nat} {xs : List Value} (h : w.ownsRow base e s (.slice a m cap) n xs) : m = n ∧ Wide s w a m cap xs := by
  obtain ⟨hl, h'⟩ := h
  rcases h' with ⟨hv, rfl⟩ | ⟨g, cap', cur, hv, _, hh, hn, hm, hs, ht⟩
  · obtain ⟨rfl, rfl, rfl⟩ : a = none ∧ m = 0 ∧ cap = 0 := by simpa using hv
    exact ⟨rfl, hl, by omega, fun h => by omega⟩
  · obtain ⟨rfl, rfl, rfl⟩ : a = some ⟨g, 0, none⟩ ∧ m = n ∧ cap = cap' := by simpa using hv
    refine ⟨rfl, hl, hn, fun _ => ⟨g, 0, rfl, fun j u hj => ?_⟩⟩
    rw [cell_of_row _ _ _ cur e (0, 0) hh]
    rw [← ht, List.getElem?_take] at hj
    split at hj
    · simpa using hj
    · cases hj
theorem owns_wide {s : Nat} {w : World} {base : Nat} {e : TypeId} {v : Value} {n : Nat} {xs : List Value} (h : w.ownsRow base e s v n xs) : ∃ a c, v = .slice a n c ∧ Wide s w a n c xs := by
  rcases h.2 with ⟨rfl, rfl⟩ | ⟨g, cap, cur, rfl, _⟩
  · exact ⟨none, 0, rfl, (Wide.of_owns h).2⟩
  · exact ⟨_, _, rfl, (Wide.of_owns h).2⟩
theorem Wide.len {s : Nat} {w : World} {a : Option Addr} {n cap : Nat} {xs : List Value} (h : Wide s w a n cap xs) : xs.length = n * s := h.1

/-- where what the call owns lies -/
theorem owns_fresh {s : Nat} {w : World} {base : Nat} {e : TypeId} {a : Option Addr} {m n c : Nat} {xs : List Value} (h : w.ownsRow base e s (.slice a m c) n xs) : ∀ x, a = some x → base ≤ x.block := by
  rintro x rfl
  rcases h.2 with ⟨h2, _⟩ | ⟨g, cap, cur, hv, hg, _⟩
  · cases h2
  · simp only [Value.slice.injEq, Option.some.injEq] at hv
    rw [hv.1]
    exact hg

end Go.Proofs.YtlibjdkofajahaaDoor.Wides
