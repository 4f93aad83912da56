/-
  What the walks are told of a slice of tiles: three cells each.
-/
import Derived.Test.YtigbbhojgajkjaiWides
import Derived.Test.YtigbbhojgajkjaiTiles
namespace Go.Proofs.Ytigbbhojgajkjai.TileRows
open Go.RowKit
open Wides (Wide)
open Tiles (Tile)

def cells : List Tile → List Value
  | [] => []
  | t :: l => .int .i64 (t.1 : Int) :: .int .i64 (t.2.1 : Int) :: .int .i64 (t.2.2 : Int) :: cells l
theorem cells_length : ∀ l : List Tile, (cells l).length = l.length * 3
  | [] => rfl
  | t :: l => by simp [cells, cells_length l]; omega
theorem cells_append : ∀ a b : List Tile, cells (a ++ b) = cells a ++ cells b
  | [], b => rfl
  | t :: a, b => by simp [cells, cells_append a b]
theorem cells_at : ∀ (l : List Tile) (j : Nat) (h : j < l.length), (cells l)[j * 3]? = some (.int .i64 ((l[j]).1 : Int)) ∧ (cells l)[j * 3 + 1]? = some (.int .i64 ((l[j]).2.1 : Int)) ∧ (cells l)[j * 3 + 2]? = some (.int .i64 ((l[j]).2.2 : Int))
  | t :: l, 0, _ => ⟨rfl, rfl, rfl⟩
  | t :: l, j + 1, h => by
    have e : (j + 1) * 3 = j * 3 + 3 := by omega
    rw [e]
    exact cells_at l j (by simpa using h)
/-- the three cells of one -/
theorem at_three {w : World} {b off n cap : Nat} {l : List Tile} (h : Wide 3 w (some ⟨b, off, none⟩) n cap (cells l)) (j : Nat) (hj : j < l.length) :
    w.cell? ⟨b, off + j * 3, none⟩ = some (.int .i64 ((l[j]).1 : Int)) ∧ w.cell? ⟨b, off + j * 3 + 1, none⟩ = some (.int .i64 ((l[j]).2.1 : Int)) ∧ w.cell? ⟨b, off + j * 3 + 2, none⟩ = some (.int .i64 ((l[j]).2.2 : Int)) := by
  have h1 := h.1
  rw [cells_length] at h1
  obtain ⟨b', off', ha, hc⟩ := h.2.2 (by omega)
  obtain ⟨rfl, rfl⟩ : b = b' ∧ off = off' := by simpa using ha
  obtain ⟨c0, c1, c2⟩ := cells_at l j hj
  rw [Nat.add_assoc, Nat.add_assoc]
  exact ⟨hc _ _ c0, hc _ _ c1, hc _ _ c2⟩
theorem len_of {w : World} {a : Option Addr} {n cap : Nat} {l : List Tile} (h : Wide 3 w a n cap (cells l)) : l.length = n := by
  have := h.1
  rw [cells_length] at this
  omega

end Go.Proofs.Ytigbbhojgajkjai.TileRows
