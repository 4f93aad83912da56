/-
  What the walks are told of a slice of tiles: three cells each.
-/
import Derived.Test.YticadkggaanbjaaGreatDoorListRows
import Derived.Test.YticadkggaanbjaaGreatDoorSePlain
namespace Go.Proofs.YticadkggaanbjaaGreatDoor.TileRows
open Go.RowKit
open Wides (Wide)
open Tiles (Tile)

def cells : List Tile → List Value
  | [] => []
  | t :: l => .int .i64 (t.1 : Int) :: .int .i64 (t.2.1 : Int) :: .int .i64 (t.2.2 : Int) :: cells l
theorem cells_length : ∀ l : List Tile, (cells l).length = l.length * 3
  | [] => rfl
  | t :: l => by simp [cells, cells_length l]; omega
theorem cells_append : ∀ a b : List Tile, cells (a ++ b) = cells a ++ cells b
  | [], b => rfl
  | t :: a, b => by simp [cells, cells_append a b]
theorem cells_at : ∀ (l : List Tile) (j : Nat) (h : j < l.length), (cells l)[j * 3]? = some (.int .i64 ((l[j]).1 : Int)) ∧ (cells l)[j * 3 + 1]? = some (.int .i64 ((l[j]).2.1 : Int)) ∧ (cells l)[j * 3 + 2]? = some (.int .i64 ((l[j]).2.2 : Int))
  | t :: l, 0, _ => ⟨rfl, rfl, rfl⟩
  | t :: l, j + 1, h => by
    have e : (j + 1) * 3 = j * 3 + 3 := by omega
    rw [e]
    exact cells_at l j (by simpa using h)
/-- the three cells of one -/
theorem at_three {w : World} {b off n cap : Nat} {l : List Tile} (h : Wide 3 w (some ⟨b, off, none⟩) n cap (cells l)) (j : Nat) (hj : j < l.length) :
    w.cell? ⟨b, off + j * 3, none⟩ = some (.int .i64 ((l[j]).1 : Int)) ∧ w.cell? ⟨b, off + j * 3 + 1, none⟩ = some (.int .i64 ((l[j]).2.1 : Int)) ∧ w.cell? ⟨b, off + j * 3 + 2, none⟩ = some (.int .i64 ((l[j]).2.2 : Int)) := by
  have h1 := h.1
  rw [cells_length] at h1
  obtain ⟨b', off', ha, hc⟩ := h.2.2 (by omega)
  obtain ⟨rfl, rfl⟩ : b = b' ∧ off = off' := by simpa using ha
  obtain ⟨c0, c1, c2⟩ := cells_at l j hj
  rw [Nat.add_assoc, Nat.add_assoc]
  exact ⟨hc _ _ c0, hc _ _ c1, hc _ _ c2⟩
theorem len_of {w : World} {a : Option Addr} {n cap : Nat} {l : List Tile} (h : Wide 3 w a n cap (cells l)) : l.length = n := by
  have := h.1
  rw [cells_length] at this
  omega

end Go.Proofs.YticadkggaanbjaaGreatDoor.TileRows

/-
  Plain mathematics of a tree that comes of its tiles: those of the lowest level come first, and their sums are the leafs. Nothing of the program is named here.
-/
namespace Go.Proofs.YticadkggaanbjaaGreatDoor.TilesRoot
open Tiles (Tile row upto tiles sumsOf sumAt)

theorem upto_end (n L : Nat) (h : n / 4 ^ L = 0) : ∀ d, upto n (L + d) = upto n L
  | 0 => rfl
  | d + 1 => by
    have h2 : n / 4 ^ (L + d) = 0 := by
      rw [Nat.pow_add, ← Nat.div_div_eq_div_mul, h, Nat.zero_div]
    show upto n (L + d) ++ row (L + d) (n / 4 ^ (L + d)) = _
    rw [upto_end n L h d, h2]
    simp [row]
/-- behind the last sum there is no tile -/
theorem tiles_end (n L : Nat) (hL : L ≤ 4) (h : n / 4 ^ L = 0) : upto n L = tiles n := by
  have := upto_end n L h (4 - L)
  rw [show L + (4 - L) = 4 by omega] at this
  exact this.symm
theorem next_level (n L : Nat) : n / 4 ^ (L + 1) = n / 4 ^ L / 4 := by
  rw [Nat.pow_succ, Nat.div_div_eq_div_mul]

theorem tiles_first (n : Nat) : ∃ r : List Tile, tiles n = row 0 n ++ r ∧ ∀ t ∈ r, t.1 ≠ 0 := by
  refine ⟨row 1 (n / 4 ^ 1) ++ row 2 (n / 4 ^ 2) ++ row 3 (n / 4 ^ 3), ?_, ?_⟩
  · simp [tiles, upto]
  · rintro ⟨a, b, c⟩ h
    simp only [List.mem_append] at h
    rcases h with (h | h) | h
    · have := (Tiles.mem_row.1 h).1; simp only; omega
    · have := (Tiles.mem_row.1 h).1; simp only; omega
    · have := (Tiles.mem_row.1 h).1; simp only; omega
theorem tile_low (n k : Nat) (h : 4 * k < n) : (tiles n)[k]? = some (0, k, min 4 (n - 4 * k)) := by
  obtain ⟨r, e, _⟩ := tiles_first n
  have hk : k < (row 0 n).length := by rw [Tiles.row_length]; omega
  rw [e, List.getElem?_append_left hk, List.getElem?_eq_getElem hk]
  simp [row]
theorem tile_high (n k : Nat) (t : Tile) (h : n ≤ 4 * k) (ht : (tiles n)[k]? = some t) : t.1 ≠ 0 := by
  obtain ⟨r, e, hr⟩ := tiles_first n
  have hk : (row 0 n).length ≤ k := by rw [Tiles.row_length]; omega
  rw [e, List.getElem?_append_right hk] at ht
  exact hr t (List.mem_of_getElem? ht)
theorem sumAt_low (l : List Int) (i : Nat) (h : i < l.length) : sumAt l 0 i = l.getD i 0 := by
  rw [sumAt, Climbs.rootAt, Nat.pow_zero, Nat.mul_one, Trees.root_one _ (by simp; omega)]
  simp [List.getD_eq_getElem?_getD, List.getElem?_drop]
/-- the sums of one of the lowest level are leafs -/
theorem sumsOf_low (l : List Int) (k c : Nat) (h : 4 * k + c ≤ l.length) : sumsOf l (0, k, c) = (l.drop (4 * k)).take c := by
  apply List.ext_getElem
  · rw [Tiles.sumsOf_length]; simp; omega
  · intro i h1 h2
    rw [Tiles.sumsOf_length] at h1
    simp only [sumsOf, List.getElem_map, List.getElem_range, List.getElem_take, List.getElem_drop]
    rw [sumAt_low l _ (by simp only at h1; omega), List.getD_eq_getElem?_getD, List.getElem?_eq_getElem (by simp only at h1; omega)]
    rfl
/-- with each tile the leafs so far come -/
theorem take_low (l : List Int) (n k : Nat) (hn : l.length = n) (h : 4 * k < n) : l.take (4 * (k + 1)) = l.take (4 * k) ++ sumsOf l (0, k, min 4 (n - 4 * k)) := by
  rw [sumsOf_low l k _ (by omega), show 4 * (k + 1) = 4 * k + 4 by omega, List.take_add]
  congr 1
  by_cases h4 : 4 ≤ n - 4 * k
  · rw [show min 4 (n - 4 * k) = 4 by omega]
  · rw [show min 4 (n - 4 * k) = n - 4 * k by omega, List.take_of_length_le (by simp; omega), List.take_of_length_le (by simp; omega)]
theorem take_high (l : List Int) (n k : Nat) (hn : l.length = n) (h : n ≤ 4 * k) : l.take (4 * k) = l := List.take_of_length_le (by omega)
theorem tiles_many (n : Nat) : n ≤ 4 * (tiles n).length := by
  obtain ⟨r, e, _⟩ := tiles_first n
  rw [e, List.length_append, Tiles.row_length]
  omega

end Go.Proofs.YticadkggaanbjaaGreatDoor.TilesRoot

