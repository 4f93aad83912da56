/-
  Plain mathematics of tiles: which a tree has, the sums of one, and what is wrong with one that is asked for. Nothing of the program is named here.
-/
import Derived.Test.YtigbbhojgajkjaiClimbs
namespace Go.Proofs.Ytigbbhojgajkjai.Tiles
open Trees (root)
open Climbs (rootAt)

/-- a level, an index, how wide -/
abbrev Tile := Nat × Nat × Nat
/-- those of one level, of so many sums -/
def row (lev many : Nat) : List Tile := (List.range ((many + 3) / 4)).map fun i => (lev, i, min 4 (many - 4 * i))
theorem row_length (lev many : Nat) : (row lev many).length = (many + 3) / 4 := by simp [row]
theorem row_take (lev many k : Nat) (h : 4 * k < many) : (row lev many).take (k + 1) = (row lev many).take k ++ [(lev, k, min 4 (many - 4 * k))] := by
  have hk : k < (row lev many).length := by rw [row_length]; omega
  rw [List.take_succ_eq_append_getElem hk]
  simp [row]
theorem row_all (lev many k : Nat) (h : many ≤ 4 * k) : (row lev many).take k = row lev many := List.take_of_length_le (by rw [row_length]; omega)
/-- those of the first levels -/
def upto (n : Nat) : Nat → List Tile
  | 0 => []
  | L + 1 => upto n L ++ row L (n / 4 ^ L)
def tiles (n : Nat) : List Tile := upto n 4
theorem pow_four (a : Nat) (h : a < 4) : 4 ^ a = 1 ∨ 4 ^ a = 4 ∨ 4 ^ a = 16 ∨ 4 ^ a = 64 := by
  match a, h with
  | 0, _ => exact .inl rfl
  | 1, _ => exact .inr (.inl rfl)
  | 2, _ => exact .inr (.inr (.inl rfl))
  | 3, _ => exact .inr (.inr (.inr rfl))
theorem upto_length (n L : Nat) (h : L ≤ 4) (hn : n ≤ 200) : (upto n L).length ≤ 50 * L := by
  induction L with
  | zero => simp [upto]
  | succ L ih =>
    have i := ih (by omega)
    have : n / 4 ^ L ≤ n := Nat.div_le_self _ _
    rw [upto, List.length_append, row_length]
    omega
theorem mem_row {lev many a b c : Nat} : (a, b, c) ∈ row lev many ↔ a = lev ∧ 4 * b < many ∧ c = min 4 (many - 4 * b) := by
  simp only [row, List.mem_map, List.mem_range, Prod.mk.injEq]
  constructor
  · rintro ⟨i, hi, rfl, rfl, rfl⟩
    exact ⟨rfl, by omega, rfl⟩
  · rintro ⟨rfl, h, rfl⟩
    exact ⟨b, by omega, rfl, rfl, rfl⟩
theorem mem_upto {n a b c : Nat} : ∀ {L : Nat}, (a, b, c) ∈ upto n L ↔ a < L ∧ 4 * b < n / 4 ^ a ∧ c = min 4 (n / 4 ^ a - 4 * b)
  | 0 => by simp [upto]
  | L + 1 => by
    rw [upto, List.mem_append, mem_upto, mem_row]
    constructor
    · rintro (⟨h, r⟩ | ⟨rfl, r⟩)
      · exact ⟨by omega, r⟩
      · exact ⟨by omega, r⟩
    · rintro ⟨h, r⟩
      rcases Nat.lt_or_ge a L with g | g
      · exact .inl ⟨g, r⟩
      · obtain rfl : a = L := by omega
        exact .inr ⟨rfl, r⟩
theorem mem_tiles {n a b c : Nat} : (a, b, c) ∈ tiles n ↔ a < 4 ∧ 4 * b < n / 4 ^ a ∧ c = min 4 (n / 4 ^ a - 4 * b) := mem_upto
theorem tiles_le {n : Nat} (hn : n ≤ 200) : ∀ t ∈ tiles n, t.1 ≤ 3 ∧ t.2.1 ≤ 49 ∧ 1 ≤ t.2.2 ∧ t.2.2 ≤ 4 := by
  rintro ⟨a, b, c⟩ h
  obtain ⟨h1, h2, rfl⟩ := mem_tiles.1 h
  have : n / 4 ^ a ≤ n := Nat.div_le_self _ _
  simp only
  omega

/-- how many sums the tiles of a level have together -/
def wide (lev : Nat) : List Tile → Nat
  | [] => 0
  | t :: l => (if t.1 = lev then t.2.2 else 0) + wide lev l
theorem wide_append (lev : Nat) : ∀ a b : List Tile, wide lev (a ++ b) = wide lev a + wide lev b
  | [], b => by simp [wide]
  | t :: a, b => by rw [List.cons_append, wide, wide, wide_append lev a b]; omega
theorem wide_take (lev lv many : Nat) : ∀ k, k ≤ (many + 3) / 4 → wide lev ((row lv many).take k) = if lv = lev then min (4 * k) many else 0
  | 0, _ => by simp [wide]
  | k + 1, h => by
    rw [row_take lv many k (by omega), wide_append, wide_take lev lv many k (by omega)]
    simp only [wide]
    split <;> omega
theorem wide_row (lev lv many : Nat) : wide lev (row lv many) = if lv = lev then many else 0 := by
  have h := wide_take lev lv many ((many + 3) / 4) (Nat.le_refl _)
  rw [row_all lv many _ (by omega)] at h
  rw [h]
  split <;> omega
theorem wide_upto (n lev : Nat) : ∀ L, wide lev (upto n L) = if lev < L then n / 4 ^ lev else 0
  | 0 => by simp [upto, wide]
  | L + 1 => by
    rw [upto, wide_append, wide_upto n lev L, wide_row]
    rcases Nat.lt_trichotomy lev L with h | h | h
    · rw [if_pos h, if_neg (by omega), if_pos (by omega)]; rfl
    · subst h; rw [if_neg (by omega), if_pos rfl, if_pos (by omega), Nat.zero_add]
    · rw [if_neg (by omega), if_neg (by omega), if_neg (by omega)]
theorem wide_tiles (n lev : Nat) (h : lev < 4) : wide lev (tiles n) = n / 4 ^ lev := by rw [tiles, wide_upto, if_pos h]

/-- the i-th sum of a level -/
def sumAt (l : List Int) (lev i : Nat) : Int := rootAt l (i * 4 ^ lev, i * 4 ^ lev + 4 ^ lev)
/-- the sums of a tile that there is -/
def sumsOf (l : List Int) (t : Tile) : List Int := (List.range t.2.2).map fun i => sumAt l t.1 (4 * t.2.1 + i)
theorem sumsOf_length (l : List Int) (t : Tile) : (sumsOf l t).length = t.2.2 := by simp [sumsOf]
theorem sumsOf_take (l : List Int) (t : Tile) (k : Nat) (h : k < t.2.2) : (sumsOf l t).take (k + 1) = (sumsOf l t).take k ++ [sumAt l t.1 (4 * t.2.1 + k)] := by
  have hk : k < (sumsOf l t).length := by rw [sumsOf_length]; omega
  rw [List.take_succ_eq_append_getElem hk]
  simp [sumsOf]
theorem sumAt_valid (l : List Int) (lev i : Nat) (h : ∀ x ∈ l, Nums.valid x = true) : Nums.valid (sumAt l lev i) = true :=
  Trees.root_valid _ fun x hx => h x (List.mem_of_mem_take (List.mem_of_mem_drop hx))
theorem sumsOf_valid (l : List Int) (t : Tile) (h : ∀ x ∈ l, Nums.valid x = true) : ∀ x ∈ sumsOf l t, Nums.valid x = true := by
  intro x hx
  obtain ⟨i, _, rfl⟩ := List.mem_map.1 hx
  exact sumAt_valid l _ _ h

/-- is a level, an index or how wide none? -/
def bad (lev idx wd : Int) : Bool := decide (lev < 0 ∨ 3 < lev ∨ idx < 0 ∨ wd < 1 ∨ 4 < wd)
theorem bad_of {lev idx wd : Int} (h : bad lev idx wd = false) : ∃ a b c : Nat, lev = a ∧ idx = b ∧ wd = c ∧ a < 4 ∧ 1 ≤ c ∧ c ≤ 4 := by
  have h' := of_decide_eq_false h
  obtain ⟨a, rfl⟩ := Int.eq_ofNat_of_zero_le (show 0 ≤ lev by omega)
  obtain ⟨b, rfl⟩ := Int.eq_ofNat_of_zero_le (show 0 ≤ idx by omega)
  obtain ⟨c, rfl⟩ := Int.eq_ofNat_of_zero_le (show 0 ≤ wd by omega)
  exact ⟨a, b, c, rfl, rfl, rfl, by omega, by omega, by omega⟩
/-- are there so many? -/
def there (n : Nat) (t : Tile) : Bool := decide (4 * t.2.1 + t.2.2 ≤ n / 4 ^ t.1)
theorem there_iff {n a b c : Nat} (ha : a < 4) (h1 : 1 ≤ c) (h4 : c ≤ 4) : there n (a, b, c) = true ↔ ∃ d, (a, b, d) ∈ tiles n ∧ c ≤ d := by
  unfold there
  rw [decide_eq_true_iff]
  constructor
  · intro h
    exact ⟨min 4 (n / 4 ^ a - 4 * b), mem_tiles.2 ⟨ha, by simp only at h; omega, rfl⟩, by simp only at h; omega⟩
  · rintro ⟨d, hd, hc⟩
    obtain ⟨_, h2, rfl⟩ := mem_tiles.1 hd
    simp only
    omega
/-- the sums of one that is there lie within the leafs -/
theorem there_in {n a b c k : Nat} (h : there n (a, b, c) = true) (hk : k < c) : (4 * b + k) * 4 ^ a + 4 ^ a ≤ n := by
  have h' : 4 * b + c ≤ n / 4 ^ a := of_decide_eq_true h
  have h2 : (4 * b + k + 1) * 4 ^ a ≤ n := Nat.le_trans (Nat.mul_le_mul_right _ (by omega)) (Nat.div_mul_le_self n (4 ^ a))
  rw [Nat.add_mul, Nat.one_mul] at h2
  exact h2
def asTile (lev idx wd : Int) : Tile := (lev.toNat, idx.toNat, wd.toNat)
theorem asTile_of {lev idx wd : Int} {a b c : Nat} (h0 : lev = a) (h1 : idx = b) (h2 : wd = c) : asTile lev idx wd = (a, b, c) := by subst h0 h1 h2; rfl
/-- what is wrong with a tile that is asked for, and its sums -/
def tileE (l : List Int) (lev idx wd : Int) : Nat := if Trees.leafsE l = 0 then (if bad lev idx wd = true then 1 else if there l.length (asTile lev idx wd) = true then 0 else 5) else Trees.leafsE l
def tileL (l : List Int) (lev idx wd : Int) : List Int := if tileE l lev idx wd = 0 then sumsOf l (asTile lev idx wd) else []
theorem tile_of {l : List Int} {lev idx wd : Int} (h : tileE l lev idx wd = 0) : Trees.leafsE l = 0 ∧ bad lev idx wd = false ∧ there l.length (asTile lev idx wd) = true := by
  unfold tileE at h
  by_cases h0 : Trees.leafsE l = 0
  · rw [if_pos h0] at h
    by_cases h1 : bad lev idx wd = true
    · rw [if_pos h1] at h; cases h
    · rw [if_neg h1] at h
      by_cases h2 : there l.length (asTile lev idx wd) = true
      · exact ⟨h0, by simpa using h1, h2⟩
      · rw [if_neg h2] at h; cases h
  · rw [if_neg h0] at h; exact absurd h h0
theorem tileL_len (l : List Int) (lev idx wd : Int) : (tileL l lev idx wd).length ≤ 4 := by
  unfold tileL
  split
  · rename_i h
    obtain ⟨_, h1, _⟩ := tile_of h
    obtain ⟨a, b, c, h2, h3, h4, _, _, h5⟩ := bad_of h1
    rw [sumsOf_length, asTile_of h2 h3 h4]
    exact h5
  · exact Nat.zero_le _

/-- each tile of a tree may be asked for -/
theorem tile_in {l : List Int} {n a b c : Nat} (hln : l.length = n) (h0 : Trees.leafsE l = 0) (h : (a, b, c) ∈ tiles n) : tileE l a b c = 0 ∧ tileL l a b c = sumsOf l (a, b, c) := by
  obtain ⟨h1, h2, h3⟩ := mem_tiles.1 h
  have hb : bad (a : Int) b c = false := decide_eq_false (by omega)
  have ht : there n (a, b, c) = true := (there_iff h1 (by omega) (by omega)).2 ⟨c, h, Nat.le_refl _⟩
  have e : tileE l a b c = 0 := by
    unfold tileE
    rw [if_pos h0, if_neg (by rw [hb]; decide), if_pos (by rw [hln]; exact ht)]
  refine ⟨e, ?_⟩
  unfold tileL
  rw [if_pos e]
  rfl

/-- where the i-th sum of a level is -/
def whereBad (lev i : Int) : Bool := decide (lev < 0 ∨ 3 < lev ∨ i < 0 ∨ 199 < i)
def whereE (lev i : Int) : Nat := if whereBad lev i = true then 1 else 0
def whereT (lev i : Int) : Int × Int × Int := if whereBad lev i = true then (0, 0, 0) else (lev, i / 4, i % 4 + 1)
def whereK (lev i : Int) : Int := if whereBad lev i = true then 0 else i % 4

/-- the tiles of a size, and what is wrong with it -/
def sizeE (n : Int) : Nat := if n < 0 ∨ 200 < n then 1 else 0
def allL (n : Int) : List Tile := if n < 0 ∨ 200 < n then [] else tiles n.toNat

end Go.Proofs.Ytigbbhojgajkjai.Tiles
