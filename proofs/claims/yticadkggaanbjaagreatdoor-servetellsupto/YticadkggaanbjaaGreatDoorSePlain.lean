/-
  Plain mathematics of tiles: which a tree has, the sums of one, and what is wrong with one that is asked for. Nothing of the program is named here.
-/
import Derived.Test.YticadkggaanbjaaGreatDoorGrowPlain
import Derived.Test.YticadkggaanbjaaGreatDoorMirrors
import Derived.Test.YticadkggaanbjaaGreatDoorMirPlain
namespace Go.Proofs.YticadkggaanbjaaGreatDoor.Tiles
open Trees (root)
open Climbs (rootAt)

/-- a level, an index, how wide -/
abbrev Tile := Nat × Nat × Nat
/-- those of one level, of so many sums -/
def row (lev many : Nat) : List Tile := (List.range ((many + 3) / 4)).map fun i => (lev, i, min 4 (many - 4 * i))
theorem row_length (lev many : Nat) : (row lev many).length = (many + 3) / 4 := by simp [row]
theorem row_take (lev many k : Nat) (h : 4 * k < many) : (row lev many).take (k + 1) = (row lev many).take k ++ [(lev, k, min 4 (many - 4 * k))] := by
  have hk : k < (row lev many).length := by rw [row_length]; omega
  rw [List.take_succ_eq_append_getElem hk]
  simp [row]
theorem row_all (lev many k : Nat) (h : many ≤ 4 * k) : (row lev many).take k = row lev many := List.take_of_length_le (by rw [row_length]; omega)
/-- those of the first levels -/
def upto (n : Nat) : Nat → List Tile
  | 0 => []
  | L + 1 => upto n L ++ row L (n / 4 ^ L)
def tiles (n : Nat) : List Tile := upto n 4
theorem pow_four (a : Nat) (h : a < 4) : 4 ^ a = 1 ∨ 4 ^ a = 4 ∨ 4 ^ a = 16 ∨ 4 ^ a = 64 := by
  match a, h with
  | 0, _ => exact .inl rfl
  | 1, _ => exact .inr (.inl rfl)
  | 2, _ => exact .inr (.inr (.inl rfl))
  | 3, _ => exact .inr (.inr (.inr rfl))
theorem upto_length (n L : Nat) (h : L ≤ 4) (hn : n ≤ 200) : (upto n L).length ≤ 50 * L := by
  induction L with
  | zero => simp [upto]
  | succ L ih =>
    have i := ih (by omega)
    have : n / 4 ^ L ≤ n := Nat.div_le_self _ _
    rw [upto, List.length_append, row_length]
    omega
theorem mem_row {lev many a b c : Nat} : (a, b, c) ∈ row lev many ↔ a = lev ∧ 4 * b < many ∧ c = min 4 (many - 4 * b) := by
  simp only [row, List.mem_map, List.mem_range, Prod.mk.injEq]
  constructor
  · rintro ⟨i, hi, rfl, rfl, rfl⟩
    exact ⟨rfl, by omega, rfl⟩
  · rintro ⟨rfl, h, rfl⟩
    exact ⟨b, by omega, rfl, rfl, rfl⟩
theorem mem_upto {n a b c : Nat} : ∀ {L : Nat}, (a, b, c) ∈ upto n L ↔ a < L ∧ 4 * b < n / 4 ^ a ∧ c = min 4 (n / 4 ^ a - 4 * b)
  | 0 => by simp [upto]
  | L + 1 => by
    rw [upto, List.mem_append, mem_upto, mem_row]
    constructor
    · rintro (⟨h, r⟩ | ⟨rfl, r⟩)
      · exact ⟨by omega, r⟩
      · exact ⟨by omega, r⟩
    · rintro ⟨h, r⟩
      rcases Nat.lt_or_ge a L with g | g
      · exact .inl ⟨g, r⟩
      · obtain rfl : a = L := by omega
        exact .inr ⟨rfl, r⟩
theorem mem_tiles {n a b c : Nat} : (a, b, c) ∈ tiles n ↔ a < 4 ∧ 4 * b < n / 4 ^ a ∧ c = min 4 (n / 4 ^ a - 4 * b) := mem_upto
theorem tiles_le {n : Nat} (hn : n ≤ 200) : ∀ t ∈ tiles n, t.1 ≤ 3 ∧ t.2.1 ≤ 49 ∧ 1 ≤ t.2.2 ∧ t.2.2 ≤ 4 := by
  rintro ⟨a, b, c⟩ h
  obtain ⟨h1, h2, rfl⟩ := mem_tiles.1 h
  have : n / 4 ^ a ≤ n := Nat.div_le_self _ _
  simp only
  omega

/-- how many sums the tiles of a level have together -/
def wide (lev : Nat) : List Tile → Nat
  | [] => 0
  | t :: l => (if t.1 = lev then t.2.2 else 0) + wide lev l
theorem wide_append (lev : Nat) : ∀ a b : List Tile, wide lev (a ++ b) = wide lev a + wide lev b
  | [], b => by simp [wide]
  | t :: a, b => by rw [List.cons_append, wide, wide, wide_append lev a b]; omega
theorem wide_take (lev lv many : Nat) : ∀ k, k ≤ (many + 3) / 4 → wide lev ((row lv many).take k) = if lv = lev then min (4 * k) many else 0
  | 0, _ => by simp [wide]
  | k + 1, h => by
    rw [row_take lv many k (by omega), wide_append, wide_take lev lv many k (by omega)]
    simp only [wide]
    split <;> omega
theorem wide_row (lev lv many : Nat) : wide lev (row lv many) = if lv = lev then many else 0 := by
  have h := wide_take lev lv many ((many + 3) / 4) (Nat.le_refl _)
  rw [row_all lv many _ (by omega)] at h
  rw [h]
  split <;> omega
theorem wide_upto (n lev : Nat) : ∀ L, wide lev (upto n L) = if lev < L then n / 4 ^ lev else 0
  | 0 => by simp [upto, wide]
  | L + 1 => by
    rw [upto, wide_append, wide_upto n lev L, wide_row]
    rcases Nat.lt_trichotomy lev L with h | h | h
    · rw [if_pos h, if_neg (by omega), if_pos (by omega)]; rfl
    · subst h; rw [if_neg (by omega), if_pos rfl, if_pos (by omega), Nat.zero_add]
    · rw [if_neg (by omega), if_neg (by omega), if_neg (by omega)]
theorem wide_tiles (n lev : Nat) (h : lev < 4) : wide lev (tiles n) = n / 4 ^ lev := by rw [tiles, wide_upto, if_pos h]

/-- the i-th sum of a level -/
def sumAt (l : List Int) (lev i : Nat) : Int := rootAt l (i * 4 ^ lev, i * 4 ^ lev + 4 ^ lev)
/-- the sums of a tile that there is -/
def sumsOf (l : List Int) (t : Tile) : List Int := (List.range t.2.2).map fun i => sumAt l t.1 (4 * t.2.1 + i)
theorem sumsOf_length (l : List Int) (t : Tile) : (sumsOf l t).length = t.2.2 := by simp [sumsOf]
theorem sumsOf_take (l : List Int) (t : Tile) (k : Nat) (h : k < t.2.2) : (sumsOf l t).take (k + 1) = (sumsOf l t).take k ++ [sumAt l t.1 (4 * t.2.1 + k)] := by
  have hk : k < (sumsOf l t).length := by rw [sumsOf_length]; omega
  rw [List.take_succ_eq_append_getElem hk]
  simp [sumsOf]
theorem sumAt_valid (l : List Int) (lev i : Nat) (h : ∀ x ∈ l, Nums.valid x = true) : Nums.valid (sumAt l lev i) = true :=
  Trees.root_valid _ fun x hx => h x (List.mem_of_mem_take (List.mem_of_mem_drop hx))
theorem sumsOf_valid (l : List Int) (t : Tile) (h : ∀ x ∈ l, Nums.valid x = true) : ∀ x ∈ sumsOf l t, Nums.valid x = true := by
  intro x hx
  obtain ⟨i, _, rfl⟩ := List.mem_map.1 hx
  exact sumAt_valid l _ _ h

/-- is a level, an index or how wide none? -/
def bad (lev idx wd : Int) : Bool := decide (lev < 0 ∨ 3 < lev ∨ idx < 0 ∨ wd < 1 ∨ 4 < wd)
theorem bad_of {lev idx wd : Int} (h : bad lev idx wd = false) : ∃ a b c : Nat, lev = a ∧ idx = b ∧ wd = c ∧ a < 4 ∧ 1 ≤ c ∧ c ≤ 4 := by
  have h' := of_decide_eq_false h
  obtain ⟨a, rfl⟩ := Int.eq_ofNat_of_zero_le (show 0 ≤ lev by omega)
  obtain ⟨b, rfl⟩ := Int.eq_ofNat_of_zero_le (show 0 ≤ idx by omega)
  obtain ⟨c, rfl⟩ := Int.eq_ofNat_of_zero_le (show 0 ≤ wd by omega)
  exact ⟨a, b, c, rfl, rfl, rfl, by omega, by omega, by omega⟩
/-- are there so many? -/
def there (n : Nat) (t : Tile) : Bool := decide (4 * t.2.1 + t.2.2 ≤ n / 4 ^ t.1)
theorem there_iff {n a b c : Nat} (ha : a < 4) (h1 : 1 ≤ c) (h4 : c ≤ 4) : there n (a, b, c) = true ↔ ∃ d, (a, b, d) ∈ tiles n ∧ c ≤ d := by
  unfold there
  rw [decide_eq_true_iff]
  constructor
  · intro h
    exact ⟨min 4 (n / 4 ^ a - 4 * b), mem_tiles.2 ⟨ha, by simp only at h; omega, rfl⟩, by simp only at h; omega⟩
  · rintro ⟨d, hd, hc⟩
    obtain ⟨_, h2, rfl⟩ := mem_tiles.1 hd
    simp only
    omega
/-- the sums of one that is there lie within the leafs -/
theorem there_in {n a b c k : Nat} (h : there n (a, b, c) = true) (hk : k < c) : (4 * b + k) * 4 ^ a + 4 ^ a ≤ n := by
  have h' : 4 * b + c ≤ n / 4 ^ a := of_decide_eq_true h
  have h2 : (4 * b + k + 1) * 4 ^ a ≤ n := Nat.le_trans (Nat.mul_le_mul_right _ (by omega)) (Nat.div_mul_le_self n (4 ^ a))
  rw [Nat.add_mul, Nat.one_mul] at h2
  exact h2
def asTile (lev idx wd : Int) : Tile := (lev.toNat, idx.toNat, wd.toNat)
theorem asTile_of {lev idx wd : Int} {a b c : Nat} (h0 : lev = a) (h1 : idx = b) (h2 : wd = c) : asTile lev idx wd = (a, b, c) := by subst h0 h1 h2; rfl
/-- what is wrong with a tile that is asked for, and its sums -/
def tileE (l : List Int) (lev idx wd : Int) : Nat := if Trees.leafsE l = 0 then (if bad lev idx wd = true then 1 else if there l.length (asTile lev idx wd) = true then 0 else 5) else Trees.leafsE l
def tileL (l : List Int) (lev idx wd : Int) : List Int := if tileE l lev idx wd = 0 then sumsOf l (asTile lev idx wd) else []
theorem tile_of {l : List Int} {lev idx wd : Int} (h : tileE l lev idx wd = 0) : Trees.leafsE l = 0 ∧ bad lev idx wd = false ∧ there l.length (asTile lev idx wd) = true := by
  unfold tileE at h
  by_cases h0 : Trees.leafsE l = 0
  · rw [if_pos h0] at h
    by_cases h1 : bad lev idx wd = true
    · rw [if_pos h1] at h; cases h
    · rw [if_neg h1] at h
      by_cases h2 : there l.length (asTile lev idx wd) = true
      · exact ⟨h0, by simpa using h1, h2⟩
      · rw [if_neg h2] at h; cases h
  · rw [if_neg h0] at h; exact absurd h h0
theorem tileL_len (l : List Int) (lev idx wd : Int) : (tileL l lev idx wd).length ≤ 4 := by
  unfold tileL
  split
  · rename_i h
    obtain ⟨_, h1, _⟩ := tile_of h
    obtain ⟨a, b, c, h2, h3, h4, _, _, h5⟩ := bad_of h1
    rw [sumsOf_length, asTile_of h2 h3 h4]
    exact h5
  · exact Nat.zero_le _

/-- each tile of a tree may be asked for -/
theorem tile_in {l : List Int} {n a b c : Nat} (hln : l.length = n) (h0 : Trees.leafsE l = 0) (h : (a, b, c) ∈ tiles n) : tileE l a b c = 0 ∧ tileL l a b c = sumsOf l (a, b, c) := by
  obtain ⟨h1, h2, h3⟩ := mem_tiles.1 h
  have hb : bad (a : Int) b c = false := decide_eq_false (by omega)
  have ht : there n (a, b, c) = true := (there_iff h1 (by omega) (by omega)).2 ⟨c, h, Nat.le_refl _⟩
  have e : tileE l a b c = 0 := by
    unfold tileE
    rw [if_pos h0, if_neg (by rw [hb]; decide), if_pos (by rw [hln]; exact ht)]
  refine ⟨e, ?_⟩
  unfold tileL
  rw [if_pos e]
  rfl

/-- where the i-th sum of a level is -/
def whereBad (lev i : Int) : Bool := decide (lev < 0 ∨ 3 < lev ∨ i < 0 ∨ 199 < i)
def whereE (lev i : Int) : Nat := if whereBad lev i = true then 1 else 0
def whereT (lev i : Int) : Int × Int × Int := if whereBad lev i = true then (0, 0, 0) else (lev, i / 4, i % 4 + 1)
def whereK (lev i : Int) : Int := if whereBad lev i = true then 0 else i % 4

/-- the tiles of a size, and what is wrong with it -/
def sizeE (n : Int) : Nat := if n < 0 ∨ 200 < n then 1 else 0
def allL (n : Int) : List Tile := if n < 0 ∨ 200 < n then [] else tiles n.toNat

end Go.Proofs.YticadkggaanbjaaGreatDoor.Tiles

/-
  Plain mathematics of what a log answers to a text. Nothing of the program is named here.
-/
namespace Go.Proofs.YticadkggaanbjaaGreatDoor.Answers
open Nums (text)
open Decimals (dec number words joined)
open Entries (Entry entsE leafsOf)
open Heads (Head ok isKey signOf print zero)
open Mirrors (rootE)

/-! the head of a log -/
def bare (l : List Entry) (now : Int) : Head := ⟨l.length, rootE l, now, 0⟩
def logE (l : List Entry) (key now : Int) : Nat := if entsE l = 0 then (if isKey key = true ∧ ok (bare l now) = true then 0 else 1) else entsE l
def logH (l : List Entry) (key now : Int) : Head := if logE l key now = 0 then ⟨l.length, rootE l, now, signOf (bare l now) key⟩ else zero
theorem log_ok {l : List Entry} {key now : Int} (h : logE l key now = 0) : entsE l = 0 ∧ isKey key = true ∧ ok (bare l now) = true := by
  unfold logE at h
  split at h
  · rename_i h1
    split at h
    · rename_i h2
      exact ⟨h1, h2⟩
    · cases h
  · rename_i h1
    exact absurd h h1
theorem head_ok {l : List Entry} {key now : Int} (h : logE l key now = 0) : ok (logH l key now) = true := by
  have h1 := (log_ok h).2.2
  unfold logH
  rw [if_pos h]
  unfold ok bare at h1
  unfold ok
  simp only [Bool.and_eq_true] at h1 ⊢
  refine ⟨⟨h1.1.1, h1.1.2⟩, ?_⟩
  have := Sums.sum_bd (Heads.said (bare l now) key)
  exact Nums.valid_iff.2 ⟨this.1, this.2⟩

/-! sums as texts -/
def sumsT (l : List Int) : List UInt8 := if l = [] then [45] else joined 32 (l.map text)
theorem joined_snoc (c : UInt8) : ∀ (ws : List (List UInt8)) (x : List UInt8), ws ≠ [] → joined c (ws ++ [x]) = joined c ws ++ c :: x
  | [], _, h => absurd rfl h
  | [a], x, _ => rfl
  | a :: b :: ws, x, _ => by
    have i := joined_snoc c (b :: ws) x (by simp)
    simp only [List.cons_append] at i ⊢
    rw [joined, joined, i]
    simp

/-! what is asked -/
def wHead : List UInt8 := [104, 101, 97, 100]
def wEntry : List UInt8 := [101, 110, 116, 114, 121]
def wLeaf : List UInt8 := [108, 101, 97, 102]
def wProof : List UInt8 := [112, 114, 111, 111, 102]
def wGrow : List UInt8 := [103, 114, 111, 119]
def wTile : List UInt8 := [116, 105, 108, 101]
/-- how many words there must be -/
def many (w : List UInt8) : Nat := if w = wHead then 1 else if w = wEntry ∨ w = wLeaf then 2 else if w = wProof ∨ w = wGrow ∨ w = wTile then 3 else 0
theorem many_le (w : List UInt8) : many w ≤ 3 := by unfold many; split; omega; split; omega; split <;> omega
def num (w : List UInt8) : Option Nat := number w 4
/-- the first ones are numbers -/
def nums : List (List UInt8) → Option (List Nat)
  | [] => some []
  | w :: ws => match num w, nums ws with
    | some n, some ns => some (n :: ns)
    | _, _ => none
theorem nums_len : ∀ {ws : List (List UInt8)} {ns : List Nat}, nums ws = some ns → ns.length = ws.length
  | [], ns, h => by
    obtain rfl : [] = ns := by simpa [nums] using h
    rfl
  | w :: ws, ns, h => by
    unfold nums at h
    split at h
    · rename_i n ms h1 h2
      obtain rfl : n :: ms = ns := by simpa using h
      simp [nums_len h2]
    · cases h
/-- what is told, where all is in order -/
def tell (l : List Entry) (key now : Int) (w : List UInt8) (n m : Nat) : List UInt8 × Nat :=
  if w = wHead then (print (logH l key now), 0)
  else if w = wProof then (if m ≤ n ∨ l.length < m then ([], 1) else (sumsT (Ways.way ((leafsOf l).take m) n), 0))
  else if w = wGrow then (if n < 1 ∨ m < n ∨ l.length < m then ([], 1) else (sumsT (Grows.grow ((leafsOf l).take m) n true), 0))
  else if w = wTile then (match (Tiles.tiles l.length).find? (fun t => decide (t.1 = n ∧ t.2.1 = m)) with
    | some t => (sumsT (Tiles.sumsOf (leafsOf l) t), 0)
    | none => ([], 5))
  else if l.length ≤ n then ([], 5)
  else if w = wLeaf then (text ((leafsOf l).getD n 0), 0)
  else (dec (l.getD n (0, ⟨#[]⟩)).1.toNat ++ 32 :: (l.getD n (0, ⟨#[]⟩)).2.data.toList, 0)
def answerW (l : List Entry) (key now : Int) : List (List UInt8) → List UInt8 × Nat
  | [] => ([], 2)
  | w0 :: wt => if wt.length + 1 = many w0 then (match nums wt with
    | none => ([], 2)
    | some ns => if logE l key now = 0 then tell l key now w0 (ns.getD 0 0) (ns.getD 1 0) else ([], logE l key now)) else ([], 2)
def answer (l : List Entry) (key now : Int) (ask : List UInt8) : List UInt8 × Nat := answerW l key now (words 32 ask)

theorem nums_snoc : ∀ (ws : List (List UInt8)) (x : List UInt8), nums (ws ++ [x]) = (match nums ws, num x with | some ns, some k => some (ns ++ [k]) | _, _ => none)
  | [], x => by
    show nums [x] = _
    cases h : num x <;> simp [nums, h]
  | w :: ws, x => by
    rw [List.cons_append, nums, nums_snoc ws x, nums]
    cases num w <;> cases nums ws <;> cases num x <;> rfl
theorem nums_none : ∀ {ws : List (List UInt8)} {j : Nat} {x : List UInt8}, ws[j]? = some x → num x = none → nums ws = none
  | [], j, x, h, _ => by simp at h
  | w :: ws, 0, x, h, hx => by
    obtain rfl : w = x := by simpa using h
    rw [nums, hx]
  | w :: ws, j + 1, x, h, hx => by
    rw [nums, nums_none (ws := ws) (j := j) (by simpa using h) hx]
    cases num w <;> rfl
theorem nums_next {ws : List (List UInt8)} {j : Nat} {x : List UInt8} {ns : List Nat} {k : Nat} (h : ws[j]? = some x) (hn : nums (ws.take j) = some ns) (hx : num x = some k) : nums (ws.take (j + 1)) = some (ns ++ [k]) := by
  obtain ⟨hj, rfl⟩ := List.getElem?_eq_some_iff.1 h
  rw [List.take_succ_eq_append_getElem hj, nums_snoc, hn, hx]
/-- where the tile is -/
theorem tell_tile {l : List Entry} {key now : Int} {n m : Nat} : tell l key now wTile n m = (match (Tiles.tiles l.length).find? (fun t => decide (t.1 = n ∧ t.2.1 = m)) with
    | some t => (sumsT (Tiles.sumsOf (leafsOf l) t), 0)
    | none => ([], 5)) := rfl

theorem answer_cases (l : List Entry) (key now : Int) (ask : List UInt8) {w0 : List UInt8} {wt : List (List UInt8)} (h : words 32 ask = w0 :: wt) :
    (wt.length + 1 ≠ many w0 → answer l key now ask = ([], 2)) ∧ (nums wt = none → answer l key now ask = ([], 2)) ∧
    ∀ ns, wt.length + 1 = many w0 → nums wt = some ns → (logE l key now ≠ 0 → answer l key now ask = ([], logE l key now)) ∧ (logE l key now = 0 → answer l key now ask = tell l key now w0 (ns.getD 0 0) (ns.getD 1 0)) := by
  unfold answer
  rw [h, answerW]
  refine ⟨fun h1 => if_neg h1, fun h1 => ?_, fun ns h1 h2 => ⟨fun h3 => ?_, fun h3 => ?_⟩⟩
  · rw [h1]
    simp only
    split <;> rfl
  · rw [if_pos h1, h2]
    exact if_neg h3
  · rw [if_pos h1, h2]
    exact if_pos h3

end Go.Proofs.YticadkggaanbjaaGreatDoor.Answers

/-
  Plain mathematics: of a tree and a beginning of it, the proof that is made of the leafs is right; and of entries and a beginning of them.
-/
namespace Go.Proofs.YticadkggaanbjaaGreatDoor.GrowRight
open Grows (gsteps grow oldOf newOf grownE)
open GrowsE (gmakeE gmakeL growE growE_is leafs_zero)
open Entries (Entry entE entsE leafsOf leafsV)

theorem right {L : List Int} {m n : Nat} (hn : L.length = n) (h2 : n ≤ 200) (hv : ∀ x ∈ L, Nums.valid x = true) (h1 : 1 ≤ m) (hm : m ≤ n) :
    gmakeE L (m : Int) (n : Int) = 0 ∧ (gmakeL L (m : Int) (n : Int)).length ≤ 201 ∧ growE (Trees.rootV (L.take m)) (m : Int) (Trees.rootV L) (n : Int) (gmakeL L (m : Int) (n : Int)) = 0 := by
  have hvo : ∀ x ∈ L.take m, Nums.valid x = true := fun x hx => hv x (List.mem_of_mem_take hx)
  have z1 := leafs_zero (l := L) (by omega) hv
  have z2 := leafs_zero (l := L.take m) (by rw [List.length_take]; omega) hvo
  have e1 : gmakeE L (m : Int) (n : Int) = 0 := by
    unfold gmakeE
    rw [if_pos z1, if_pos (show GrowsE.inGrow (m : Int) (n : Int) (L.length : Int) = true from decide_eq_true ⟨by omega, by omega, by omega⟩)]
  have htk : L.take n = L := List.take_of_length_le (by omega)
  have eP : gmakeL L (m : Int) (n : Int) = grow L m true := by
    unfold gmakeL
    rw [if_pos e1, Int.toNat_natCast, Int.toNat_natCast, htk]
  have lP : (grow L m true).length = gsteps m n true := by
    have h := Grows.grow_length _ L m true (Nat.le_refl _) h1 (by omega)
    rw [hn] at h
    exact h
  have vP := Grows.grow_valid _ L m true (Nat.le_refl _) h1 (by omega) hv
  have eG := Grows.of_grow _ L m true (Trees.root (L.take m)) (Nat.le_refl _) h1 (by omega) (fun _ => rfl)
  rw [hn] at eG
  refine ⟨e1, GrowsE.gmakeL_len _ _ _, ?_⟩
  rw [show Trees.rootV (L.take m) = Trees.root (L.take m) from if_pos z2, show Trees.rootV L = Trees.root L from if_pos z1, eP,
    growE_is rfl rfl h1 hm h2 (Trees.root_valid _ hvo) (Trees.root_valid _ hv) vP]
  unfold grownE
  rw [if_pos lP, eG.1, eG.2, if_pos ⟨rfl, rfl⟩]

theorem leafs_valid (l : List Entry) : ∀ x ∈ leafsOf l, Nums.valid x = true := by
  intro x hx
  obtain ⟨e, _, rfl⟩ := List.mem_map.1 hx
  have := Sums.sum_bd (0 :: Entries.bytes e)
  exact Nums.valid_iff.2 ⟨this.1, this.2⟩
theorem leafs_take {l : List Entry} (h : entsE l = 0) (m : Nat) : entsE (l.take m) = 0 ∧ leafsV (l.take m) = (leafsV l).take m := by
  obtain ⟨h1, h2⟩ := Entries.ents_ok h
  have e : entsE (l.take m) = 0 := Entries.ents_of (by rw [List.length_take]; omega) fun e he => h2 e (List.mem_of_mem_take he)
  refine ⟨e, ?_⟩
  unfold leafsV
  rw [if_pos e, if_pos h]
  exact List.map_take
theorem leafs_is {l : List Entry} (h : entsE l = 0) : leafsV l = leafsOf l ∧ (leafsV l).length = l.length := by
  have e : leafsV l = leafsOf l := if_pos h
  refine ⟨e, ?_⟩
  rw [e]
  exact List.length_map ..

end Go.Proofs.YticadkggaanbjaaGreatDoor.GrowRight

/-
  Plain mathematics of ServeProves: what a log answers to the texts that the law makes, and what these answers prove. Nothing of the program is named here.
-/
namespace Go.Proofs.YticadkggaanbjaaGreatDoor.Serves
open Nums (text)
open Decimals (dec number words joined)
open Entries (Entry entE entsE leafsOf)
open Heads (Head ok isKey signOf print zero verifyE)
open Mirrors (rootE)
open Answers

theorem root_valid (l : List Entry) : Nums.valid (rootE l) = true := Trees.root_valid _ (GrowRight.leafs_valid l)
/-- when a log has a head -/
theorem log_zero {l : List Entry} {key now : Int} (h1 : entsE l = 0) (h2 : isKey key = true) (h3 : 0 ≤ now) (h4 : now ≤ 1000000) : logE l key now = 0 := by
  have h5 := (Entries.ents_ok h1).1
  have hb : ok (bare l now) = true := Heads.ok_iff.2 ⟨⟨by show (0 : Int) ≤ (l.length : Int); omega, by show (l.length : Int) ≤ 200; omega, h3, h4⟩, root_valid l, by show Nums.valid 0 = true; decide⟩
  unfold logE
  rw [if_pos h1, if_pos ⟨h2, hb⟩]
theorem log_time {l : List Entry} {key now : Int} (h : logE l key now = 0) : 0 ≤ now ∧ now ≤ 1000000 := by
  have h1 := (Heads.ok_iff.1 (log_ok h).2.2).1
  exact ⟨h1.2.2.1, h1.2.2.2⟩
/-- a beginning of the log has one too -/
theorem log_take {l : List Entry} {key now : Int} (h : logE l key now = 0) (o : Nat) : logE (l.take o) key now = 0 := by
  obtain ⟨h1, h2, _⟩ := log_ok h
  obtain ⟨h3, h4⟩ := log_time h
  exact log_zero (GrowRight.leafs_take h1 o).1 h2 h3 h4
theorem log_is {l : List Entry} {key now : Int} (h : logE l key now = 0) : logH l key now = ⟨l.length, rootE l, now, signOf (bare l now) key⟩ := if_pos h
theorem log_verify {l : List Entry} {key now : Int} (h : logE l key now = 0) : verifyE (logH l key now) key = 0 := by
  obtain ⟨_, h2, _⟩ := log_ok h
  have h3 := head_ok h
  unfold verifyE
  rw [if_pos ⟨h2, h3⟩, if_pos]
  rw [log_is h]
  rfl
theorem log_parse {l : List Entry} {key now : Int} (h : logE l key now = 0) : Heads.parse (print (logH l key now)) = (logH l key now, 0) := Heads.parse_print (head_ok h)

/-! the texts that are asked -/
theorem dec_num {n : Nat} (h : n ≤ 200) : num (dec n) = some n := Decimals.number_dec n 4 (Decimals.dec_length 3 n (by omega))
theorem ask_one (w : List UInt8) (hw : (32 : UInt8) ∉ w) (n : Nat) : words 32 (w ++ 32 :: dec n) = [w, dec n] := by
  rw [Decimals.words_cut _ hw, Decimals.words_none (Decimals.blank_dig (Decimals.dec_digs n))]
theorem ask_two (w : List UInt8) (hw : (32 : UInt8) ∉ w) (n m : Nat) : words 32 (w ++ 32 :: (dec n ++ 32 :: dec m)) = [w, dec n, dec m] := by
  rw [Decimals.words_cut _ hw, ask_one _ (Decimals.blank_dig (Decimals.dec_digs n))]
theorem nums_one {n : Nat} (h : n ≤ 200) : nums [dec n] = some [n] := by simp [nums, dec_num h]
theorem nums_two {n m : Nat} (h : n ≤ 200) (h2 : m ≤ 200) : nums [dec n, dec m] = some [n, m] := by simp [nums, dec_num h, dec_num h2]
theorem answer_head (l : List Entry) (key now : Int) : answer l key now wHead = if logE l key now = 0 then (print (logH l key now), 0) else ([], logE l key now) := by
  obtain ⟨_, _, h⟩ := answer_cases l key now wHead (w0 := wHead) (wt := []) (Decimals.words_none (by decide))
  obtain ⟨h1, h2⟩ := h [] (by decide) rfl
  split
  · rename_i h0
    exact h2 h0
  · rename_i h0
    exact h1 h0
theorem answer_leaf {l : List Entry} {key now : Int} (h : logE l key now = 0) {i : Nat} (hi : i < l.length) : answer l key now (wLeaf ++ 32 :: dec i) = (text ((leafsOf l).getD i 0), 0) := by
  have h5 := (Entries.ents_ok (log_ok h).1).1
  obtain ⟨_, _, h0⟩ := answer_cases l key now _ (ask_one wLeaf (by decide) i)
  rw [(h0 [i] rfl (nums_one (by omega))).2 h]
  show tell l key now wLeaf i 0 = _
  unfold tell
  rw [if_neg (by decide), if_neg (by decide), if_neg (by decide), if_neg (by decide), if_neg (by omega), if_pos rfl]
theorem leafs_len (l : List Entry) : (leafsOf l).length = l.length := by simp [leafsOf]
theorem leafs_all (l : List Entry) : (leafsOf l).take l.length = leafsOf l := List.take_of_length_le (by rw [leafs_len]; exact Nat.le_refl _)
theorem answer_proof {l : List Entry} {key now : Int} (h : logE l key now = 0) {i : Nat} (hi : i < l.length) : answer l key now (wProof ++ 32 :: (dec i ++ 32 :: dec l.length)) = (sumsT (Ways.way (leafsOf l) i), 0) := by
  have h5 := (Entries.ents_ok (log_ok h).1).1
  obtain ⟨_, _, h0⟩ := answer_cases l key now _ (ask_two wProof (by decide) i l.length)
  rw [(h0 [i, l.length] rfl (nums_two (by omega) h5)).2 h]
  show tell l key now wProof i l.length = _
  unfold tell
  rw [if_neg (by decide), if_pos rfl, if_neg (by omega), leafs_all]
theorem answer_grow {l : List Entry} {key now : Int} (h : logE l key now = 0) {o : Nat} (h1 : 1 ≤ o) (h2 : o ≤ l.length) : answer l key now (wGrow ++ 32 :: (dec o ++ 32 :: dec l.length)) = (sumsT (Grows.grow (leafsOf l) o true), 0) := by
  have h5 := (Entries.ents_ok (log_ok h).1).1
  obtain ⟨_, _, h0⟩ := answer_cases l key now _ (ask_two wGrow (by decide) o l.length)
  rw [(h0 [o, l.length] rfl (nums_two (by omega) h5)).2 h]
  show tell l key now wGrow o l.length = _
  unfold tell
  rw [if_neg (by decide), if_neg (by decide), if_pos rfl, if_neg (by omega), leafs_all]

/-! sums as texts, and back -/
theorem words_joined (ws : List (List UInt8)) (hne : ws ≠ []) (h : ∀ x ∈ ws, (32 : UInt8) ∉ x) : words 32 (joined 32 ws) = ws := by
  induction ws with
  | nil => exact absurd rfl hne
  | cons a ws ih =>
    cases ws with
    | nil => exact Decimals.words_none (h a (List.mem_singleton.2 rfl))
    | cons b ws =>
      rw [joined, Decimals.words_cut _ (h a (List.mem_cons_self ..)), ih (by simp) fun x hx => h x (List.mem_cons_of_mem _ hx)]
theorem sums_words {l : List Int} (h : l ≠ []) : words 32 (sumsT l) = l.map text := by
  unfold sumsT
  rw [if_neg h]
  refine words_joined _ (by simpa using h) fun x hx => ?_
  obtain ⟨n, _, rfl⟩ := List.mem_map.1 hx
  exact Heads.text_blank n
theorem sums_none {l : List Int} : sumsT l = [45] ↔ l = [] := by
  refine ⟨fun h => Decidable.byContradiction fun hn => ?_, fun h => if_pos h⟩
  have h1 := sums_words hn
  rw [h] at h1
  have h2 : words 32 [45] = [[45]] := by decide
  rw [h2] at h1
  match l, h1 with
  | [], _ => exact hn rfl
  | a :: l, h1 =>
    have h3 : [45] = text a := by simpa using (List.cons.inj h1).1
    have h4 := congrArg List.length h3
    rw [Nums.text_length] at h4
    cases h4

/-! what they prove -/
theorem proves {l : List Entry} {i : Nat} (hi : i < l.length) : Ways.upL ((leafsOf l).getD i 0) (Ways.way (leafsOf l) i) (Ways.turns i l.length) = rootE l := by
  have h := Ways.up_way (leafsOf l) i (by rw [leafs_len]; exact hi)
  rw [leafs_len] at h
  exact h
theorem grew {l : List Entry} (h : entsE l = 0) {o : Nat} (h1 : 1 ≤ o) (h2 : o ≤ l.length) : GrowsE.growE (rootE (l.take o)) o (rootE l) l.length (Grows.grow (leafsOf l) o true) = 0 := by
  have h5 := (Entries.ents_ok h).1
  obtain ⟨e1, _, e3⟩ := GrowRight.right (leafs_len l) h5 (GrowRight.leafs_valid l) h1 h2
  have eP : GrowsE.gmakeL (leafsOf l) (o : Int) (l.length : Int) = Grows.grow (leafsOf l) o true := by
    unfold GrowsE.gmakeL
    rw [if_pos e1, Int.toNat_natCast, Int.toNat_natCast, leafs_all]
  have hvo : ∀ x ∈ (leafsOf l).take o, Nums.valid x = true := fun x hx => GrowRight.leafs_valid l x (List.mem_of_mem_take hx)
  rw [eP, show Trees.rootV ((leafsOf l).take o) = rootE (l.take o) from (if_pos (GrowsE.leafs_zero (by rw [List.length_take, leafs_len]; omega) hvo)).trans (by unfold rootE leafsOf; rw [List.map_take]),
    show Trees.rootV (leafsOf l) = rootE l from if_pos (GrowsE.leafs_zero (by rw [leafs_len]; exact h5) (GrowRight.leafs_valid l))] at e3
  exact e3
/-- the law's first fact -/
theorem first : answer [(3, ⟨#[104, 105]⟩)] 7 1 [101, 110, 116, 114, 121, 32, 48] = ([51, 32, 104, 105], 0) := by
  have h : logE [(3, (⟨#[104, 105]⟩ : ByteArray))] 7 1 = 0 := log_zero (by decide) (by decide) (by decide) (by decide)
  obtain ⟨_, _, h0⟩ := answer_cases [(3, (⟨#[104, 105]⟩ : ByteArray))] 7 1 [101, 110, 116, 114, 121, 32, 48] (w0 := wEntry) (wt := [[48]]) (by decide)
  rw [(h0 [0] (by decide) (by decide)).2 h]
  rfl

end Go.Proofs.YticadkggaanbjaaGreatDoor.Serves

/-
  Plain mathematics of a mirror that follows a log which tells the truth: from some of its entries on, by a head, page by page, and by a proof, it comes to all of them. Nothing of the program is named here.
-/
namespace Go.Proofs.YticadkggaanbjaaGreatDoor.Follows
open Entries (Entry entE entsE leafsOf)
open Heads (Head isKey zero verifyE more)
open Mirrors
open Answers (logE logH)

/-- it has the first o, and nothing waits -/
structure At (key : Int) (l : List Entry) (o : Nat) (m : Mir) : Prop where
  own : m.own = l.take o
  next : m.next = zero
  waits : m.waits = []
  le : o ≤ l.length
/-- it has the first o, goes to the first t by the head of these, and those from o to c wait -/
structure Goes (key now : Int) (l : List Entry) (o t c : Nat) (m : Mir) : Prop where
  own : m.own = l.take o
  next : m.next = logH (l.take t) key now
  waits : m.waits = (l.take c).drop o
  oc : o ≤ c
  ct : c ≤ t
  ot : o < t
  le : t ≤ l.length
  log : logE (l.take t) key now = 0
  open_ : ¬ (o = 0 ∧ c = t)
theorem At.want {key : Int} {l : List Entry} {o : Nat} {m : Mir} (h : At key l o m) : m.want = ⟨1, 0, 0⟩ := by
  unfold Mir.want
  rw [h.next]
  rfl
theorem At.size {key : Int} {l : List Entry} {o : Nat} {m : Mir} (h : At key l o m) : m.own.length = o := by
  rw [h.own, List.length_take]
  have := h.le
  omega
theorem start_at (key : Int) (l : List Entry) : At key l 0 Mirrors.start := ⟨rfl, rfl, rfl, Nat.zero_le _⟩
theorem Goes.size {key now : Int} {l : List Entry} {o t c : Nat} {m : Mir} (h : Goes key now l o t c m) : m.next.size = (t : Int) ∧ m.next.root = rootE (l.take t) ∧ m.own.length = o ∧ m.waits.length = c - o ∧ m.has = c := by
  have h1 := h.le
  have h2 := h.oc
  have h3 := h.ct
  have e1 : m.next = ⟨(l.take t).length, rootE (l.take t), now, Heads.signOf (Answers.bare (l.take t) now) key⟩ := by rw [h.next, Serves.log_is h.log]
  have e2 : m.own.length = o := by rw [h.own, List.length_take]; omega
  have e3 : m.waits.length = c - o := by rw [h.waits, List.length_drop, List.length_take]; omega
  refine ⟨by rw [e1]; show ((l.take t).length : Int) = _; rw [List.length_take]; omega, by rw [e1], e2, e3, ?_⟩
  unfold Mir.has
  omega
theorem Goes.want {key now : Int} {l : List Entry} {o t c : Nat} {m : Mir} (h : Goes key now l o t c m) : m.want = if c = t then ⟨3, (o : Int), (t : Int)⟩ else ⟨2, (c : Int), ((min (c + 16) t : Nat) : Int)⟩ := by
  obtain ⟨h1, _, h3, _, h5⟩ := h.size
  have h6 := h.ot
  unfold Mir.want
  rw [if_neg (by rw [h1]; omega), h5, h1]
  by_cases e : c = t
  · rw [if_pos (by omega), if_pos e, h3, e]
  · rw [if_neg (by omega), if_neg e]
    congr 1
    split <;> omega
/-- a head of the log is heard -/
theorem hear_head {key now : Int} {l : List Entry} {o t : Nat} {m : Mir} (h : At key l o m) (hot : o ≤ t) (ht : t ≤ l.length) (hl : logE (l.take t) key now = 0) :
    hearE key m ⟨1, logH (l.take t) key now, [], []⟩ = 0 ∧ (o < t → Goes key now l o t o (hearM key m ⟨1, logH (l.take t) key now, [], []⟩)) ∧ (o = t → At key l t (hearM key m ⟨1, logH (l.take t) key now, [], []⟩)) := by
  have hw := h.want
  have hv := Serves.log_verify hl
  have hs := h.size
  have e1 : (logH (l.take t) key now).size = (t : Int) := by rw [Serves.log_is hl]; show ((l.take t).length : Int) = _; rw [List.length_take]; omega
  have e2 : (logH (l.take t) key now).root = rootE (l.take t) := by rw [Serves.log_is hl]
  have he : headE key m (logH (l.take t) key now) = 0 := by
    unfold headE
    rw [if_pos hv, if_neg]
    rintro (q | ⟨q, r⟩)
    · omega
    · have : o = t := by omega
      subst this
      exact r (by rw [e2, h.own])
  have e3 : hearE key m ⟨1, logH (l.take t) key now, [], []⟩ = headE key m (logH (l.take t) key now) := by
    unfold hearE
    rw [hw]
    rfl
  have e4 : hearM key m ⟨1, logH (l.take t) key now, [], []⟩ = headM key m (logH (l.take t) key now) := by
    unfold hearM
    rw [hw]
    rfl
  rw [e3, e4]
  refine ⟨he, fun hlt => ?_, fun heq => ?_⟩
  · have e5 : headM key m (logH (l.take t) key now) = { m with next := logH (l.take t) key now } := by
      unfold headM
      rw [if_pos he, if_pos (by omega)]
    rw [e5]
    exact ⟨h.own, rfl, by show m.waits = _; rw [h.waits, List.drop_eq_nil_of_le (by rw [List.length_take]; omega)], Nat.le_refl _, hot, hlt, ht, hl, by omega⟩
  · subst heq
    unfold headM
    rw [if_pos he, if_neg (by omega)]
    split
    · exact ⟨h.own, h.next, h.waits, ht⟩
    · exact h
/-- all are there: they are its own -/
theorem settles {key now : Int} {l : List Entry} {o t : Nat} {m : Mir} (h1 : m.own = l.take o) (h2 : m.next = logH (l.take t) key now) (h3 : m.waits = (l.take t).drop o) (ho : o ≤ t) (ht : t ≤ l.length) (hl : logE (l.take t) key now = 0) : m.settledE = 0 ∧ At key l t m.settled := by
  have ha : m.all = l.take t := by
    unfold Mir.all
    rw [h1, h3, show l.take o = (l.take t).take o by rw [List.take_take, Nat.min_eq_left ho], List.take_append_drop]
  have hr : rootE m.all = m.next.root := by rw [ha, h2, Serves.log_is hl]
  refine ⟨if_pos hr, ?_⟩
  unfold Mir.settled
  rw [if_pos hr]
  exact ⟨ha, rfl, rfl, ht⟩
/-- a page is heard -/
theorem hear_page {key now : Int} {l : List Entry} {o t c : Nat} {m : Mir} (h : Goes key now l o t c m) (hc : c ≠ t) (r : Reply) (hr1 : r.what = 2) (hr2 : r.ents = (l.take (min (c + 16) t)).drop c) :
    hearE key m r = 0 ∧ ((o = 0 ∧ min (c + 16) t = t) → At key l t (hearM key m r)) ∧ (¬ (o = 0 ∧ min (c + 16) t = t) → Goes key now l o t (min (c + 16) t) (hearM key m r)) := by
  have hw := h.want
  rw [if_neg hc] at hw
  obtain ⟨s1, s2, s3, s4, s5⟩ := h.size
  have q1 := h.oc
  have q2 := h.ct
  have q3 := h.ot
  have q4 := h.le
  obtain ⟨d, hd⟩ : ∃ d, d = min (c + 16) t := ⟨_, rfl⟩
  rw [← hd] at hr2 hw ⊢
  have hcd : c < d := by omega
  have hdt : d ≤ t := by omega
  have hel : r.ents.length = d - c := by rw [hr2, List.length_drop, List.length_take]; omega
  have hen : entsE r.ents = 0 := by
    have h0 := (Answers.log_ok h.log).1
    obtain ⟨n1, n2⟩ := Entries.ents_ok h0
    refine Entries.ents_of (by omega) fun e he => n2 e ?_
    rw [hr2] at he
    have := List.mem_of_mem_drop he
    rw [show l.take d = (l.take t).take d by rw [List.take_take, Nat.min_eq_left hdt]] at this
    exact List.mem_of_mem_take this
  have e0 : someE0 m r.ents = 0 := by
    unfold someE0
    rw [hw, if_neg]
    · exact hen
    · rintro (q | q)
      · omega
      · simp only at q
        omega
  have e1 : hearE key m r = someE m r.ents := by
    unfold hearE
    rw [hw, hr1]
    rfl
  have e2 : hearM key m r = someM m r.ents := by
    unfold hearM
    rw [hw, hr1]
    rfl
  have hwt : (m.with r.ents).waits = (l.take d).drop o := by
    show m.waits ++ r.ents = _
    rw [h.waits, hr2]
    have e3 : l.take d = l.take c ++ (l.take d).drop c := by
      conv => lhs; rw [← List.take_append_drop c (l.take d)]
      rw [List.take_take, Nat.min_eq_left (by omega)]
    conv => rhs; rw [e3]
    rw [List.drop_append_of_le_length (by rw [List.length_take]; omega)]
  have hends : ends (m.with r.ents) = decide (o = 0 ∧ d = t) := by
    unfold ends
    apply decide_eq_decide.2
    show (m.own.length = 0 ∧ ((m.with r.ents).waits.length : Int) = m.next.size) ↔ _
    rw [hwt, List.length_drop, List.length_take, s3, s1]
    omega
  rw [e1, e2]
  unfold someE someM
  rw [if_pos e0, if_pos e0, hends]
  by_cases hf : o = 0 ∧ d = t
  · rw [if_pos (decide_eq_true hf), if_pos (decide_eq_true hf)]
    obtain ⟨k1, k2⟩ := settles (m := m.with r.ents) h.own h.next (by rw [hwt, hf.2]) (by omega) q4 h.log
    exact ⟨k1, fun _ => k2, fun n => absurd hf n⟩
  · rw [if_neg (by rw [decide_eq_false hf]; decide), if_neg (by rw [decide_eq_false hf]; decide)]
    exact ⟨rfl, fun n => absurd n hf, fun _ => ⟨h.own, h.next, hwt, by omega, hdt, q3, q4, h.log, hf⟩⟩
/-- the proof is heard -/
theorem hear_proof {key now : Int} {l : List Entry} {o t : Nat} {m : Mir} (h : Goes key now l o t t m) (r : Reply) (hr1 : r.what = 3) (hr2 : r.proof = Grows.grow (leafsOf (l.take t)) o true) :
    hearE key m r = 0 ∧ At key l t (hearM key m r) := by
  have hw := h.want
  rw [if_pos rfl] at hw
  obtain ⟨s1, s2, s3, s4, s5⟩ := h.size
  have q3 := h.ot
  have q4 := h.le
  have ho : 1 ≤ o := by have := h.open_; omega
  have e0 : proofE0 m r.proof = 0 := by
    unfold proofE0
    have hg := Serves.grew (l := l.take t) (Answers.log_ok h.log).1 (o := o) ho (by rw [List.length_take]; omega)
    rw [List.take_take, Nat.min_eq_left (by omega), show (l.take t).length = t by rw [List.length_take]; omega] at hg
    rw [hr2, h.own, s1, s2, show (l.take o).length = o by rw [List.length_take]; omega]
    exact hg
  have e1 : hearE key m r = proofE m r.proof := by
    unfold hearE
    rw [hw, hr1]
    rfl
  have e2 : hearM key m r = proofM m r.proof := by
    unfold hearM
    rw [hw, hr1]
    rfl
  rw [e1, e2]
  unfold proofE proofM
  rw [if_pos e0, if_pos e0]
  exact settles h.own h.next h.waits (by omega) q4 h.log

end Go.Proofs.YticadkggaanbjaaGreatDoor.Follows

