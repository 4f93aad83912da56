/-
  Plain mathematics of the way up: the parts that lie beside it, in their order; their roots are the proof, their sides its turns. Nothing of the program is named here.
-/
import Derived.Test.YtlibjdkofajahaaDoorWays
namespace Go.Proofs.YtlibjdkofajahaaDoor.Climbs
open Trees (root half half_lt half_pos)
open Ways (turns steps way upL)

/-- the parts beside the way of the i-th leaf up to the root of those from lo to hi, from below -/
def besideF : Nat → Nat → Nat → Nat → List (Nat × Nat)
  | 0, _, _, _ => []
  | f + 1, i, lo, hi => if hi - lo ≤ 1 then [] else if i < lo + half (hi - lo) then besideF f i lo (lo + half (hi - lo)) ++ [(lo + half (hi - lo), hi)] else besideF f i (lo + half (hi - lo)) hi ++ [(lo, lo + half (hi - lo))]
theorem besideF_fuel : ∀ (f g i lo hi : Nat), hi - lo ≤ f → hi - lo ≤ g → besideF f i lo hi = besideF g i lo hi
  | 0, 0, _, _, _, _, _ => rfl
  | 0, g + 1, i, lo, hi, hf, _ => by rw [besideF, besideF, if_pos (by omega)]
  | f + 1, 0, i, lo, hi, _, hg => by rw [besideF, besideF, if_pos (by omega)]
  | f + 1, g + 1, i, lo, hi, hf, hg => by
    rw [besideF, besideF]
    split
    · rfl
    have a := half_lt (hi - lo) (by omega)
    have b := half_pos (hi - lo)
    rw [besideF_fuel f g i lo (lo + half (hi - lo)) (by omega) (by omega), besideF_fuel f g i (lo + half (hi - lo)) hi (by omega) (by omega)]
def beside (i lo hi : Nat) : List (Nat × Nat) := besideF (hi - lo) i lo hi
theorem beside_one (i lo hi : Nat) (h : hi - lo ≤ 1) : beside i lo hi = [] := by
  rw [beside, besideF_fuel (hi - lo) (hi - lo + 1) _ _ _ (Nat.le_refl _) (by omega), besideF, if_pos h]
theorem beside_left (i lo hi k : Nat) (h : 2 ≤ hi - lo) (hk : half (hi - lo) = k) (hi' : i < lo + k) : beside i lo hi = beside i lo (lo + k) ++ [(lo + k, hi)] := by
  subst hk
  have a := half_lt (hi - lo) h
  rw [beside, besideF_fuel (hi - lo) (hi - lo + 1) _ _ _ (Nat.le_refl _) (by omega), besideF, if_neg (by omega), if_pos hi', beside, besideF_fuel (hi - lo) (lo + half (hi - lo) - lo) _ _ _ (by omega) (Nat.le_refl _)]
theorem beside_right (i lo hi k : Nat) (h : 2 ≤ hi - lo) (hk : half (hi - lo) = k) (hi' : ¬ i < lo + k) : beside i lo hi = beside i (lo + k) hi ++ [(lo, lo + k)] := by
  subst hk
  have a := half_lt (hi - lo) h
  have b := half_pos (hi - lo)
  rw [beside, besideF_fuel (hi - lo) (hi - lo + 1) _ _ _ (Nat.le_refl _) (by omega), besideF, if_neg (by omega), if_neg hi', beside, besideF_fuel (hi - lo) (hi - (lo + half (hi - lo))) _ _ _ (by omega) (Nat.le_refl _)]

/-- each part lies between lo and hi, and is no empty one -/
theorem beside_in : ∀ (f i lo hi : Nat), hi - lo ≤ f → ∀ p ∈ beside i lo hi, lo ≤ p.1 ∧ p.1 < p.2 ∧ p.2 ≤ hi
  | 0, i, lo, hi, h, p, hp => by rw [beside_one i lo hi (by omega)] at hp; cases hp
  | f + 1, i, lo, hi, h, p, hp => by
    by_cases h2 : 2 ≤ hi - lo
    · have a := half_lt (hi - lo) h2
      have b := half_pos (hi - lo)
      by_cases hk : i < lo + half (hi - lo)
      · rw [beside_left i lo hi _ h2 rfl hk] at hp
        rcases List.mem_append.1 hp with hp | hp
        · have := beside_in f i lo _ (by omega) p hp; omega
        · rw [List.mem_singleton.1 hp]; simp only; omega
      · rw [beside_right i lo hi _ h2 rfl hk] at hp
        rcases List.mem_append.1 hp with hp | hp
        · have := beside_in f i _ hi (by omega) p hp; omega
        · rw [List.mem_singleton.1 hp]; simp only; omega
    · rw [beside_one i lo hi (by omega)] at hp; cases hp

/-- on which side each stands -/
theorem beside_turns : ∀ (f i lo hi : Nat), hi - lo ≤ f → lo ≤ i → i < hi → (beside i lo hi).map (fun p => !decide (i < p.1)) = turns (i - lo) (hi - lo)
  | 0, i, lo, hi, h, h1, h2 => by omega
  | f + 1, i, lo, hi, h, h1, h3 => by
    by_cases h2 : 2 ≤ hi - lo
    · have a := half_lt (hi - lo) h2
      have b := half_pos (hi - lo)
      by_cases hk : i < lo + half (hi - lo)
      · rw [beside_left i lo hi _ h2 rfl hk, Ways.turns_left _ _ h2 (by omega), List.map_append, beside_turns f i lo _ (by omega) h1 hk, show lo + half (hi - lo) - lo = half (hi - lo) by omega]
        simp [hk]
      · rw [beside_right i lo hi _ h2 rfl hk, Ways.turns_right _ _ h2 (by omega), List.map_append, beside_turns f i _ hi (by omega) (by omega) h3, show i - (lo + half (hi - lo)) = i - lo - half (hi - lo) by omega, show hi - (lo + half (hi - lo)) = hi - lo - half (hi - lo) by omega]
        simp [h1]
    · rw [beside_one i lo hi (by omega), Ways.turns_one _ _ (by omega)]; rfl
theorem turns_of (i n : Nat) (h : i < n) : (beside i 0 n).map (fun p => !decide (i < p.1)) = turns i n := beside_turns n i 0 n (by omega) (Nat.zero_le _) h
theorem beside_len (i n : Nat) (h : i < n) : (beside i 0 n).length = steps i n := by
  have e := congrArg List.length (turns_of i n h)
  rw [List.length_map] at e
  exact e

/-- the roots of these parts -/
def rootAt (l : List Int) (p : Nat × Nat) : Int := root ((l.take p.2).drop p.1)
theorem cut_take {l : List Int} {lo hi k : Nat} (h : lo + k ≤ hi) : ((l.take hi).drop lo).take k = (l.take (lo + k)).drop lo := by
  rw [List.take_drop, List.take_take]
  rw [Nat.min_eq_left h]
theorem cut_drop {l : List Int} {lo hi k : Nat} : ((l.take hi).drop lo).drop k = (l.take hi).drop (lo + k) := by
  rw [List.drop_drop]
theorem beside_way : ∀ (f : Nat) (l : List Int) (i lo hi : Nat), hi - lo ≤ f → lo ≤ i → i < hi → hi ≤ l.length → (beside i lo hi).map (rootAt l) = way ((l.take hi).drop lo) (i - lo)
  | 0, l, i, lo, hi, h, h1, h2, _ => by omega
  | f + 1, l, i, lo, hi, h, h1, h3, h4 => by
    have hl : ((l.take hi).drop lo).length = hi - lo := by simp; omega
    by_cases h2 : 2 ≤ hi - lo
    · have a := half_lt (hi - lo) h2
      have b := half_pos (hi - lo)
      by_cases hk : i < lo + half (hi - lo)
      · rw [beside_left i lo hi _ h2 rfl hk, Ways.way_left _ _ (by omega) (by rw [hl]; omega), List.map_append, beside_way f l i lo _ (by omega) h1 hk (by omega), hl, cut_take (by omega), cut_drop]
        rfl
      · rw [beside_right i lo hi _ h2 rfl hk, Ways.way_right _ _ (by omega) (by rw [hl]; omega), List.map_append, beside_way f l i _ hi (by omega) (by omega) h3 h4, hl, cut_take (by omega), cut_drop, show i - (lo + half (hi - lo)) = i - lo - half (hi - lo) by omega]
        rfl
    · rw [beside_one i lo hi (by omega), Ways.way_one _ _ (by omega)]; rfl
theorem way_of (l : List Int) (i n : Nat) (h : i < n) (hn : n ≤ l.length) : (beside i 0 n).map (rootAt l) = way (l.take n) i := beside_way n l i 0 n (by omega) (Nat.zero_le _) h hn

/-- as high as it is: of two to the k leafs -/
theorem steps_pow : ∀ (k i : Nat), i < 2 ^ k → steps i (2 ^ k) = k
  | 0, i, _ => Ways.steps_one i _ (by simp)
  | k + 1, i, h => by
    have hp : 0 < 2 ^ k := Nat.two_pow_pos k
    have e : 2 ^ (k + 1) = 2 * 2 ^ k := by rw [Nat.pow_succ, Nat.mul_comm]
    have hh : half (2 ^ (k + 1)) = 2 ^ k := Trees.half_unique _ k (by omega) (by omega) (by omega)
    by_cases hk : i < 2 ^ k
    · rw [Ways.steps_left i _ (by omega) (by rw [hh]; exact hk), hh, steps_pow k i hk]
    · rw [Ways.steps_right i _ (by omega) (by rw [hh]; exact hk), hh, show 2 ^ (k + 1) - 2 ^ k = 2 ^ k by omega, steps_pow k (i - 2 ^ k) (by omega)]

end Go.Proofs.YtlibjdkofajahaaDoor.Climbs
