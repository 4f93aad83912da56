/-
  Plain mathematics of peaks: the roots of full parts of leafs, how they are carried when a leaf comes, and how the root of all comes of them. Nothing of the program is named here.
-/
import Derived.Test.YticadkggaanbjaaGreatDoorGrowPlain
import Derived.Lib.TrailingZeros
namespace Go.Proofs.YticadkggaanbjaaGreatDoor.Peaks
open Trees (root half)

/-- the node of two sums -/
def node (a b : Int) : Int := Sums.sum (Nums.nodeBytes a b)
/-- the greatest power of two not above a number from 1 on -/
def hi (n : Nat) : Nat := 2 ^ Nat.log2 n
theorem hi_pos (n : Nat) : 1 ≤ hi n := Nat.one_le_two_pow
theorem hi_le (n : Nat) (h : 1 ≤ n) : hi n ≤ n := Nat.log2_self_le (by omega)
theorem hi_lt (n : Nat) : n < 2 * hi n := by
  have := Nat.lt_log2_self (n := n)
  rw [Nat.pow_succ] at this; unfold hi; omega
theorem hi_unique (n j : Nat) (h0 : 2 ^ j ≤ n) (h1 : n < 2 * 2 ^ j) : hi n = 2 ^ j := by
  have hp : 1 ≤ 2 ^ j := Nat.one_le_two_pow
  have : Nat.log2 n = j := by
    rw [Nat.log2_eq_iff (by omega), Nat.pow_succ]; omega
  rw [hi, this]
theorem hi_of (n m : Nat) (h0 : hi n ≤ m) (h1 : m < 2 * hi n) : hi m = hi n := hi_unique m _ h0 h1
theorem hi_hi (n : Nat) : hi (hi n) = hi n := hi_of n _ (Nat.le_refl _) (by have := hi_pos n; omega)
theorem half_hi (n : Nat) (h : hi n < n) : half n = hi n := by
  have := hi_lt n
  have hp := hi_pos n
  exact Trees.half_unique n _ (by omega) h (by unfold hi at this; omega)
theorem half_two (n : Nat) : half (2 * hi n) = hi n := by
  have hp := hi_pos n
  exact Trees.half_unique _ _ (by omega) (by unfold hi at *; omega) (by unfold hi; omega)
theorem hi_two (n : Nat) : hi (2 * hi n) = 2 * hi n := by
  have hp := hi_pos n
  have e : 2 * hi n = 2 ^ (Nat.log2 n + 1) := by unfold hi; rw [Nat.pow_succ]; omega
  rw [e]
  exact hi_unique _ _ (Nat.le_refl _) (by have : 1 ≤ 2 ^ (Nat.log2 n + 1) := Nat.one_le_two_pow; omega)

/-- how many bits are 1 -/
def onesF : Nat → Nat → Nat
  | 0, _ => 0
  | f + 1, n => n % 2 + onesF f (n / 2)
def ones (n : Nat) : Nat := onesF 64 n
/-- how many bits are 0 at a number's end -/
def tz (n : Nat) : Nat := Lib.ctz 64 n
theorem ones_hi : ∀ n : Fin 201, 1 ≤ n.val → ones n.val = 1 + ones (n.val - hi n.val) := by decide +kernel
theorem tz_low : ∀ n : Fin 201, 1 ≤ n.val → n.val - hi n.val + 1 < hi n.val → tz (n.val + 1) = tz (n.val - hi n.val + 1) := by decide +kernel
theorem tz_all : ∀ n : Fin 201, 1 ≤ n.val → n.val - hi n.val + 1 = hi n.val → tz (n.val + 1) = tz (hi n.val) + 1 := by decide +kernel
theorem tz_ones : ∀ n : Fin 201, tz (n.val + 1) ≤ ones n.val := by decide +kernel
theorem ones_le : ∀ n : Fin 201, ones n.val ≤ 8 := by decide +kernel
theorem tz_le : ∀ n : Fin 201, tz (n.val + 1) ≤ 8 := by decide +kernel

/-- the last two are joined -/
def joinLast (l : List Int) : List Int := l.take (l.length - 2) ++ [node (l.getD (l.length - 2) 0) (l.getD (l.length - 1) 0)]
theorem joinLast_length (l : List Int) (h : 2 ≤ l.length) : (joinLast l).length = l.length - 1 := by simp [joinLast]; omega
theorem joinLast_cons (a : Int) (l : List Int) (h : 2 ≤ l.length) : joinLast (a :: l) = a :: joinLast l := by
  obtain ⟨m, hm⟩ : ∃ m, l.length = m + 2 := ⟨l.length - 2, by omega⟩
  simp [joinLast, hm]
theorem joinLast_two (a b : Int) : joinLast [a, b] = [node a b] := rfl
def carry : Nat → List Int → List Int
  | 0, l => l
  | k + 1, l => joinLast (carry k l)
theorem carry_length (k : Nat) (l : List Int) (h : k < l.length) : (carry k l).length = l.length - k := by
  induction k with
  | zero => rfl
  | succ k ih =>
    have := ih (by omega)
    rw [carry, joinLast_length _ (by omega)]; omega
theorem carry_cons (k : Nat) (a : Int) (l : List Int) (h : k < l.length) : carry k (a :: l) = a :: carry k l := by
  induction k with
  | zero => rfl
  | succ k ih =>
    have := carry_length k l (by omega)
    rw [carry, ih (by omega), joinLast_cons _ _ (by omega), carry]

/-- the roots of full parts, the greatest first -/
def partsF : Nat → List Int → List Int
  | 0, _ => []
  | f + 1, l => if l.length = 0 then [] else root (l.take (hi l.length)) :: partsF f (l.drop (hi l.length))
theorem partsF_fuel : ∀ (f g : Nat) (l : List Int), l.length < f → l.length < g → partsF f l = partsF g l
  | 0, _, _, h, _ => by omega
  | _ + 1, 0, _, _, h => by omega
  | f + 1, g + 1, l, hf, hg => by
    rw [partsF, partsF]
    split
    · rfl
    have b := hi_pos l.length
    rw [partsF_fuel f g (l.drop (hi l.length)) (by rw [List.length_drop]; omega) (by rw [List.length_drop]; omega)]
def parts (l : List Int) : List Int := partsF (l.length + 1) l
theorem parts_none (l : List Int) (h : l.length = 0) : parts l = [] := by rw [parts, partsF, if_pos h]
theorem parts_more (l : List Int) (h : 1 ≤ l.length) : parts l = root (l.take (hi l.length)) :: parts (l.drop (hi l.length)) := by
  have b := hi_pos l.length
  rw [parts, partsF, if_neg (by omega), parts, partsF_fuel l.length ((l.drop (hi l.length)).length + 1)]
  all_goals simp only [List.length_drop]; omega
theorem parts_full (l : List Int) (h : 1 ≤ l.length) (hh : hi l.length = l.length) : parts l = [root l] := by
  rw [parts_more l h, hh, List.take_of_length_le (Nat.le_refl _), parts_none _ (by simp)]
theorem parts_length : ∀ (f : Nat) (l : List Int), l.length < f → l.length ≤ 200 → (parts l).length = ones l.length
  | 0, _, h, _ => by omega
  | f + 1, l, hf, h2 => by
    by_cases h0 : l.length = 0
    · rw [parts_none l h0, h0]; rfl
    · have b := hi_pos l.length
      have e := ones_hi ⟨l.length, by omega⟩ (by simp only; omega)
      simp only at e
      rw [parts_more l (by omega), List.length_cons, parts_length f _ (by rw [List.length_drop]; omega) (by rw [List.length_drop]; omega), List.length_drop, e]
      omega
theorem parts_len (l : List Int) (h : l.length ≤ 200) : (parts l).length = ones l.length := parts_length _ l (Nat.lt_succ_self _) h
theorem parts_ne (l : List Int) (h : 1 ≤ l.length) : 1 ≤ (parts l).length := by rw [parts_more l h]; simp
theorem parts_valid : ∀ (f : Nat) (l : List Int), l.length < f → (∀ x ∈ l, Nums.valid x = true) → ∀ x ∈ parts l, Nums.valid x = true
  | 0, _, h, _ => by omega
  | f + 1, l, hf, hv => by
    by_cases h0 : l.length = 0
    · rw [parts_none l h0]; simp
    · have b := hi_pos l.length
      rw [parts_more l (by omega)]
      intro x hx
      rcases List.mem_cons.1 hx with rfl | hx
      · exact Trees.root_valid _ fun y hy => hv y (List.mem_of_mem_take hy)
      · exact parts_valid f _ (by rw [List.length_drop]; omega) (fun y hy => hv y (List.mem_of_mem_drop hy)) x hx
theorem parts_ok (l : List Int) (hv : ∀ x ∈ l, Nums.valid x = true) : ∀ x ∈ parts l, Nums.valid x = true := parts_valid _ l (Nat.lt_succ_self _) hv

/-- one leaf more: carried as when 1 is put to a number -/
theorem parts_snoc : ∀ (f : Nat) (l : List Int) (x : Int), l.length < f → l.length ≤ 200 → parts (l ++ [x]) = carry (tz (l.length + 1)) (parts l ++ [x])
  | 0, _, _, h, _ => by omega
  | f + 1, l, x, hf, h2 => by
    by_cases h0 : l.length = 0
    · have e : l = [] := List.eq_nil_of_length_eq_zero h0
      subst e
      rw [parts_none [] rfl, List.nil_append, parts_full [x] (by simp) (show hi 1 = 1 by decide +kernel), Trees.root_one _ rfl]
      show [x] = carry (tz 1) [x]
      rw [show tz 1 = 0 by decide +kernel]; rfl
    · have b := hi_pos l.length
      have c := hi_le l.length (by omega)
      have d := hi_lt l.length
      have hd : (l.drop (hi l.length)).length = l.length - hi l.length := List.length_drop
      have ih := parts_snoc f (l.drop (hi l.length)) x (by omega) (by omega)
      rw [hd] at ih
      have tzo := tz_ones ⟨l.length - hi l.length, by omega⟩
      simp only at tzo
      have pl : (parts (l.drop (hi l.length)) ++ [x]).length = ones (l.length - hi l.length) + 1 := by
        rw [List.length_append, parts_len _ (by omega), hd]; rfl
      have tk : (l ++ [x]).take (hi l.length) = l.take (hi l.length) := List.take_append_of_le_length c
      have dr : (l ++ [x]).drop (hi l.length) = l.drop (hi l.length) ++ [x] := List.drop_append_of_le_length c
      have ln : (l ++ [x]).length = l.length + 1 := by simp
      rw [parts_more l (by omega), List.cons_append]
      by_cases hr : l.length - hi l.length + 1 < hi l.length
      · have et := tz_low ⟨l.length, by omega⟩ (by simp only; omega) hr
        simp only at et
        have eh : hi (l.length + 1) = hi l.length := hi_of _ _ (by omega) (by omega)
        rw [parts_more (l ++ [x]) (by omega), ln, eh, tk, dr, et, carry_cons _ _ _ (by omega), ih]
      · have er : l.length - hi l.length + 1 = hi l.length := by omega
        have et := tz_all ⟨l.length, by omega⟩ (by simp only; omega) er
        simp only at et
        have l2 : l.length + 1 = 2 * hi l.length := by omega
        have eh : hi (l.length + 1) = l.length + 1 := by rw [l2, hi_two]
        have ed : (l.drop (hi l.length) ++ [x]).length = hi l.length := by rw [List.length_append, hd]; exact er
        rw [er] at ih tzo
        rw [parts_full (l ++ [x]) (by omega) (by rw [ln]; exact eh), et, carry, carry_cons _ _ _ (by omega), ← ih, parts_full (l.drop (hi l.length) ++ [x]) (by omega) (by rw [ed, hi_hi]), joinLast_two,
          Trees.root_more (l ++ [x]) (by omega), ln, l2, half_two, tk, dr]
        rfl
theorem parts_append (l : List Int) (x : Int) (h : l.length ≤ 200) : parts (l ++ [x]) = carry (tz (l.length + 1)) (parts l ++ [x]) := parts_snoc _ l x (Nat.lt_succ_self _) h

/-- all are joined, the last ones first -/
def foldj : List Int → Int
  | [] => 0
  | [a] => a
  | a :: b :: r => node a (foldj (b :: r))
theorem foldj_cons (a : Int) (l : List Int) (h : 1 ≤ l.length) : foldj (a :: l) = node a (foldj l) := by
  match l, h with
  | b :: r, _ => rfl
theorem foldj_join : ∀ (l : List Int), 2 ≤ l.length → foldj (joinLast l) = foldj l
  | [], h => by simp at h
  | [_], h => by simp at h
  | [a, b], _ => rfl
  | a :: b :: c :: r, _ => by
    have h2 : 2 ≤ (b :: c :: r).length := by simp
    have hl := joinLast_length (b :: c :: r) h2
    rw [joinLast_cons a _ h2, foldj_cons a (joinLast (b :: c :: r)) (by rw [hl]; simp), foldj_cons a (b :: c :: r) (by simp), foldj_join (b :: c :: r) h2]
theorem root_fold : ∀ (f : Nat) (l : List Int), l.length < f → 1 ≤ l.length → foldj (parts l) = root l
  | 0, _, h, _ => by omega
  | f + 1, l, hf, h1 => by
    have b := hi_pos l.length
    have c := hi_le l.length h1
    by_cases hh : hi l.length = l.length
    · rw [parts_full l h1 hh]; rfl
    · have hd : (l.drop (hi l.length)).length = l.length - hi l.length := List.length_drop
      have eh := half_hi l.length (by omega)
      rw [parts_more l h1, foldj_cons _ _ (parts_ne _ (by omega)), root_fold f _ (by omega) (by omega), Trees.root_more l (by omega), eh]
      rfl
theorem root_parts (l : List Int) (h : 1 ≤ l.length) : foldj (parts l) = root l := root_fold _ l (Nat.lt_succ_self _) h

theorem node_valid (a b : Int) : Nums.valid (node a b) = true := Trees.valid_sum _
theorem joinLast_valid (l : List Int) (h : ∀ x ∈ l, Nums.valid x = true) : ∀ x ∈ joinLast l, Nums.valid x = true := by
  intro x hx
  rcases List.mem_append.1 hx with hx | hx
  · exact h x (List.mem_of_mem_take hx)
  · rw [List.mem_singleton.1 hx]; exact node_valid _ _
theorem carry_valid (k : Nat) (l : List Int) (h : ∀ x ∈ l, Nums.valid x = true) : ∀ x ∈ carry k l, Nums.valid x = true := by
  induction k with
  | zero => exact h
  | succ k ih => exact joinLast_valid _ ih

end Go.Proofs.YticadkggaanbjaaGreatDoor.Peaks
