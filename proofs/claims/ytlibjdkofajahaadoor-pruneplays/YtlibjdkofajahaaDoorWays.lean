/-
  Plain mathematics of proofs that a leaf is there: on which side each sum of a proof stands, the proof of a leaf, the root that comes of it; and that two ways to one root have two texts of one sum. Nothing of the program is named here.
-/
import Derived.Test.YtlibjdkofajahaaDoorTrees
namespace Go.Proofs.YtlibjdkofajahaaDoor.Ways
open Trees (root half half_lt half_pos)

/-- the node of two sums -/
def node (a b : Int) : Int := Sums.sum (Nums.nodeBytes a b)
theorem node_valid (a b : Int) : Nums.valid (node a b) = true := Trees.valid_sum _

/-- from below: does each sum of the proof of the i-th of n leafs stand on the left? -/
def turnsF : Nat → Nat → Nat → List Bool
  | 0, _, _ => []
  | f + 1, i, n => if n ≤ 1 then [] else if i < half n then turnsF f i (half n) ++ [false] else turnsF f (i - half n) (n - half n) ++ [true]
theorem turnsF_fuel : ∀ (f g i n : Nat), n ≤ f → n ≤ g → turnsF f i n = turnsF g i n
  | 0, 0, _, _, _, _ => rfl
  | 0, g + 1, i, n, hf, _ => by rw [turnsF, turnsF, if_pos (by omega)]
  | f + 1, 0, i, n, _, hg => by rw [turnsF, turnsF, if_pos (by omega)]
  | f + 1, g + 1, i, n, hf, hg => by
    rw [turnsF, turnsF]
    split
    · rfl
    have a := half_lt n (by omega)
    have b := half_pos n
    rw [turnsF_fuel f g i (half n) (by omega) (by omega), turnsF_fuel f g (i - half n) (n - half n) (by omega) (by omega)]
def turns (i n : Nat) : List Bool := turnsF n i n
theorem turns_one (i n : Nat) (h : n ≤ 1) : turns i n = [] := by
  rw [turns]
  match n, h with
  | 0, _ => rfl
  | 1, _ => rw [turnsF, if_pos (by omega)]
theorem turns_left (i n : Nat) (h : 2 ≤ n) (hi : i < half n) : turns i n = turns i (half n) ++ [false] := by
  have a := half_lt n h
  obtain ⟨m, rfl⟩ : ∃ m, n = m + 1 := ⟨n - 1, by omega⟩
  rw [turns, turnsF, if_neg (by omega), if_pos hi, turns, turnsF_fuel m (half (m + 1)) _ _ (by omega) (Nat.le_refl _)]
theorem turns_right (i n : Nat) (h : 2 ≤ n) (hi : ¬ i < half n) : turns i n = turns (i - half n) (n - half n) ++ [true] := by
  have a := half_lt n h
  have b := half_pos n
  obtain ⟨m, rfl⟩ : ∃ m, n = m + 1 := ⟨n - 1, by omega⟩
  rw [turns, turnsF, if_neg (by omega), if_neg hi, turns, turnsF_fuel m (m + 1 - half (m + 1)) _ _ (by omega) (Nat.le_refl _)]
/-- how long a proof is -/
def steps (i n : Nat) : Nat := (turns i n).length
theorem steps_one (i n : Nat) (h : n ≤ 1) : steps i n = 0 := by rw [steps, turns_one i n h]; rfl
theorem steps_left (i n : Nat) (h : 2 ≤ n) (hi : i < half n) : steps i n = steps i (half n) + 1 := by rw [steps, turns_left i n h hi, List.length_append]; rfl
theorem steps_right (i n : Nat) (h : 2 ≤ n) (hi : ¬ i < half n) : steps i n = steps (i - half n) (n - half n) + 1 := by rw [steps, turns_right i n h hi, List.length_append]; rfl
theorem steps_le : ∀ (f i n : Nat), n ≤ f → steps i n ≤ n
  | 0, i, n, h => by rw [steps_one i n (by omega)]; omega
  | f + 1, i, n, h => by
    by_cases h2 : 2 ≤ n
    · have a := half_lt n h2
      have b := half_pos n
      by_cases hi : i < half n
      · rw [steps_left i n h2 hi]; have := steps_le f i (half n) (by omega); omega
      · rw [steps_right i n h2 hi]; have := steps_le f (i - half n) (n - half n) (by omega); omega
    · rw [steps_one i n (by omega)]; omega

/-- the proof of a leaf -/
def wayF : Nat → List Int → Nat → List Int
  | 0, _, _ => []
  | f + 1, l, i => if l.length ≤ 1 then [] else if i < half l.length then wayF f (l.take (half l.length)) i ++ [root (l.drop (half l.length))] else wayF f (l.drop (half l.length)) (i - half l.length) ++ [root (l.take (half l.length))]
theorem wayF_fuel : ∀ (f g : Nat) (l : List Int) (i : Nat), l.length ≤ f → l.length ≤ g → wayF f l i = wayF g l i
  | 0, 0, _, _, _, _ => rfl
  | 0, g + 1, l, i, hf, _ => by rw [wayF, wayF, if_pos (by omega)]
  | f + 1, 0, l, i, _, hg => by rw [wayF, wayF, if_pos (by omega)]
  | f + 1, g + 1, l, i, hf, hg => by
    rw [wayF, wayF]
    split
    · rfl
    have a := half_lt l.length (by omega)
    have b := half_pos l.length
    rw [wayF_fuel f g (l.take (half l.length)) i (by rw [List.length_take]; omega) (by rw [List.length_take]; omega), wayF_fuel f g (l.drop (half l.length)) _ (by rw [List.length_drop]; omega) (by rw [List.length_drop]; omega)]
def way (l : List Int) (i : Nat) : List Int := wayF l.length l i
theorem way_one (l : List Int) (i : Nat) (h : l.length ≤ 1) : way l i = [] := by
  rw [way, wayF_fuel l.length (l.length + 1) l i (Nat.le_refl _) (by omega), wayF, if_pos h]
theorem way_left (l : List Int) (i : Nat) (h : 2 ≤ l.length) (hi : i < half l.length) : way l i = way (l.take (half l.length)) i ++ [root (l.drop (half l.length))] := by
  have a := half_lt l.length h
  rw [way, wayF_fuel l.length (l.length + 1) l i (Nat.le_refl _) (by omega), wayF, if_neg (by omega), if_pos hi, way, wayF_fuel l.length _ (l.take (half l.length)) i (by rw [List.length_take]; omega) (Nat.le_refl _)]
theorem way_right (l : List Int) (i : Nat) (h : 2 ≤ l.length) (hi : ¬ i < half l.length) : way l i = way (l.drop (half l.length)) (i - half l.length) ++ [root (l.take (half l.length))] := by
  have a := half_lt l.length h
  rw [way, wayF_fuel l.length (l.length + 1) l i (Nat.le_refl _) (by omega), wayF, if_neg (by omega), if_neg hi, way, wayF_fuel l.length _ (l.drop (half l.length)) _ (by rw [List.length_drop]; omega) (Nat.le_refl _)]

/-- one step up -/
def up1 (s y : Int) (t : Bool) : Int := if t then node y s else node s y
/-- its text -/
def text1 (s y : Int) (t : Bool) : List UInt8 := if t then Nums.nodeBytes y s else Nums.nodeBytes s y
theorem up1_text (s y : Int) (t : Bool) : up1 s y t = Sums.sum (text1 s y t) := by unfold up1 text1 node; split <;> rfl
theorem up1_valid (s y : Int) (t : Bool) : Nums.valid (up1 s y t) = true := by
  unfold up1
  split
  · exact node_valid y s
  · exact node_valid s y
/-- all the way up -/
def upL : Int → List Int → List Bool → Int
  | s, y :: p, t :: ts => upL (up1 s y t) p ts
  | s, _, _ => s
theorem upL_nil (s : Int) : upL s [] [] = s := rfl
theorem upL_append : ∀ (p : List Int) (ts : List Bool) (s y : Int) (t : Bool), p.length = ts.length → upL s (p ++ [y]) (ts ++ [t]) = up1 (upL s p ts) y t
  | [], [], s, y, t, _ => rfl
  | x :: p, u :: ts, s, y, t, h => by
    show upL (up1 s x u) (p ++ [y]) (ts ++ [t]) = up1 (upL (up1 s x u) p ts) y t
    exact upL_append p ts _ y t (by simpa using h)
  | [], _ :: _, _, _, _, h => by simp at h
  | _ :: _, [], _, _, _, h => by simp at h
theorem upL_valid : ∀ (p : List Int) (ts : List Bool) (s : Int), Nums.valid s = true → Nums.valid (upL s p ts) = true
  | [], [], _, h => h
  | [], _ :: _, _, h => h
  | _ :: _, [], _, h => h
  | y :: p, t :: ts, s, _ => upL_valid p ts _ (up1_valid s y t)

theorem way_length : ∀ (f : Nat) (l : List Int) (i : Nat), l.length ≤ f → (way l i).length = steps i l.length
  | 0, l, i, h => by rw [way_one l i (by omega), steps_one i _ (by omega)]; rfl
  | f + 1, l, i, h => by
    by_cases h2 : 2 ≤ l.length
    · have a := half_lt l.length h2
      have b := half_pos l.length
      have lt : (l.take (half l.length)).length = half l.length := by rw [List.length_take]; omega
      have ld : (l.drop (half l.length)).length = l.length - half l.length := List.length_drop
      by_cases hi : i < half l.length
      · rw [way_left l i h2 hi, steps_left i _ h2 hi, List.length_append, way_length f _ _ (by omega), lt]; rfl
      · rw [way_right l i h2 hi, steps_right i _ h2 hi, List.length_append, way_length f _ _ (by omega), ld]; rfl
    · rw [way_one l i (by omega), steps_one i _ (by omega)]; rfl
theorem way_len (l : List Int) (i : Nat) : (way l i).length = steps i l.length := way_length _ l i (Nat.le_refl _)
theorem way_valid : ∀ (f : Nat) (l : List Int) (i : Nat), l.length ≤ f → (∀ x ∈ l, Nums.valid x = true) → ∀ x ∈ way l i, Nums.valid x = true
  | 0, l, i, h, _ => by rw [way_one l i (by omega)]; simp
  | f + 1, l, i, h, hv => by
    by_cases h2 : 2 ≤ l.length
    · have a := half_lt l.length h2
      have b := half_pos l.length
      have vt : ∀ x ∈ l.take (half l.length), Nums.valid x = true := fun x hx => hv x (List.mem_of_mem_take hx)
      have vd : ∀ x ∈ l.drop (half l.length), Nums.valid x = true := fun x hx => hv x (List.mem_of_mem_drop hx)
      intro x hx
      by_cases hi : i < half l.length
      · rw [way_left l i h2 hi] at hx
        rcases List.mem_append.1 hx with hx | hx
        · exact way_valid f _ _ (by rw [List.length_take]; omega) vt x hx
        · rw [List.mem_singleton.1 hx]; exact Trees.root_valid _ vd
      · rw [way_right l i h2 hi] at hx
        rcases List.mem_append.1 hx with hx | hx
        · exact way_valid f _ _ (by rw [List.length_drop]; omega) vd x hx
        · rw [List.mem_singleton.1 hx]; exact Trees.root_valid _ vt
    · rw [way_one l i (by omega)]; simp
/-- each leaf comes to the root by its proof -/
theorem up_wayF : ∀ (f : Nat) (l : List Int) (i : Nat), l.length ≤ f → i < l.length → upL (l.getD i 0) (way l i) (turns i l.length) = root l
  | 0, l, i, h, hi => by omega
  | f + 1, l, i, h, hi => by
    by_cases h2 : 2 ≤ l.length
    · have a := half_lt l.length h2
      have b := half_pos l.length
      have lt : (l.take (half l.length)).length = half l.length := by rw [List.length_take]; omega
      have ld : (l.drop (half l.length)).length = l.length - half l.length := List.length_drop
      by_cases hk : i < half l.length
      · have ih := up_wayF f (l.take (half l.length)) i (by omega) (by omega)
        have e : (l.take (half l.length)).getD i 0 = l.getD i 0 := by simp [List.getD_eq_getElem?_getD, hk]
        rw [lt, e] at ih
        rw [way_left l i h2 hk, turns_left i _ h2 hk, upL_append _ _ _ _ _ (by rw [way_len, lt]; rfl), ih, Trees.root_more l h2]
        rfl
      · have ih := up_wayF f (l.drop (half l.length)) (i - half l.length) (by omega) (by omega)
        have e : (l.drop (half l.length)).getD (i - half l.length) 0 = l.getD i 0 := by simp [List.getD_eq_getElem?_getD, List.getElem?_drop, show half l.length + (i - half l.length) = i by omega]
        rw [ld, e] at ih
        rw [way_right l i h2 hk, turns_right i _ h2 hk, upL_append _ _ _ _ _ (by rw [way_len, ld]; rfl), ih, Trees.root_more l h2]
        rfl
    · have e0 : i = 0 := by omega
      subst e0
      rw [way_one l 0 (by omega), turns_one 0 _ (by omega), Trees.root_one l (by omega)]
      rfl
theorem up_way (l : List Int) (i : Nat) (h : i < l.length) : upL (l.getD i 0) (way l i) (turns i l.length) = root l := up_wayF _ l i (Nat.le_refl _) h

/-- two sums that are not the same have two texts one step up, by one sum on one side -/
theorem text1_ne {a b y : Int} {t : Bool} (ha : Nums.valid a = true) (hb : Nums.valid b = true) (hy : Nums.valid y = true) (h : a ≠ b) : text1 a y t ≠ text1 b y t := by
  cases t
  · intro e; exact h ((Nums.nodeBytes_inj ha hy hb hy).1 e).1
  · intro e; exact h ((Nums.nodeBytes_inj hy ha hy hb).1 e).2
/-- and so have two sums of a proof, of one below -/
theorem text1_ne' {s y z : Int} {t : Bool} (hs : Nums.valid s = true) (hy : Nums.valid y = true) (hz : Nums.valid z = true) (h : y ≠ z) : text1 s y t ≠ text1 s z t := by
  cases t
  · intro e; exact h ((Nums.nodeBytes_inj hs hy hs hz).1 e).2
  · intro e; exact h ((Nums.nodeBytes_inj hy hs hz hs).1 e).1

/-- is there, on the way up from two sums, a step at which they meet, and whose texts are not the same? -/
def meetsL : Int → Int → List Int → List Bool → Bool
  | a, b, y :: p, t :: ts => if up1 a y t = up1 b y t then decide (text1 a y t ≠ text1 b y t) else meetsL (up1 a y t) (up1 b y t) p ts
  | _, _, _, _ => false
theorem meets_true : ∀ (p : List Int) (ts : List Bool) (a b : Int), p.length = ts.length → Nums.valid a = true → Nums.valid b = true → (∀ x ∈ p, Nums.valid x = true) → a ≠ b → upL a p ts = upL b p ts → meetsL a b p ts = true
  | [], [], a, b, _, _, _, _, h, e => absurd e h
  | [], _ :: _, _, _, h, _, _, _, _, _ => by simp at h
  | _ :: _, [], _, _, h, _, _, _, _, _ => by simp at h
  | y :: p, t :: ts, a, b, hl, ha, hb, hp, hn, he => by
    rw [meetsL]
    split
    · exact decide_eq_true (text1_ne ha hb (hp y (by simp)) hn)
    · rename_i h
      exact meets_true p ts _ _ (by simpa using hl) (up1_valid _ _ _) (up1_valid _ _ _) (fun x hx => hp x (List.mem_cons_of_mem _ hx)) h he
theorem upL_split : ∀ (k : Nat) (p : List Int) (ts : List Bool) (s : Int), k ≤ p.length → p.length = ts.length → upL s p ts = upL (upL s (p.take k) (ts.take k)) (p.drop k) (ts.drop k)
  | 0, p, ts, s, _, _ => by
    show upL s p ts = upL (upL s [] []) p ts
    rfl
  | k + 1, [], _, _, h, _ => by simp at h
  | k + 1, y :: p, [], _, _, h => by simp at h
  | k + 1, y :: p, t :: ts, s, h, hl => by
    show upL (up1 s y t) p ts = upL (upL (up1 s y t) (p.take k) (ts.take k)) (p.drop k) (ts.drop k)
    exact upL_split k p ts _ (by simpa using h) (by simpa using hl)

end Go.Proofs.YtlibjdkofajahaaDoor.Ways
