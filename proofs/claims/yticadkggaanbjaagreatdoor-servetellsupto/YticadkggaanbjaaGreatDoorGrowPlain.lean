/-
  Plain mathematics of trees: where a number is parted, the root of leafs, and which two texts clash. Nothing of the program is named here.
-/
import Derived.Test.YticadkggaanbjaaGreatDoorMirPlain
namespace Go.Proofs.YticadkggaanbjaaGreatDoor.Trees

/-- the greatest power of two below a number from 2 on -/
def half (n : Nat) : Nat := 2 ^ Nat.log2 (n - 1)
theorem half_pos (n : Nat) : 1 ≤ half n := Nat.one_le_two_pow
theorem half_lt (n : Nat) (h : 2 ≤ n) : half n < n := by
  have := Nat.log2_self_le (n := n - 1) (by omega)
  unfold half; omega
theorem half_ge (n : Nat) (h : 2 ≤ n) : n ≤ 2 * half n := by
  have := Nat.lt_log2_self (n := n - 1)
  unfold half; rw [Nat.pow_succ] at this; omega
/-- a power of two below, whose double is not: that is it -/
theorem half_unique (n j : Nat) (h : 2 ≤ n) (h0 : 2 ^ j < n) (h1 : n ≤ 2 * 2 ^ j) : half n = 2 ^ j := by
  have : Nat.log2 (n - 1) = j := by
    rw [Nat.log2_eq_iff (by omega), Nat.pow_succ]; omega
  rw [half, this]

/-- the root of leafs, by as many steps as may be -/
def rootF : Nat → List Int → Int
  | 0, _ => 0
  | f + 1, l => if l.length = 0 then Sums.sum [] else if l.length = 1 then l.getD 0 0 else
      Sums.sum (Nums.nodeBytes (rootF f (l.take (half l.length))) (rootF f (l.drop (half l.length))))
theorem rootF_fuel : ∀ (f g : Nat) (l : List Int), l.length < f → l.length < g → rootF f l = rootF g l
  | 0, _, _, h, _ => by omega
  | _ + 1, 0, _, _, h => by omega
  | f + 1, g + 1, l, hf, hg => by
    rw [rootF, rootF]
    split
    · rfl
    split
    · rfl
    rename_i h0 h1
    have a := half_lt l.length (by omega)
    have b := half_pos l.length
    rw [rootF_fuel f g (l.take (half l.length)) (by rw [List.length_take]; omega) (by rw [List.length_take]; omega), rootF_fuel f g (l.drop (half l.length)) (by rw [List.length_drop]; omega) (by rw [List.length_drop]; omega)]
/-- the root of leafs -/
def root (l : List Int) : Int := rootF (l.length + 1) l
theorem root_none (l : List Int) (h : l.length = 0) : root l = Sums.sum [] := by rw [root, rootF, if_pos h]
theorem root_one (l : List Int) (h : l.length = 1) : root l = l.getD 0 0 := by rw [root, rootF, if_neg (by omega), if_pos h]
theorem root_more (l : List Int) (h : 2 ≤ l.length) : root l = Sums.sum (Nums.nodeBytes (root (l.take (half l.length))) (root (l.drop (half l.length)))) := by
  have a := half_lt l.length h
  have b := half_pos l.length
  rw [root, rootF, if_neg (by omega), if_neg (by omega), root, root, rootF_fuel l.length ((l.take (half l.length)).length + 1), rootF_fuel l.length ((l.drop (half l.length)).length + 1)]
  all_goals simp only [List.length_take, List.length_drop]; omega

theorem valid_sum (l : List UInt8) : Nums.valid (Sums.sum l) = true := Nums.valid_iff.2 (Sums.sum_bd l)
theorem root_valid (l : List Int) (h : ∀ x ∈ l, Nums.valid x = true) : Nums.valid (root l) = true := by
  rcases Nat.lt_or_ge l.length 2 with h2 | h2
  · rcases Nat.lt_or_ge l.length 1 with h1 | h1
    · rw [root_none l (by omega)]; exact valid_sum _
    · rw [root_one l (by omega)]
      match l, h, h1, h2 with
      | [a], h, _, _ => exact h a (by simp)
      | [], _, h1, _ => simp at h1
  · rw [root_more l h2]; exact valid_sum _

/-- the leaf of data, and those of a list -/
def leaf (s : ByteArray) : Int := Sums.sum (0 :: s.data.toList)
def leafs (d : List ByteArray) : List Int := d.map leaf
theorem leafs_length (d : List ByteArray) : (leafs d).length = d.length := by simp [leafs]
theorem leafs_take (d : List ByteArray) (k : Nat) : leafs (d.take k) = (leafs d).take k := by simp [leafs]
theorem leafs_drop (d : List ByteArray) (k : Nat) : leafs (d.drop k) = (leafs d).drop k := by simp [leafs]
theorem leafs_valid (d : List ByteArray) : ∀ x ∈ leafs d, Nums.valid x = true := by
  intro x hx
  obtain ⟨s, _, rfl⟩ := List.mem_map.1 hx
  exact valid_sum _

/-- the bytes of the node of some data, parted behind the first k -/
def top (d : List ByteArray) (k : Nat) : ByteArray := Nums.str (Nums.nodeBytes (root (leafs (d.take k))) (root (leafs (d.drop k))))
theorem root_top (d : List ByteArray) (h : 2 ≤ d.length) : root (leafs d) = Sums.sum (top d (half d.length)).data.toList := by
  rw [root_more _ (by rw [leafs_length]; exact h), leafs_length, top, Nums.str_data, leafs_take, leafs_drop]

/-- two texts of one sum, of two lists of data that are not the same, of one root -/
def clashF : Nat → List ByteArray → List ByteArray → ByteArray × ByteArray
  | 0, _, _ => (ByteArray.empty, ByteArray.empty)
  | f + 1, a, b => if a.length ≤ 1 then (Nums.str (0 :: (a.getD 0 ByteArray.empty).data.toList), Nums.str (0 :: (b.getD 0 ByteArray.empty).data.toList)) else
      if top a (half a.length) = top b (half a.length) then
        (if a.take (half a.length) = b.take (half a.length) then clashF f (a.drop (half a.length)) (b.drop (half a.length)) else clashF f (a.take (half a.length)) (b.take (half a.length)))
      else (top a (half a.length), top b (half a.length))
theorem clashF_fuel : ∀ (f g : Nat) (a b : List ByteArray), a.length < f → a.length < g → clashF f a b = clashF g a b
  | 0, _, _, _, h, _ => by omega
  | _ + 1, 0, _, _, _, h => by omega
  | f + 1, g + 1, a, b, hf, hg => by
    rw [clashF, clashF]
    split
    · rfl
    rename_i h0
    have x := half_lt a.length (by omega)
    have y := half_pos a.length
    split
    · split
      · exact clashF_fuel f g _ _ (by rw [List.length_drop]; omega) (by rw [List.length_drop]; omega)
      · exact clashF_fuel f g _ _ (by rw [List.length_take]; omega) (by rw [List.length_take]; omega)
    · rfl
def clash (a b : List ByteArray) : ByteArray × ByteArray := clashF (a.length + 1) a b
theorem clash_one (a b : List ByteArray) (h : a.length ≤ 1) : clash a b = (Nums.str (0 :: (a.getD 0 ByteArray.empty).data.toList), Nums.str (0 :: (b.getD 0 ByteArray.empty).data.toList)) := by
  rw [clash, clashF, if_pos h]
theorem clash_here (a b : List ByteArray) (h : 2 ≤ a.length) (hn : ¬ top a (half a.length) = top b (half a.length)) : clash a b = (top a (half a.length), top b (half a.length)) := by
  rw [clash, clashF, if_neg (by omega), if_neg hn]
theorem clash_left (a b : List ByteArray) (h : 2 ≤ a.length) (ht : top a (half a.length) = top b (half a.length)) (hn : ¬ a.take (half a.length) = b.take (half a.length)) : clash a b = clash (a.take (half a.length)) (b.take (half a.length)) := by
  have x := half_lt a.length h
  have y := half_pos a.length
  rw [clash, clashF, if_neg (by omega), if_pos ht, if_neg hn, clash]
  exact clashF_fuel _ _ _ _ (by rw [List.length_take]; omega) (by omega)
theorem clash_right (a b : List ByteArray) (h : 2 ≤ a.length) (ht : top a (half a.length) = top b (half a.length)) (hn : a.take (half a.length) = b.take (half a.length)) : clash a b = clash (a.drop (half a.length)) (b.drop (half a.length)) := by
  have x := half_lt a.length h
  have y := half_pos a.length
  rw [clash, clashF, if_neg (by omega), if_pos ht, if_pos hn, clash]
  exact clashF_fuel _ _ _ _ (by rw [List.length_drop]; omega) (by omega)

/-- of two nodes of one kind of bytes both halves have one root each -/
theorem top_inj {a b : List ByteArray} {k : Nat} (h : top a k = top b k) : root (leafs (a.take k)) = root (leafs (b.take k)) ∧ root (leafs (a.drop k)) = root (leafs (b.drop k)) := by
  have v := fun d : List ByteArray => root_valid (leafs d) (leafs_valid d)
  exact (Nums.nodeBytes_inj (v _) (v _) (v _) (v _)).1 (Nums.str_inj h)

/-- which half differs -/
theorem drop_ne {a b : List ByteArray} {k : Nat} (h : a ≠ b) (ht : a.take k = b.take k) : a.drop k ≠ b.drop k := by
  intro hd
  apply h
  rw [← List.take_append_drop k a, ← List.take_append_drop k b, ht, hd]

/-- the two texts are not the same, and have one sum -/
theorem clash_true : ∀ (f : Nat) (a b : List ByteArray), a.length < f → a.length = b.length → a ≠ b → root (leafs a) = root (leafs b) →
    (clash a b).1 ≠ (clash a b).2 ∧ Sums.sum (clash a b).1.data.toList = Sums.sum (clash a b).2.data.toList
  | 0, _, _, h, _, _, _ => by omega
  | f + 1, a, b, hf, hl, hn, hr => by
    rcases Nat.lt_or_ge a.length 2 with h2 | h2
    · rw [clash_one a b (by omega)]
      match a, b, hl, hn, hr, h2 with
      | [], [], _, hn, _, _ => exact absurd rfl hn
      | [x], [y], _, hn, hr, _ =>
        refine ⟨fun h => ?_, ?_⟩
        · have := (List.cons.inj (Nums.str_inj h)).2
          simp only [List.getD_cons_zero] at this
          exact hn (by rw [← Nums.str_of x, this, Nums.str_of])
        · rw [root_one _ rfl, root_one _ rfl] at hr
          exact hr
      | [], [_], hl, _, _, _ => simp at hl
      | [_], [], hl, _, _, _ => simp at hl
    · have x := half_lt a.length h2
      have y := half_pos a.length
      by_cases ht : top a (half a.length) = top b (half a.length)
      · obtain ⟨r1, r2⟩ := top_inj ht
        by_cases he : a.take (half a.length) = b.take (half a.length)
        · rw [clash_right a b h2 ht he]
          exact clash_true f _ _ (by rw [List.length_drop]; omega) (by rw [List.length_drop, List.length_drop]; omega) (drop_ne hn he) r2
        · rw [clash_left a b h2 ht he]
          exact clash_true f _ _ (by rw [List.length_take]; omega) (by rw [List.length_take, List.length_take]; omega) he r1
      · rw [clash_here a b h2 ht]
        refine ⟨ht, ?_⟩
        rw [root_top a h2, root_top b (by omega), ← hl] at hr
        exact hr

/-- are all numbers sums? -/
def allOk (l : List Int) : Bool := l.all Nums.valid
theorem allOk_snoc (l : List Int) (k : Nat) (h : k < l.length) : allOk (l.take (k + 1)) = (allOk (l.take k) && Nums.valid (l.getD k 0)) := by
  rw [allOk, List.take_succ_eq_append_getElem h, List.all_append]
  simp [allOk, List.getD_eq_getElem?_getD, List.getElem?_eq_getElem h]
theorem allOk_no (l : List Int) (k : Nat) (h : k < l.length) (hb : Nums.valid (l.getD k 0) = false) : allOk l = false := by
  rw [allOk, List.all_eq_false]
  refine ⟨l.getD k 0, ?_, by rw [hb]; simp⟩
  rw [List.getD_eq_getElem?_getD, List.getElem?_eq_getElem h]
  exact List.getElem_mem h
theorem allOk_mem {l : List Int} (h : allOk l = true) : ∀ x ∈ l, Nums.valid x = true := List.all_eq_true.1 h
/-- is no text too long? -/
def shortOk (l : List ByteArray) : Bool := l.all fun s => decide (s.size ≤ 200)
theorem shortOk_snoc (l : List ByteArray) (k : Nat) (h : k < l.length) : shortOk (l.take (k + 1)) = (shortOk (l.take k) && decide ((l.getD k ByteArray.empty).size ≤ 200)) := by
  rw [shortOk, List.take_succ_eq_append_getElem h, List.all_append]
  simp [shortOk, List.getD_eq_getElem?_getD, List.getElem?_eq_getElem h]
theorem shortOk_no (l : List ByteArray) (k : Nat) (h : k < l.length) (hb : decide ((l.getD k ByteArray.empty).size ≤ 200) = false) : shortOk l = false := by
  rw [shortOk, List.all_eq_false]
  refine ⟨l.getD k ByteArray.empty, ?_, by rw [hb]; simp⟩
  rw [List.getD_eq_getElem?_getD, List.getElem?_eq_getElem h]
  exact List.getElem_mem h
theorem shortOk_mem {l : List ByteArray} (h : shortOk l = true) : ∀ s ∈ l, s.size ≤ 200 := fun s hs => of_decide_eq_true (List.all_eq_true.1 h s hs)
/-- what is wrong with leafs: 4 too many, 1 one is no sum, 0 nothing -/
def leafsE (l : List Int) : Nat := if 200 < l.length then 4 else if allOk l = true then 0 else 1
/-- is what is asked for no part of n? -/
def atBad (n : Nat) (fr to : Int) : Bool := decide (fr < 0 ∨ to < fr ∨ (n : Int) < to)
/-- what is wrong with a part of leafs, and its root -/
def atE (l : List Int) (fr to : Int) : Nat := if leafsE l = 0 then (if atBad l.length fr to = true then 1 else 0) else leafsE l
def atV (l : List Int) (fr to : Int) : Int := if atE l fr to = 0 then root ((l.take to.toNat).drop fr.toNat) else 0
def rootV (l : List Int) : Int := if leafsE l = 0 then root l else 0
theorem atE_all (l : List Int) : atE l 0 (l.length : Int) = leafsE l := by
  have h : atBad l.length 0 (l.length : Int) = false := by unfold atBad; simp
  unfold atE
  rw [h]
  split
  · rename_i h; rw [h]; rfl
  · rfl
theorem atV_all (l : List Int) : atV l 0 (l.length : Int) = rootV l := by
  unfold atV rootV
  rw [atE_all, Int.toNat_natCast, List.take_of_length_le (Nat.le_refl _)]
  rfl
/-- is the data not too much? -/
def dataOk (l : List ByteArray) : Bool := decide (l.length ≤ 200) && shortOk l

/-- what is wrong with two lists of data, and two texts of one sum -/
def collideE (x y : List ByteArray) : Nat := if (dataOk x && dataOk y) = false then 4 else if x.length ≠ y.length then 3 else if x = y then 7 else if root (leafs x) ≠ root (leafs y) then 5 else 0
def collideV (x y : List ByteArray) : ByteArray × ByteArray := if collideE x y = 0 then clash x y else (⟨#[]⟩, ⟨#[]⟩)
theorem collideV_no {x y : List ByteArray} (h : collideE x y ≠ 0) : collideV x y = (⟨#[]⟩, ⟨#[]⟩) := if_neg h
theorem collide_4 {x y : List ByteArray} (h : (dataOk x && dataOk y) = false) : collideE x y = 4 ∧ collideV x y = (⟨#[]⟩, ⟨#[]⟩) := by
  have e : collideE x y = 4 := if_pos h
  exact ⟨e, collideV_no (by rw [e]; decide)⟩
theorem collide_3 {x y : List ByteArray} (h : (dataOk x && dataOk y) = true) (h3 : x.length ≠ y.length) : collideE x y = 3 ∧ collideV x y = (⟨#[]⟩, ⟨#[]⟩) := by
  have e : collideE x y = 3 := by unfold collideE; rw [if_neg (by rw [h]; decide), if_pos h3]
  exact ⟨e, collideV_no (by rw [e]; decide)⟩
theorem collide_7 {x y : List ByteArray} (h : (dataOk x && dataOk y) = true) (h3 : x = y) : collideE x y = 7 ∧ collideV x y = (⟨#[]⟩, ⟨#[]⟩) := by
  have e : collideE x y = 7 := by unfold collideE; rw [if_neg (by rw [h]; decide), if_neg (by rw [h3]; simp), if_pos h3]
  exact ⟨e, collideV_no (by rw [e]; decide)⟩
theorem collide_5 {x y : List ByteArray} (h : (dataOk x && dataOk y) = true) (h3 : x.length = y.length) (h7 : x ≠ y) (h5 : root (leafs x) ≠ root (leafs y)) : collideE x y = 5 ∧ collideV x y = (⟨#[]⟩, ⟨#[]⟩) := by
  have e : collideE x y = 5 := by unfold collideE; rw [if_neg (by rw [h]; decide), if_neg (by rw [h3]; simp), if_neg h7, if_pos h5]
  exact ⟨e, collideV_no (by rw [e]; decide)⟩
theorem collide_0 {x y : List ByteArray} (h : (dataOk x && dataOk y) = true) (h3 : x.length = y.length) (h7 : x ≠ y) (h5 : root (leafs x) = root (leafs y)) : collideE x y = 0 ∧ collideV x y = clash x y := by
  have e : collideE x y = 0 := by unfold collideE; rw [if_neg (by rw [h]; decide), if_neg (by rw [h3]; simp), if_neg h7, if_neg (by rw [h5]; simp)]
  exact ⟨e, if_pos e⟩

theorem collide_is0 {x y : List ByteArray} (h : collideE x y = 0) : dataOk x = true ∧ dataOk y = true ∧ x.length = y.length ∧ x ≠ y ∧ root (leafs x) = root (leafs y) ∧ collideV x y = clash x y := by
  have hv : collideV x y = clash x y := if_pos h
  unfold collideE at h
  split at h
  · cases h
  rename_i h4
  split at h
  · cases h
  rename_i h3
  split at h
  · cases h
  rename_i h7
  split at h
  · cases h
  rename_i h5
  have hd : (dataOk x && dataOk y) = true := by simpa using h4
  rw [Bool.and_eq_true] at hd
  exact ⟨hd.1, hd.2, by simpa using h3, h7, by simpa using h5, hv⟩
theorem collide_is5 {x y : List ByteArray} (h : collideE x y = 5) : dataOk x = true ∧ dataOk y = true ∧ x.length = y.length ∧ x ≠ y ∧ root (leafs x) ≠ root (leafs y) := by
  unfold collideE at h
  split at h
  · cases h
  rename_i h4
  split at h
  · cases h
  rename_i h3
  split at h
  · cases h
  rename_i h7
  split at h
  · rename_i h5
    have hd : (dataOk x && dataOk y) = true := by simpa using h4
    rw [Bool.and_eq_true] at hd
    exact ⟨hd.1, hd.2, by simpa using h3, h7, h5⟩
  · cases h
theorem dataOk_parts {x : List ByteArray} (h : dataOk x = true) : x.length ≤ 200 ∧ ∀ s ∈ x, s.size ≤ 200 := by
  unfold dataOk at h
  rw [Bool.and_eq_true, decide_eq_true_eq] at h
  exact ⟨h.1, shortOk_mem h.2⟩
theorem top_size (d : List ByteArray) (k : Nat) : (top d k).size = 9 := by rw [top, Nums.str_size, Nums.nodeBytes_length]
theorem clash_size : ∀ (f : Nat) (x y : List ByteArray), x.length < f → (∀ s ∈ x, s.size ≤ 200) → (∀ s ∈ y, s.size ≤ 200) → (clash x y).1.size ≤ 201 ∧ (clash x y).2.size ≤ 201
  | 0, _, _, h, _, _ => by omega
  | f + 1, x, y, hf, hx, hy => by
    have hg : ∀ (l : List ByteArray), (∀ s ∈ l, s.size ≤ 200) → (l.getD 0 ByteArray.empty).size ≤ 200 := by
      intro l hl
      match l, hl with
      | [], _ => simp
      | a :: l, hl => exact hl a (by simp)
    rcases Nat.lt_or_ge x.length 2 with h2 | h2
    · rw [clash_one x y (by omega)]
      have a1 := hg x hx
      have a2 := hg y hy
      simp only [Nums.str_size, List.length_cons, Array.length_toList, ByteArray.size_data]
      omega
    · have a := half_lt x.length h2
      have b := half_pos x.length
      by_cases ht : top x (half x.length) = top y (half x.length)
      · by_cases he : x.take (half x.length) = y.take (half x.length)
        · rw [clash_right x y h2 ht he]
          exact clash_size f _ _ (by rw [List.length_drop]; omega) (fun s hs => hx s (List.mem_of_mem_drop hs)) (fun s hs => hy s (List.mem_of_mem_drop hs))
        · rw [clash_left x y h2 ht he]
          exact clash_size f _ _ (by rw [List.length_take]; omega) (fun s hs => hx s (List.mem_of_mem_take hs)) (fun s hs => hy s (List.mem_of_mem_take hs))
      · rw [clash_here x y h2 ht]
        simp only [top_size]
        omega

end Go.Proofs.YticadkggaanbjaaGreatDoor.Trees

/-
  Plain mathematics of proofs that a leaf is there: on which side each sum of a proof stands, the proof of a leaf, the root that comes of it; and that two ways to one root have two texts of one sum. Nothing of the program is named here.
-/
namespace Go.Proofs.YticadkggaanbjaaGreatDoor.Ways
open Trees (root half half_lt half_pos)

/-- the node of two sums -/
def node (a b : Int) : Int := Sums.sum (Nums.nodeBytes a b)
theorem node_valid (a b : Int) : Nums.valid (node a b) = true := Trees.valid_sum _

/-- from below: does each sum of the proof of the i-th of n leafs stand on the left? -/
def turnsF : Nat → Nat → Nat → List Bool
  | 0, _, _ => []
  | f + 1, i, n => if n ≤ 1 then [] else if i < half n then turnsF f i (half n) ++ [false] else turnsF f (i - half n) (n - half n) ++ [true]
theorem turnsF_fuel : ∀ (f g i n : Nat), n ≤ f → n ≤ g → turnsF f i n = turnsF g i n
  | 0, 0, _, _, _, _ => rfl
  | 0, g + 1, i, n, hf, _ => by rw [turnsF, turnsF, if_pos (by omega)]
  | f + 1, 0, i, n, _, hg => by rw [turnsF, turnsF, if_pos (by omega)]
  | f + 1, g + 1, i, n, hf, hg => by
    rw [turnsF, turnsF]
    split
    · rfl
    have a := half_lt n (by omega)
    have b := half_pos n
    rw [turnsF_fuel f g i (half n) (by omega) (by omega), turnsF_fuel f g (i - half n) (n - half n) (by omega) (by omega)]
def turns (i n : Nat) : List Bool := turnsF n i n
theorem turns_one (i n : Nat) (h : n ≤ 1) : turns i n = [] := by
  rw [turns]
  match n, h with
  | 0, _ => rfl
  | 1, _ => rw [turnsF, if_pos (by omega)]
theorem turns_left (i n : Nat) (h : 2 ≤ n) (hi : i < half n) : turns i n = turns i (half n) ++ [false] := by
  have a := half_lt n h
  obtain ⟨m, rfl⟩ : ∃ m, n = m + 1 := ⟨n - 1, by omega⟩
  rw [turns, turnsF, if_neg (by omega), if_pos hi, turns, turnsF_fuel m (half (m + 1)) _ _ (by omega) (Nat.le_refl _)]
theorem turns_right (i n : Nat) (h : 2 ≤ n) (hi : ¬ i < half n) : turns i n = turns (i - half n) (n - half n) ++ [true] := by
  have a := half_lt n h
  have b := half_pos n
  obtain ⟨m, rfl⟩ : ∃ m, n = m + 1 := ⟨n - 1, by omega⟩
  rw [turns, turnsF, if_neg (by omega), if_neg hi, turns, turnsF_fuel m (m + 1 - half (m + 1)) _ _ (by omega) (Nat.le_refl _)]
/-- how long a proof is -/
def steps (i n : Nat) : Nat := (turns i n).length
theorem steps_one (i n : Nat) (h : n ≤ 1) : steps i n = 0 := by rw [steps, turns_one i n h]; rfl
theorem steps_left (i n : Nat) (h : 2 ≤ n) (hi : i < half n) : steps i n = steps i (half n) + 1 := by rw [steps, turns_left i n h hi, List.length_append]; rfl
theorem steps_right (i n : Nat) (h : 2 ≤ n) (hi : ¬ i < half n) : steps i n = steps (i - half n) (n - half n) + 1 := by rw [steps, turns_right i n h hi, List.length_append]; rfl
theorem steps_le : ∀ (f i n : Nat), n ≤ f → steps i n ≤ n
  | 0, i, n, h => by rw [steps_one i n (by omega)]; omega
  | f + 1, i, n, h => by
    by_cases h2 : 2 ≤ n
    · have a := half_lt n h2
      have b := half_pos n
      by_cases hi : i < half n
      · rw [steps_left i n h2 hi]; have := steps_le f i (half n) (by omega); omega
      · rw [steps_right i n h2 hi]; have := steps_le f (i - half n) (n - half n) (by omega); omega
    · rw [steps_one i n (by omega)]; omega

/-- the proof of a leaf -/
def wayF : Nat → List Int → Nat → List Int
  | 0, _, _ => []
  | f + 1, l, i => if l.length ≤ 1 then [] else if i < half l.length then wayF f (l.take (half l.length)) i ++ [root (l.drop (half l.length))] else wayF f (l.drop (half l.length)) (i - half l.length) ++ [root (l.take (half l.length))]
theorem wayF_fuel : ∀ (f g : Nat) (l : List Int) (i : Nat), l.length ≤ f → l.length ≤ g → wayF f l i = wayF g l i
  | 0, 0, _, _, _, _ => rfl
  | 0, g + 1, l, i, hf, _ => by rw [wayF, wayF, if_pos (by omega)]
  | f + 1, 0, l, i, _, hg => by rw [wayF, wayF, if_pos (by omega)]
  | f + 1, g + 1, l, i, hf, hg => by
    rw [wayF, wayF]
    split
    · rfl
    have a := half_lt l.length (by omega)
    have b := half_pos l.length
    rw [wayF_fuel f g (l.take (half l.length)) i (by rw [List.length_take]; omega) (by rw [List.length_take]; omega), wayF_fuel f g (l.drop (half l.length)) _ (by rw [List.length_drop]; omega) (by rw [List.length_drop]; omega)]
def way (l : List Int) (i : Nat) : List Int := wayF l.length l i
theorem way_one (l : List Int) (i : Nat) (h : l.length ≤ 1) : way l i = [] := by
  rw [way, wayF_fuel l.length (l.length + 1) l i (Nat.le_refl _) (by omega), wayF, if_pos h]
theorem way_left (l : List Int) (i : Nat) (h : 2 ≤ l.length) (hi : i < half l.length) : way l i = way (l.take (half l.length)) i ++ [root (l.drop (half l.length))] := by
  have a := half_lt l.length h
  rw [way, wayF_fuel l.length (l.length + 1) l i (Nat.le_refl _) (by omega), wayF, if_neg (by omega), if_pos hi, way, wayF_fuel l.length _ (l.take (half l.length)) i (by rw [List.length_take]; omega) (Nat.le_refl _)]
theorem way_right (l : List Int) (i : Nat) (h : 2 ≤ l.length) (hi : ¬ i < half l.length) : way l i = way (l.drop (half l.length)) (i - half l.length) ++ [root (l.take (half l.length))] := by
  have a := half_lt l.length h
  rw [way, wayF_fuel l.length (l.length + 1) l i (Nat.le_refl _) (by omega), wayF, if_neg (by omega), if_neg hi, way, wayF_fuel l.length _ (l.drop (half l.length)) _ (by rw [List.length_drop]; omega) (Nat.le_refl _)]

/-- one step up -/
def up1 (s y : Int) (t : Bool) : Int := if t then node y s else node s y
/-- its text -/
def text1 (s y : Int) (t : Bool) : List UInt8 := if t then Nums.nodeBytes y s else Nums.nodeBytes s y
theorem up1_text (s y : Int) (t : Bool) : up1 s y t = Sums.sum (text1 s y t) := by unfold up1 text1 node; split <;> rfl
theorem up1_valid (s y : Int) (t : Bool) : Nums.valid (up1 s y t) = true := by
  unfold up1
  split
  · exact node_valid y s
  · exact node_valid s y
/-- all the way up -/
def upL : Int → List Int → List Bool → Int
  | s, y :: p, t :: ts => upL (up1 s y t) p ts
  | s, _, _ => s
theorem upL_nil (s : Int) : upL s [] [] = s := rfl
theorem upL_append : ∀ (p : List Int) (ts : List Bool) (s y : Int) (t : Bool), p.length = ts.length → upL s (p ++ [y]) (ts ++ [t]) = up1 (upL s p ts) y t
  | [], [], s, y, t, _ => rfl
  | x :: p, u :: ts, s, y, t, h => by
    show upL (up1 s x u) (p ++ [y]) (ts ++ [t]) = up1 (upL (up1 s x u) p ts) y t
    exact upL_append p ts _ y t (by simpa using h)
  | [], _ :: _, _, _, _, h => by simp at h
  | _ :: _, [], _, _, _, h => by simp at h
theorem upL_valid : ∀ (p : List Int) (ts : List Bool) (s : Int), Nums.valid s = true → Nums.valid (upL s p ts) = true
  | [], [], _, h => h
  | [], _ :: _, _, h => h
  | _ :: _, [], _, h => h
  | y :: p, t :: ts, s, _ => upL_valid p ts _ (up1_valid s y t)

theorem way_length : ∀ (f : Nat) (l : List Int) (i : Nat), l.length ≤ f → (way l i).length = steps i l.length
  | 0, l, i, h => by rw [way_one l i (by omega), steps_one i _ (by omega)]; rfl
  | f + 1, l, i, h => by
    by_cases h2 : 2 ≤ l.length
    · have a := half_lt l.length h2
      have b := half_pos l.length
      have lt : (l.take (half l.length)).length = half l.length := by rw [List.length_take]; omega
      have ld : (l.drop (half l.length)).length = l.length - half l.length := List.length_drop
      by_cases hi : i < half l.length
      · rw [way_left l i h2 hi, steps_left i _ h2 hi, List.length_append, way_length f _ _ (by omega), lt]; rfl
      · rw [way_right l i h2 hi, steps_right i _ h2 hi, List.length_append, way_length f _ _ (by omega), ld]; rfl
    · rw [way_one l i (by omega), steps_one i _ (by omega)]; rfl
theorem way_len (l : List Int) (i : Nat) : (way l i).length = steps i l.length := way_length _ l i (Nat.le_refl _)
theorem way_valid : ∀ (f : Nat) (l : List Int) (i : Nat), l.length ≤ f → (∀ x ∈ l, Nums.valid x = true) → ∀ x ∈ way l i, Nums.valid x = true
  | 0, l, i, h, _ => by rw [way_one l i (by omega)]; simp
  | f + 1, l, i, h, hv => by
    by_cases h2 : 2 ≤ l.length
    · have a := half_lt l.length h2
      have b := half_pos l.length
      have vt : ∀ x ∈ l.take (half l.length), Nums.valid x = true := fun x hx => hv x (List.mem_of_mem_take hx)
      have vd : ∀ x ∈ l.drop (half l.length), Nums.valid x = true := fun x hx => hv x (List.mem_of_mem_drop hx)
      intro x hx
      by_cases hi : i < half l.length
      · rw [way_left l i h2 hi] at hx
        rcases List.mem_append.1 hx with hx | hx
        · exact way_valid f _ _ (by rw [List.length_take]; omega) vt x hx
        · rw [List.mem_singleton.1 hx]; exact Trees.root_valid _ vd
      · rw [way_right l i h2 hi] at hx
        rcases List.mem_append.1 hx with hx | hx
        · exact way_valid f _ _ (by rw [List.length_drop]; omega) vd x hx
        · rw [List.mem_singleton.1 hx]; exact Trees.root_valid _ vt
    · rw [way_one l i (by omega)]; simp
/-- each leaf comes to the root by its proof -/
theorem up_wayF : ∀ (f : Nat) (l : List Int) (i : Nat), l.length ≤ f → i < l.length → upL (l.getD i 0) (way l i) (turns i l.length) = root l
  | 0, l, i, h, hi => by omega
  | f + 1, l, i, h, hi => by
    by_cases h2 : 2 ≤ l.length
    · have a := half_lt l.length h2
      have b := half_pos l.length
      have lt : (l.take (half l.length)).length = half l.length := by rw [List.length_take]; omega
      have ld : (l.drop (half l.length)).length = l.length - half l.length := List.length_drop
      by_cases hk : i < half l.length
      · have ih := up_wayF f (l.take (half l.length)) i (by omega) (by omega)
        have e : (l.take (half l.length)).getD i 0 = l.getD i 0 := by simp [List.getD_eq_getElem?_getD, hk]
        rw [lt, e] at ih
        rw [way_left l i h2 hk, turns_left i _ h2 hk, upL_append _ _ _ _ _ (by rw [way_len, lt]; rfl), ih, Trees.root_more l h2]
        rfl
      · have ih := up_wayF f (l.drop (half l.length)) (i - half l.length) (by omega) (by omega)
        have e : (l.drop (half l.length)).getD (i - half l.length) 0 = l.getD i 0 := by simp [List.getD_eq_getElem?_getD, List.getElem?_drop, show half l.length + (i - half l.length) = i by omega]
        rw [ld, e] at ih
        rw [way_right l i h2 hk, turns_right i _ h2 hk, upL_append _ _ _ _ _ (by rw [way_len, ld]; rfl), ih, Trees.root_more l h2]
        rfl
    · have e0 : i = 0 := by omega
      subst e0
      rw [way_one l 0 (by omega), turns_one 0 _ (by omega), Trees.root_one l (by omega)]
      rfl
theorem up_way (l : List Int) (i : Nat) (h : i < l.length) : upL (l.getD i 0) (way l i) (turns i l.length) = root l := up_wayF _ l i (Nat.le_refl _) h

/-- two sums that are not the same have two texts one step up, by one sum on one side -/
theorem text1_ne {a b y : Int} {t : Bool} (ha : Nums.valid a = true) (hb : Nums.valid b = true) (hy : Nums.valid y = true) (h : a ≠ b) : text1 a y t ≠ text1 b y t := by
  cases t
  · intro e; exact h ((Nums.nodeBytes_inj ha hy hb hy).1 e).1
  · intro e; exact h ((Nums.nodeBytes_inj hy ha hy hb).1 e).2
/-- and so have two sums of a proof, of one below -/
theorem text1_ne' {s y z : Int} {t : Bool} (hs : Nums.valid s = true) (hy : Nums.valid y = true) (hz : Nums.valid z = true) (h : y ≠ z) : text1 s y t ≠ text1 s z t := by
  cases t
  · intro e; exact h ((Nums.nodeBytes_inj hs hy hs hz).1 e).2
  · intro e; exact h ((Nums.nodeBytes_inj hy hs hz hs).1 e).1

/-- is there, on the way up from two sums, a step at which they meet, and whose texts are not the same? -/
def meetsL : Int → Int → List Int → List Bool → Bool
  | a, b, y :: p, t :: ts => if up1 a y t = up1 b y t then decide (text1 a y t ≠ text1 b y t) else meetsL (up1 a y t) (up1 b y t) p ts
  | _, _, _, _ => false
theorem meets_true : ∀ (p : List Int) (ts : List Bool) (a b : Int), p.length = ts.length → Nums.valid a = true → Nums.valid b = true → (∀ x ∈ p, Nums.valid x = true) → a ≠ b → upL a p ts = upL b p ts → meetsL a b p ts = true
  | [], [], a, b, _, _, _, _, h, e => absurd e h
  | [], _ :: _, _, _, h, _, _, _, _, _ => by simp at h
  | _ :: _, [], _, _, h, _, _, _, _, _ => by simp at h
  | y :: p, t :: ts, a, b, hl, ha, hb, hp, hn, he => by
    rw [meetsL]
    split
    · exact decide_eq_true (text1_ne ha hb (hp y (by simp)) hn)
    · rename_i h
      exact meets_true p ts _ _ (by simpa using hl) (up1_valid _ _ _) (up1_valid _ _ _) (fun x hx => hp x (List.mem_cons_of_mem _ hx)) h he
theorem upL_split : ∀ (k : Nat) (p : List Int) (ts : List Bool) (s : Int), k ≤ p.length → p.length = ts.length → upL s p ts = upL (upL s (p.take k) (ts.take k)) (p.drop k) (ts.drop k)
  | 0, p, ts, s, _, _ => by
    show upL s p ts = upL (upL s [] []) p ts
    rfl
  | k + 1, [], _, _, h, _ => by simp at h
  | k + 1, y :: p, [], _, _, h => by simp at h
  | k + 1, y :: p, t :: ts, s, h, hl => by
    show upL (up1 s y t) p ts = upL (upL (up1 s y t) (p.take k) (ts.take k)) (p.drop k) (ts.drop k)
    exact upL_split k p ts _ (by simpa using h) (by simpa using hl)

end Go.Proofs.YticadkggaanbjaaGreatDoor.Ways

/-
  Plain mathematics of the way up: the parts that lie beside it, in their order; their roots are the proof, their sides its turns. Nothing of the program is named here.
-/
namespace Go.Proofs.YticadkggaanbjaaGreatDoor.Climbs
open Trees (root half half_lt half_pos)
open Ways (turns steps way upL)

/-- the parts beside the way of the i-th leaf up to the root of those from lo to hi, from below -/
def besideF : Nat → Nat → Nat → Nat → List (Nat × Nat)
  | 0, _, _, _ => []
  | f + 1, i, lo, hi => if hi - lo ≤ 1 then [] else if i < lo + half (hi - lo) then besideF f i lo (lo + half (hi - lo)) ++ [(lo + half (hi - lo), hi)] else besideF f i (lo + half (hi - lo)) hi ++ [(lo, lo + half (hi - lo))]
theorem besideF_fuel : ∀ (f g i lo hi : Nat), hi - lo ≤ f → hi - lo ≤ g → besideF f i lo hi = besideF g i lo hi
  | 0, 0, _, _, _, _, _ => rfl
  | 0, g + 1, i, lo, hi, hf, _ => by rw [besideF, besideF, if_pos (by omega)]
  | f + 1, 0, i, lo, hi, _, hg => by rw [besideF, besideF, if_pos (by omega)]
  | f + 1, g + 1, i, lo, hi, hf, hg => by
    rw [besideF, besideF]
    split
    · rfl
    have a := half_lt (hi - lo) (by omega)
    have b := half_pos (hi - lo)
    rw [besideF_fuel f g i lo (lo + half (hi - lo)) (by omega) (by omega), besideF_fuel f g i (lo + half (hi - lo)) hi (by omega) (by omega)]
def beside (i lo hi : Nat) : List (Nat × Nat) := besideF (hi - lo) i lo hi
theorem beside_one (i lo hi : Nat) (h : hi - lo ≤ 1) : beside i lo hi = [] := by
  rw [beside, besideF_fuel (hi - lo) (hi - lo + 1) _ _ _ (Nat.le_refl _) (by omega), besideF, if_pos h]
theorem beside_left (i lo hi k : Nat) (h : 2 ≤ hi - lo) (hk : half (hi - lo) = k) (hi' : i < lo + k) : beside i lo hi = beside i lo (lo + k) ++ [(lo + k, hi)] := by
  subst hk
  have a := half_lt (hi - lo) h
  rw [beside, besideF_fuel (hi - lo) (hi - lo + 1) _ _ _ (Nat.le_refl _) (by omega), besideF, if_neg (by omega), if_pos hi', beside, besideF_fuel (hi - lo) (lo + half (hi - lo) - lo) _ _ _ (by omega) (Nat.le_refl _)]
theorem beside_right (i lo hi k : Nat) (h : 2 ≤ hi - lo) (hk : half (hi - lo) = k) (hi' : ¬ i < lo + k) : beside i lo hi = beside i (lo + k) hi ++ [(lo, lo + k)] := by
  subst hk
  have a := half_lt (hi - lo) h
  have b := half_pos (hi - lo)
  rw [beside, besideF_fuel (hi - lo) (hi - lo + 1) _ _ _ (Nat.le_refl _) (by omega), besideF, if_neg (by omega), if_neg hi', beside, besideF_fuel (hi - lo) (hi - (lo + half (hi - lo))) _ _ _ (by omega) (Nat.le_refl _)]

/-- each part lies between lo and hi, and is no empty one -/
theorem beside_in : ∀ (f i lo hi : Nat), hi - lo ≤ f → ∀ p ∈ beside i lo hi, lo ≤ p.1 ∧ p.1 < p.2 ∧ p.2 ≤ hi
  | 0, i, lo, hi, h, p, hp => by rw [beside_one i lo hi (by omega)] at hp; cases hp
  | f + 1, i, lo, hi, h, p, hp => by
    by_cases h2 : 2 ≤ hi - lo
    · have a := half_lt (hi - lo) h2
      have b := half_pos (hi - lo)
      by_cases hk : i < lo + half (hi - lo)
      · rw [beside_left i lo hi _ h2 rfl hk] at hp
        rcases List.mem_append.1 hp with hp | hp
        · have := beside_in f i lo _ (by omega) p hp; omega
        · rw [List.mem_singleton.1 hp]; simp only; omega
      · rw [beside_right i lo hi _ h2 rfl hk] at hp
        rcases List.mem_append.1 hp with hp | hp
        · have := beside_in f i _ hi (by omega) p hp; omega
        · rw [List.mem_singleton.1 hp]; simp only; omega
    · rw [beside_one i lo hi (by omega)] at hp; cases hp

/-- on which side each stands -/
theorem beside_turns : ∀ (f i lo hi : Nat), hi - lo ≤ f → lo ≤ i → i < hi → (beside i lo hi).map (fun p => !decide (i < p.1)) = turns (i - lo) (hi - lo)
  | 0, i, lo, hi, h, h1, h2 => by omega
  | f + 1, i, lo, hi, h, h1, h3 => by
    by_cases h2 : 2 ≤ hi - lo
    · have a := half_lt (hi - lo) h2
      have b := half_pos (hi - lo)
      by_cases hk : i < lo + half (hi - lo)
      · rw [beside_left i lo hi _ h2 rfl hk, Ways.turns_left _ _ h2 (by omega), List.map_append, beside_turns f i lo _ (by omega) h1 hk, show lo + half (hi - lo) - lo = half (hi - lo) by omega]
        simp [hk]
      · rw [beside_right i lo hi _ h2 rfl hk, Ways.turns_right _ _ h2 (by omega), List.map_append, beside_turns f i _ hi (by omega) (by omega) h3, show i - (lo + half (hi - lo)) = i - lo - half (hi - lo) by omega, show hi - (lo + half (hi - lo)) = hi - lo - half (hi - lo) by omega]
        simp [h1]
    · rw [beside_one i lo hi (by omega), Ways.turns_one _ _ (by omega)]; rfl
theorem turns_of (i n : Nat) (h : i < n) : (beside i 0 n).map (fun p => !decide (i < p.1)) = turns i n := beside_turns n i 0 n (by omega) (Nat.zero_le _) h
theorem beside_len (i n : Nat) (h : i < n) : (beside i 0 n).length = steps i n := by
  have e := congrArg List.length (turns_of i n h)
  rw [List.length_map] at e
  exact e

/-- the roots of these parts -/
def rootAt (l : List Int) (p : Nat × Nat) : Int := root ((l.take p.2).drop p.1)
theorem cut_take {l : List Int} {lo hi k : Nat} (h : lo + k ≤ hi) : ((l.take hi).drop lo).take k = (l.take (lo + k)).drop lo := by
  rw [List.take_drop, List.take_take]
  rw [Nat.min_eq_left h]
theorem cut_drop {l : List Int} {lo hi k : Nat} : ((l.take hi).drop lo).drop k = (l.take hi).drop (lo + k) := by
  rw [List.drop_drop]
theorem beside_way : ∀ (f : Nat) (l : List Int) (i lo hi : Nat), hi - lo ≤ f → lo ≤ i → i < hi → hi ≤ l.length → (beside i lo hi).map (rootAt l) = way ((l.take hi).drop lo) (i - lo)
  | 0, l, i, lo, hi, h, h1, h2, _ => by omega
  | f + 1, l, i, lo, hi, h, h1, h3, h4 => by
    have hl : ((l.take hi).drop lo).length = hi - lo := by simp; omega
    by_cases h2 : 2 ≤ hi - lo
    · have a := half_lt (hi - lo) h2
      have b := half_pos (hi - lo)
      by_cases hk : i < lo + half (hi - lo)
      · rw [beside_left i lo hi _ h2 rfl hk, Ways.way_left _ _ (by omega) (by rw [hl]; omega), List.map_append, beside_way f l i lo _ (by omega) h1 hk (by omega), hl, cut_take (by omega), cut_drop]
        rfl
      · rw [beside_right i lo hi _ h2 rfl hk, Ways.way_right _ _ (by omega) (by rw [hl]; omega), List.map_append, beside_way f l i _ hi (by omega) (by omega) h3 h4, hl, cut_take (by omega), cut_drop, show i - (lo + half (hi - lo)) = i - lo - half (hi - lo) by omega]
        rfl
    · rw [beside_one i lo hi (by omega), Ways.way_one _ _ (by omega)]; rfl
theorem way_of (l : List Int) (i n : Nat) (h : i < n) (hn : n ≤ l.length) : (beside i 0 n).map (rootAt l) = way (l.take n) i := beside_way n l i 0 n (by omega) (Nat.zero_le _) h hn

/-- as high as it is: of two to the k leafs -/
theorem steps_pow : ∀ (k i : Nat), i < 2 ^ k → steps i (2 ^ k) = k
  | 0, i, _ => Ways.steps_one i _ (by simp)
  | k + 1, i, h => by
    have hp : 0 < 2 ^ k := Nat.two_pow_pos k
    have e : 2 ^ (k + 1) = 2 * 2 ^ k := by rw [Nat.pow_succ, Nat.mul_comm]
    have hh : half (2 ^ (k + 1)) = 2 ^ k := Trees.half_unique _ k (by omega) (by omega) (by omega)
    by_cases hk : i < 2 ^ k
    · rw [Ways.steps_left i _ (by omega) (by rw [hh]; exact hk), hh, steps_pow k i hk]
    · rw [Ways.steps_right i _ (by omega) (by rw [hh]; exact hk), hh, show 2 ^ (k + 1) - 2 ^ k = 2 ^ k by omega, steps_pow k (i - 2 ^ k) (by omega)]

end Go.Proofs.YticadkggaanbjaaGreatDoor.Climbs

/-
  Plain mathematics of a proof's turns, one by one from above, and of a proof of which one sum is changed. Nothing of the program is named here.
-/
namespace Go.Proofs.YticadkggaanbjaaGreatDoor.Turns
open Ways (turns steps way upL up1 text1 meetsL)

/-- the last of some, and those ahead of it -/
theorem snoc_take {T X : List Bool} {c : Nat} {b : Bool} (hc : c + 1 ≤ T.length) (h : T.take (c + 1) = X ++ [b]) : X = T.take c ∧ T.getD c false = b := by
  have e := List.take_succ_eq_append_getElem (l := T) (i := c) (by omega)
  rw [e] at h
  have h2 := List.append_inj' h rfl
  refine ⟨h2.1.symm, ?_⟩
  have h3 : T[c] = b := by simpa using h2.2
  rw [List.getD_eq_getElem?_getD, List.getElem?_eq_getElem (by omega), h3]; rfl

theorem drop_cons {α : Type} (l : List α) (k : Nat) (d : α) (h : k < l.length) : l.drop k = l.getD k d :: l.drop (k + 1) := by
  rw [List.drop_eq_getElem_cons h, List.getD_eq_getElem?_getD, List.getElem?_eq_getElem h]; rfl

/-- one step of the way up, told apart -/
theorem up_at (s : Int) (p : List Int) (ts : List Bool) (k : Nat) (hk : k < p.length) (hl : p.length = ts.length) :
    upL s p ts = upL (up1 (upL s (p.take k) (ts.take k)) (p.getD k 0) (ts.getD k false)) (p.drop (k + 1)) (ts.drop (k + 1)) := by
  rw [Ways.upL_split k p ts s (by omega) hl, drop_cons p k 0 hk, drop_cons ts k false (by omega)]
  rfl
theorem up_next (s : Int) (p : List Int) (ts : List Bool) (k : Nat) (hk : k < p.length) (hl : p.length = ts.length) :
    upL s (p.take (k + 1)) (ts.take (k + 1)) = up1 (upL s (p.take k) (ts.take k)) (p.getD k 0) (ts.getD k false) := by
  have e1 : p.take (k + 1) = p.take k ++ [p.getD k 0] := by
    rw [List.take_succ_eq_append_getElem hk, List.getD_eq_getElem?_getD, List.getElem?_eq_getElem hk]; rfl
  have e2 : ts.take (k + 1) = ts.take k ++ [ts.getD k false] := by
    rw [List.take_succ_eq_append_getElem (by omega), List.getD_eq_getElem?_getD, List.getElem?_eq_getElem (by omega)]; rfl
  rw [e1, e2, Ways.upL_append _ _ _ _ _ (by rw [List.length_take, List.length_take]; omega)]

/-- what the law asks at one step -/
theorem meets_step {a b : Int} {p : List Int} {ts : List Bool} {k : Nat} (hk : k < p.length) (hl : p.length = ts.length) (h : meetsL a b (p.drop k) (ts.drop k) = true) :
    if up1 a (p.getD k 0) (ts.getD k false) = up1 b (p.getD k 0) (ts.getD k false) then text1 a (p.getD k 0) (ts.getD k false) ≠ text1 b (p.getD k 0) (ts.getD k false)
    else meetsL (up1 a (p.getD k 0) (ts.getD k false)) (up1 b (p.getD k 0) (ts.getD k false)) (p.drop (k + 1)) (ts.drop (k + 1)) = true := by
  rw [drop_cons p k 0 hk, drop_cons ts k false (by omega), meetsL] at h
  split
  · rename_i e
    rw [if_pos e] at h
    exact of_decide_eq_true h
  · rename_i e
    rw [if_neg e] at h
    exact h
theorem meets_end {a b : Int} {p : List Int} {ts : List Bool} {k : Nat} (hk : p.length ≤ k) : meetsL a b (p.drop k) (ts.drop k) = false := by
  rw [List.drop_eq_nil_of_le hk]; rfl

/-- one sum of the proof changed: then at that step two texts are not the same; and the sums that come are one, or meet above -/
theorem changed {s x : Int} {p : List Int} {ts : List Bool} {k : Nat} (hk : k < p.length) (hl : p.length = ts.length) (hs : Nums.valid s = true) (hp : ∀ y ∈ p, Nums.valid y = true) (hx : Nums.valid x = true) (hne : p.getD k 0 ≠ x)
    (he : upL s p ts = upL s (p.set k x) ts) :
    text1 (upL s (p.take k) (ts.take k)) (p.getD k 0) (ts.getD k false) ≠ text1 (upL s (p.take k) (ts.take k)) x (ts.getD k false) ∧
    (up1 (upL s (p.take k) (ts.take k)) (p.getD k 0) (ts.getD k false) ≠ up1 (upL s (p.take k) (ts.take k)) x (ts.getD k false) →
      meetsL (up1 (upL s (p.take k) (ts.take k)) (p.getD k 0) (ts.getD k false)) (up1 (upL s (p.take k) (ts.take k)) x (ts.getD k false)) (p.drop (k + 1)) (ts.drop (k + 1)) = true) := by
  have vy : Nums.valid (p.getD k 0) = true := hp _ (by rw [List.getD_eq_getElem?_getD, List.getElem?_eq_getElem hk]; exact List.getElem_mem _)
  refine ⟨Ways.text1_ne' (Ways.upL_valid _ _ _ hs) vy hx hne, fun hn => ?_⟩
  refine Ways.meets_true _ _ _ _ (by rw [List.length_drop, List.length_drop]; omega) (Ways.up1_valid _ _ _) (Ways.up1_valid _ _ _) (fun y hy => hp y (List.mem_of_mem_drop hy)) hn ?_
  rw [← up_at s p ts k hk hl, he, up_at s (p.set k x) ts k (by rw [List.length_set]; exact hk) (by rw [List.length_set]; exact hl)]
  rw [List.take_set_of_le (Nat.le_refl k), List.drop_set_of_lt (by omega)]
  rw [show (p.set k x).getD k 0 = x by rw [List.getD_eq_getElem?_getD, List.getElem?_set_self hk]; rfl]

end Go.Proofs.YticadkggaanbjaaGreatDoor.Turns

/-
  Plain mathematics of proofs that a tree has but grown: on which side each sum of one stands, the proof, the two roots that come of it; and what another old root comes to. Nothing of the program is named here.
-/
namespace Go.Proofs.YticadkggaanbjaaGreatDoor.Grows
open Trees (root half half_lt half_pos)
open Ways (node upL up1 text1 meetsL)

/-- from below: does each sum of the proof of the first o of n stand on the left? -/
def gturnsF : Nat → Nat → Nat → List Bool
  | 0, _, _ => []
  | f + 1, o, n => if o = n ∨ n ≤ 1 then [] else if o ≤ half n then gturnsF f o (half n) ++ [false] else gturnsF f (o - half n) (n - half n) ++ [true]
theorem gturnsF_fuel : ∀ (f g o n : Nat), n ≤ f → n ≤ g → gturnsF f o n = gturnsF g o n
  | 0, 0, _, _, _, _ => rfl
  | 0, g + 1, o, n, hf, _ => by rw [gturnsF, gturnsF, if_pos (by omega)]
  | f + 1, 0, o, n, _, hg => by rw [gturnsF, gturnsF, if_pos (by omega)]
  | f + 1, g + 1, o, n, hf, hg => by
    rw [gturnsF, gturnsF]
    split
    · rfl
    have a := half_lt n (by omega)
    have b := half_pos n
    rw [gturnsF_fuel f g o (half n) (by omega) (by omega), gturnsF_fuel f g (o - half n) (n - half n) (by omega) (by omega)]
def gturns (o n : Nat) : List Bool := gturnsF n o n
theorem gturns_same (n : Nat) : gturns n n = [] := by
  rw [gturns, gturnsF_fuel n (n + 1) n n (Nat.le_refl _) (by omega), gturnsF, if_pos (.inl rfl)]
theorem gturns_left (o n : Nat) (h : o < n) (h2 : 2 ≤ n) (hk : o ≤ half n) : gturns o n = gturns o (half n) ++ [false] := by
  have a := half_lt n h2
  rw [gturns, gturnsF_fuel n (n + 1) o n (Nat.le_refl _) (by omega), gturnsF, if_neg (by omega), if_pos hk, gturns, gturnsF_fuel n (half n) _ _ (by omega) (Nat.le_refl _)]
theorem gturns_right (o n : Nat) (h : o < n) (h2 : 2 ≤ n) (hk : ¬ o ≤ half n) : gturns o n = gturns (o - half n) (n - half n) ++ [true] := by
  have a := half_lt n h2
  have b := half_pos n
  rw [gturns, gturnsF_fuel n (n + 1) o n (Nat.le_refl _) (by omega), gturnsF, if_neg (by omega), if_neg hk, gturns, gturnsF_fuel n (n - half n) _ _ (by omega) (Nat.le_refl _)]

/-- does the way never turn: is the old tree a beginning of all of it? -/
def straight (T : List Bool) : Bool := T.all (!·)
theorem straight_false (T : List Bool) : straight (T ++ [false]) = straight T := by simp [straight]
theorem straight_true (T : List Bool) : straight (T ++ [true]) = false := by simp [straight]
/-- is the old root known: is there nothing to tell of it? -/
def known (whole : Bool) (o n : Nat) : Bool := whole && straight (gturns o n)
theorem known_same (whole : Bool) (n : Nat) : known whole n n = whole := by rw [known, gturns_same]; simp [straight]
theorem known_left (whole : Bool) (o n : Nat) (h : o < n) (h2 : 2 ≤ n) (hk : o ≤ half n) : known whole o n = known whole o (half n) := by rw [known, known, gturns_left o n h h2 hk, straight_false]
theorem known_right (whole : Bool) (o n : Nat) (h : o < n) (h2 : 2 ≤ n) (hk : ¬ o ≤ half n) : known whole o n = false := by rw [known, gturns_right o n h h2 hk, straight_true, Bool.and_false]
theorem known_no (o n : Nat) : known false o n = false := rfl

/-- how long such a proof is -/
def gsteps (o n : Nat) (whole : Bool) : Nat := (gturns o n).length + (if known whole o n then 0 else 1)
theorem gsteps_same (n : Nat) (whole : Bool) : gsteps n n whole = if whole then 0 else 1 := by rw [gsteps, gturns_same, known_same]; simp
theorem gsteps_left (o n : Nat) (whole : Bool) (h : o < n) (h2 : 2 ≤ n) (hk : o ≤ half n) : gsteps o n whole = 1 + gsteps o (half n) whole := by
  rw [gsteps, gsteps, known_left whole o n h h2 hk, gturns_left o n h h2 hk, List.length_append]; simp only [List.length_cons, List.length_nil]; omega
theorem gsteps_right (o n : Nat) (whole : Bool) (h : o < n) (h2 : 2 ≤ n) (hk : ¬ o ≤ half n) : gsteps o n whole = 1 + gsteps (o - half n) (n - half n) false := by
  rw [gsteps, gsteps, known_right whole o n h h2 hk, known_no, gturns_right o n h h2 hk, List.length_append]; simp only [List.length_cons, List.length_nil, Bool.false_eq_true, if_false]; omega
theorem gturns_le : ∀ (f o n : Nat), n ≤ f → (gturns o n).length ≤ n
  | 0, o, n, h => by
    have : n = 0 := by omega
    subst this
    exact Nat.le_of_eq rfl
  | f + 1, o, n, h => by
    by_cases h2 : 2 ≤ n
    · have a := half_lt n h2
      have b := half_pos n
      rcases Nat.lt_trichotomy o n with ho | ho | ho
      · by_cases hk : o ≤ half n
        · rw [gturns_left o n ho h2 hk, List.length_append]; have := gturns_le f o (half n) (by omega); simp only [List.length_cons, List.length_nil]; omega
        · rw [gturns_right o n ho h2 hk, List.length_append]; have := gturns_le f (o - half n) (n - half n) (by omega); simp only [List.length_cons, List.length_nil]; omega
      · subst ho; rw [gturns_same]; exact Nat.zero_le _
      · rw [gturns, gturnsF_fuel n (n + 1) o n (Nat.le_refl _) (by omega), gturnsF, if_neg (by omega), if_neg (by omega), List.length_append]
        have := gturns_le f (o - half n) (n - half n) (by omega)
        rw [gturnsF_fuel n (n - half n) _ _ (by omega) (Nat.le_refl _)]
        show (gturns (o - half n) (n - half n)).length + 1 ≤ n
        omega
    · rw [gturns, gturnsF_fuel n (n + 1) o n (Nat.le_refl _) (by omega), gturnsF, if_pos (by omega)]; exact Nat.zero_le _
theorem gsteps_le (o n : Nat) (whole : Bool) : gsteps o n whole ≤ n + 1 := by
  have := gturns_le n o n (Nat.le_refl _)
  rw [gsteps]
  split <;> omega

/-- the proof -/
def growF : Nat → List Int → Nat → Bool → List Int
  | 0, _, _, _ => []
  | f + 1, l, o, whole => if o = l.length ∨ l.length ≤ 1 then (if whole then [] else [root l]) else if o ≤ half l.length then growF f (l.take (half l.length)) o whole ++ [root (l.drop (half l.length))] else growF f (l.drop (half l.length)) (o - half l.length) false ++ [root (l.take (half l.length))]
theorem growF_fuel : ∀ (f g : Nat) (l : List Int) (o : Nat) (whole : Bool), 1 ≤ l.length → l.length ≤ f → l.length ≤ g → growF f l o whole = growF g l o whole
  | 0, _, l, _, _, h0, hf, _ => by omega
  | _ + 1, 0, l, _, _, h0, _, hg => by omega
  | f + 1, g + 1, l, o, whole, h0, hf, hg => by
    rw [growF, growF]
    split
    · rfl
    have a := half_lt l.length (by omega)
    have b := half_pos l.length
    rw [growF_fuel f g (l.take (half l.length)) o whole (by rw [List.length_take]; omega) (by rw [List.length_take]; omega) (by rw [List.length_take]; omega), growF_fuel f g (l.drop (half l.length)) _ false (by rw [List.length_drop]; omega) (by rw [List.length_drop]; omega) (by rw [List.length_drop]; omega)]
def grow (l : List Int) (o : Nat) (whole : Bool) : List Int := growF l.length l o whole
theorem grow_same (l : List Int) (whole : Bool) (h : 1 ≤ l.length) : grow l l.length whole = if whole then [] else [root l] := by
  rw [grow, growF_fuel l.length (l.length + 1) l _ whole h (Nat.le_refl _) (by omega), growF, if_pos (.inl rfl)]
theorem grow_left (l : List Int) (o : Nat) (whole : Bool) (h : o < l.length) (h2 : 2 ≤ l.length) (hk : o ≤ half l.length) : grow l o whole = grow (l.take (half l.length)) o whole ++ [root (l.drop (half l.length))] := by
  have a := half_lt l.length h2
  have b := half_pos l.length
  rw [grow, growF_fuel l.length (l.length + 1) l _ whole (by omega) (Nat.le_refl _) (by omega), growF, if_neg (by omega), if_pos hk, grow, growF_fuel l.length (l.take (half l.length)).length _ _ _ (by rw [List.length_take]; omega) (by rw [List.length_take]; omega) (Nat.le_refl _)]
theorem grow_right (l : List Int) (o : Nat) (whole : Bool) (h : o < l.length) (h2 : 2 ≤ l.length) (hk : ¬ o ≤ half l.length) : grow l o whole = grow (l.drop (half l.length)) (o - half l.length) false ++ [root (l.take (half l.length))] := by
  have a := half_lt l.length h2
  have b := half_pos l.length
  rw [grow, growF_fuel l.length (l.length + 1) l _ whole (by omega) (Nat.le_refl _) (by omega), growF, if_neg (by omega), if_neg hk, grow, growF_fuel l.length (l.drop (half l.length)).length _ _ _ (by rw [List.length_drop]; omega) (by rw [List.length_drop]; omega) (Nat.le_refl _)]

theorem grow_length : ∀ (f : Nat) (l : List Int) (o : Nat) (whole : Bool), l.length ≤ f → 1 ≤ o → o ≤ l.length → (grow l o whole).length = gsteps o l.length whole
  | 0, l, o, whole, h, h1, h2 => by omega
  | f + 1, l, o, whole, h, h1, h2 => by
    rcases Nat.lt_or_ge o l.length with ho | ho
    · have l2 : 2 ≤ l.length := by omega
      have a := half_lt l.length l2
      have b := half_pos l.length
      have lt : (l.take (half l.length)).length = half l.length := by rw [List.length_take]; omega
      have ld : (l.drop (half l.length)).length = l.length - half l.length := List.length_drop
      by_cases hk : o ≤ half l.length
      · rw [grow_left l o whole ho l2 hk, List.length_append, grow_length f _ o whole (by omega) h1 (by omega), lt, gsteps_left o _ whole ho l2 hk]; simp only [List.length_cons, List.length_nil]; omega
      · rw [grow_right l o whole ho l2 hk, List.length_append, grow_length f _ _ false (by omega) (by omega) (by omega), ld, gsteps_right o _ whole ho l2 hk]; simp only [List.length_cons, List.length_nil]; omega
    · obtain rfl : o = l.length := by omega
      rw [grow_same l whole h1, gsteps_same]
      cases whole <;> rfl
theorem grow_valid : ∀ (f : Nat) (l : List Int) (o : Nat) (whole : Bool), l.length ≤ f → 1 ≤ o → o ≤ l.length → (∀ x ∈ l, Nums.valid x = true) → ∀ x ∈ grow l o whole, Nums.valid x = true
  | 0, l, o, whole, h, h1, h2, _ => by omega
  | f + 1, l, o, whole, h, h1, h2, hv => by
    rcases Nat.lt_or_ge o l.length with ho | ho
    · have l2 : 2 ≤ l.length := by omega
      have a := half_lt l.length l2
      have b := half_pos l.length
      have lt : (l.take (half l.length)).length = half l.length := by rw [List.length_take]; omega
      have ld : (l.drop (half l.length)).length = l.length - half l.length := List.length_drop
      have vt : ∀ x ∈ l.take (half l.length), Nums.valid x = true := fun x hx => hv x (List.mem_of_mem_take hx)
      have vd : ∀ x ∈ l.drop (half l.length), Nums.valid x = true := fun x hx => hv x (List.mem_of_mem_drop hx)
      intro x hx
      by_cases hk : o ≤ half l.length
      · rw [grow_left l o whole ho l2 hk] at hx
        rcases List.mem_append.1 hx with hx | hx
        · exact grow_valid f _ o whole (by omega) h1 (by omega) vt x hx
        · rw [List.mem_singleton.1 hx]; exact Trees.root_valid _ vd
      · rw [grow_right l o whole ho l2 hk] at hx
        rcases List.mem_append.1 hx with hx | hx
        · exact grow_valid f _ _ false (by omega) (by omega) (by omega) vd x hx
        · rw [List.mem_singleton.1 hx]; exact Trees.root_valid _ vt
    · obtain rfl : o = l.length := by omega
      rw [grow_same l whole h1]
      cases whole
      · intro x hx; simp at hx; rw [hx]; exact Trees.root_valid _ hv
      · intro x hx; cases hx

/-- one step up of the old root: what stands on its right is not of it -/
def old1 (s y : Int) (t : Bool) : Int := if t then node y s else s
def oldL : Int → List Int → List Bool → Int
  | s, y :: p, t :: ts => oldL (old1 s y t) p ts
  | s, _, _ => s
theorem oldL_append : ∀ (p : List Int) (ts : List Bool) (s y : Int) (t : Bool), p.length = ts.length → oldL s (p ++ [y]) (ts ++ [t]) = old1 (oldL s p ts) y t
  | [], [], s, y, t, _ => rfl
  | x :: p, u :: ts, s, y, t, h => by
    show oldL (old1 s x u) (p ++ [y]) (ts ++ [t]) = old1 (oldL (old1 s x u) p ts) y t
    exact oldL_append p ts _ y t (by simpa using h)
  | [], _ :: _, _, _, _, h => by simp at h
  | _ :: _, [], _, _, _, h => by simp at h
theorem oldL_straight : ∀ (p : List Int) (ts : List Bool) (s : Int), straight ts = true → oldL s p ts = s
  | [], [], _, _ => rfl
  | [], _ :: _, _, _ => rfl
  | _ :: _, [], _, _ => rfl
  | y :: p, t :: ts, s, h => by
    have h' : t = false ∧ straight ts = true := by simpa [straight] using h
    rw [oldL, h'.1]
    exact oldL_straight p ts s h'.2
theorem oldL_valid : ∀ (p : List Int) (ts : List Bool) (s : Int), Nums.valid s = true → Nums.valid (oldL s p ts) = true
  | [], [], _, h => h
  | [], _ :: _, _, h => h
  | _ :: _, [], _, h => h
  | y :: p, t :: ts, s, h => oldL_valid p ts _ (by unfold old1; split; exact Ways.node_valid _ _; exact h)

/-- what the way begins with, and the sums beside it -/
def base (s : Int) (p : List Int) (c : Bool) : Int := if c then s else p.getD 0 0
def rest (p : List Int) (c : Bool) : List Int := if c then p else p.drop 1
/-- the old root that comes of a proof, and the new one -/
def oldOf (s : Int) (o n : Nat) (p : List Int) (whole : Bool) : Int := oldL (base s p (known whole o n)) (rest p (known whole o n)) (gturns o n)
def newOf (s : Int) (o n : Nat) (p : List Int) (whole : Bool) : Int := upL (base s p (known whole o n)) (rest p (known whole o n)) (gturns o n)
theorem of_same (s : Int) (n : Nat) (p : List Int) (whole : Bool) (h : p.length = gsteps n n whole) : oldOf s n n p whole = (if whole then s else p.getD 0 0) ∧ newOf s n n p whole = (if whole then s else p.getD 0 0) := by
  rw [oldOf, newOf, known_same, gturns_same]
  rw [gsteps_same] at h
  cases whole
  · match p, h with
    | [y], _ => exact ⟨rfl, rfl⟩
  · match p, h with
    | [], _ => exact ⟨rfl, rfl⟩
theorem base_last (s : Int) (p : List Int) (c : Bool) (m : Nat) (h : p.length = m + 1) (hc : c = false → 1 ≤ m) : base s p c = base s (p.take m) c ∧ rest p c = rest (p.take m) c ++ [p.getD m 0] := by
  have e : p = p.take m ++ [p.getD m 0] := by
    rw [List.getD_eq_getElem?_getD, List.getElem?_eq_getElem (by omega)]
    show p = p.take m ++ [p[m]]
    rw [← List.take_succ_eq_append_getElem (by omega), List.take_of_length_le (by omega)]
  cases c
  · have h1 := hc rfl
    refine ⟨?_, ?_⟩
    · show p.getD 0 0 = (p.take m).getD 0 0
      rw [List.getD_eq_getElem?_getD, List.getD_eq_getElem?_getD, List.getElem?_take, if_pos (by omega)]
    · show p.drop 1 = (p.take m).drop 1 ++ [p.getD m 0]
      conv => lhs; rw [e]
      rw [List.drop_append_of_le_length (by rw [List.length_take]; omega)]
  · exact ⟨rfl, e⟩
theorem rest_length {o n : Nat} {p : List Int} {whole : Bool} (h : p.length = gsteps o n whole) : (rest p (known whole o n)).length = (gturns o n).length := by
  rw [gsteps] at h
  unfold rest
  split
  · rename_i hk; rw [if_pos hk] at h; exact h
  · rename_i hk; rw [if_neg hk] at h; rw [List.length_drop]; omega
theorem of_left (s : Int) (o n m : Nat) (p : List Int) (whole : Bool) (h : o < n) (h2 : 2 ≤ n) (hk : o ≤ half n) (hm : m + 1 = gsteps o n whole) (hp : p.length = m + 1) :
    oldOf s o n p whole = oldOf s o (half n) (p.take m) whole ∧ newOf s o n p whole = node (newOf s o (half n) (p.take m) whole) (p.getD m 0) := by
  have hg := gsteps_left o n whole h h2 hk
  have ht : (p.take m).length = gsteps o (half n) whole := by rw [List.length_take]; omega
  have hc : known whole o (half n) = false → 1 ≤ m := by
    intro e
    have e2 : gsteps o (half n) whole = (gturns o (half n)).length + 1 := by rw [gsteps, e]; rfl
    omega
  obtain ⟨b1, b2⟩ := base_last s p (known whole o (half n)) m hp hc
  have rl := rest_length ht
  rw [oldOf, newOf, known_left whole o n h h2 hk, gturns_left o n h h2 hk, b1, b2, oldL_append _ _ _ _ _ rl, Ways.upL_append _ _ _ _ _ rl]
  exact ⟨rfl, rfl⟩
theorem of_right (s : Int) (o n m : Nat) (p : List Int) (whole : Bool) (h : o < n) (h2 : 2 ≤ n) (hk : ¬ o ≤ half n) (hm : m + 1 = gsteps o n whole) (hp : p.length = m + 1) :
    oldOf s o n p whole = node (p.getD m 0) (oldOf s (o - half n) (n - half n) (p.take m) false) ∧ newOf s o n p whole = node (p.getD m 0) (newOf s (o - half n) (n - half n) (p.take m) false) := by
  have hg := gsteps_right o n whole h h2 hk
  have ht : (p.take m).length = gsteps (o - half n) (n - half n) false := by rw [List.length_take]; omega
  have hc : (false : Bool) = false → 1 ≤ m := by
    intro _
    have e2 : gsteps (o - half n) (n - half n) false = (gturns (o - half n) (n - half n)).length + 1 := rfl
    omega
  obtain ⟨b1, b2⟩ := base_last s p false m hp hc
  have rl := rest_length ht
  rw [known_no] at rl
  rw [oldOf, newOf, known_right whole o n h h2 hk, gturns_right o n h h2 hk, b1, b2, oldL_append _ _ _ _ _ rl, Ways.upL_append _ _ _ _ _ rl]
  exact ⟨rfl, rfl⟩

theorem half_old (o n : Nat) (h2 : 2 ≤ n) (h : o ≤ n) (hk : half n < o) : half o = half n := by
  obtain ⟨j, hj⟩ : ∃ j, half n = 2 ^ j := ⟨_, rfl⟩
  have hb := Trees.half_ge n h2
  rw [hj] at hk hb ⊢
  exact Trees.half_unique o j (by have := Nat.two_pow_pos j; omega) (by omega) (by omega)

/-- both roots come of the proof that is made, from the old root itself -/
theorem of_grow : ∀ (f : Nat) (l : List Int) (o : Nat) (whole : Bool) (s : Int), l.length ≤ f → 1 ≤ o → o ≤ l.length → (known whole o l.length = true → s = root (l.take o)) →
    oldOf s o l.length (grow l o whole) whole = root (l.take o) ∧ newOf s o l.length (grow l o whole) whole = root l
  | 0, l, o, whole, s, h, h1, h2, _ => by omega
  | f + 1, l, o, whole, s, h, h1, h2, hs => by
    have hgl := grow_length _ l o whole (Nat.le_refl _) h1 h2
    rcases Nat.lt_or_ge o l.length with ho | ho
    · have l2 : 2 ≤ l.length := by omega
      have a := half_lt l.length l2
      have b := half_pos l.length
      have lt : (l.take (half l.length)).length = half l.length := by rw [List.length_take]; omega
      have ld : (l.drop (half l.length)).length = l.length - half l.length := List.length_drop
      by_cases hk : o ≤ half l.length
      · have e := grow_left l o whole ho l2 hk
        have gl := grow_length _ (l.take (half l.length)) o whole (Nat.le_refl _) h1 (by omega)
        have hst := gsteps_left o l.length whole ho l2 hk
        rw [lt] at gl
        obtain ⟨q1, q2⟩ := of_left s o l.length (grow (l.take (half l.length)) o whole).length (grow l o whole) whole ho l2 hk (by omega) (by rw [e]; simp)
        have tk : (grow l o whole).take (grow (l.take (half l.length)) o whole).length = grow (l.take (half l.length)) o whole := by rw [e, List.take_left]
        have gd : (grow l o whole).getD (grow (l.take (half l.length)) o whole).length 0 = root (l.drop (half l.length)) := by rw [e, List.getD_eq_getElem?_getD, List.getElem?_append_right (Nat.le_refl _)]; simp
        have tt : (l.take (half l.length)).take o = l.take o := by rw [List.take_take, Nat.min_eq_left hk]
        obtain ⟨i1, i2⟩ := of_grow f (l.take (half l.length)) o whole s (by omega) h1 (by omega) (by
          rw [lt, tt]; intro h3; exact hs (by rw [known_left whole o l.length ho l2 hk]; exact h3))
        rw [lt, tt] at i1
        rw [lt] at i2
        rw [q1, q2, tk, gd, i1, i2, Trees.root_more l l2]
        exact ⟨rfl, rfl⟩
      · have e := grow_right l o whole ho l2 hk
        have gl := grow_length _ (l.drop (half l.length)) (o - half l.length) false (Nat.le_refl _) (by omega) (by omega)
        have hst := gsteps_right o l.length whole ho l2 hk
        rw [ld] at gl
        obtain ⟨q1, q2⟩ := of_right s o l.length (grow (l.drop (half l.length)) (o - half l.length) false).length (grow l o whole) whole ho l2 hk (by omega) (by rw [e]; simp)
        have tk : (grow l o whole).take (grow (l.drop (half l.length)) (o - half l.length) false).length = grow (l.drop (half l.length)) (o - half l.length) false := by rw [e, List.take_left]
        have gd : (grow l o whole).getD (grow (l.drop (half l.length)) (o - half l.length) false).length 0 = root (l.take (half l.length)) := by rw [e, List.getD_eq_getElem?_getD, List.getElem?_append_right (Nat.le_refl _)]; simp
        obtain ⟨i1, i2⟩ := of_grow f (l.drop (half l.length)) (o - half l.length) false s (by omega) (by omega) (by omega) (fun h3 => by rw [known_no] at h3; cases h3)
        rw [ld] at i1 i2
        have lo : (l.take o).length = o := by rw [List.length_take]; omega
        have ho2 : half o = half l.length := half_old o l.length l2 h2 (by omega)
        have rm := Trees.root_more (l.take o) (by omega)
        rw [lo, ho2, List.take_take, Nat.min_eq_left (by omega), List.drop_take] at rm
        rw [q1, q2, tk, gd, i1, i2, rm, Trees.root_more l l2]
        exact ⟨rfl, rfl⟩
    · obtain rfl : o = l.length := by omega
      obtain ⟨q1, q2⟩ := of_same s l.length (grow l l.length whole) whole hgl
      rw [q1, q2, List.take_of_length_le (Nat.le_refl _), grow_same l whole h1]
      cases whole
      · exact ⟨rfl, rfl⟩
      · have := hs (known_same true l.length)
        rw [List.take_of_length_le (Nat.le_refl _)] at this
        rw [this]
        exact ⟨rfl, rfl⟩

/-- where the old root is known, it is what is said to be; else what is said is not asked -/
theorem oldOf_known {o n : Nat} {whole : Bool} (h : known whole o n = true) (s : Int) (p : List Int) : oldOf s o n p whole = s := by
  have hs : straight (gturns o n) = true := by
    unfold known at h
    exact (Bool.and_eq_true_iff.1 h).2
  rw [oldOf, h, oldL_straight _ _ _ hs]; rfl
theorem newOf_known {o n : Nat} {whole : Bool} (h : known whole o n = true) (s : Int) (p : List Int) : newOf s o n p whole = upL s p (gturns o n) := by rw [newOf, h]; rfl
theorem of_unknown {o n : Nat} {whole : Bool} (h : known whole o n = false) (s s' : Int) (p : List Int) : oldOf s o n p whole = oldOf s' o n p whole ∧ newOf s o n p whole = newOf s' o n p whole := by
  rw [oldOf, newOf, oldOf, newOf, h]; exact ⟨rfl, rfl⟩
theorem straight_at {T : List Bool} (h : straight T = true) (k : Nat) : T.getD k false = false := by
  rw [List.getD_eq_getElem?_getD]
  rcases Nat.lt_or_ge k T.length with hk | hk
  · rw [List.getElem?_eq_getElem hk]
    have := List.all_eq_true.1 h _ (List.getElem_mem hk)
    simpa using this
  · rw [List.getElem?_eq_none hk]; rfl
theorem known_straight {o n : Nat} {whole : Bool} (h : known whole o n = true) : straight (gturns o n) = true := (Bool.and_eq_true_iff.1 h).2
theorem known_length {o n : Nat} {whole : Bool} (h : known whole o n = true) : gsteps o n whole = (gturns o n).length := by rw [gsteps, if_pos h]; rfl

theorem of_valid {s : Int} {o n : Nat} {p : List Int} {whole : Bool} (hs : Nums.valid s = true) (hp : ∀ x ∈ p, Nums.valid x = true) (h : p.length = gsteps o n whole) : Nums.valid (oldOf s o n p whole) = true ∧ Nums.valid (newOf s o n p whole) = true := by
  have hb : Nums.valid (base s p (known whole o n)) = true := by
    unfold base
    split
    · exact hs
    · rename_i hk
      rw [gsteps, if_neg hk] at h
      exact hp _ (by rw [List.getD_eq_getElem?_getD, List.getElem?_eq_getElem (by omega)]; exact List.getElem_mem _)
  exact ⟨oldL_valid _ _ _ hb, Ways.upL_valid _ _ _ hb⟩

/-- the fault of a proof whose numbers are right -/
def grownE (ra rb : Int) (o n : Nat) (p : List Int) : Nat := if p.length = gsteps o n true then (if oldOf ra o n p true = ra ∧ newOf ra o n p true = rb then 0 else 8) else 3

end Go.Proofs.YticadkggaanbjaaGreatDoor.Grows

/-
  Plain mathematics of what is wrong with a proof that a tree has but grown, and with what is asked for. Nothing of the program is named here.
-/
namespace Go.Proofs.YticadkggaanbjaaGreatDoor.GrowsE
open Grows (gsteps grow oldOf newOf grownE)

/-- may the first o have become n? -/
def inGrow (o n m : Int) : Bool := decide (1 ≤ o ∧ o ≤ n ∧ n ≤ m)
theorem inGrow_of {O N m : Int} (h : inGrow O N m = true) : ∃ o n : Nat, O = o ∧ N = n ∧ 1 ≤ o ∧ o ≤ n ∧ (n : Int) ≤ m := by
  have h' := of_decide_eq_true h
  obtain ⟨o, rfl⟩ := Int.eq_ofNat_of_zero_le (show 0 ≤ O by omega)
  obtain ⟨n, rfl⟩ := Int.eq_ofNat_of_zero_le (show 0 ≤ N by omega)
  exact ⟨o, n, rfl, rfl, by omega, by omega, h'.2.2⟩
theorem inGrow_no {O N m : Int} (h : inGrow O N m = false) : O < 1 ∨ (¬ O < 1 ∧ N < O) ∨ (¬ O < 1 ∧ ¬ N < O ∧ m < N) := by
  have := of_decide_eq_false h
  omega
/-- the fault of a proof -/
def growE (ra O rb N : Int) (p : List Int) : Nat := if inGrow O N 200 = true ∧ Nums.valid ra = true ∧ Nums.valid rb = true ∧ Trees.allOk p = true then grownE ra rb O.toNat N.toNat p else 1

/-- what is wrong with what is asked for, and the proof that is made -/
def gmakeE (l : List Int) (o n : Int) : Nat := if Trees.leafsE l = 0 then (if inGrow o n l.length = true then 0 else 1) else Trees.leafsE l
def gmakeL (l : List Int) (o n : Int) : List Int := if gmakeE l o n = 0 then grow (l.take n.toNat) o.toNat true else []
theorem gmake_of {l : List Int} {o n : Int} (h : gmakeE l o n = 0) : Trees.leafsE l = 0 ∧ inGrow o n l.length = true := by
  unfold gmakeE at h
  split at h
  · rename_i h0
    refine ⟨h0, ?_⟩
    split at h
    · assumption
    · cases h
  · rename_i h0
    exact absurd h h0
theorem gmakeE_eq (l : List Int) (o n : Int) : gmakeE l o n = if (decide (Trees.leafsE l = 0) && !inGrow o n l.length) = true then 1 else Trees.leafsE l := by
  unfold gmakeE
  by_cases h : Trees.leafsE l = 0
  · rw [if_pos h, decide_eq_true h]
    cases hi : inGrow o n l.length
    · rfl
    · exact h.symm
  · rw [if_neg h, decide_eq_false h]
    rfl
theorem leafs_ok {l : List Int} {n : Nat} (hln : l.length = n) (h : Trees.leafsE l = 0) : n ≤ 200 ∧ ∀ x ∈ l, Nums.valid x = true := by
  unfold Trees.leafsE at h
  rw [hln] at h
  split at h
  · cases h
  · split at h
    · exact ⟨by omega, Trees.allOk_mem (by assumption)⟩
    · cases h
theorem all_ok {l : List Int} (h : ∀ x ∈ l, Nums.valid x = true) : Trees.allOk l = true := List.all_eq_true.2 h
theorem leafs_zero {l : List Int} (hn : l.length ≤ 200) (h : ∀ x ∈ l, Nums.valid x = true) : Trees.leafsE l = 0 := by
  unfold Trees.leafsE
  rw [if_neg (by omega), if_pos (all_ok h)]
theorem gmakeL_len (l : List Int) (o n : Int) : (gmakeL l o n).length ≤ 201 := by
  unfold gmakeL
  split
  · rename_i h
    obtain ⟨h0, h1⟩ := gmake_of h
    obtain ⟨o', n', rfl, rfl, h2, h3, h4⟩ := inGrow_of h1
    have n2 := (leafs_ok rfl h0).1
    rw [Int.toNat_natCast, Int.toNat_natCast, Grows.grow_length _ _ _ _ (Nat.le_refl _) h2 (by rw [List.length_take]; omega)]
    have := Grows.gsteps_le o' (l.take n').length true
    rw [List.length_take] at this
    rw [List.length_take]
    omega
  · exact Nat.zero_le _
theorem growE_is {ra rb O N : Int} {p : List Int} {o n : Nat} (hO : O = o) (hN : N = n) (h1 : 1 ≤ o) (h2 : o ≤ n) (hn : n ≤ 200) (va : Nums.valid ra = true) (vb : Nums.valid rb = true) (vp : ∀ x ∈ p, Nums.valid x = true) : growE ra O rb N p = grownE ra rb o n p := by
  unfold growE
  rw [if_pos ⟨decide_eq_true ⟨by omega, by omega, by omega⟩, va, vb, all_ok vp⟩, hO, hN, Int.toNat_natCast, Int.toNat_natCast]

end Go.Proofs.YticadkggaanbjaaGreatDoor.GrowsE

/-
  Plain mathematics of the way from the last part of the old tree up to the root of the new one: the parts that are told on it, and the two roots that come of sums in their places. Nothing of the program is named here.
-/
namespace Go.Proofs.YticadkggaanbjaaGreatDoor.GrowWays
open Trees (root half half_lt half_pos)
open Ways (node)
open Climbs (rootAt)
open Grows (gsteps grow oldOf newOf)

/-- the parts that are told, from below -/
def partsF : Nat → Nat → Nat → Nat → List (Nat × Nat)
  | 0, _, _, _ => []
  | f + 1, o, lo, hi => if o = hi ∨ hi - lo ≤ 1 then (if 0 < lo then [(lo, hi)] else []) else if o ≤ lo + half (hi - lo) then partsF f o lo (lo + half (hi - lo)) ++ [(lo + half (hi - lo), hi)] else partsF f o (lo + half (hi - lo)) hi ++ [(lo, lo + half (hi - lo))]
theorem partsF_fuel : ∀ (f g o lo hi : Nat), 1 ≤ hi - lo → hi - lo ≤ f → hi - lo ≤ g → partsF f o lo hi = partsF g o lo hi
  | 0, _, o, lo, hi, h, hf, _ => by omega
  | f + 1, 0, o, lo, hi, h, _, hg => by omega
  | f + 1, g + 1, o, lo, hi, h, hf, hg => by
    rw [partsF, partsF]
    split
    · rfl
    have a := half_lt (hi - lo) (by omega)
    have b := half_pos (hi - lo)
    rw [partsF_fuel f g o lo (lo + half (hi - lo)) (by omega) (by omega) (by omega), partsF_fuel f g o (lo + half (hi - lo)) hi (by omega) (by omega) (by omega)]
def parts (o lo hi : Nat) : List (Nat × Nat) := partsF (hi - lo) o lo hi
theorem parts_first (o : Nat) (h : 0 < o) : parts o 0 o = [] := by
  rw [parts, partsF_fuel (o - 0) (o - 0 + 1) _ _ _ (by omega) (Nat.le_refl _) (by omega), partsF, if_pos (.inl rfl), if_neg (by omega)]
theorem parts_same (o lo : Nat) (h : lo < o) (h0 : 0 < lo) : parts o lo o = [(lo, o)] := by
  rw [parts, partsF_fuel (o - lo) (o - lo + 1) _ _ _ (by omega) (Nat.le_refl _) (by omega), partsF, if_pos (.inl rfl), if_pos h0]
theorem parts_left (o lo hi k : Nat) (h1 : lo < o) (h2 : o < hi) (hk : half (hi - lo) = k) (h : o ≤ lo + k) : parts o lo hi = parts o lo (lo + k) ++ [(lo + k, hi)] := by
  subst hk
  have a := half_lt (hi - lo) (by omega)
  have b := half_pos (hi - lo)
  rw [parts, partsF_fuel (hi - lo) (hi - lo + 1) _ _ _ (by omega) (Nat.le_refl _) (by omega), partsF, if_neg (by omega), if_pos h, parts, partsF_fuel (hi - lo) (lo + half (hi - lo) - lo) _ _ _ (by omega) (by omega) (Nat.le_refl _)]
theorem parts_right (o lo hi k : Nat) (h1 : lo < o) (h2 : o < hi) (hk : half (hi - lo) = k) (h : ¬ o ≤ lo + k) : parts o lo hi = parts o (lo + k) hi ++ [(lo, lo + k)] := by
  subst hk
  have a := half_lt (hi - lo) (by omega)
  have b := half_pos (hi - lo)
  rw [parts, partsF_fuel (hi - lo) (hi - lo + 1) _ _ _ (by omega) (Nat.le_refl _) (by omega), partsF, if_neg (by omega), if_neg h, parts, partsF_fuel (hi - lo) (hi - (lo + half (hi - lo))) _ _ _ (by omega) (by omega) (Nat.le_refl _)]

theorem parts_in : ∀ (f o lo hi : Nat), hi - lo ≤ f → lo < o → o ≤ hi → ∀ p ∈ parts o lo hi, lo ≤ p.1 ∧ p.1 < p.2 ∧ p.2 ≤ hi
  | 0, o, lo, hi, h, h1, h2, p, hp => by omega
  | f + 1, o, lo, hi, h, h1, h2, p, hp => by
    rcases Nat.lt_or_ge o hi with h3 | h3
    · have a := half_lt (hi - lo) (by omega)
      have b := half_pos (hi - lo)
      by_cases hk : o ≤ lo + half (hi - lo)
      · rw [parts_left o lo hi _ h1 h3 rfl hk] at hp
        rcases List.mem_append.1 hp with hp | hp
        · have := parts_in f o lo _ (by omega) h1 hk p hp; omega
        · rw [List.mem_singleton.1 hp]; simp only; omega
      · rw [parts_right o lo hi _ h1 h3 rfl hk] at hp
        rcases List.mem_append.1 hp with hp | hp
        · have := parts_in f o _ hi (by omega) (by omega) h2 p hp; omega
        · rw [List.mem_singleton.1 hp]; simp only; omega
    · obtain rfl : o = hi := by omega
      rcases Nat.eq_zero_or_pos lo with h4 | h4
      · subst h4; rw [parts_first o h1] at hp; cases hp
      · rw [parts_same o lo h1 h4] at hp; rw [List.mem_singleton.1 hp]; simp only; omega

/-- is what begins at lo the whole of it? -/
def whole (lo : Nat) : Bool := decide (lo = 0)
theorem whole_pos {lo : Nat} (h : 0 < lo) : whole lo = false := decide_eq_false (by omega)
theorem parts_len : ∀ (f o lo hi : Nat), hi - lo ≤ f → lo < o → o ≤ hi → (parts o lo hi).length = gsteps (o - lo) (hi - lo) (whole lo)
  | 0, o, lo, hi, h, h1, h2 => by omega
  | f + 1, o, lo, hi, h, h1, h2 => by
    rcases Nat.lt_or_ge o hi with h3 | h3
    · have a := half_lt (hi - lo) (by omega)
      have b := half_pos (hi - lo)
      by_cases hk : o ≤ lo + half (hi - lo)
      · rw [parts_left o lo hi _ h1 h3 rfl hk, Grows.gsteps_left _ _ _ (by omega) (by omega) (by omega), List.length_append, parts_len f o lo _ (by omega) h1 hk, show lo + half (hi - lo) - lo = half (hi - lo) by omega, Nat.add_comm]
        rfl
      · rw [parts_right o lo hi _ h1 h3 rfl hk, Grows.gsteps_right _ _ _ (by omega) (by omega) (by omega), List.length_append, parts_len f o _ hi (by omega) (by omega) h2, whole_pos (by omega), show o - (lo + half (hi - lo)) = o - lo - half (hi - lo) by omega, show hi - (lo + half (hi - lo)) = hi - lo - half (hi - lo) by omega, Nat.add_comm]
        rfl
    · obtain rfl : o = hi := by omega
      rcases Nat.eq_zero_or_pos lo with h4 | h4
      · subst h4; rw [parts_first o h1, Grows.gsteps_same]; rfl
      · rw [parts_same o lo h1 h4, Grows.gsteps_same, whole_pos h4]; rfl
theorem parts_length (o n : Nat) (h1 : 1 ≤ o) (h2 : o ≤ n) : (parts o 0 n).length = gsteps o n true := parts_len n o 0 n (by omega) h1 h2

/-- their roots are the proof -/
theorem parts_grow : ∀ (f : Nat) (l : List Int) (o lo hi : Nat), hi - lo ≤ f → lo < o → o ≤ hi → hi ≤ l.length → (parts o lo hi).map (rootAt l) = grow ((l.take hi).drop lo) (o - lo) (whole lo)
  | 0, l, o, lo, hi, h, h1, h2, _ => by omega
  | f + 1, l, o, lo, hi, h, h1, h2, h4 => by
    have hl : ((l.take hi).drop lo).length = hi - lo := by simp; omega
    rcases Nat.lt_or_ge o hi with h3 | h3
    · have a := half_lt (hi - lo) (by omega)
      have b := half_pos (hi - lo)
      by_cases hk : o ≤ lo + half (hi - lo)
      · rw [parts_left o lo hi _ h1 h3 rfl hk, Grows.grow_left _ _ _ (by omega) (by omega) (by rw [hl]; omega), List.map_append, parts_grow f l o lo _ (by omega) h1 hk (by omega), hl, Climbs.cut_take (by omega), Climbs.cut_drop]
        rfl
      · rw [parts_right o lo hi _ h1 h3 rfl hk, Grows.grow_right _ _ _ (by omega) (by omega) (by rw [hl]; omega), List.map_append, parts_grow f l o _ hi (by omega) (by omega) h2 h4, hl, Climbs.cut_take (by omega), Climbs.cut_drop, whole_pos (by omega), show o - (lo + half (hi - lo)) = o - lo - half (hi - lo) by omega]
        rfl
    · obtain rfl : o = hi := by omega
      have g := Grows.grow_same ((l.take o).drop lo) (whole lo) (by omega)
      rw [hl] at g
      rw [g]
      rcases Nat.eq_zero_or_pos lo with h5 | h5
      · subst h5; rw [parts_first o h1]; rfl
      · rw [parts_same o lo h1 h5, whole_pos h5]; rfl
theorem grow_of (l : List Int) (o n : Nat) (h1 : 1 ≤ o) (h2 : o ≤ n) (hn : n ≤ l.length) : (parts o 0 n).map (rootAt l) = grow (l.take n) o true := parts_grow n l o 0 n (by omega) h1 h2 hn

/-- what a sum in a part's place makes of both roots -/
def turn (o : Nat) (s : Int × Int) (y : Int) (q : Nat × Nat) : Int × Int := if q.2 = o then (y, y) else if o < q.2 then (s.1, node s.2 y) else (node y s.1, node y s.2)
def roll (o : Nat) : Int × Int → List Int → List (Nat × Nat) → Int × Int
  | s, y :: p, q :: ps => roll o (turn o s y q) p ps
  | s, _, _ => s
theorem roll_append (o : Nat) : ∀ (p : List Int) (ps : List (Nat × Nat)) (s : Int × Int) (y : Int) (q : Nat × Nat), p.length = ps.length → roll o s (p ++ [y]) (ps ++ [q]) = turn o (roll o s p ps) y q
  | [], [], s, y, q, _ => rfl
  | x :: p, u :: ps, s, y, q, h => by
    show roll o (turn o s x u) (p ++ [y]) (ps ++ [q]) = turn o (roll o (turn o s x u) p ps) y q
    exact roll_append o p ps _ y q (by simpa using h)
  | [], _ :: _, _, _, _, h => by simp at h
  | _ :: _, [], _, _, _, h => by simp at h
theorem last_of (p : List Int) (m : Nat) (h : p.length = m + 1) : p = p.take m ++ [p.getD m 0] := by
  rw [List.getD_eq_getElem?_getD, List.getElem?_eq_getElem (by omega)]
  show p = p.take m ++ [p[m]]
  rw [← List.take_succ_eq_append_getElem (by omega), List.take_of_length_le (by omega)]
theorem roll_parts : ∀ (f : Nat) (s : Int) (p : List Int) (o lo hi : Nat), hi - lo ≤ f → lo < o → o ≤ hi → p.length = gsteps (o - lo) (hi - lo) (whole lo) →
    roll o (s, s) p (parts o lo hi) = (oldOf s (o - lo) (hi - lo) p (whole lo), newOf s (o - lo) (hi - lo) p (whole lo))
  | 0, s, p, o, lo, hi, h, h1, h2, _ => by omega
  | f + 1, s, p, o, lo, hi, h, h1, h2, hp => by
    rcases Nat.lt_or_ge o hi with h3 | h3
    · have a := half_lt (hi - lo) (by omega)
      have b := half_pos (hi - lo)
      by_cases hk : o ≤ lo + half (hi - lo)
      · have g := Grows.gsteps_left (o - lo) (hi - lo) (whole lo) (by omega) (by omega) (by omega)
        obtain ⟨m, hm⟩ : ∃ m, p.length = m + 1 := ⟨p.length - 1, by omega⟩
        obtain ⟨q1, q2⟩ := Grows.of_left s (o - lo) (hi - lo) m p (whole lo) (by omega) (by omega) (by omega) (by omega) hm
        have ht : (p.take m).length = gsteps (o - lo) (half (hi - lo)) (whole lo) := by rw [List.length_take]; omega
        have e : lo + half (hi - lo) - lo = half (hi - lo) := by omega
        have i := roll_parts f s (p.take m) o lo (lo + half (hi - lo)) (by omega) h1 hk (by rw [e]; exact ht)
        rw [e] at i
        rw [parts_left o lo hi _ h1 h3 rfl hk, q1, q2]
        conv => lhs; rw [last_of p m hm]
        rw [roll_append o _ _ _ _ _ (by rw [ht, parts_len _ o lo _ (Nat.le_refl _) h1 hk, e]), i]
        unfold turn
        rw [if_neg (by simp only; omega), if_pos (by simp only; omega)]
      · have g := Grows.gsteps_right (o - lo) (hi - lo) (whole lo) (by omega) (by omega) (by omega)
        obtain ⟨m, hm⟩ : ∃ m, p.length = m + 1 := ⟨p.length - 1, by omega⟩
        obtain ⟨q1, q2⟩ := Grows.of_right s (o - lo) (hi - lo) m p (whole lo) (by omega) (by omega) (by omega) (by omega) hm
        have ht : (p.take m).length = gsteps (o - lo - half (hi - lo)) (hi - lo - half (hi - lo)) false := by rw [List.length_take]; omega
        have e1 : o - (lo + half (hi - lo)) = o - lo - half (hi - lo) := by omega
        have e2 : hi - (lo + half (hi - lo)) = hi - lo - half (hi - lo) := by omega
        have e3 : whole (lo + half (hi - lo)) = false := whole_pos (by omega)
        have i := roll_parts f s (p.take m) o (lo + half (hi - lo)) hi (by omega) (by omega) h2 (by rw [e1, e2, e3]; exact ht)
        rw [e1, e2, e3] at i
        rw [parts_right o lo hi _ h1 h3 rfl hk, q1, q2]
        conv => lhs; rw [last_of p m hm]
        rw [roll_append o _ _ _ _ _ (by rw [ht, parts_len _ o _ hi (Nat.le_refl _) (by omega) h2, e1, e2, e3]), i]
        unfold turn
        rw [if_neg (by simp only; omega), if_neg (by simp only; omega)]
    · obtain rfl : o = hi := by omega
      obtain ⟨q1, q2⟩ := Grows.of_same s (o - lo) p (whole lo) hp
      rw [q1, q2]
      rw [Grows.gsteps_same] at hp
      rcases Nat.eq_zero_or_pos lo with h5 | h5
      · subst h5
        rw [parts_first o h1]
        match p, hp with
        | [], _ => rfl
      · rw [parts_same o lo h1 h5]
        rw [whole_pos h5] at hp ⊢
        match p, hp with
        | [y], _ =>
          show turn o (s, s) y (lo, o) = (y, y)
          unfold turn
          rw [if_pos rfl]

/-- what has come by then -/
def cur (o : Nat) (s : Int) (p : List Int) (ps : List (Nat × Nat)) : Int × Int := roll o (s, s) (p.take ps.length) ps
theorem cur_nil (o : Nat) (s : Int) (p : List Int) : cur o s p [] = (s, s) := rfl
theorem cur_snoc (o : Nat) (s : Int) (p : List Int) (ps : List (Nat × Nat)) (q : Nat × Nat) (h : ps.length < p.length) : cur o s p (ps ++ [q]) = turn o (cur o s p ps) (p.getD ps.length 0) q := by
  unfold cur
  rw [List.length_append, show ([q] : List (Nat × Nat)).length = 1 from rfl, List.take_succ_eq_append_getElem h, List.getD_eq_getElem?_getD, List.getElem?_eq_getElem h]
  exact roll_append o (p.take ps.length) ps (s, s) _ _ (by simp; omega)
theorem cur_all (o n : Nat) (s : Int) (p : List Int) (h1 : 1 ≤ o) (h2 : o ≤ n) (hp : p.length = gsteps o n true) : cur o s p (parts o 0 n) = (oldOf s o n p true, newOf s o n p true) := by
  unfold cur
  rw [parts_length o n h1 h2, ← hp, List.take_of_length_le (Nat.le_refl _)]
  exact roll_parts n s p o 0 n (by omega) h1 h2 hp
theorem turn_valid (o : Nat) (s : Int × Int) (y : Int) (q : Nat × Nat) (h1 : Nums.valid s.1 = true) (hy : Nums.valid y = true) : Nums.valid (turn o s y q).1 = true ∧ Nums.valid (turn o s y q).2 = true := by
  unfold turn
  split
  · exact ⟨hy, hy⟩
  · split
    · exact ⟨h1, Ways.node_valid _ _⟩
    · exact ⟨Ways.node_valid _ _, Ways.node_valid _ _⟩
theorem roll_valid (o : Nat) : ∀ (p : List Int) (ps : List (Nat × Nat)) (s : Int × Int), Nums.valid s.1 = true → Nums.valid s.2 = true → (∀ x ∈ p, Nums.valid x = true) → Nums.valid (roll o s p ps).1 = true ∧ Nums.valid (roll o s p ps).2 = true
  | [], [], s, h1, h2, _ => ⟨h1, h2⟩
  | [], _ :: _, s, h1, h2, _ => ⟨h1, h2⟩
  | _ :: _, [], s, h1, h2, _ => ⟨h1, h2⟩
  | y :: p, q :: ps, s, h1, h2, hp => by
    obtain ⟨t1, t2⟩ := turn_valid o s y q h1 (hp y (List.mem_cons_self ..))
    exact roll_valid o p ps _ t1 t2 fun x hx => hp x (List.mem_cons_of_mem _ hx)
theorem cur_valid (o : Nat) (s : Int) (p : List Int) (ps : List (Nat × Nat)) (hs : Nums.valid s = true) (hp : ∀ x ∈ p, Nums.valid x = true) : Nums.valid (cur o s p ps).1 = true ∧ Nums.valid (cur o s p ps).2 = true :=
  roll_valid o _ _ _ hs hs fun x hx => hp x (List.mem_of_mem_take hx)

end Go.Proofs.YticadkggaanbjaaGreatDoor.GrowWays

