/-
  Plain mathematics of trees: where a number is parted, the root of leafs, and which two texts clash. Nothing of the program is named here.
-/
import Derived.Test.YtlibjdkofajahaaDoorSums
import Derived.Test.YtlibjdkofajahaaDoorNums
namespace Go.Proofs.YtlibjdkofajahaaDoor.Trees

/-- the greatest power of two below a number from 2 on -/
def half (n : Nat) : Nat := 2 ^ Nat.log2 (n - 1)
theorem half_pos (n : Nat) : 1 ≤ half n := Nat.one_le_two_pow
theorem half_lt (n : Nat) (h : 2 ≤ n) : half n < n := by
  have := Nat.log2_self_le (n := n - 1) (by omega)
  unfold half; omega
theorem half_ge (n : Nat) (h : 2 ≤ n) : n ≤ 2 * half n := by
  have := Nat.lt_log2_self (n := n - 1)
  unfold half; rw [Nat.pow_succ] at this; omega
/-- a power of two below, whose double is not: that is it -/
theorem half_unique (n j : Nat) (h : 2 ≤ n) (h0 : 2 ^ j < n) (h1 : n ≤ 2 * 2 ^ j) : half n = 2 ^ j := by
  have : Nat.log2 (n - 1) = j := by
    rw [Nat.log2_eq_iff (by omega), Nat.pow_succ]; omega
  rw [half, this]

/-- the root of leafs, by as many steps as may be -/
def rootF : Nat → List Int → Int
  | 0, _ => 0
  | f + 1, l => if l.length = 0 then Sums.sum [] else if l.length = 1 then l.getD 0 0 else
      Sums.sum (Nums.nodeBytes (rootF f (l.take (half l.length))) (rootF f (l.drop (half l.length))))
theorem rootF_fuel : ∀ (f g : Nat) (l : List Int), l.length < f → l.length < g → rootF f l = rootF g l
  | 0, _, _, h, _ => by omega
  | _ + 1, 0, _, _, h => by omega
  | f + 1, g + 1, l, hf, hg => by
    rw [rootF, rootF]
    split
    · rfl
    split
    · rfl
    rename_i h0 h1
    have a := half_lt l.length (by omega)
    have b := half_pos l.length
    rw [rootF_fuel f g (l.take (half l.length)) (by rw [List.length_take]; omega) (by rw [List.length_take]; omega), rootF_fuel f g (l.drop (half l.length)) (by rw [List.length_drop]; omega) (by rw [List.length_drop]; omega)]
/-- the root of leafs -/
def root (l : List Int) : Int := rootF (l.length + 1) l
theorem root_none (l : List Int) (h : l.length = 0) : root l = Sums.sum [] := by rw [root, rootF, if_pos h]
theorem root_one (l : List Int) (h : l.length = 1) : root l = l.getD 0 0 := by rw [root, rootF, if_neg (by omega), if_pos h]
theorem root_more (l : List Int) (h : 2 ≤ l.length) : root l = Sums.sum (Nums.nodeBytes (root (l.take (half l.length))) (root (l.drop (half l.length)))) := by
  have a := half_lt l.length h
  have b := half_pos l.length
  rw [root, rootF, if_neg (by omega), if_neg (by omega), root, root, rootF_fuel l.length ((l.take (half l.length)).length + 1), rootF_fuel l.length ((l.drop (half l.length)).length + 1)]
  all_goals simp only [List.length_take, List.length_drop]; omega

theorem valid_sum (l : List UInt8) : Nums.valid (Sums.sum l) = true := Nums.valid_iff.2 (Sums.sum_bd l)
theorem root_valid (l : List Int) (h : ∀ x ∈ l, Nums.valid x = true) : Nums.valid (root l) = true := by
  rcases Nat.lt_or_ge l.length 2 with h2 | h2
  · rcases Nat.lt_or_ge l.length 1 with h1 | h1
    · rw [root_none l (by omega)]; exact valid_sum _
    · rw [root_one l (by omega)]
      match l, h, h1, h2 with
      | [a], h, _, _ => exact h a (by simp)
      | [], _, h1, _ => simp at h1
  · rw [root_more l h2]; exact valid_sum _

/-- the leaf of data, and those of a list -/
def leaf (s : ByteArray) : Int := Sums.sum (0 :: s.data.toList)
def leafs (d : List ByteArray) : List Int := d.map leaf
theorem leafs_length (d : List ByteArray) : (leafs d).length = d.length := by simp [leafs]
theorem leafs_take (d : List ByteArray) (k : Nat) : leafs (d.take k) = (leafs d).take k := by simp [leafs]
theorem leafs_drop (d : List ByteArray) (k : Nat) : leafs (d.drop k) = (leafs d).drop k := by simp [leafs]
theorem leafs_valid (d : List ByteArray) : ∀ x ∈ leafs d, Nums.valid x = true := by
  intro x hx
  obtain ⟨s, _, rfl⟩ := List.mem_map.1 hx
  exact valid_sum _

/-- the bytes of the node of some data, parted behind the first k -/
def top (d : List ByteArray) (k : Nat) : ByteArray := Nums.str (Nums.nodeBytes (root (leafs (d.take k))) (root (leafs (d.drop k))))
theorem root_top (d : List ByteArray) (h : 2 ≤ d.length) : root (leafs d) = Sums.sum (top d (half d.length)).data.toList := by
  rw [root_more _ (by rw [leafs_length]; exact h), leafs_length, top, Nums.str_data, leafs_take, leafs_drop]

/-- two texts of one sum, of two lists of data that are not the same, of one root -/
def clashF : Nat → List ByteArray → List ByteArray → ByteArray × ByteArray
  | 0, _, _ => (ByteArray.empty, ByteArray.empty)
  | f + 1, a, b => if a.length ≤ 1 then (Nums.str (0 :: (a.getD 0 ByteArray.empty).data.toList), Nums.str (0 :: (b.getD 0 ByteArray.empty).data.toList)) else
      if top a (half a.length) = top b (half a.length) then
        (if a.take (half a.length) = b.take (half a.length) then clashF f (a.drop (half a.length)) (b.drop (half a.length)) else clashF f (a.take (half a.length)) (b.take (half a.length)))
      else (top a (half a.length), top b (half a.length))
theorem clashF_fuel : ∀ (f g : Nat) (a b : List ByteArray), a.length < f → a.length < g → clashF f a b = clashF g a b
  | 0, _, _, _, h, _ => by omega
  | _ + 1, 0, _, _, _, h => by omega
  | f + 1, g + 1, a, b, hf, hg => by
    rw [clashF, clashF]
    split
    · rfl
    rename_i h0
    have x := half_lt a.length (by omega)
    have y := half_pos a.length
    split
    · split
      · exact clashF_fuel f g _ _ (by rw [List.length_drop]; omega) (by rw [List.length_drop]; omega)
      · exact clashF_fuel f g _ _ (by rw [List.length_take]; omega) (by rw [List.length_take]; omega)
    · rfl
def clash (a b : List ByteArray) : ByteArray × ByteArray := clashF (a.length + 1) a b
theorem clash_one (a b : List ByteArray) (h : a.length ≤ 1) : clash a b = (Nums.str (0 :: (a.getD 0 ByteArray.empty).data.toList), Nums.str (0 :: (b.getD 0 ByteArray.empty).data.toList)) := by
  rw [clash, clashF, if_pos h]
theorem clash_here (a b : List ByteArray) (h : 2 ≤ a.length) (hn : ¬ top a (half a.length) = top b (half a.length)) : clash a b = (top a (half a.length), top b (half a.length)) := by
  rw [clash, clashF, if_neg (by omega), if_neg hn]
theorem clash_left (a b : List ByteArray) (h : 2 ≤ a.length) (ht : top a (half a.length) = top b (half a.length)) (hn : ¬ a.take (half a.length) = b.take (half a.length)) : clash a b = clash (a.take (half a.length)) (b.take (half a.length)) := by
  have x := half_lt a.length h
  have y := half_pos a.length
  rw [clash, clashF, if_neg (by omega), if_pos ht, if_neg hn, clash]
  exact clashF_fuel _ _ _ _ (by rw [List.length_take]; omega) (by omega)
theorem clash_right (a b : List ByteArray) (h : 2 ≤ a.length) (ht : top a (half a.length) = top b (half a.length)) (hn : a.take (half a.length) = b.take (half a.length)) : clash a b = clash (a.drop (half a.length)) (b.drop (half a.length)) := by
  have x := half_lt a.length h
  have y := half_pos a.length
  rw [clash, clashF, if_neg (by omega), if_pos ht, if_pos hn, clash]
  exact clashF_fuel _ _ _ _ (by rw [List.length_drop]; omega) (by omega)

/-- of two nodes of one kind of bytes both halves have one root each -/
theorem top_inj {a b : List ByteArray} {k : Nat} (h : top a k = top b k) : root (leafs (a.take k)) = root (leafs (b.take k)) ∧ root (leafs (a.drop k)) = root (leafs (b.drop k)) := by
  have v := fun d : List ByteArray => root_valid (leafs d) (leafs_valid d)
  exact (Nums.nodeBytes_inj (v _) (v _) (v _) (v _)).1 (Nums.str_inj h)

/-- which half differs -/
theorem drop_ne {a b : List ByteArray} {k : Nat} (h : a ≠ b) (ht : a.take k = b.take k) : a.drop k ≠ b.drop k := by
  intro hd
  apply h
  rw [← List.take_append_drop k a, ← List.take_append_drop k b, ht, hd]

/-- the two texts are not the same, and have one sum -/
theorem clash_true : ∀ (f : Nat) (a b : List ByteArray), a.length < f → a.length = b.length → a ≠ b → root (leafs a) = root (leafs b) →
    (clash a b).1 ≠ (clash a b).2 ∧ Sums.sum (clash a b).1.data.toList = Sums.sum (clash a b).2.data.toList
  | 0, _, _, h, _, _, _ => by omega
  | f + 1, a, b, hf, hl, hn, hr => by
    rcases Nat.lt_or_ge a.length 2 with h2 | h2
    · rw [clash_one a b (by omega)]
      match a, b, hl, hn, hr, h2 with
      | [], [], _, hn, _, _ => exact absurd rfl hn
      | [x], [y], _, hn, hr, _ =>
        refine ⟨fun h => ?_, ?_⟩
        · have := (List.cons.inj (Nums.str_inj h)).2
          simp only [List.getD_cons_zero] at this
          exact hn (by rw [← Nums.str_of x, this, Nums.str_of])
        · rw [root_one _ rfl, root_one _ rfl] at hr
          exact hr
      | [], [_], hl, _, _, _ => simp at hl
      | [_], [], hl, _, _, _ => simp at hl
    · have x := half_lt a.length h2
      have y := half_pos a.length
      by_cases ht : top a (half a.length) = top b (half a.length)
      · obtain ⟨r1, r2⟩ := top_inj ht
        by_cases he : a.take (half a.length) = b.take (half a.length)
        · rw [clash_right a b h2 ht he]
          exact clash_true f _ _ (by rw [List.length_drop]; omega) (by rw [List.length_drop, List.length_drop]; omega) (drop_ne hn he) r2
        · rw [clash_left a b h2 ht he]
          exact clash_true f _ _ (by rw [List.length_take]; omega) (by rw [List.length_take, List.length_take]; omega) he r1
      · rw [clash_here a b h2 ht]
        refine ⟨ht, ?_⟩
        rw [root_top a h2, root_top b (by omega), ← hl] at hr
        exact hr

/-- are all numbers sums? -/
def allOk (l : List Int) : Bool := l.all Nums.valid
theorem allOk_snoc (l : List Int) (k : Nat) (h : k < l.length) : allOk (l.take (k + 1)) = (allOk (l.take k) && Nums.valid (l.getD k 0)) := by
  rw [allOk, List.take_succ_eq_append_getElem h, List.all_append]
  simp [allOk, List.getD_eq_getElem?_getD, List.getElem?_eq_getElem h]
theorem allOk_no (l : List Int) (k : Nat) (h : k < l.length) (hb : Nums.valid (l.getD k 0) = false) : allOk l = false := by
  rw [allOk, List.all_eq_false]
  refine ⟨l.getD k 0, ?_, by rw [hb]; simp⟩
  rw [List.getD_eq_getElem?_getD, List.getElem?_eq_getElem h]
  exact List.getElem_mem h
theorem allOk_mem {l : List Int} (h : allOk l = true) : ∀ x ∈ l, Nums.valid x = true := List.all_eq_true.1 h
/-- is no text too long? -/
def shortOk (l : List ByteArray) : Bool := l.all fun s => decide (s.size ≤ 200)
theorem shortOk_snoc (l : List ByteArray) (k : Nat) (h : k < l.length) : shortOk (l.take (k + 1)) = (shortOk (l.take k) && decide ((l.getD k ByteArray.empty).size ≤ 200)) := by
  rw [shortOk, List.take_succ_eq_append_getElem h, List.all_append]
  simp [shortOk, List.getD_eq_getElem?_getD, List.getElem?_eq_getElem h]
theorem shortOk_no (l : List ByteArray) (k : Nat) (h : k < l.length) (hb : decide ((l.getD k ByteArray.empty).size ≤ 200) = false) : shortOk l = false := by
  rw [shortOk, List.all_eq_false]
  refine ⟨l.getD k ByteArray.empty, ?_, by rw [hb]; simp⟩
  rw [List.getD_eq_getElem?_getD, List.getElem?_eq_getElem h]
  exact List.getElem_mem h
theorem shortOk_mem {l : List ByteArray} (h : shortOk l = true) : ∀ s ∈ l, s.size ≤ 200 := fun s hs => of_decide_eq_true (List.all_eq_true.1 h s hs)
/-- what is wrong with leafs: 4 too many, 1 one is no sum, 0 nothing -/
def leafsE (l : List Int) : Nat := if 200 < l.length then 4 else if allOk l = true then 0 else 1
/-- is what is asked for no part of n? -/
def atBad (n : Nat) (fr to : Int) : Bool := decide (fr < 0 ∨ to < fr ∨ (n : Int) < to)
/-- what is wrong with a part of leafs, and its root -/
def atE (l : List Int) (fr to : Int) : Nat := if leafsE l = 0 then (if atBad l.length fr to = true then 1 else 0) else leafsE l
def atV (l : List Int) (fr to : Int) : Int := if atE l fr to = 0 then root ((l.take to.toNat).drop fr.toNat) else 0
def rootV (l : List Int) : Int := if leafsE l = 0 then root l else 0
theorem atE_all (l : List Int) : atE l 0 (l.length : Int) = leafsE l := by
  have h : atBad l.length 0 (l.length : Int) = false := by unfold atBad; simp
  unfold atE
  rw [h]
  split
  · rename_i h; rw [h]; rfl
  · rfl
theorem atV_all (l : List Int) : atV l 0 (l.length : Int) = rootV l := by
  unfold atV rootV
  rw [atE_all, Int.toNat_natCast, List.take_of_length_le (Nat.le_refl _)]
  rfl
/-- is the data not too much? -/
def dataOk (l : List ByteArray) : Bool := decide (l.length ≤ 200) && shortOk l

/-- what is wrong with two lists of data, and two texts of one sum -/
def collideE (x y : List ByteArray) : Nat := if (dataOk x && dataOk y) = false then 4 else if x.length ≠ y.length then 3 else if x = y then 7 else if root (leafs x) ≠ root (leafs y) then 5 else 0
def collideV (x y : List ByteArray) : ByteArray × ByteArray := if collideE x y = 0 then clash x y else (⟨#[]⟩, ⟨#[]⟩)
theorem collideV_no {x y : List ByteArray} (h : collideE x y ≠ 0) : collideV x y = (⟨#[]⟩, ⟨#[]⟩) := if_neg h
theorem collide_4 {x y : List ByteArray} (h : (dataOk x && dataOk y) = false) : collideE x y = 4 ∧ collideV x y = (⟨#[]⟩, ⟨#[]⟩) := by
  have e : collideE x y = 4 := if_pos h
  exact ⟨e, collideV_no (by rw [e]; decide)⟩
theorem collide_3 {x y : List ByteArray} (h : (dataOk x && dataOk y) = true) (h3 : x.length ≠ y.length) : collideE x y = 3 ∧ collideV x y = (⟨#[]⟩, ⟨#[]⟩) := by
  have e : collideE x y = 3 := by unfold collideE; rw [if_neg (by rw [h]; decide), if_pos h3]
  exact ⟨e, collideV_no (by rw [e]; decide)⟩
theorem collide_7 {x y : List ByteArray} (h : (dataOk x && dataOk y) = true) (h3 : x = y) : collideE x y = 7 ∧ collideV x y = (⟨#[]⟩, ⟨#[]⟩) := by
  have e : collideE x y = 7 := by unfold collideE; rw [if_neg (by rw [h]; decide), if_neg (by rw [h3]; simp), if_pos h3]
  exact ⟨e, collideV_no (by rw [e]; decide)⟩
theorem collide_5 {x y : List ByteArray} (h : (dataOk x && dataOk y) = true) (h3 : x.length = y.length) (h7 : x ≠ y) (h5 : root (leafs x) ≠ root (leafs y)) : collideE x y = 5 ∧ collideV x y = (⟨#[]⟩, ⟨#[]⟩) := by
  have e : collideE x y = 5 := by unfold collideE; rw [if_neg (by rw [h]; decide), if_neg (by rw [h3]; simp), if_neg h7, if_pos h5]
  exact ⟨e, collideV_no (by rw [e]; decide)⟩
theorem collide_0 {x y : List ByteArray} (h : (dataOk x && dataOk y) = true) (h3 : x.length = y.length) (h7 : x ≠ y) (h5 : root (leafs x) = root (leafs y)) : collideE x y = 0 ∧ collideV x y = clash x y := by
  have e : collideE x y = 0 := by unfold collideE; rw [if_neg (by rw [h]; decide), if_neg (by rw [h3]; simp), if_neg h7, if_neg (by rw [h5]; simp)]
  exact ⟨e, if_pos e⟩

theorem collide_is0 {x y : List ByteArray} (h : collideE x y = 0) : dataOk x = true ∧ dataOk y = true ∧ x.length = y.length ∧ x ≠ y ∧ root (leafs x) = root (leafs y) ∧ collideV x y = clash x y := by
  have hv : collideV x y = clash x y := if_pos h
  unfold collideE at h
  split at h
  · cases h
  rename_i h4
  split at h
  · cases h
  rename_i h3
  split at h
  · cases h
  rename_i h7
  split at h
  · cases h
  rename_i h5
  have hd : (dataOk x && dataOk y) = true := by simpa using h4
  rw [Bool.and_eq_true] at hd
  exact ⟨hd.1, hd.2, by simpa using h3, h7, by simpa using h5, hv⟩
theorem collide_is5 {x y : List ByteArray} (h : collideE x y = 5) : dataOk x = true ∧ dataOk y = true ∧ x.length = y.length ∧ x ≠ y ∧ root (leafs x) ≠ root (leafs y) := by
  unfold collideE at h
  split at h
  · cases h
  rename_i h4
  split at h
  · cases h
  rename_i h3
  split at h
  · cases h
  rename_i h7
  split at h
  · rename_i h5
    have hd : (dataOk x && dataOk y) = true := by simpa using h4
    rw [Bool.and_eq_true] at hd
    exact ⟨hd.1, hd.2, by simpa using h3, h7, h5⟩
  · cases h
theorem dataOk_parts {x : List ByteArray} (h : dataOk x = true) : x.length ≤ 200 ∧ ∀ s ∈ x, s.size ≤ 200 := by
  unfold dataOk at h
  rw [Bool.and_eq_true, decide_eq_true_eq] at h
  exact ⟨h.1, shortOk_mem h.2⟩
theorem top_size (d : List ByteArray) (k : Nat) : (top d k).size = 9 := by rw [top, Nums.str_size, Nums.nodeBytes_length]
theorem clash_size : ∀ (f : Nat) (x y : List ByteArray), x.length < f → (∀ s ∈ x, s.size ≤ 200) → (∀ s ∈ y, s.size ≤ 200) → (clash x y).1.size ≤ 201 ∧ (clash x y).2.size ≤ 201
  | 0, _, _, h, _, _ => by omega
  | f + 1, x, y, hf, hx, hy => by
    have hg : ∀ (l : List ByteArray), (∀ s ∈ l, s.size ≤ 200) → (l.getD 0 ByteArray.empty).size ≤ 200 := by
      intro l hl
      match l, hl with
      | [], _ => simp
      | a :: l, hl => exact hl a (by simp)
    rcases Nat.lt_or_ge x.length 2 with h2 | h2
    · rw [clash_one x y (by omega)]
      have a1 := hg x hx
      have a2 := hg y hy
      simp only [Nums.str_size, List.length_cons, Array.length_toList, ByteArray.size_data]
      omega
    · have a := half_lt x.length h2
      have b := half_pos x.length
      by_cases ht : top x (half x.length) = top y (half x.length)
      · by_cases he : x.take (half x.length) = y.take (half x.length)
        · rw [clash_right x y h2 ht he]
          exact clash_size f _ _ (by rw [List.length_drop]; omega) (fun s hs => hx s (List.mem_of_mem_drop hs)) (fun s hs => hy s (List.mem_of_mem_drop hs))
        · rw [clash_left x y h2 ht he]
          exact clash_size f _ _ (by rw [List.length_take]; omega) (fun s hs => hx s (List.mem_of_mem_take hs)) (fun s hs => hy s (List.mem_of_mem_take hs))
      · rw [clash_here x y h2 ht]
        simp only [top_size]
        omega

end Go.Proofs.YtlibjdkofajahaaDoor.Trees
