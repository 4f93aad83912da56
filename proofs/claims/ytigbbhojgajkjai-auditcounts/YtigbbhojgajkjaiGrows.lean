/-
  Plain mathematics of proofs that a tree has but grown: on which side each sum of one stands, the proof, the two roots that come of it; and what another old root comes to. Nothing of the program is named here.
-/
import Derived.Test.YtigbbhojgajkjaiTurns
namespace Go.Proofs.Ytigbbhojgajkjai.Grows
open Trees (root half half_lt half_pos)
open Ways (node upL up1 text1 meetsL)

/-- from below: does each sum of the proof of the first o of n stand on the left? -/
def gturnsF : Nat → Nat → Nat → List Bool
  | 0, _, _ => []
  | f + 1, o, n => if o = n ∨ n ≤ 1 then [] else if o ≤ half n then gturnsF f o (half n) ++ [false] else gturnsF f (o - half n) (n - half n) ++ [true]
theorem gturnsF_fuel : ∀ (f g o n : Nat), n ≤ f → n ≤ g → gturnsF f o n = gturnsF g o n
  | 0, 0, _, _, _, _ => rfl
  | 0, g + 1, o, n, hf, _ => by rw [gturnsF, gturnsF, if_pos (by omega)]
  | f + 1, 0, o, n, _, hg => by rw [gturnsF, gturnsF, if_pos (by omega)]
  | f + 1, g + 1, o, n, hf, hg => by
    rw [gturnsF, gturnsF]
    split
    · rfl
    have a := half_lt n (by omega)
    have b := half_pos n
    rw [gturnsF_fuel f g o (half n) (by omega) (by omega), gturnsF_fuel f g (o - half n) (n - half n) (by omega) (by omega)]
def gturns (o n : Nat) : List Bool := gturnsF n o n
theorem gturns_same (n : Nat) : gturns n n = [] := by
  rw [gturns, gturnsF_fuel n (n + 1) n n (Nat.le_refl _) (by omega), gturnsF, if_pos (.inl rfl)]
theorem gturns_left (o n : Nat) (h : o < n) (h2 : 2 ≤ n) (hk : o ≤ half n) : gturns o n = gturns o (half n) ++ [false] := by
  have a := half_lt n h2
  rw [gturns, gturnsF_fuel n (n + 1) o n (Nat.le_refl _) (by omega), gturnsF, if_neg (by omega), if_pos hk, gturns, gturnsF_fuel n (half n) _ _ (by omega) (Nat.le_refl _)]
theorem gturns_right (o n : Nat) (h : o < n) (h2 : 2 ≤ n) (hk : ¬ o ≤ half n) : gturns o n = gturns (o - half n) (n - half n) ++ [true] := by
  have a := half_lt n h2
  have b := half_pos n
  rw [gturns, gturnsF_fuel n (n + 1) o n (Nat.le_refl _) (by omega), gturnsF, if_neg (by omega), if_neg hk, gturns, gturnsF_fuel n (n - half n) _ _ (by omega) (Nat.le_refl _)]

/-- does the way never turn: is the old tree a beginning of all of it? -/
def straight (T : List Bool) : Bool := T.all (!·)
theorem straight_false (T : List Bool) : straight (T ++ [false]) = straight T := by simp [straight]
theorem straight_true (T : List Bool) : straight (T ++ [true]) = false := by simp [straight]
/-- is the old root known: is there nothing to tell of it? -/
def known (whole : Bool) (o n : Nat) : Bool := whole && straight (gturns o n)
theorem known_same (whole : Bool) (n : Nat) : known whole n n = whole := by rw [known, gturns_same]; simp [straight]
theorem known_left (whole : Bool) (o n : Nat) (h : o < n) (h2 : 2 ≤ n) (hk : o ≤ half n) : known whole o n = known whole o (half n) := by rw [known, known, gturns_left o n h h2 hk, straight_false]
theorem known_right (whole : Bool) (o n : Nat) (h : o < n) (h2 : 2 ≤ n) (hk : ¬ o ≤ half n) : known whole o n = false := by rw [known, gturns_right o n h h2 hk, straight_true, Bool.and_false]
theorem known_no (o n : Nat) : known false o n = false := rfl

/-- how long such a proof is -/
def gsteps (o n : Nat) (whole : Bool) : Nat := (gturns o n).length + (if known whole o n then 0 else 1)
theorem gsteps_same (n : Nat) (whole : Bool) : gsteps n n whole = if whole then 0 else 1 := by rw [gsteps, gturns_same, known_same]; simp
theorem gsteps_left (o n : Nat) (whole : Bool) (h : o < n) (h2 : 2 ≤ n) (hk : o ≤ half n) : gsteps o n whole = 1 + gsteps o (half n) whole := by
  rw [gsteps, gsteps, known_left whole o n h h2 hk, gturns_left o n h h2 hk, List.length_append]; simp only [List.length_cons, List.length_nil]; omega
theorem gsteps_right (o n : Nat) (whole : Bool) (h : o < n) (h2 : 2 ≤ n) (hk : ¬ o ≤ half n) : gsteps o n whole = 1 + gsteps (o - half n) (n - half n) false := by
  rw [gsteps, gsteps, known_right whole o n h h2 hk, known_no, gturns_right o n h h2 hk, List.length_append]; simp only [List.length_cons, List.length_nil, Bool.false_eq_true, if_false]; omega
theorem gturns_le : ∀ (f o n : Nat), n ≤ f → (gturns o n).length ≤ n
  | 0, o, n, h => by
    have : n = 0 := by omega
    subst this
    exact Nat.le_of_eq rfl
  | f + 1, o, n, h => by
    by_cases h2 : 2 ≤ n
    · have a := half_lt n h2
      have b := half_pos n
      rcases Nat.lt_trichotomy o n with ho | ho | ho
      · by_cases hk : o ≤ half n
        · rw [gturns_left o n ho h2 hk, List.length_append]; have := gturns_le f o (half n) (by omega); simp only [List.length_cons, List.length_nil]; omega
        · rw [gturns_right o n ho h2 hk, List.length_append]; have := gturns_le f (o - half n) (n - half n) (by omega); simp only [List.length_cons, List.length_nil]; omega
      · subst ho; rw [gturns_same]; exact Nat.zero_le _
      · rw [gturns, gturnsF_fuel n (n + 1) o n (Nat.le_refl _) (by omega), gturnsF, if_neg (by omega), if_neg (by omega), List.length_append]
        have := gturns_le f (o - half n) (n - half n) (by omega)
        rw [gturnsF_fuel n (n - half n) _ _ (by omega) (Nat.le_refl _)]
        show (gturns (o - half n) (n - half n)).length + 1 ≤ n
        omega
    · rw [gturns, gturnsF_fuel n (n + 1) o n (Nat.le_refl _) (by omega), gturnsF, if_pos (by omega)]; exact Nat.zero_le _
theorem gsteps_le (o n : Nat) (whole : Bool) : gsteps o n whole ≤ n + 1 := by
  have := gturns_le n o n (Nat.le_refl _)
  rw [gsteps]
  split <;> omega

/-- the proof -/
def growF : Nat → List Int → Nat → Bool → List Int
  | 0, _, _, _ => []
  | f + 1, l, o, whole => if o = l.length ∨ l.length ≤ 1 then (if whole then [] else [root l]) else if o ≤ half l.length then growF f (l.take (half l.length)) o whole ++ [root (l.drop (half l.length))] else growF f (l.drop (half l.length)) (o - half l.length) false ++ [root (l.take (half l.length))]
theorem growF_fuel : ∀ (f g : Nat) (l : List Int) (o : Nat) (whole : Bool), 1 ≤ l.length → l.length ≤ f → l.length ≤ g → growF f l o whole = growF g l o whole
  | 0, _, l, _, _, h0, hf, _ => by omega
  | _ + 1, 0, l, _, _, h0, _, hg => by omega
  | f + 1, g + 1, l, o, whole, h0, hf, hg => by
    rw [growF, growF]
    split
    · rfl
    have a := half_lt l.length (by omega)
    have b := half_pos l.length
    rw [growF_fuel f g (l.take (half l.length)) o whole (by rw [List.length_take]; omega) (by rw [List.length_take]; omega) (by rw [List.length_take]; omega), growF_fuel f g (l.drop (half l.length)) _ false (by rw [List.length_drop]; omega) (by rw [List.length_drop]; omega) (by rw [List.length_drop]; omega)]
def grow (l : List Int) (o : Nat) (whole : Bool) : List Int := growF l.length l o whole
theorem grow_same (l : List Int) (whole : Bool) (h : 1 ≤ l.length) : grow l l.length whole = if whole then [] else [root l] := by
  rw [grow, growF_fuel l.length (l.length + 1) l _ whole h (Nat.le_refl _) (by omega), growF, if_pos (.inl rfl)]
theorem grow_left (l : List Int) (o : Nat) (whole : Bool) (h : o < l.length) (h2 : 2 ≤ l.length) (hk : o ≤ half l.length) : grow l o whole = grow (l.take (half l.length)) o whole ++ [root (l.drop (half l.length))] := by
  have a := half_lt l.length h2
  have b := half_pos l.length
  rw [grow, growF_fuel l.length (l.length + 1) l _ whole (by omega) (Nat.le_refl _) (by omega), growF, if_neg (by omega), if_pos hk, grow, growF_fuel l.length (l.take (half l.length)).length _ _ _ (by rw [List.length_take]; omega) (by rw [List.length_take]; omega) (Nat.le_refl _)]
theorem grow_right (l : List Int) (o : Nat) (whole : Bool) (h : o < l.length) (h2 : 2 ≤ l.length) (hk : ¬ o ≤ half l.length) : grow l o whole = grow (l.drop (half l.length)) (o - half l.length) false ++ [root (l.take (half l.length))] := by
  have a := half_lt l.length h2
  have b := half_pos l.length
  rw [grow, growF_fuel l.length (l.length + 1) l _ whole (by omega) (Nat.le_refl _) (by omega), growF, if_neg (by omega), if_neg hk, grow, growF_fuel l.length (l.drop (half l.length)).length _ _ _ (by rw [List.length_drop]; omega) (by rw [List.length_drop]; omega) (Nat.le_refl _)]

theorem grow_length : ∀ (f : Nat) (l : List Int) (o : Nat) (whole : Bool), l.length ≤ f → 1 ≤ o → o ≤ l.length → (grow l o whole).length = gsteps o l.length whole
  | 0, l, o, whole, h, h1, h2 => by omega
  | f + 1, l, o, whole, h, h1, h2 => by
    rcases Nat.lt_or_ge o l.length with ho | ho
    · have l2 : 2 ≤ l.length := by omega
      have a := half_lt l.length l2
      have b := half_pos l.length
      have lt : (l.take (half l.length)).length = half l.length := by rw [List.length_take]; omega
      have ld : (l.drop (half l.length)).length = l.length - half l.length := List.length_drop
      by_cases hk : o ≤ half l.length
      · rw [grow_left l o whole ho l2 hk, List.length_append, grow_length f _ o whole (by omega) h1 (by omega), lt, gsteps_left o _ whole ho l2 hk]; simp only [List.length_cons, List.length_nil]; omega
      · rw [grow_right l o whole ho l2 hk, List.length_append, grow_length f _ _ false (by omega) (by omega) (by omega), ld, gsteps_right o _ whole ho l2 hk]; simp only [List.length_cons, List.length_nil]; omega
    · obtain rfl : o = l.length := by omega
      rw [grow_same l whole h1, gsteps_same]
      cases whole <;> rfl
theorem grow_valid : ∀ (f : Nat) (l : List Int) (o : Nat) (whole : Bool), l.length ≤ f → 1 ≤ o → o ≤ l.length → (∀ x ∈ l, Nums.valid x = true) → ∀ x ∈ grow l o whole, Nums.valid x = true
  | 0, l, o, whole, h, h1, h2, _ => by omega
  | f + 1, l, o, whole, h, h1, h2, hv => by
    rcases Nat.lt_or_ge o l.length with ho | ho
    · have l2 : 2 ≤ l.length := by omega
      have a := half_lt l.length l2
      have b := half_pos l.length
      have lt : (l.take (half l.length)).length = half l.length := by rw [List.length_take]; omega
      have ld : (l.drop (half l.length)).length = l.length - half l.length := List.length_drop
      have vt : ∀ x ∈ l.take (half l.length), Nums.valid x = true := fun x hx => hv x (List.mem_of_mem_take hx)
      have vd : ∀ x ∈ l.drop (half l.length), Nums.valid x = true := fun x hx => hv x (List.mem_of_mem_drop hx)
      intro x hx
      by_cases hk : o ≤ half l.length
      · rw [grow_left l o whole ho l2 hk] at hx
        rcases List.mem_append.1 hx with hx | hx
        · exact grow_valid f _ o whole (by omega) h1 (by omega) vt x hx
        · rw [List.mem_singleton.1 hx]; exact Trees.root_valid _ vd
      · rw [grow_right l o whole ho l2 hk] at hx
        rcases List.mem_append.1 hx with hx | hx
        · exact grow_valid f _ _ false (by omega) (by omega) (by omega) vd x hx
        · rw [List.mem_singleton.1 hx]; exact Trees.root_valid _ vt
    · obtain rfl : o = l.length := by omega
      rw [grow_same l whole h1]
      cases whole
      · intro x hx; simp at hx; rw [hx]; exact Trees.root_valid _ hv
      · intro x hx; cases hx

/-- one step up of the old root: what stands on its right is not of it -/
def old1 (s y : Int) (t : Bool) : Int := if t then node y s else s
def oldL : Int → List Int → List Bool → Int
  | s, y :: p, t :: ts => oldL (old1 s y t) p ts
  | s, _, _ => s
theorem oldL_append : ∀ (p : List Int) (ts : List Bool) (s y : Int) (t : Bool), p.length = ts.length → oldL s (p ++ [y]) (ts ++ [t]) = old1 (oldL s p ts) y t
  | [], [], s, y, t, _ => rfl
  | x :: p, u :: ts, s, y, t, h => by
    show oldL (old1 s x u) (p ++ [y]) (ts ++ [t]) = old1 (oldL (old1 s x u) p ts) y t
    exact oldL_append p ts _ y t (by simpa using h)
  | [], _ :: _, _, _, _, h => by simp at h
  | _ :: _, [], _, _, _, h => by simp at h
theorem oldL_straight : ∀ (p : List Int) (ts : List Bool) (s : Int), straight ts = true → oldL s p ts = s
  | [], [], _, _ => rfl
  | [], _ :: _, _, _ => rfl
  | _ :: _, [], _, _ => rfl
  | y :: p, t :: ts, s, h => by
    have h' : t = false ∧ straight ts = true := by simpa [straight] using h
    rw [oldL, h'.1]
    exact oldL_straight p ts s h'.2
theorem oldL_valid : ∀ (p : List Int) (ts : List Bool) (s : Int), Nums.valid s = true → Nums.valid (oldL s p ts) = true
  | [], [], _, h => h
  | [], _ :: _, _, h => h
  | _ :: _, [], _, h => h
  | y :: p, t :: ts, s, h => oldL_valid p ts _ (by unfold old1; split; exact Ways.node_valid _ _; exact h)

/-- what the way begins with, and the sums beside it -/
def base (s : Int) (p : List Int) (c : Bool) : Int := if c then s else p.getD 0 0
def rest (p : List Int) (c : Bool) : List Int := if c then p else p.drop 1
/-- the old root that comes of a proof, and the new one -/
def oldOf (s : Int) (o n : Nat) (p : List Int) (whole : Bool) : Int := oldL (base s p (known whole o n)) (rest p (known whole o n)) (gturns o n)
def newOf (s : Int) (o n : Nat) (p : List Int) (whole : Bool) : Int := upL (base s p (known whole o n)) (rest p (known whole o n)) (gturns o n)
theorem of_same (s : Int) (n : Nat) (p : List Int) (whole : Bool) (h : p.length = gsteps n n whole) : oldOf s n n p whole = (if whole then s else p.getD 0 0) ∧ newOf s n n p whole = (if whole then s else p.getD 0 0) := by
  rw [oldOf, newOf, known_same, gturns_same]
  rw [gsteps_same] at h
  cases whole
  · match p, h with
    | [y], _ => exact ⟨rfl, rfl⟩
  · match p, h with
    | [], _ => exact ⟨rfl, rfl⟩
theorem base_last (s : Int) (p : List Int) (c : Bool) (m : Nat) (h : p.length = m + 1) (hc : c = false → 1 ≤ m) : base s p c = base s (p.take m) c ∧ rest p c = rest (p.take m) c ++ [p.getD m 0] := by
  have e : p = p.take m ++ [p.getD m 0] := by
    rw [List.getD_eq_getElem?_getD, List.getElem?_eq_getElem (by omega)]
    show p = p.take m ++ [p[m]]
    rw [← List.take_succ_eq_append_getElem (by omega), List.take_of_length_le (by omega)]
  cases c
  · have h1 := hc rfl
    refine ⟨?_, ?_⟩
    · show p.getD 0 0 = (p.take m).getD 0 0
      rw [List.getD_eq_getElem?_getD, List.getD_eq_getElem?_getD, List.getElem?_take, if_pos (by omega)]
    · show p.drop 1 = (p.take m).drop 1 ++ [p.getD m 0]
      conv => lhs; rw [e]
      rw [List.drop_append_of_le_length (by rw [List.length_take]; omega)]
  · exact ⟨rfl, e⟩
theorem rest_length {o n : Nat} {p : List Int} {whole : Bool} (h : p.length = gsteps o n whole) : (rest p (known whole o n)).length = (gturns o n).length := by
  rw [gsteps] at h
  unfold rest
  split
  · rename_i hk; rw [if_pos hk] at h; exact h
  · rename_i hk; rw [if_neg hk] at h; rw [List.length_drop]; omega
theorem of_left (s : Int) (o n m : Nat) (p : List Int) (whole : Bool) (h : o < n) (h2 : 2 ≤ n) (hk : o ≤ half n) (hm : m + 1 = gsteps o n whole) (hp : p.length = m + 1) :
    oldOf s o n p whole = oldOf s o (half n) (p.take m) whole ∧ newOf s o n p whole = node (newOf s o (half n) (p.take m) whole) (p.getD m 0) := by
  have hg := gsteps_left o n whole h h2 hk
  have ht : (p.take m).length = gsteps o (half n) whole := by rw [List.length_take]; omega
  have hc : known whole o (half n) = false → 1 ≤ m := by
    intro e
    have e2 : gsteps o (half n) whole = (gturns o (half n)).length + 1 := by rw [gsteps, e]; rfl
    omega
  obtain ⟨b1, b2⟩ := base_last s p (known whole o (half n)) m hp hc
  have rl := rest_length ht
  rw [oldOf, newOf, known_left whole o n h h2 hk, gturns_left o n h h2 hk, b1, b2, oldL_append _ _ _ _ _ rl, Ways.upL_append _ _ _ _ _ rl]
  exact ⟨rfl, rfl⟩
theorem of_right (s : Int) (o n m : Nat) (p : List Int) (whole : Bool) (h : o < n) (h2 : 2 ≤ n) (hk : ¬ o ≤ half n) (hm : m + 1 = gsteps o n whole) (hp : p.length = m + 1) :
    oldOf s o n p whole = node (p.getD m 0) (oldOf s (o - half n) (n - half n) (p.take m) false) ∧ newOf s o n p whole = node (p.getD m 0) (newOf s (o - half n) (n - half n) (p.take m) false) := by
  have hg := gsteps_right o n whole h h2 hk
  have ht : (p.take m).length = gsteps (o - half n) (n - half n) false := by rw [List.length_take]; omega
  have hc : (false : Bool) = false → 1 ≤ m := by
    intro _
    have e2 : gsteps (o - half n) (n - half n) false = (gturns (o - half n) (n - half n)).length + 1 := rfl
    omega
  obtain ⟨b1, b2⟩ := base_last s p false m hp hc
  have rl := rest_length ht
  rw [known_no] at rl
  rw [oldOf, newOf, known_right whole o n h h2 hk, gturns_right o n h h2 hk, b1, b2, oldL_append _ _ _ _ _ rl, Ways.upL_append _ _ _ _ _ rl]
  exact ⟨rfl, rfl⟩

theorem half_old (o n : Nat) (h2 : 2 ≤ n) (h : o ≤ n) (hk : half n < o) : half o = half n := by
  obtain ⟨j, hj⟩ : ∃ j, half n = 2 ^ j := ⟨_, rfl⟩
  have hb := Trees.half_ge n h2
  rw [hj] at hk hb ⊢
  exact Trees.half_unique o j (by have := Nat.two_pow_pos j; omega) (by omega) (by omega)

/-- both roots come of the proof that is made, from the old root itself -/
theorem of_grow : ∀ (f : Nat) (l : List Int) (o : Nat) (whole : Bool) (s : Int), l.length ≤ f → 1 ≤ o → o ≤ l.length → (known whole o l.length = true → s = root (l.take o)) →
    oldOf s o l.length (grow l o whole) whole = root (l.take o) ∧ newOf s o l.length (grow l o whole) whole = root l
  | 0, l, o, whole, s, h, h1, h2, _ => by omega
  | f + 1, l, o, whole, s, h, h1, h2, hs => by
    have hgl := grow_length _ l o whole (Nat.le_refl _) h1 h2
    rcases Nat.lt_or_ge o l.length with ho | ho
    · have l2 : 2 ≤ l.length := by omega
      have a := half_lt l.length l2
      have b := half_pos l.length
      have lt : (l.take (half l.length)).length = half l.length := by rw [List.length_take]; omega
      have ld : (l.drop (half l.length)).length = l.length - half l.length := List.length_drop
      by_cases hk : o ≤ half l.length
      · have e := grow_left l o whole ho l2 hk
        have gl := grow_length _ (l.take (half l.length)) o whole (Nat.le_refl _) h1 (by omega)
        have hst := gsteps_left o l.length whole ho l2 hk
        rw [lt] at gl
        obtain ⟨q1, q2⟩ := of_left s o l.length (grow (l.take (half l.length)) o whole).length (grow l o whole) whole ho l2 hk (by omega) (by rw [e]; simp)
        have tk : (grow l o whole).take (grow (l.take (half l.length)) o whole).length = grow (l.take (half l.length)) o whole := by rw [e, List.take_left]
        have gd : (grow l o whole).getD (grow (l.take (half l.length)) o whole).length 0 = root (l.drop (half l.length)) := by rw [e, List.getD_eq_getElem?_getD, List.getElem?_append_right (Nat.le_refl _)]; simp
        have tt : (l.take (half l.length)).take o = l.take o := by rw [List.take_take, Nat.min_eq_left hk]
        obtain ⟨i1, i2⟩ := of_grow f (l.take (half l.length)) o whole s (by omega) h1 (by omega) (by
          rw [lt, tt]; intro h3; exact hs (by rw [known_left whole o l.length ho l2 hk]; exact h3))
        rw [lt, tt] at i1
        rw [lt] at i2
        rw [q1, q2, tk, gd, i1, i2, Trees.root_more l l2]
        exact ⟨rfl, rfl⟩
      · have e := grow_right l o whole ho l2 hk
        have gl := grow_length _ (l.drop (half l.length)) (o - half l.length) false (Nat.le_refl _) (by omega) (by omega)
        have hst := gsteps_right o l.length whole ho l2 hk
        rw [ld] at gl
        obtain ⟨q1, q2⟩ := of_right s o l.length (grow (l.drop (half l.length)) (o - half l.length) false).length (grow l o whole) whole ho l2 hk (by omega) (by rw [e]; simp)
        have tk : (grow l o whole).take (grow (l.drop (half l.length)) (o - half l.length) false).length = grow (l.drop (half l.length)) (o - half l.length) false := by rw [e, List.take_left]
        have gd : (grow l o whole).getD (grow (l.drop (half l.length)) (o - half l.length) false).length 0 = root (l.take (half l.length)) := by rw [e, List.getD_eq_getElem?_getD, List.getElem?_append_right (Nat.le_refl _)]; simp
        obtain ⟨i1, i2⟩ := of_grow f (l.drop (half l.length)) (o - half l.length) false s (by omega) (by omega) (by omega) (fun h3 => by rw [known_no] at h3; cases h3)
        rw [ld] at i1 i2
        have lo : (l.take o).length = o := by rw [List.length_take]; omega
        have ho2 : half o = half l.length := half_old o l.length l2 h2 (by omega)
        have rm := Trees.root_more (l.take o) (by omega)
        rw [lo, ho2, List.take_take, Nat.min_eq_left (by omega), List.drop_take] at rm
        rw [q1, q2, tk, gd, i1, i2, rm, Trees.root_more l l2]
        exact ⟨rfl, rfl⟩
    · obtain rfl : o = l.length := by omega
      obtain ⟨q1, q2⟩ := of_same s l.length (grow l l.length whole) whole hgl
      rw [q1, q2, List.take_of_length_le (Nat.le_refl _), grow_same l whole h1]
      cases whole
      · exact ⟨rfl, rfl⟩
      · have := hs (known_same true l.length)
        rw [List.take_of_length_le (Nat.le_refl _)] at this
        rw [this]
        exact ⟨rfl, rfl⟩

/-- where the old root is known, it is what is said to be; else what is said is not asked -/
theorem oldOf_known {o n : Nat} {whole : Bool} (h : known whole o n = true) (s : Int) (p : List Int) : oldOf s o n p whole = s := by
  have hs : straight (gturns o n) = true := by
    unfold known at h
    exact (Bool.and_eq_true_iff.1 h).2
  rw [oldOf, h, oldL_straight _ _ _ hs]; rfl
theorem newOf_known {o n : Nat} {whole : Bool} (h : known whole o n = true) (s : Int) (p : List Int) : newOf s o n p whole = upL s p (gturns o n) := by rw [newOf, h]; rfl
theorem of_unknown {o n : Nat} {whole : Bool} (h : known whole o n = false) (s s' : Int) (p : List Int) : oldOf s o n p whole = oldOf s' o n p whole ∧ newOf s o n p whole = newOf s' o n p whole := by
  rw [oldOf, newOf, oldOf, newOf, h]; exact ⟨rfl, rfl⟩
theorem straight_at {T : List Bool} (h : straight T = true) (k : Nat) : T.getD k false = false := by
  rw [List.getD_eq_getElem?_getD]
  rcases Nat.lt_or_ge k T.length with hk | hk
  · rw [List.getElem?_eq_getElem hk]
    have := List.all_eq_true.1 h _ (List.getElem_mem hk)
    simpa using this
  · rw [List.getElem?_eq_none hk]; rfl
theorem known_straight {o n : Nat} {whole : Bool} (h : known whole o n = true) : straight (gturns o n) = true := (Bool.and_eq_true_iff.1 h).2
theorem known_length {o n : Nat} {whole : Bool} (h : known whole o n = true) : gsteps o n whole = (gturns o n).length := by rw [gsteps, if_pos h]; rfl

theorem of_valid {s : Int} {o n : Nat} {p : List Int} {whole : Bool} (hs : Nums.valid s = true) (hp : ∀ x ∈ p, Nums.valid x = true) (h : p.length = gsteps o n whole) : Nums.valid (oldOf s o n p whole) = true ∧ Nums.valid (newOf s o n p whole) = true := by
  have hb : Nums.valid (base s p (known whole o n)) = true := by
    unfold base
    split
    · exact hs
    · rename_i hk
      rw [gsteps, if_neg hk] at h
      exact hp _ (by rw [List.getD_eq_getElem?_getD, List.getElem?_eq_getElem (by omega)]; exact List.getElem_mem _)
  exact ⟨oldL_valid _ _ _ hb, Ways.upL_valid _ _ _ hb⟩

/-- the fault of a proof whose numbers are right -/
def grownE (ra rb : Int) (o n : Nat) (p : List Int) : Nat := if p.length = gsteps o n true then (if oldOf ra o n p true = ra ∧ newOf ra o n p true = rb then 0 else 8) else 3

end Go.Proofs.Ytigbbhojgajkjai.Grows
