/-
  Plain mathematics of the way from the last part of the old tree up to the root of the new one: the parts that are told on it, and the two roots that come of sums in their places. Nothing of the program is named here.
-/
import Derived.Test.YtibmgmadoaencacDoorGrowsE
import Derived.Test.YtibmgmadoaencacDoorClimbs
namespace Go.Proofs.YtibmgmadoaencacDoor.GrowWays
open Trees (root half half_lt half_pos)
open Ways (node)
open Climbs (rootAt)
open Grows (gsteps grow oldOf newOf)

/-- the parts that are told, from below -/
def partsF : Nat → Nat → Nat → Nat → List (Nat × Nat)
  | 0, _, _, _ => []
  | f + 1, o, lo, hi => if o = hi ∨ hi - lo ≤ 1 then (if 0 < lo then [(lo, hi)] else []) else if o ≤ lo + half (hi - lo) then partsF f o lo (lo + half (hi - lo)) ++ [(lo + half (hi - lo), hi)] else partsF f o (lo + half (hi - lo)) hi ++ [(lo, lo + half (hi - lo))]
theorem partsF_fuel : ∀ (f g o lo hi : Nat), 1 ≤ hi - lo → hi - lo ≤ f → hi - lo ≤ g → partsF f o lo hi = partsF g o lo hi
  | 0, _, o, lo, hi, h, hf, _ => by omega
  | f + 1, 0, o, lo, hi, h, _, hg => by omega
  | f + 1, g + 1, o, lo, hi, h, hf, hg => by
    rw [partsF, partsF]
    split
    · rfl
    have a := half_lt (hi - lo) (by omega)
    have b := half_pos (hi - lo)
    rw [partsF_fuel f g o lo (lo + half (hi - lo)) (by omega) (by omega) (by omega), partsF_fuel f g o (lo + half (hi - lo)) hi (by omega) (by omega) (by omega)]
def parts (o lo hi : Nat) : List (Nat × Nat) := partsF (hi - lo) o lo hi
theorem parts_first (o : Nat) (h : 0 < o) : parts o 0 o = [] := by
  rw [parts, partsF_fuel (o - 0) (o - 0 + 1) _ _ _ (by omega) (Nat.le_refl _) (by omega), partsF, if_pos (.inl rfl), if_neg (by omega)]
theorem parts_same (o lo : Nat) (h : lo < o) (h0 : 0 < lo) : parts o lo o = [(lo, o)] := by
  rw [parts, partsF_fuel (o - lo) (o - lo + 1) _ _ _ (by omega) (Nat.le_refl _) (by omega), partsF, if_pos (.inl rfl), if_pos h0]
theorem parts_left (o lo hi k : Nat) (h1 : lo < o) (h2 : o < hi) (hk : half (hi - lo) = k) (h : o ≤ lo + k) : parts o lo hi = parts o lo (lo + k) ++ [(lo + k, hi)] := by
  subst hk
  have a := half_lt (hi - lo) (by omega)
  have b := half_pos (hi - lo)
  rw [parts, partsF_fuel (hi - lo) (hi - lo + 1) _ _ _ (by omega) (Nat.le_refl _) (by omega), partsF, if_neg (by omega), if_pos h, parts, partsF_fuel (hi - lo) (lo + half (hi - lo) - lo) _ _ _ (by omega) (by omega) (Nat.le_refl _)]
theorem parts_right (o lo hi k : Nat) (h1 : lo < o) (h2 : o < hi) (hk : half (hi - lo) = k) (h : ¬ o ≤ lo + k) : parts o lo hi = parts o (lo + k) hi ++ [(lo, lo + k)] := by
  subst hk
  have a := half_lt (hi - lo) (by omega)
  have b := half_pos (hi - lo)
  rw [parts, partsF_fuel (hi - lo) (hi - lo + 1) _ _ _ (by omega) (Nat.le_refl _) (by omega), partsF, if_neg (by omega), if_neg h, parts, partsF_fuel (hi - lo) (hi - (lo + half (hi - lo))) _ _ _ (by omega) (by omega) (Nat.le_refl _)]

theorem parts_in : ∀ (f o lo hi : Nat), hi - lo ≤ f → lo < o → o ≤ hi → ∀ p ∈ parts o lo hi, lo ≤ p.1 ∧ p.1 < p.2 ∧ p.2 ≤ hi
  | 0, o, lo, hi, h, h1, h2, p, hp => by omega
  | f + 1, o, lo, hi, h, h1, h2, p, hp => by
    rcases Nat.lt_or_ge o hi with h3 | h3
    · have a := half_lt (hi - lo) (by omega)
      have b := half_pos (hi - lo)
      by_cases hk : o ≤ lo + half (hi - lo)
      · rw [parts_left o lo hi _ h1 h3 rfl hk] at hp
        rcases List.mem_append.1 hp with hp | hp
        · have := parts_in f o lo _ (by omega) h1 hk p hp; omega
        · rw [List.mem_singleton.1 hp]; simp only; omega
      · rw [parts_right o lo hi _ h1 h3 rfl hk] at hp
        rcases List.mem_append.1 hp with hp | hp
        · have := parts_in f o _ hi (by omega) (by omega) h2 p hp; omega
        · rw [List.mem_singleton.1 hp]; simp only; omega
    · obtain rfl : o = hi := by omega
      rcases Nat.eq_zero_or_pos lo with h4 | h4
      · subst h4; rw [parts_first o h1] at hp; cases hp
      · rw [parts_same o lo h1 h4] at hp; rw [List.mem_singleton.1 hp]; simp only; omega

/-- is what begins at lo the whole of it? -/
def whole (lo : Nat) : Bool := decide (lo = 0)
theorem whole_pos {lo : Nat} (h : 0 < lo) : whole lo = false := decide_eq_false (by omega)
theorem parts_len : ∀ (f o lo hi : Nat), hi - lo ≤ f → lo < o → o ≤ hi → (parts o lo hi).length = gsteps (o - lo) (hi - lo) (whole lo)
  | 0, o, lo, hi, h, h1, h2 => by omega
  | f + 1, o, lo, hi, h, h1, h2 => by
    rcases Nat.lt_or_ge o hi with h3 | h3
    · have a := half_lt (hi - lo) (by omega)
      have b := half_pos (hi - lo)
      by_cases hk : o ≤ lo + half (hi - lo)
      · rw [parts_left o lo hi _ h1 h3 rfl hk, Grows.gsteps_left _ _ _ (by omega) (by omega) (by omega), List.length_append, parts_len f o lo _ (by omega) h1 hk, show lo + half (hi - lo) - lo = half (hi - lo) by omega, Nat.add_comm]
        rfl
      · rw [parts_right o lo hi _ h1 h3 rfl hk, Grows.gsteps_right _ _ _ (by omega) (by omega) (by omega), List.length_append, parts_len f o _ hi (by omega) (by omega) h2, whole_pos (by omega), show o - (lo + half (hi - lo)) = o - lo - half (hi - lo) by omega, show hi - (lo + half (hi - lo)) = hi - lo - half (hi - lo) by omega, Nat.add_comm]
        rfl
    · obtain rfl : o = hi := by omega
      rcases Nat.eq_zero_or_pos lo with h4 | h4
      · subst h4; rw [parts_first o h1, Grows.gsteps_same]; rfl
      · rw [parts_same o lo h1 h4, Grows.gsteps_same, whole_pos h4]; rfl
theorem parts_length (o n : Nat) (h1 : 1 ≤ o) (h2 : o ≤ n) : (parts o 0 n).length = gsteps o n true := parts_len n o 0 n (by omega) h1 h2

/-- their roots are the proof -/
theorem parts_grow : ∀ (f : Nat) (l : List Int) (o lo hi : Nat), hi - lo ≤ f → lo < o → o ≤ hi → hi ≤ l.length → (parts o lo hi).map (rootAt l) = grow ((l.take hi).drop lo) (o - lo) (whole lo)
  | 0, l, o, lo, hi, h, h1, h2, _ => by omega
  | f + 1, l, o, lo, hi, h, h1, h2, h4 => by
    have hl : ((l.take hi).drop lo).length = hi - lo := by simp; omega
    rcases Nat.lt_or_ge o hi with h3 | h3
    · have a := half_lt (hi - lo) (by omega)
      have b := half_pos (hi - lo)
      by_cases hk : o ≤ lo + half (hi - lo)
      · rw [parts_left o lo hi _ h1 h3 rfl hk, Grows.grow_left _ _ _ (by omega) (by omega) (by rw [hl]; omega), List.map_append, parts_grow f l o lo _ (by omega) h1 hk (by omega), hl, Climbs.cut_take (by omega), Climbs.cut_drop]
        rfl
      · rw [parts_right o lo hi _ h1 h3 rfl hk, Grows.grow_right _ _ _ (by omega) (by omega) (by rw [hl]; omega), List.map_append, parts_grow f l o _ hi (by omega) (by omega) h2 h4, hl, Climbs.cut_take (by omega), Climbs.cut_drop, whole_pos (by omega), show o - (lo + half (hi - lo)) = o - lo - half (hi - lo) by omega]
        rfl
    · obtain rfl : o = hi := by omega
      have g := Grows.grow_same ((l.take o).drop lo) (whole lo) (by omega)
      rw [hl] at g
      rw [g]
      rcases Nat.eq_zero_or_pos lo with h5 | h5
      · subst h5; rw [parts_first o h1]; rfl
      · rw [parts_same o lo h1 h5, whole_pos h5]; rfl
theorem grow_of (l : List Int) (o n : Nat) (h1 : 1 ≤ o) (h2 : o ≤ n) (hn : n ≤ l.length) : (parts o 0 n).map (rootAt l) = grow (l.take n) o true := parts_grow n l o 0 n (by omega) h1 h2 hn

/-- what a sum in a part's place makes of both roots -/
def turn (o : Nat) (s : Int × Int) (y : Int) (q : Nat × Nat) : Int × Int := if q.2 = o then (y, y) else if o < q.2 then (s.1, node s.2 y) else (node y s.1, node y s.2)
def roll (o : Nat) : Int × Int → List Int → List (Nat × Nat) → Int × Int
  | s, y :: p, q :: ps => roll o (turn o s y q) p ps
  | s, _, _ => s
theorem roll_append (o : Nat) : ∀ (p : List Int) (ps : List (Nat × Nat)) (s : Int × Int) (y : Int) (q : Nat × Nat), p.length = ps.length → roll o s (p ++ [y]) (ps ++ [q]) = turn o (roll o s p ps) y q
  | [], [], s, y, q, _ => rfl
  | x :: p, u :: ps, s, y, q, h => by
    show roll o (turn o s x u) (p ++ [y]) (ps ++ [q]) = turn o (roll o (turn o s x u) p ps) y q
    exact roll_append o p ps _ y q (by simpa using h)
  | [], _ :: _, _, _, _, h => by simp at h
  | _ :: _, [], _, _, _, h => by simp at h
theorem last_of (p : List Int) (m : Nat) (h : p.length = m + 1) : p = p.take m ++ [p.getD m 0] := by
  rw [List.getD_eq_getElem?_getD, List.getElem?_eq_getElem (by omega)]
  show p = p.take m ++ [p[m]]
  rw [← List.take_succ_eq_append_getElem (by omega), List.take_of_length_le (by omega)]
theorem roll_parts : ∀ (f : Nat) (s : Int) (p : List Int) (o lo hi : Nat), hi - lo ≤ f → lo < o → o ≤ hi → p.length = gsteps (o - lo) (hi - lo) (whole lo) →
    roll o (s, s) p (parts o lo hi) = (oldOf s (o - lo) (hi - lo) p (whole lo), newOf s (o - lo) (hi - lo) p (whole lo))
  | 0, s, p, o, lo, hi, h, h1, h2, _ => by omega
  | f + 1, s, p, o, lo, hi, h, h1, h2, hp => by
    rcases Nat.lt_or_ge o hi with h3 | h3
    · have a := half_lt (hi - lo) (by omega)
      have b := half_pos (hi - lo)
      by_cases hk : o ≤ lo + half (hi - lo)
      · have g := Grows.gsteps_left (o - lo) (hi - lo) (whole lo) (by omega) (by omega) (by omega)
        obtain ⟨m, hm⟩ : ∃ m, p.length = m + 1 := ⟨p.length - 1, by omega⟩
        obtain ⟨q1, q2⟩ := Grows.of_left s (o - lo) (hi - lo) m p (whole lo) (by omega) (by omega) (by omega) (by omega) hm
        have ht : (p.take m).length = gsteps (o - lo) (half (hi - lo)) (whole lo) := by rw [List.length_take]; omega
        have e : lo + half (hi - lo) - lo = half (hi - lo) := by omega
        have i := roll_parts f s (p.take m) o lo (lo + half (hi - lo)) (by omega) h1 hk (by rw [e]; exact ht)
        rw [e] at i
        rw [parts_left o lo hi _ h1 h3 rfl hk, q1, q2]
        conv => lhs; rw [last_of p m hm]
        rw [roll_append o _ _ _ _ _ (by rw [ht, parts_len _ o lo _ (Nat.le_refl _) h1 hk, e]), i]
        unfold turn
        rw [if_neg (by simp only; omega), if_pos (by simp only; omega)]
      · have g := Grows.gsteps_right (o - lo) (hi - lo) (whole lo) (by omega) (by omega) (by omega)
        obtain ⟨m, hm⟩ : ∃ m, p.length = m + 1 := ⟨p.length - 1, by omega⟩
        obtain ⟨q1, q2⟩ := Grows.of_right s (o - lo) (hi - lo) m p (whole lo) (by omega) (by omega) (by omega) (by omega) hm
        have ht : (p.take m).length = gsteps (o - lo - half (hi - lo)) (hi - lo - half (hi - lo)) false := by rw [List.length_take]; omega
        have e1 : o - (lo + half (hi - lo)) = o - lo - half (hi - lo) := by omega
        have e2 : hi - (lo + half (hi - lo)) = hi - lo - half (hi - lo) := by omega
        have e3 : whole (lo + half (hi - lo)) = false := whole_pos (by omega)
        have i := roll_parts f s (p.take m) o (lo + half (hi - lo)) hi (by omega) (by omega) h2 (by rw [e1, e2, e3]; exact ht)
        rw [e1, e2, e3] at i
        rw [parts_right o lo hi _ h1 h3 rfl hk, q1, q2]
        conv => lhs; rw [last_of p m hm]
        rw [roll_append o _ _ _ _ _ (by rw [ht, parts_len _ o _ hi (Nat.le_refl _) (by omega) h2, e1, e2, e3]), i]
        unfold turn
        rw [if_neg (by simp only; omega), if_neg (by simp only; omega)]
    · obtain rfl : o = hi := by omega
      obtain ⟨q1, q2⟩ := Grows.of_same s (o - lo) p (whole lo) hp
      rw [q1, q2]
      rw [Grows.gsteps_same] at hp
      rcases Nat.eq_zero_or_pos lo with h5 | h5
      · subst h5
        rw [parts_first o h1]
        match p, hp with
        | [], _ => rfl
      · rw [parts_same o lo h1 h5]
        rw [whole_pos h5] at hp ⊢
        match p, hp with
        | [y], _ =>
          show turn o (s, s) y (lo, o) = (y, y)
          unfold turn
          rw [if_pos rfl]

/-- what has come by then -/
def cur (o : Nat) (s : Int) (p : List Int) (ps : List (Nat × Nat)) : Int × Int := roll o (s, s) (p.take ps.length) ps
theorem cur_nil (o : Nat) (s : Int) (p : List Int) : cur o s p [] = (s, s) := rfl
theorem cur_snoc (o : Nat) (s : Int) (p : List Int) (ps : List (Nat × Nat)) (q : Nat × Nat) (h : ps.length < p.length) : cur o s p (ps ++ [q]) = turn o (cur o s p ps) (p.getD ps.length 0) q := by
  unfold cur
  rw [List.length_append, show ([q] : List (Nat × Nat)).length = 1 from rfl, List.take_succ_eq_append_getElem h, List.getD_eq_getElem?_getD, List.getElem?_eq_getElem h]
  exact roll_append o (p.take ps.length) ps (s, s) _ _ (by simp; omega)
theorem cur_all (o n : Nat) (s : Int) (p : List Int) (h1 : 1 ≤ o) (h2 : o ≤ n) (hp : p.length = gsteps o n true) : cur o s p (parts o 0 n) = (oldOf s o n p true, newOf s o n p true) := by
  unfold cur
  rw [parts_length o n h1 h2, ← hp, List.take_of_length_le (Nat.le_refl _)]
  exact roll_parts n s p o 0 n (by omega) h1 h2 hp
theorem turn_valid (o : Nat) (s : Int × Int) (y : Int) (q : Nat × Nat) (h1 : Nums.valid s.1 = true) (hy : Nums.valid y = true) : Nums.valid (turn o s y q).1 = true ∧ Nums.valid (turn o s y q).2 = true := by
  unfold turn
  split
  · exact ⟨hy, hy⟩
  · split
    · exact ⟨h1, Ways.node_valid _ _⟩
    · exact ⟨Ways.node_valid _ _, Ways.node_valid _ _⟩
theorem roll_valid (o : Nat) : ∀ (p : List Int) (ps : List (Nat × Nat)) (s : Int × Int), Nums.valid s.1 = true → Nums.valid s.2 = true → (∀ x ∈ p, Nums.valid x = true) → Nums.valid (roll o s p ps).1 = true ∧ Nums.valid (roll o s p ps).2 = true
  | [], [], s, h1, h2, _ => ⟨h1, h2⟩
  | [], _ :: _, s, h1, h2, _ => ⟨h1, h2⟩
  | _ :: _, [], s, h1, h2, _ => ⟨h1, h2⟩
  | y :: p, q :: ps, s, h1, h2, hp => by
    obtain ⟨t1, t2⟩ := turn_valid o s y q h1 (hp y (List.mem_cons_self ..))
    exact roll_valid o p ps _ t1 t2 fun x hx => hp x (List.mem_cons_of_mem _ hx)
theorem cur_valid (o : Nat) (s : Int) (p : List Int) (ps : List (Nat × Nat)) (hs : Nums.valid s = true) (hp : ∀ x ∈ p, Nums.valid x = true) : Nums.valid (cur o s p ps).1 = true ∧ Nums.valid (cur o s p ps).2 = true :=
  roll_valid o _ _ _ hs hs fun x hx => hp x (List.mem_of_mem_take hx)

end Go.Proofs.YtibmgmadoaencacDoor.GrowWays
