/-
  Plain mathematics of a stable sort: pairs by key, of one key in the order in which they were; by insertion, by merging in place, block by block. Nothing of the program is named here.
-/
import Derived.Test.YtbepfeajaoaocafStores
namespace Go.Proofs.Ytbepfeajaoaocaf.Stables
open Stores (Pair lt find Rising)

/-- none is above one behind it -/
def Sorted (l : List Pair) : Prop := l.Pairwise fun p q => lt q.key p.key = false
/-- those of one key -/
def keyed (k : ByteArray) (l : List Pair) : List Pair := l.filter fun p => decide (p.key = k)
/-- the same ones, those of one key in one order -/
def Same (a b : List Pair) : Prop := a.length = b.length ∧ ∀ k, keyed k a = keyed k b

theorem Same.refl (a : List Pair) : Same a a := ⟨rfl, fun _ => rfl⟩
theorem Same.trans {a b c : List Pair} (h : Same a b) (k : Same b c) : Same a c := ⟨h.1.trans k.1, fun x => (h.2 x).trans (k.2 x)⟩
theorem Same.symm {a b : List Pair} (h : Same a b) : Same b a := ⟨h.1.symm, fun x => (h.2 x).symm⟩
theorem keyed_append (k : ByteArray) (a b : List Pair) : keyed k (a ++ b) = keyed k a ++ keyed k b := List.filter_append ..
theorem Same.append {a b c d : List Pair} (h : Same a b) (k : Same c d) : Same (a ++ c) (b ++ d) :=
  ⟨by rw [List.length_append, List.length_append, h.1, k.1], fun x => by rw [keyed_append, keyed_append, h.2, k.2]⟩
theorem mem_keyed {k : ByteArray} {l : List Pair} {p : Pair} : p ∈ keyed k l ↔ p ∈ l ∧ p.key = k := by simp [keyed]
theorem Same.mem {a b : List Pair} (h : Same a b) {p : Pair} (hp : p ∈ b) : p ∈ a := by
  have h1 : p ∈ keyed p.key b := mem_keyed.2 ⟨hp, rfl⟩
  rw [← h.2] at h1
  exact (mem_keyed.1 h1).1
theorem find_keyed (l : List Pair) (k : ByteArray) : find l k = (keyed k l).head? := by
  unfold find keyed
  exact (List.head?_filter ..).symm
theorem Same.find {a b : List Pair} (h : Same a b) (k : ByteArray) : find a k = find b k := by rw [find_keyed, find_keyed, h.2]
/-- two parts of other keys may change places -/
theorem same_swap {x y : List Pair} (h : ∀ p ∈ x, ∀ q ∈ y, lt q.key p.key = true) : Same (x ++ y) (y ++ x) := by
  refine ⟨by rw [List.length_append, List.length_append, Nat.add_comm], fun k => ?_⟩
  rw [keyed_append, keyed_append]
  by_cases hx : keyed k x = []
  · rw [hx, List.nil_append, List.append_nil]
  · have hy : keyed k y = [] := by
      rw [List.eq_nil_iff_forall_not_mem]
      intro q hq
      obtain ⟨p, hp⟩ := List.exists_mem_of_ne_nil _ hx
      have h1 := mem_keyed.1 hp
      have h2 := mem_keyed.1 hq
      have h3 := h p h1.1 q h2.1
      rw [h1.2, h2.2, Stores.lt_irrefl] at h3
      cases h3
    rw [hy, List.nil_append, List.append_nil]
theorem sorted_append {a b : List Pair} : Sorted (a ++ b) ↔ Sorted a ∧ Sorted b ∧ ∀ p ∈ a, ∀ q ∈ b, lt q.key p.key = false := List.pairwise_append
theorem sorted_nil : Sorted [] := List.Pairwise.nil
theorem sorted_one (p : Pair) : Sorted [p] := List.pairwise_singleton ..
theorem sorted_at {l : List Pair} (h : Sorted l) {i j : Nat} (hi : i < l.length) (hj : j < l.length) (hij : i ≤ j) : lt (l[j]).key (l[i]).key = false := by
  rcases Nat.lt_or_eq_of_le hij with h1 | rfl
  · exact List.pairwise_iff_getElem.1 h i j hi hj h1
  · exact Stores.lt_irrefl _
theorem le_of_lt {a b : ByteArray} (h : lt a b = true) : lt b a = false := Stores.lt_asymm h
theorem lt_of_le_of_lt {a b c : ByteArray} (h : lt b a = false) (h2 : lt b c = true) : lt a c = true := by
  cases h3 : lt a c with
  | true => rfl
  | false =>
    have := Stores.le_trans h3 h
    rw [h2] at this
    cases this

/-- from a to b the pairs have become sorted ones, of one key in one order; all else is as it was -/
def Sorts (a b : Nat) (d d' : List Pair) : Prop := ∃ A D Z R, d = A ++ (D ++ R) ∧ d' = A ++ (Z ++ R) ∧ A.length = a ∧ a + D.length = b ∧ Sorted Z ∧ Same D Z
theorem Sorts.same {a b : Nat} {d d' : List Pair} (h : Sorts a b d d') : Same d d' := by
  obtain ⟨A, D, Z, R, rfl, rfl, _, _, _, hs⟩ := h
  exact (Same.refl A).append (hs.append (Same.refl R))
theorem Sorts.length {a b : Nat} {d d' : List Pair} (h : Sorts a b d d') : d'.length = d.length := h.same.1.symm
/-- one alone, or none, is sorted -/
theorem sorts_start {a b : Nat} {d : List Pair} (hb : b ≤ d.length) (hab : a ≤ b) (h1 : b ≤ a + 1) : Sorts a b d d := by
  refine ⟨d.take a, (d.drop a).take (b - a), (d.drop a).take (b - a), (d.drop a).drop (b - a), by rw [List.take_append_drop, List.take_append_drop], by rw [List.take_append_drop, List.take_append_drop], by rw [List.length_take]; omega, ?_, ?_, Same.refl _⟩
  · rw [List.length_take, List.length_drop]; omega
  · have hl : ((d.drop a).take (b - a)).length ≤ 1 := by rw [List.length_take]; omega
    generalize (d.drop a).take (b - a) = l at hl
    match l, hl with
    | [], _ => exact sorted_nil
    | [p], _ => exact sorted_one p

/-! two that change places -/
theorem set_two {U V M : List Pair} {p q : Pair} {i j : Nat} (hi : U.length = i) (hj : i + 1 + M.length = j) : ((U ++ p :: (M ++ q :: V)).set i q).set j p = U ++ q :: (M ++ p :: V) := by
  subst hi
  subst hj
  rw [List.set_append_right _ _ (Nat.le_refl _), Nat.sub_self, List.set_cons_zero, List.set_append_right _ _ (by omega), show U.length + 1 + M.length - U.length = M.length + 1 by omega, List.set_cons_succ, List.set_append_right _ _ (Nat.le_refl _), Nat.sub_self, List.set_cons_zero]
theorem at_first {U V M : List Pair} {p q : Pair} {i : Nat} (hi : U.length = i) : (U ++ p :: (M ++ q :: V))[i]? = some p := by
  subst hi
  rw [List.getElem?_append_right (Nat.le_refl _), Nat.sub_self]
  rfl
theorem at_second {U V M : List Pair} {p q : Pair} {i j : Nat} (hi : U.length = i) (hj : i + 1 + M.length = j) : (U ++ p :: (M ++ q :: V))[j]? = some q := by
  subst hi
  subst hj
  rw [List.getElem?_append_right (by omega), show U.length + 1 + M.length - U.length = M.length + 1 by omega, List.getElem?_cons_succ, List.getElem?_append_right (Nat.le_refl _), Nat.sub_self]
  rfl

/-! insertion: one goes down among those that are sorted -/
/-- the pair that came from i stands at j; those from j on are above it -/
def Sinks (a i j : Nat) (d d' : List Pair) : Prop := ∃ A D Y x Z R, d = A ++ (D ++ R) ∧ d' = A ++ (Y ++ (x :: (Z ++ R))) ∧ A.length = a ∧ a + D.length = i + 1 ∧ a + Y.length = j ∧ j + Z.length = i ∧ Sorted (Y ++ Z) ∧ (∀ z ∈ Z, lt x.key z.key = true) ∧ Same D (Y ++ (x :: Z))
theorem Sinks.length {a i j : Nat} {d d' : List Pair} (h : Sinks a i j d d') : d'.length = d.length := by
  obtain ⟨A, D, Y, x, Z, R, rfl, rfl, _, _, _, _, _, _, hs⟩ := h
  have := hs.1
  simp only [List.length_append, List.length_cons] at this ⊢
  omega
theorem sinks_start {a i : Nat} {d d' : List Pair} (h : Sorts a i d d') (hi : i < d.length) : Sinks a i i d d' := by
  have hl := h.length
  obtain ⟨A, D, Z, R, rfl, rfl, hA, hD, hZ, hs⟩ := h
  have hsl := hs.1
  cases R with
  | nil => simp only [List.length_append, List.length_nil] at hi; omega
  | cons x R =>
    refine ⟨A, D ++ [x], Z, x, [], R, by simp, by simp, hA, by simp; omega, by omega, rfl, by simpa using hZ, (fun z hz => by cases hz), hs.append (Same.refl [x])⟩
/-- it changes places with the one ahead of it, which is above it -/
theorem sinks_step {a i j : Nat} {d d' : List Pair} (h : Sinks a i j d d') (hj : a < j) {p q : Pair} (hp : d'[j - 1]? = some p) (hq : d'[j]? = some q) (hlt : lt q.key p.key = true) : Sinks a i (j - 1) d ((d'.set (j - 1) q).set j p) := by
  obtain ⟨A, D, Y, x, Z, R, rfl, rfl, hA, hD, hY, hZ, hs, hz, hsame⟩ := h
  have hne : Y ≠ [] := fun e => by subst e; simp at hY; omega
  obtain ⟨Y, y, rfl⟩ : ∃ Y' y, Y = Y' ++ [y] := ⟨Y.dropLast, Y.getLast hne, (List.dropLast_concat_getLast hne).symm⟩
  simp only [List.length_append, List.length_cons, List.length_nil] at hY
  have e : A ++ (Y ++ [y] ++ x :: (Z ++ R)) = (A ++ Y) ++ y :: ([] ++ x :: (Z ++ R)) := by simp
  rw [e] at hp hq ⊢
  have hl : (A ++ Y).length = j - 1 := by rw [List.length_append]; omega
  rw [at_first hl] at hp
  rw [at_second hl (by simp; omega)] at hq
  obtain rfl : y = p := Option.some.inj hp
  obtain rfl : x = q := Option.some.inj hq
  rw [set_two hl (by simp; omega)]
  refine ⟨A, D, Y, x, y :: Z, R, rfl, by simp, hA, hD, by omega, by simp; omega, by simpa using hs, fun z hzz => ?_, hsame.trans ?_⟩
  · rcases List.mem_cons.1 hzz with rfl | hzz
    · exact hlt
    · exact hz z hzz
  · have h1 : Same (Y ++ ([y] ++ [x]) ++ Z) (Y ++ ([x] ++ [y]) ++ Z) := ((Same.refl Y).append (same_swap (x := [y]) (y := [x]) (by intro p hp q hq; rw [List.mem_singleton.1 hp, List.mem_singleton.1 hq]; exact hlt))).append (Same.refl Z)
    simpa using h1
theorem sinks_end {a i j : Nat} {d d' : List Pair} (h : Sinks a i j d d') (hj : j = a ∨ ∃ p q, d'[j - 1]? = some p ∧ d'[j]? = some q ∧ lt q.key p.key = false) : Sorts a (i + 1) d d' := by
  obtain ⟨A, D, Y, x, Z, R, rfl, rfl, hA, hD, hY, hZ, hs, hz, hsame⟩ := h
  obtain ⟨s1, s2, s3⟩ := sorted_append.1 hs
  refine ⟨A, D, Y ++ x :: Z, R, rfl, by simp, hA, hD, ?_, hsame⟩
  refine sorted_append.2 ⟨s1, List.pairwise_cons.2 ⟨fun z hzz => le_of_lt (hz z hzz), s2⟩, fun p hp q hq => ?_⟩
  rcases List.mem_cons.1 hq with rfl | hq
  rotate_left
  · exact s3 p hp q hq
  · rcases hj with rfl | ⟨p', q', h1, h2, h3⟩
    · have : Y = [] := List.length_eq_zero_iff.1 (by omega)
      subst this
      cases hp
    · have hne : Y ≠ [] := fun e => by subst e; cases hp
      obtain ⟨Y, y, rfl⟩ : ∃ Y' y, Y = Y' ++ [y] := ⟨Y.dropLast, Y.getLast hne, (List.dropLast_concat_getLast hne).symm⟩
      simp only [List.length_append, List.length_cons, List.length_nil] at hY
      have e : A ++ (Y ++ [y] ++ q :: (Z ++ R)) = (A ++ Y) ++ y :: ([] ++ q :: (Z ++ R)) := by simp
      rw [e] at h1 h2
      have hl : (A ++ Y).length = j - 1 := by rw [List.length_append]; omega
      rw [at_first hl] at h1
      rw [at_second hl (by simp; omega)] at h2
      obtain rfl : y = p' := Option.some.inj h1
      obtain rfl : q = q' := Option.some.inj h2
      rcases List.mem_append.1 hp with hp | hp
      · exact Stores.le_trans ((sorted_append.1 s1).2.2 p hp y (List.mem_singleton.2 rfl)) h3
      · rw [List.mem_singleton.1 hp]
        exact h3

/-! ranges that change places -/
/-- n from a on have changed places with n from b on, the first k of them so far -/
def Swaps (a b n k : Nat) (d d' : List Pair) : Prop := ∃ U P1 P2 M Q1 Q2 V, d = U ++ (P1 ++ (P2 ++ (M ++ (Q1 ++ (Q2 ++ V))))) ∧ d' = U ++ (Q1 ++ (P2 ++ (M ++ (P1 ++ (Q2 ++ V))))) ∧ U.length = a ∧ P1.length = k ∧ Q1.length = k ∧ k + P2.length = n ∧ k + Q2.length = n ∧ a + n + M.length = b
theorem Swaps.length {a b n k : Nat} {d d' : List Pair} (h : Swaps a b n k d d') : d'.length = d.length := by
  obtain ⟨U, P1, P2, M, Q1, Q2, V, rfl, rfl, h1, h2, h3, h4, h5, h6⟩ := h
  simp only [List.length_append]
  omega
theorem swaps_start {a b n : Nat} {d : List Pair} (h : a + n ≤ b) (hb : b + n ≤ d.length) : Swaps a b n 0 d d := by
  refine ⟨d.take a, [], (d.drop a).take n, (d.drop (a + n)).take (b - (a + n)), [], (d.drop b).take n, d.drop (b + n), ?_, ?_, by rw [List.length_take]; omega, rfl, rfl, by rw [List.length_take, List.length_drop]; omega, by rw [List.length_take, List.length_drop]; omega, by rw [List.length_take, List.length_drop]; omega⟩
  all_goals
    simp only [List.nil_append]
    have e1 : (d.drop b).take n ++ d.drop (b + n) = d.drop b := by rw [← List.drop_drop, List.take_append_drop]
    have e2 : (d.drop (a + n)).take (b - (a + n)) ++ d.drop b = d.drop (a + n) := by
      conv => lhs; rhs; rw [show b = (a + n) + (b - (a + n)) by omega, ← List.drop_drop]
      rw [List.take_append_drop]
    have e3 : (d.drop a).take n ++ d.drop (a + n) = d.drop a := by rw [← List.drop_drop, List.take_append_drop]
    rw [e1, e2, e3, List.take_append_drop]
theorem swaps_step {a b n k : Nat} {d d' : List Pair} (h : Swaps a b n k d d') (hk : k < n) : ∃ p q, d'[a + k]? = some p ∧ d'[b + k]? = some q ∧ Swaps a b n (k + 1) d ((d'.set (a + k) q).set (b + k) p) := by
  obtain ⟨U, P1, P2, M, Q1, Q2, V, rfl, rfl, h1, h2, h3, h4, h5, h6⟩ := h
  cases P2 with
  | nil => simp at h4; omega
  | cons p P2 =>
    cases Q2 with
    | nil => simp at h5; omega
    | cons q Q2 =>
      simp only [List.length_cons] at h4 h5
      have e : U ++ (Q1 ++ (p :: P2 ++ (M ++ (P1 ++ (q :: Q2 ++ V))))) = (U ++ Q1) ++ p :: ((P2 ++ (M ++ P1)) ++ q :: (Q2 ++ V)) := by simp
      have l1 : (U ++ Q1).length = a + k := by rw [List.length_append]; omega
      have l2 : a + k + 1 + (P2 ++ (M ++ P1)).length = b + k := by simp only [List.length_append]; omega
      refine ⟨p, q, ?_, ?_, U, P1 ++ [p], P2, M, Q1 ++ [q], Q2, V, by simp, ?_, h1, by simp; omega, by simp; omega, by omega, by omega, h6⟩
      · rw [e, at_first l1]
      · rw [e, at_second l1 l2]
      · rw [e, set_two l1 l2]
        simp
theorem swaps_end {a b n : Nat} {d d' : List Pair} (h : Swaps a b n n d d') : ∃ U P M Q V, d = U ++ (P ++ (M ++ (Q ++ V))) ∧ d' = U ++ (Q ++ (M ++ (P ++ V))) ∧ U.length = a ∧ P.length = n ∧ Q.length = n ∧ a + n + M.length = b := by
  obtain ⟨U, P1, P2, M, Q1, Q2, V, rfl, rfl, h1, h2, h3, h4, h5, h6⟩ := h
  have e1 : P2 = [] := List.length_eq_zero_iff.1 (by omega)
  have e2 : Q2 = [] := List.length_eq_zero_iff.1 (by omega)
  subst e1
  subst e2
  exact ⟨U, P1, M, Q1, V, by simp, by simp, h1, h2, h3, h6⟩

/-! two parts that change places -/
/-- what is still to be turned: i ahead of m, j from m on; in the end there will be t -/
def Turns (m i j : Nat) (t d : List Pair) : Prop := ∃ A X Y R, d = A ++ (X ++ (Y ++ R)) ∧ t = A ++ (Y ++ (X ++ R)) ∧ A.length + i = m ∧ X.length = i ∧ Y.length = j
theorem Turns.length {m i j : Nat} {t d : List Pair} (h : Turns m i j t d) : t.length = d.length := by
  obtain ⟨A, X, Y, R, rfl, rfl, _⟩ := h
  simp only [List.length_append]
  omega
theorem Turns.room {m i j : Nat} {t d : List Pair} (h : Turns m i j t d) : i ≤ m ∧ m + j ≤ d.length := by
  obtain ⟨A, X, Y, R, rfl, rfl, h1, h2, h3⟩ := h
  simp only [List.length_append]
  omega
theorem append_cut {α : Type} {a b c d : List α} (h : a ++ b = c ++ d) (hl : a.length = c.length) : a = c ∧ b = d := List.append_inj h hl
/-- more ahead than behind -/
theorem turns_left {m i j : Nat} {t d d' : List Pair} (h : Turns m i j t d) (hij : j < i) (hs : Swaps (m - i) m j j d d') : Turns m (i - j) j t d' := by
  obtain ⟨A, X, Y, R, rfl, rfl, h1, h2, h3⟩ := h
  obtain ⟨U, P, M, Q, V, e, rfl, g1, g2, g3, g4⟩ := swaps_end hs
  clear hs
  obtain ⟨rfl, e1⟩ := append_cut e (by omega)
  clear e
  have e2 : X ++ (Y ++ R) = (P ++ M) ++ (Q ++ V) := by rw [e1]; simp
  clear e1
  obtain ⟨rfl, e3⟩ := append_cut e2 (by rw [List.length_append]; omega)
  clear e2
  obtain ⟨rfl, rfl⟩ := append_cut e3 (by omega)
  rw [List.length_append] at h2
  exact ⟨A ++ Y, M, P, R, by simp, by simp, by rw [List.length_append]; omega, by omega, by omega⟩
/-- more behind -/
theorem turns_right {m i j : Nat} {t d d' : List Pair} (h : Turns m i j t d) (hij : i < j) (hs : Swaps (m - i) (m + j - i) i i d d') : Turns m i (j - i) t d' := by
  obtain ⟨A, X, Y, R, rfl, rfl, h1, h2, h3⟩ := h
  obtain ⟨U, P, M, Q, V, e, rfl, g1, g2, g3, g4⟩ := swaps_end hs
  clear hs
  obtain ⟨rfl, e1⟩ := append_cut e (by omega)
  clear e
  obtain ⟨rfl, e2⟩ := append_cut e1 (by omega)
  clear e1
  have e3 : Y ++ R = (M ++ Q) ++ V := by rw [e2]; simp
  clear e2
  obtain ⟨rfl, rfl⟩ := append_cut e3 (by rw [List.length_append]; omega)
  rw [List.length_append] at h3
  exact ⟨A, Q, M, X ++ R, by simp, by simp, by omega, by omega, by omega⟩
/-- as many -/
theorem turns_end {m i : Nat} {t d d' : List Pair} (h : Turns m i i t d) (hs : Swaps (m - i) m i i d d') : d' = t := by
  obtain ⟨A, X, Y, R, rfl, rfl, h1, h2, h3⟩ := h
  obtain ⟨U, P, M, Q, V, e, rfl, g1, g2, g3, g4⟩ := swaps_end hs
  clear hs
  obtain ⟨rfl, e1⟩ := append_cut e (by omega)
  clear e
  obtain ⟨rfl, e2⟩ := append_cut e1 (by omega)
  clear e1
  have hM : M = [] := List.length_eq_zero_iff.1 (by omega)
  subst hM
  rw [List.nil_append] at e2 ⊢
  obtain ⟨rfl, rfl⟩ := append_cut e2 (by omega)
  rfl

end Go.Proofs.Ytbepfeajaoaocaf.Stables
