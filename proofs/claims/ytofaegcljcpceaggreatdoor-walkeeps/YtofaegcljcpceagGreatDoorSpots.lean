/-
  Plain mathematics of a search among keys that rise: where a key stands, or would have to; and what is put there.
-/
import Derived.Test.YtofaegcljcpceagGreatDoorStores
import Derived.Lib.Bytealg
namespace Go.Proofs.YtofaegcljcpceagGreatDoor.Spots
open Stores (Pair lt less find withP Rising)
open Go.Lib (compareBytes)

/-- comparing two texts, in the words of the order -/
theorem compare_less : ∀ x y : List UInt8, compareBytes x y = if less x y = true then -1 else if x = y then 0 else 1
  | [], [] => rfl
  | [], _ :: _ => rfl
  | _ :: _, [] => rfl
  | a :: x, b :: y => by
    unfold compareBytes
    simp only [less, Op.bytesLess]
    by_cases h : a < b
    · simp [h]
    · by_cases h2 : b < a
      · have hne : a ≠ b := fun e => by subst e; exact UInt8.lt_irrefl _ h2
        simp [h, h2, hne]
      · have e : a = b := by
          apply UInt8.toNat_inj.1
          rw [UInt8.lt_iff_toNat_lt] at h h2
          omega
        subst e
        have ih := compare_less x y
        simp only [less] at ih
        simp [h, ih]
def cmp (a b : ByteArray) : Int := if lt a b = true then -1 else if a = b then 0 else 1
theorem compare_eq (a b : ByteArray) : compareBytes a.data.toList b.data.toList = cmp a b := by
  rw [compare_less, ← ByteArray.toList_eq, ← ByteArray.toList_eq]
  unfold cmp lt
  by_cases h : a = b
  · subst h
    simp
  · have h2 : ¬ a.toList = b.toList := fun e => h (Stores.toList_inj e)
    simp [h, h2]
theorem cmp_neg {a b : ByteArray} (h : lt a b = true) : cmp a b = -1 := if_pos h
theorem cmp_zero (a : ByteArray) : cmp a a = 0 := by unfold cmp; rw [Stores.lt_irrefl]; simp
theorem cmp_pos {a b : ByteArray} (h : lt a b = false) (h2 : a ≠ b) : cmp a b = 1 := by unfold cmp; rw [h]; simp [h2]

/-- i is the place of the key: all ahead are below it, none from there on is -/
structure Spot (l : List Pair) (k : ByteArray) (i : Nat) : Prop where
  le : i ≤ l.length
  ahead : ∀ (j : Nat) (h : j < l.length), j < i → lt (l[j]).key k = true
  behind : ∀ (j : Nat) (h : j < l.length), i ≤ j → lt (l[j]).key k = false

theorem Spot.tail {q : Pair} {r : List Pair} {k : ByteArray} {i : Nat} (h : Spot (q :: r) k (i + 1)) : Spot r k i :=
  ⟨by have := h.le; simp at this; exact this, fun j hj hi => h.ahead (j + 1) (Nat.succ_lt_succ hj) (by omega), fun j hj hi => h.behind (j + 1) (Nat.succ_lt_succ hj) (by omega)⟩
/-- what rises: below the key goes on to all ahead -/
theorem below_ahead {l : List Pair} (hr : Rising l) {k : ByteArray} (m : Nat) (hm : m < l.length) (h : lt (l[m]).key k = true) : ∀ (j : Nat) (hj : j < l.length), j ≤ m → lt (l[j]).key k = true := by
  intro j hj hjm
  rcases Nat.lt_or_eq_of_le hjm with hlt | rfl
  · exact Stores.lt_trans (List.pairwise_iff_getElem.1 hr j m hj hm hlt) h
  · exact h
theorem not_below_behind {l : List Pair} (hr : Rising l) {k : ByteArray} (m : Nat) (hm : m < l.length) (h : lt (l[m]).key k = false) : ∀ (j : Nat) (hj : j < l.length), m ≤ j → lt (l[j]).key k = false := by
  intro j hj hjm
  cases h2 : lt (l[j]).key k with
  | false => rfl
  | true =>
    have := below_ahead hr j hj h2 m hm hjm
    rw [h] at this
    cases this
/-- it is there -/
theorem Spot.find_yes {l : List Pair} {k : ByteArray} {i : Nat} (h : Spot l k i) (hi : i < l.length) (he : (l[i]).key = k) : find l k = some l[i] := by
  refine Stores.find_at i hi (fun q hq => ?_) he
  obtain ⟨j, hj, rfl⟩ := List.getElem_of_mem hq
  rw [List.length_take] at hj
  rw [List.getElem_take]
  exact Stores.lt_ne (h.ahead j (by omega) (by omega))
/-- it is not -/
theorem Spot.find_no {l : List Pair} {k : ByteArray} {i : Nat} (h : Spot l k i) (hr : Rising l) (he : ∀ (hi : i < l.length), (l[i]).key ≠ k) : find l k = none := by
  refine Stores.find_none.2 fun q hq => ?_
  obtain ⟨j, hj, rfl⟩ := List.getElem_of_mem hq
  rcases Nat.lt_trichotomy j i with hji | rfl | hij
  · exact Stores.lt_ne (h.ahead j hj hji)
  · exact he hj
  · have hi : i < l.length := by omega
    have h1 := List.pairwise_iff_getElem.1 hr i j hi hj hij
    intro e
    rw [e] at h1
    have h2 := h.behind i hi (Nat.le_refl _)
    rw [h2] at h1
    cases h1
theorem Spot.with_no : ∀ {l : List Pair} {p : Pair} {i : Nat}, Spot l p.key i → (∀ (hi : i < l.length), (l[i]).key ≠ p.key) → withP l p = l.take i ++ [p] ++ l.drop i
  | [], p, i, h, _ => by
    have := h.le
    simp at this
    subst this
    rfl
  | q :: r, p, 0, h, he => by
    have h1 := h.behind 0 (by simp) (Nat.le_refl _)
    have h2 := he (by simp)
    simp only [List.getElem_cons_zero] at h1 h2
    rw [withP, if_neg (by rw [h1]; decide), if_neg h2]
    rfl
  | q :: r, p, i + 1, h, he => by
    have h1 := h.ahead 0 (by simp) (by omega)
    simp only [List.getElem_cons_zero] at h1
    rw [withP, if_pos h1, Spot.with_no h.tail fun hi => he (Nat.succ_lt_succ hi)]
    rfl
theorem Spot.with_yes : ∀ {l : List Pair} {p : Pair} {i : Nat}, Spot l p.key i → (hi : i < l.length) → (l[i]).key = p.key → withP l p = l.set i p
  | q :: r, p, 0, h, _, he => by
    have h1 := h.behind 0 (by simp) (Nat.le_refl _)
    simp only [List.getElem_cons_zero] at h1 he
    rw [withP, if_neg (by rw [h1]; decide), if_pos he]
    rfl
  | q :: r, p, i + 1, h, hi, he => by
    have h1 := h.ahead 0 (by simp) (by omega)
    simp only [List.getElem_cons_zero] at h1
    rw [withP, if_pos h1, Spot.with_yes h.tail (Nat.lt_of_succ_lt_succ hi) he]
    rfl
theorem filter_true (l : List Pair) : (l.filter fun _ => true) = l := List.filter_eq_self.2 fun _ _ => rfl
/-- one more looked at -/
theorem filter_next {l : List Pair} (f : Pair → Bool) (k : Nat) (hk : k < l.length) : (l.take (k + 1)).filter f = (l.take k).filter f ++ (if f l[k] = true then [l[k]] else []) := by
  rw [List.take_succ_eq_append_getElem hk, List.filter_append]
  congr 1
  by_cases h : f l[k] = true
  · rw [if_pos h]
    simp [h]
  · rw [if_neg h]
    simp [h]
theorem filter_len (l : List Pair) (f : Pair → Bool) (k : Nat) : ((l.take k).filter f).length ≤ k := Nat.le_trans (List.length_filter_le _ _) (by rw [List.length_take]; omega)

end Go.Proofs.YtofaegcljcpceagGreatDoor.Spots
