/-
  Plain mathematics of pairs that are kept by key: the order of keys, a pair put among those that rise, what is there of a key, and what lies between two.
-/
import Derived.Test.YtfpkngpgmllhnaaGreatDoorMirPlain
import Derived.WalkKit
namespace Go.Proofs.YtfpkngpgmllhnaaGreatDoor.Stores

/-! the order of keys -/
abbrev less := Op.bytesLess
theorem less_irrefl : ∀ x : List UInt8, less x x = false
  | [] => rfl
  | a :: x => by simp [less, Op.bytesLess, less_irrefl x]
theorem less_trans : ∀ {x y z : List UInt8}, less x y = true → less y z = true → less x z = true
  | [], _ :: _, _ :: _, _, _ => rfl
  | [], [], _, h, _ => by cases h
  | [], _ :: _, [], _, h => by cases h
  | _ :: _, [], _, h, _ => by cases h
  | _ :: _, _ :: _, [], _, h => by cases h
  | a :: x, b :: y, c :: z, h1, h2 => by
    simp only [less, Op.bytesLess, Bool.or_eq_true, decide_eq_true_eq, Bool.and_eq_true, beq_iff_eq] at h1 h2 ⊢
    rcases h1 with h1 | ⟨rfl, h1⟩
    · rcases h2 with h2 | ⟨rfl, h2⟩
      · exact .inl (UInt8.lt_trans h1 h2)
      · exact .inl h1
    · rcases h2 with h2 | ⟨rfl, h2⟩
      · exact .inl h2
      · exact .inr ⟨rfl, less_trans h1 h2⟩
theorem less_asymm {x y : List UInt8} (h : less x y = true) : less y x = false := by
  cases h2 : less y x with
  | false => rfl
  | true =>
    have := less_trans h h2
    rw [less_irrefl] at this
    cases this
theorem less_total : ∀ {x y : List UInt8}, less x y = false → less y x = false → x = y
  | [], [], _, _ => rfl
  | [], _ :: _, h, _ => by cases h
  | _ :: _, [], _, h => by cases h
  | a :: x, b :: y, h1, h2 => by
    simp only [less, Op.bytesLess, Bool.or_eq_false_iff, decide_eq_false_iff_not, Bool.and_eq_false_imp, beq_iff_eq] at h1 h2
    have e : a = b := by
      apply UInt8.toNat_inj.1
      have g1 := h1.1
      have g2 := h2.1
      rw [UInt8.lt_iff_toNat_lt] at g1 g2
      omega
    subst e
    rw [less_total (h1.2 rfl) (h2.2 rfl)]

/-! pairs -/
structure Pair where
  key : ByteArray
  val : ByteArray
  gone : Bool
deriving DecidableEq, Inhabited
abbrev lt (a b : ByteArray) : Bool := less a.toList b.toList
theorem lt_irrefl (a : ByteArray) : lt a a = false := less_irrefl _
theorem lt_trans {a b c : ByteArray} (h : lt a b = true) (h2 : lt b c = true) : lt a c = true := less_trans h h2
theorem lt_asymm {a b : ByteArray} (h : lt a b = true) : lt b a = false := less_asymm h
theorem lt_ne {a b : ByteArray} (h : lt a b = true) : a ≠ b := fun e => by rw [e, lt_irrefl] at h; cases h
theorem toList_inj {a b : ByteArray} (h : a.toList = b.toList) : a = b := by
  rw [ByteArray.toList_eq, ByteArray.toList_eq] at h
  exact ByteArray.ext (Array.toList_inj.1 h)
theorem lt_total {a b : ByteArray} (h : lt a b = false) (h2 : lt b a = false) : a = b := toList_inj (less_total h h2)
/-- 'not above, and not above' goes on -/
theorem le_trans {a b c : ByteArray} (h : lt b a = false) (h2 : lt c b = false) : lt c a = false := by
  cases h3 : lt c a with
  | false => rfl
  | true =>
    cases h4 : lt a b with
    | true =>
      have := lt_trans h3 h4
      rw [h2] at this
      cases this
    | false =>
      rw [lt_total h4 h] at h3
      rw [h2] at h3
      cases h3
theorem lt_of_lt_of_le {a b c : ByteArray} (h : lt a b = true) (h2 : lt c b = false) : lt a c = true := by
  cases h3 : lt a c with
  | true => rfl
  | false =>
    have := le_trans h2 h3
    rw [h] at this
    cases this

/-- each key is above the one ahead of it -/
def Rising (l : List Pair) : Prop := l.Pairwise fun p q => lt p.key q.key = true
/-- one pair put among others -/
def withP : List Pair → Pair → List Pair
  | [], p => [p]
  | q :: r, p => if lt q.key p.key = true then q :: withP r p else p :: (if q.key = p.key then r else q :: r)
def find (l : List Pair) (k : ByteArray) : Option Pair := l.find? fun p => decide (p.key = k)
theorem find_nil (k : ByteArray) : find [] k = none := rfl
theorem find_cons (q : Pair) (r : List Pair) (k : ByteArray) : find (q :: r) k = if q.key = k then some q else find r k := by
  unfold find
  rw [List.find?_cons]
  by_cases h : q.key = k
  · rw [if_pos h, decide_eq_true h]
  · rw [if_neg h, decide_eq_false h]
theorem find_key {l : List Pair} {k : ByteArray} {p : Pair} (h : find l k = some p) : p.key = k := of_decide_eq_true (List.find?_some h :)
theorem find_none {l : List Pair} {k : ByteArray} : find l k = none ↔ ∀ p ∈ l, p.key ≠ k := by
  unfold find
  rw [List.find?_eq_none]
  simp
theorem mem_with : ∀ (l : List Pair) (p x : Pair), x ∈ withP l p → x = p ∨ x ∈ l
  | [], p, x, h => by
    simp only [withP, List.mem_singleton] at h
    exact .inl h
  | q :: r, p, x, h => by
    unfold withP at h
    split at h
    · rcases List.mem_cons.1 h with rfl | h
      · exact .inr (List.mem_cons_self ..)
      · exact (mem_with r p x h).imp_right (List.mem_cons_of_mem _)
    · rcases List.mem_cons.1 h with h | h
      · exact .inl h
      · split at h
        · exact .inr (List.mem_cons_of_mem _ h)
        · exact .inr h
theorem rising_with : ∀ {l : List Pair} (p : Pair), Rising l → Rising (withP l p)
  | [], p, _ => List.pairwise_singleton _ _
  | q :: r, p, h => by
    obtain ⟨h1, h2⟩ := List.pairwise_cons.1 h
    unfold withP
    split
    · rename_i hq
      refine List.pairwise_cons.2 ⟨fun x hx => ?_, rising_with p h2⟩
      rcases mem_with r p x hx with rfl | hx
      · exact hq
      · exact h1 x hx
    · rename_i hq
      split
      · rename_i he
        exact List.pairwise_cons.2 ⟨fun x hx => by rw [← he]; exact h1 x hx, h2⟩
      · rename_i he
        have hlt : lt p.key q.key = true := by
          cases h3 : lt p.key q.key with
          | true => rfl
          | false => exact absurd (lt_total (by simpa using hq) h3) he
        refine List.pairwise_cons.2 ⟨fun x hx => ?_, h⟩
        rcases List.mem_cons.1 hx with rfl | hx
        · exact hlt
        · exact lt_trans hlt (h1 x hx)
theorem find_with_same : ∀ (l : List Pair) (p : Pair), find (withP l p) p.key = some p
  | [], p => by rw [withP, find_cons, if_pos rfl]
  | q :: r, p => by
    unfold withP
    split
    · rename_i hq
      rw [find_cons, if_neg (lt_ne hq), find_with_same r p]
    · rw [find_cons, if_pos rfl]
theorem find_with_other : ∀ (l : List Pair) (p : Pair) {k : ByteArray}, k ≠ p.key → find (withP l p) k = find l k
  | [], p, k, h => by rw [withP, find_cons, if_neg (fun e => h e.symm)]
  | q :: r, p, k, h => by
    unfold withP
    split
    · rw [find_cons, find_cons, find_with_other r p h]
    · rw [find_cons, if_neg (fun e => h e.symm)]
      split
      · rename_i he
        rw [find_cons, if_neg (fun e => h (e.symm.trans he))]
      · rfl
theorem with_length : ∀ {l : List Pair} (p : Pair), Rising l → (withP l p).length = if find l p.key = none then l.length + 1 else l.length
  | [], p, _ => rfl
  | q :: r, p, h => by
    obtain ⟨h1, h2⟩ := List.pairwise_cons.1 h
    unfold withP
    rw [find_cons]
    split
    · rename_i hq
      rw [if_neg (lt_ne hq), List.length_cons, with_length p h2]
      split <;> simp
    · rename_i hq
      by_cases he : q.key = p.key
      · rw [if_pos he, if_pos he]
        simp
      · rw [if_neg he, if_neg he]
        have hlt : lt p.key q.key = true := by
          cases h3 : lt p.key q.key with
          | true => rfl
          | false => exact absurd (lt_total (by simpa using hq) h3) he
        have hn : find r p.key = none := find_none.2 fun x hx => (lt_ne (lt_trans hlt (h1 x hx))).symm
        rw [if_pos hn]
        simp
/-- a pair put behind all -/
theorem with_end : ∀ {l : List Pair} {p : Pair}, (∀ q ∈ l, lt q.key p.key = true) → withP l p = l ++ [p]
  | [], _, _ => rfl
  | q :: r, p, h => by
    rw [withP, if_pos (h q (List.mem_cons_self ..)), with_end fun x hx => h x (List.mem_cons_of_mem _ hx)]
    rfl

/-! what a store answers -/
def keyE (k : ByteArray) : Nat := if k.size = 0 then 2 else if 200 < k.size then 4 else 0
def putE (l : List Pair) (p : Pair) : Nat := if keyE p.key ≠ 0 then keyE p.key else if 200 < p.val.size ∨ (find l p.key = none ∧ 60 ≤ l.length) then 4 else 0
def putL (l : List Pair) (p : Pair) : List Pair := if putE l p = 0 then withP l p else l
theorem put_ok {l : List Pair} {p : Pair} (h : putE l p = 0) : 0 < p.key.size ∧ p.key.size ≤ 200 ∧ p.val.size ≤ 200 ∧ (find l p.key = none → l.length < 60) := by
  unfold putE at h
  split at h
  · rename_i hk
    exact absurd h hk
  · rename_i hk
    have hk : keyE p.key = 0 := Decidable.not_not.1 hk
    unfold keyE at hk
    split at hk
    · cases hk
    · split at hk
      · cases hk
      · split at h
        · cases h
        · rename_i h3
          refine ⟨by omega, by omega, ?_, fun hn => ?_⟩
          · exact Nat.not_lt.1 fun g => h3 (.inl g)
          · exact Nat.not_le.1 fun g => h3 (.inr ⟨hn, g⟩)
theorem rising_put {l : List Pair} (p : Pair) (h : Rising l) : Rising (putL l p) := by
  unfold putL
  split
  · exact rising_with p h
  · exact h
theorem put_length {l : List Pair} (p : Pair) (h : Rising l) (hl : l.length ≤ 60) : (putL l p).length ≤ 60 := by
  unfold putL
  split
  · rename_i h0
    rw [with_length p h]
    split
    · rename_i hn
      exact (put_ok h0).2.2.2 hn
    · exact hl
  · exact hl
/-- what is there of a key -/
def getE (l : List Pair) (k : ByteArray) : Nat := match find l k with
  | some p => if p.gone = true then 5 else 0
  | none => 5
def getV (l : List Pair) (k : ByteArray) : ByteArray := match find l k with
  | some p => if p.gone = true then ⟨#[]⟩ else p.val
  | none => ⟨#[]⟩
/-- what lies between two -/
def range (l : List Pair) (a b : ByteArray) : List Pair := l.filter fun p => !lt p.key a && lt p.key b
theorem range_parts : ∀ {l : List Pair} {a c b : ByteArray}, Rising l → lt c a = false → lt b c = false → range l a c ++ range l c b = range l a b
  | [], _, _, _, _, _, _ => rfl
  | q :: r, a, c, b, h, h1, h2 => by
    obtain ⟨g1, g2⟩ := List.pairwise_cons.1 h
    have ih := range_parts (l := r) g2 h1 h2
    unfold range at ih ⊢
    by_cases hc : lt q.key c = true
    · -- in the first part, or ahead of all
      have hb : lt q.key b = true := lt_of_lt_of_le hc h2
      cases ha : lt q.key a with
      | true => simp only [List.filter_cons, ha, hc, hb, Bool.not_true, Bool.false_and, Bool.false_eq_true, if_false]; exact ih
      | false =>
        simp only [List.filter_cons, ha, hc, hb, Bool.not_false, Bool.not_true, Bool.true_and, Bool.false_and, Bool.false_eq_true, if_true, if_false, List.cons_append]
        rw [ih]
    · have hc : lt q.key c = false := by simpa using hc
      have ha : lt q.key a = false := le_trans h1 hc
      -- behind: none of the first part follows
      have hn : r.filter (fun p => !lt p.key a && lt p.key c) = [] := by
        rw [List.filter_eq_nil_iff]
        intro x hx
        have : lt x.key c = false := le_trans hc (lt_asymm (g1 x hx))
        simp [this]
      rw [hn] at ih
      simp only [List.filter_cons, ha, hc, Bool.not_false, Bool.true_and, Bool.and_false, Bool.false_eq_true, if_false, hn, List.nil_append]
      rw [← ih]
      rfl

/-! as the document puts one: with each pair in turn -/
/-- none ahead of k has the key -/
theorem find_at {l : List Pair} {k : ByteArray} (j : Nat) (hj : j < l.length) (h : ∀ q ∈ l.take j, q.key ≠ k) (he : (l[j]).key = k) : find l k = some l[j] := by
  have e : l = l.take j ++ l[j] :: l.drop (j + 1) := by rw [List.getElem_cons_drop, List.take_append_drop]
  have h1 : find (l.take j ++ l[j] :: l.drop (j + 1)) k = some l[j] := by
    unfold find
    rw [List.find?_append, List.find?_eq_none.2 (fun q hq => by simpa using h q hq), List.find?_cons, decide_eq_true he]
    rfl
  rw [← e] at h1
  exact h1
theorem find_not {l : List Pair} {k : ByteArray} (n : Nat) (hn : l.length ≤ n) (h : ∀ q ∈ l.take n, q.key ≠ k) : find l k = none := by
  rw [List.take_of_length_le hn] at h
  exact find_none.2 h
theorem ahead_next {l : List Pair} {P : Pair → Prop} (j : Nat) (hj : j < l.length) (h : ∀ q ∈ l.take j, P q) (he : P l[j]) : ∀ q ∈ l.take (j + 1), P q := by
  intro q hq
  rw [List.take_succ_eq_append_getElem hj] at hq
  rcases List.mem_append.1 hq with hq | hq
  · exact h q hq
  · rw [List.mem_singleton.1 hq]
    exact he
/-- what is there so far, and whether it was put -/
def outL (l : List Pair) (p : Pair) (k : Nat) (b : Bool) : List Pair := if b = true then withP (l.take k) p else l.take k
/-- all ahead are below, or one is not -/
def At (l : List Pair) (p : Pair) (k : Nat) : Bool → Prop
  | false => ∀ q ∈ l.take k, lt q.key p.key = true
  | true => ∃ q ∈ l.take k, lt q.key p.key = false
theorem with_append : ∀ {m : List Pair} {p : Pair} (r : List Pair), (∃ x ∈ m, lt x.key p.key = false) → withP (m ++ r) p = withP m p ++ r
  | [], _, _, h => by
    obtain ⟨x, hx, _⟩ := h
    cases hx
  | q :: m, p, r, h => by
    rw [List.cons_append, withP, withP]
    by_cases hq : lt q.key p.key = true
    · rw [if_pos hq, if_pos hq, List.cons_append, with_append r]
      obtain ⟨x, hx, h1⟩ := h
      rcases List.mem_cons.1 hx with rfl | hx
      · rw [hq] at h1
        cases h1
      · exact ⟨x, hx, h1⟩
    · rw [if_neg hq, if_neg hq, List.cons_append]
      split <;> rfl
theorem out_zero (l : List Pair) (p : Pair) : outL l p 0 false = [] := rfl
theorem at_zero (l : List Pair) (p : Pair) : At l p 0 false := fun q hq => by cases hq
/-- below it: it goes on -/
theorem out_below {l : List Pair} {p : Pair} {k : Nat} (hk : k < l.length) (hq : lt (l[k]).key p.key = true) (h : At l p k false) : outL l p (k + 1) false = outL l p k false ++ [l[k]] ∧ At l p (k + 1) false :=
  ⟨List.take_succ_eq_append_getElem hk, ahead_next (P := fun q => lt q.key p.key = true) k hk h hq⟩
/-- here it is put -/
theorem out_here {l : List Pair} {p : Pair} {k : Nat} (hk : k < l.length) (hq : lt (l[k]).key p.key = false) (h : At l p k false) : outL l p (k + 1) true = outL l p k false ++ [p] ++ (if (l[k]).key = p.key then [] else [l[k]]) ∧ At l p (k + 1) true := by
  refine ⟨?_, l[k], ?_, hq⟩
  · show withP (l.take (k + 1)) p = l.take k ++ [p] ++ _
    rw [List.take_succ_eq_append_getElem hk]
    generalize l[k] = q at hq
    have h : ∀ q ∈ l.take k, lt q.key p.key = true := h
    generalize l.take k = m at h
    induction m with
    | nil =>
      rw [List.nil_append, withP, if_neg (by rw [hq]; decide)]
      split <;> rfl
    | cons x m ih =>
      rw [List.cons_append, withP, if_pos (h x (List.mem_cons_self ..)), ih fun y hy => h y (List.mem_cons_of_mem _ hy)]
      rfl
  · rw [List.take_succ_eq_append_getElem hk]
    exact List.mem_append_right _ (List.mem_singleton.2 rfl)
/-- behind it: it goes on -/
theorem out_behind {l : List Pair} {p : Pair} {k : Nat} (hk : k < l.length) (hr : Rising l) (h : At l p k true) : (l[k]).key ≠ p.key ∧ outL l p (k + 1) true = outL l p k true ++ [l[k]] ∧ At l p (k + 1) true := by
  obtain ⟨x, hx, h1⟩ := h
  refine ⟨?_, ?_, x, ?_, h1⟩
  · obtain ⟨i, hi, rfl⟩ := List.getElem_of_mem hx
    rw [List.length_take] at hi
    rw [List.getElem_take] at h1
    have hlt := List.pairwise_iff_getElem.1 hr i k (by omega) hk (by omega)
    intro e
    rw [e] at hlt
    rw [h1] at hlt
    cases hlt
  · show withP (l.take (k + 1)) p = withP (l.take k) p ++ [l[k]]
    rw [List.take_succ_eq_append_getElem hk]
    exact with_append _ ⟨x, hx, h1⟩
  · rw [List.take_succ_eq_append_getElem hk]
    exact List.mem_append_left _ hx
/-- at the end -/
theorem out_end {l : List Pair} {p : Pair} {n : Nat} (hn : l.length ≤ n) : (At l p n true → outL l p n true = withP l p) ∧ (At l p n false → outL l p n false ++ [p] = withP l p) := by
  unfold outL At
  rw [List.take_of_length_le hn]
  exact ⟨fun _ => rfl, fun h => (with_end h).symm⟩

end Go.Proofs.YtfpkngpgmllhnaaGreatDoor.Stores
