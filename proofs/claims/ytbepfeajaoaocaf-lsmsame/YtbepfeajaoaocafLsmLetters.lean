/-
  Plain mathematics of LsmMerges: rising keys that are put one by one, flushed and merged, and dropped one by one: one table, or none.
-/
import Derived.Test.YtbepfeajaoaocafLsms
import Derived.Test.YtbepfeajaoaocafLetters
namespace Go.Proofs.Ytbepfeajaoaocaf.LsmLetters
open Stores
open Letters (ltr ltr_size key_ok ltr_list bytesOf)
open Lsms

theorem rise_all : ∀ i : Fin 110, ∀ j : Fin 110, i.val < j.val → less (bytesOf i.val) (bytesOf j.val) = true := by decide +kernel
theorem rise {i j : Nat} (h : i < j) (hj : j < 110) : lt (ltr i) (ltr j) = true := by
  show less _ _ = true
  rw [ltr_list, ltr_list]
  exact rise_all ⟨i, by omega⟩ ⟨j, hj⟩ h
theorem ltr_inj {i j : Nat} (hi : i < 110) (hj : j < 110) (h : ltr i = ltr j) : i = j := by
  rcases Nat.lt_trichotomy i j with q | q | q
  · exact absurd h (lt_ne (rise q hj))
  · exact q
  · exact absurd h.symm (lt_ne (rise q hi))
def vee : ByteArray := ⟨#[118]⟩
def one (i : Nat) : Pair := ⟨ltr i, vee, false⟩
def off (i : Nat) : Pair := ⟨ltr i, ⟨#[]⟩, true⟩
def V (k : Nat) : List Pair := (List.range k).map one
theorem V_length (k : Nat) : (V k).length = k := by simp [V]
theorem V_succ (k : Nat) : V (k + 1) = V k ++ [one k] := by simp [V, List.range_succ]
theorem V_mem {k : Nat} {p : Pair} (h : p ∈ V k) : ∃ i, i < k ∧ p = one i := by
  obtain ⟨i, hi, rfl⟩ := List.mem_map.1 h
  exact ⟨i, List.mem_range.1 hi, rfl⟩
theorem V_rising : ∀ (k : Nat), k ≤ 110 → Rising (V k)
  | 0, _ => rising_nil
  | k + 1, h => by
    rw [V_succ]
    exact List.pairwise_append.2 ⟨V_rising k (by omega), List.pairwise_singleton _ _, fun p hp q hq => by
      obtain ⟨i, hi, rfl⟩ := V_mem hp
      rw [List.mem_singleton.1 hq]
      exact rise hi (by omega)⟩
theorem find_end (l : List Pair) (p : Pair) (k : ByteArray) : find (l ++ [p]) k = (find l k).or (if p.key = k then some p else none) := by
  unfold find
  rw [List.find?_append]
  congr 1
  by_cases h : p.key = k
  · rw [if_pos h]; simp [h]
  · rw [if_neg h]; simp [h]
theorem V_find : ∀ (k : Nat), k ≤ 110 → ∀ j, j < 110 → find (V k) (ltr j) = if j < k then some (one j) else none
  | 0, _, j, _ => rfl
  | k + 1, h, j, hj => by
    rw [V_succ, find_end, V_find k (by omega) j hj, show (one k).key = ltr k from rfl]
    by_cases h1 : j < k
    · rw [if_pos h1, show (if j < k + 1 then some (one j) else none) = some (one j) from if_pos (by omega)]
      rfl
    · rw [if_neg h1, Option.none_or]
      by_cases h2 : ltr k = ltr j
      · have := ltr_inj (by omega) hj h2
        subst this
        rw [if_pos rfl, if_pos (by omega)]
      · rw [if_neg h2, if_neg]
        intro h3
        have : j = k := by omega
        subst this
        exact h2 rfl

/-! what an lsm never leaves -/
structure Good (x : Lsm) : Prop where
  low : 1 ≤ x.limit
  high : x.limit ≤ 60
  small : x.young.length < x.limit
  few : x.levels.length ≤ 8
theorem merge_few (x : Lsm) : (mergeV x).length ≤ 1 := by
  unfold mergeV
  split
  · exact Nat.zero_le _
  · split
    · exact Nat.zero_le _
    · exact Nat.le_refl _
theorem room_few (x : Lsm) : (room x).length ≤ 7 := by
  unfold room
  split
  · have := merge_few x
    omega
  · omega
theorem good_flush {x : Lsm} (h : Good x) : Good (flushed x) := by
  unfold flushed
  split
  · exact h
  · exact ⟨h.low, h.high, by have := h.low; show 0 < x.limit; omega, by have := room_few x; show (x.young :: room x).length ≤ 8; rw [List.length_cons]; omega⟩
theorem good_merge {x : Lsm} (h : Good x) : Good (merged x) := ⟨h.low, h.high, h.small, by have := merge_few x; show (mergeV x).length ≤ 8; omega⟩
theorem good_put {x : Lsm} (h : Good x) (p : Pair) : Good (putted x p) := by
  unfold putted
  split
  · split
    · unfold flushed
      split
      · rename_i h2
        simp only at h2
        exact ⟨h.low, h.high, by show (withP x.young p).length < x.limit; rw [h2]; have := h.low; simp; omega, h.few⟩
      · exact ⟨h.low, h.high, by have := h.low; show 0 < x.limit; omega, by have := room_few { x with young := withP x.young p }; show (withP x.young p :: room { x with young := withP x.young p }).length ≤ 8; rw [List.length_cons]; omega⟩
    · rename_i h2
      exact ⟨h.low, h.high, by show (withP x.young p).length < x.limit; omega, h.few⟩
  · exact h
theorem put_fine {x : Lsm} (h : Good x) {p : Pair} (hk : keyE p.key = 0) (hv : p.val.size ≤ 200) : putE x.young p = 0 := by
  unfold putE
  rw [hk, if_neg (by decide), if_neg]
  rintro (q | ⟨_, q⟩)
  · omega
  · have := h.high
    have := h.small
    omega
theorem limit_flush (x : Lsm) : (flushed x).limit = x.limit := by unfold flushed; split <;> rfl
/-- tables there are, once there was one -/
theorem levels_flush {x : Lsm} (h : x.levels ≠ []) : (flushed x).levels ≠ [] := by
  unfold flushed
  split
  · exact h
  · exact List.cons_ne_nil _ _
theorem levels_put {x : Lsm} (p : Pair) (h : x.levels ≠ []) : (putted x p).levels ≠ [] := by
  unfold putted
  split
  · split
    · exact levels_flush (x := { x with young := withP x.young p }) h
    · exact h
  · exact h
theorem young_flush (x : Lsm) : (flushed x).young = [] := by
  unfold flushed
  split
  · assumption
  · rfl

/-! the law's own -/
def X0 (limit : Nat) : Lsm := ⟨limit, [], []⟩
def X1 (limit : Nat) : Nat → Lsm
  | 0 => X0 limit
  | k + 1 => putted (X1 limit k) (one k)
def Y0 (limit n : Nat) : Lsm := merged (flushed (X1 limit n))
def X2 (limit n : Nat) : Nat → Lsm
  | 0 => Y0 limit n
  | k + 1 => putted (X2 limit n k) (off k)
theorem good1 {limit : Nat} (h1 : 1 ≤ limit) (h2 : limit ≤ 60) : ∀ k, Good (X1 limit k)
  | 0 => ⟨h1, h2, by show 0 < limit; omega, Nat.zero_le _⟩
  | k + 1 => good_put (good1 h1 h2 k) _
theorem good2 {limit : Nat} (h1 : 1 ≤ limit) (h2 : limit ≤ 60) (n : Nat) : ∀ k, Good (X2 limit n k)
  | 0 => good_merge (good_flush (good1 h1 h2 n))
  | k + 1 => good_put (good2 h1 h2 n k) _
theorem ok1 {limit : Nat} (h1 : 1 ≤ limit) (h2 : limit ≤ 60) (k : Nat) : putE (X1 limit k).young (one k) = 0 := put_fine (good1 h1 h2 k) (key_ok k) (by show vee.size ≤ 200; decide)
theorem ok2 {limit : Nat} (h1 : 1 ≤ limit) (h2 : limit ≤ 60) (n k : Nat) : putE (X2 limit n k).young (off k) = 0 := put_fine (good2 h1 h2 n k) (key_ok k) (by show (⟨#[]⟩ : ByteArray).size ≤ 200; decide)
theorem size1 (limit : Nat) : ∀ k, (X1 limit k).size ≤ k
  | 0 => Nat.le_refl _
  | k + 1 => by
    have := size1 limit k
    have := size_put (X1 limit k) (one k)
    rw [X1]
    omega
theorem size2 (limit n : Nat) : ∀ k, (X2 limit n k).size ≤ n + k
  | 0 => by
    have := size1 limit n
    have := size_flush (X1 limit n)
    have := size_merge (flushed (X1 limit n))
    show (Y0 limit n).size ≤ _
    unfold Y0
    omega
  | k + 1 => by
    have := size2 limit n k
    have := size_put (X2 limit n k) (off k)
    rw [X2]
    omega
theorem val1 {limit : Nat} (h1 : 1 ≤ limit) (h2 : limit ≤ 60) : ∀ (k : Nat), k ≤ 100 → ∀ q, (X1 limit k).val q = find (V k) q
  | 0, _, q => rfl
  | k + 1, h, q => by
    rw [X1, put_val _ _ (ok1 h1 h2 k), val1 h1 h2 k (by omega), V_succ, find_end, show (one k).key = ltr k from rfl]
    by_cases e : ltr k = q
    · subst e
      rw [if_pos rfl, if_pos rfl, V_find k (by omega) k (by omega), if_neg (by omega)]
      rfl
    · rw [if_neg e, if_neg e, Option.or_none]
theorem all1 {limit n : Nat} (h1 : 1 ≤ limit) (h2 : limit ≤ 60) (h : n ≤ 100) : (flushed (X1 limit n)).all = V n ∧ (Y0 limit n).all = V n :=
  ⟨rising_ext (all_rising _) (V_rising n (by omega)) fun k => by rw [all_find, flush_val, val1 h1 h2 n h],
   rising_ext (all_rising _) (V_rising n (by omega)) fun k => by rw [all_find, Y0, merge_val, flush_val, val1 h1 h2 n h]⟩
/-- young ones alone are told of -/
theorem all_young {x : Lsm} (h : x.young = []) : x.all = live x.levels := by
  unfold Lsm.all Lsm.lists live
  rw [h]
  rfl
theorem merge1 {limit n : Nat} (h1 : 1 ≤ limit) (h2 : limit ≤ 60) (h : n ≤ 100) : mergeE (flushed (X1 limit n)) = (if n = 0 then 6 else 0) ∧ (n ≠ 0 → (Y0 limit n).levels = [V n]) := by
  have hy := young_flush (X1 limit n)
  have ha := all_young hy
  rw [(all1 h1 h2 h).1] at ha
  by_cases hn : n = 0
  · subst hn
    exact ⟨rfl, fun q => absurd rfl q⟩
  · have hne : V n ≠ [] := fun e => hn (by rw [← V_length n, e]; rfl)
    have hl : (flushed (X1 limit n)).levels ≠ [] := fun e => hne (by rw [ha, e]; rfl)
    refine ⟨by rw [if_neg hn]; exact if_neg hl, fun _ => ?_⟩
    show mergeV _ = _
    unfold mergeV
    rw [if_neg hl, ← ha, if_neg hne]
theorem levels2 {limit n : Nat} (h1 : 1 ≤ limit) (h2 : limit ≤ 60) (h : n ≤ 100) (hn : n ≠ 0) : ∀ k, (X2 limit n k).levels ≠ []
  | 0 => by rw [X2, (merge1 h1 h2 h).2 hn]; exact List.cons_ne_nil _ _
  | k + 1 => levels_put _ (levels2 h1 h2 h hn k)
theorem val2 {limit n : Nat} (h1 : 1 ≤ limit) (h2 : limit ≤ 60) (h : n ≤ 100) : ∀ (k : Nat) q, (X2 limit n k).val q = if (∃ i, i < k ∧ ltr i = q) then none else find (V n) q
  | 0, q => by
    rw [if_neg (by rintro ⟨i, hi, _⟩; omega), X2, Y0, merge_val, flush_val, val1 h1 h2 n h]
  | k + 1, q => by
    rw [X2, put_val _ _ (ok2 h1 h2 n k), val2 h1 h2 h k, show (off k).key = ltr k from rfl]
    by_cases e : ltr k = q
    · rw [if_pos e, if_pos ⟨k, by omega, e⟩]
      rfl
    · rw [if_neg e]
      by_cases e2 : ∃ i, i < k ∧ ltr i = q
      · rw [if_pos e2, if_pos (by obtain ⟨i, hi, hq⟩ := e2; exact ⟨i, by omega, hq⟩)]
      · rw [if_neg e2, if_neg]
        rintro ⟨i, hi, hq⟩
        by_cases e3 : i = k
        · exact e (by rw [← e3]; exact hq)
        · exact e2 ⟨i, by omega, hq⟩
theorem end2 {limit n : Nat} (h1 : 1 ≤ limit) (h2 : limit ≤ 60) (h : n ≤ 100) (hn : n ≠ 0) :
    mergeE (flushed (X2 limit n n)) = 0 ∧ (merged (flushed (X2 limit n n))).levels = [] ∧ (merged (flushed (X2 limit n n))).all = [] := by
  have hl := levels_flush (levels2 h1 h2 h hn n)
  have hv : ∀ q, (X2 limit n n).val q = none := fun q => by
    rw [val2 h1 h2 h]
    split
    · rfl
    · rename_i h3
      refine find_none.2 fun p hp e => h3 ?_
      obtain ⟨i, hi, rfl⟩ := V_mem hp
      exact ⟨i, hi, e⟩
  have ha : ∀ x : Lsm, (∀ q, x.val q = none) → x.all = [] := fun x hx => rising_ext (all_rising x) rising_nil fun k => by rw [all_find, hx]; rfl
  have h3 : (flushed (X2 limit n n)).all = [] := ha _ fun q => by rw [flush_val, hv]
  refine ⟨if_neg hl, ?_, ha _ fun q => by rw [merge_val, flush_val, hv]⟩
  rw [all_young (young_flush _)] at h3
  show mergeV _ = _
  unfold mergeV
  rw [if_neg hl, if_pos h3]

end Go.Proofs.Ytbepfeajaoaocaf.LsmLetters
