/-
  Plain mathematics of LsmPlays: what an lsm never leaves, whatever is put, flushed and merged: its levels can be written as tables.
-/
import Derived.Test.YtbepfeajaoaocafLsmLetters
import Derived.Test.YtbepfeajaoaocafTabs
namespace Go.Proofs.Ytbepfeajaoaocaf.LsmFines
open Stores
open Lsms
open Tabs (pairsE pairsF fault)
open LsmLetters (good_put good_flush good_merge)

/-- a pair that a table takes -/
def Ok (p : Pair) : Prop := keyE p.key = 0 ∧ p.val.size ≤ 200 ∧ (p.gone = true → p.val.size = 0)
theorem pairsF_of : ∀ (l : List Pair) (q : Option ByteArray), Rising l → (∀ p ∈ l, Ok p) → (∀ k, q = some k → ∀ p ∈ l, lt k p.key = true) → pairsF q l = 0
  | [], _, _, _, _ => rfl
  | p :: l, q, hr, ho, hq => by
    obtain ⟨h1, h2⟩ := List.pairwise_cons.1 hr
    obtain ⟨o1, o2, o3⟩ := ho p (List.mem_cons_self ..)
    have hf : fault q p = 0 := by
      unfold fault
      rw [if_neg (by rw [o1]; exact fun g => g rfl), if_neg (by omega), if_neg (by rintro ⟨g, e⟩; exact e (o3 g))]
      cases q with
      | none => rfl
      | some k => exact if_pos (hq k rfl p (List.mem_cons_self ..))
    rw [pairsF, if_neg (by rw [hf]; exact fun g => g rfl)]
    exact pairsF_of l (some p.key) h2 (fun y hy => ho y (List.mem_cons_of_mem _ hy)) fun k e y hy => by
      obtain rfl : p.key = k := by simpa using e
      exact h1 y hy
theorem pairs_of {l : List Pair} (hr : Rising l) (ho : ∀ p ∈ l, Ok p) : pairsE l = 0 := pairsF_of l none hr ho fun k e => by cases e
theorem mem_join : ∀ (l a : List Pair) (y : Pair), y ∈ joinL a l → y ∈ a ∨ y ∈ l
  | [], a, y, h => .inl h
  | p :: l, a, y, h => by
    rw [joinL] at h
    rcases mem_join l _ y h with h | h
    · split at h
      · rcases mem_with a p y h with rfl | h
        · exact .inr (List.mem_cons_self ..)
        · exact .inl h
      · exact .inl h
    · exact .inr (List.mem_cons_of_mem _ h)
theorem mem_liveA : ∀ (r : List (List Pair)) (a : List Pair) (y : Pair), y ∈ liveA a r → y ∈ a ∨ ∃ l ∈ r, y ∈ l
  | [], a, y, h => .inl h
  | l :: r, a, y, h => by
    rcases mem_liveA r _ y h with h | ⟨m, hm, hy⟩
    · rcases mem_join l a y h with h | h
      · exact .inl h
      · exact .inr ⟨l, List.mem_cons_self .., h⟩
    · exact .inr ⟨m, List.mem_cons_of_mem _ hm, hy⟩
theorem mem_live {r : List (List Pair)} {y : Pair} (h : y ∈ live r) : ∃ l ∈ r, y ∈ l := by
  rcases mem_liveA r [] y (List.mem_filter.1 h).1 with h | h
  · cases h
  · exact h
/-- after so many puts -/
structure Fine (m : Nat) (x : Lsm) (i : Nat) : Prop where
  limit : x.limit = m
  good : LsmLetters.Good x
  size : x.size ≤ i
  young : Rising x.young ∧ ∀ p ∈ x.young, Ok p
  levels : ∀ l ∈ x.levels, Rising l ∧ ∀ p ∈ l, Ok p
theorem Fine.start {m : Nat} (h1 : 1 ≤ m) (h2 : m ≤ 60) : Fine m ⟨m, [], []⟩ 0 := ⟨rfl, ⟨h1, h2, by show 0 < m; omega, Nat.zero_le _⟩, Nat.le_refl _, ⟨rising_nil, fun p hp => by cases hp⟩, fun l hl => by cases hl⟩
theorem Fine.more {m i : Nat} {x : Lsm} (h : Fine m x i) : Fine m x (i + 1) := ⟨h.limit, h.good, by have := h.size; omega, h.young, h.levels⟩
theorem mergeV_fine {x : Lsm} (h : ∀ l ∈ x.levels, Rising l ∧ ∀ p ∈ l, Ok p) : ∀ l ∈ mergeV x, Rising l ∧ ∀ p ∈ l, Ok p := by
  intro l hl
  unfold mergeV at hl
  split at hl
  · cases hl
  · split at hl
    · cases hl
    · rw [List.mem_singleton.1 hl]
      refine ⟨live_rising _, fun p hp => ?_⟩
      obtain ⟨q, hq, hpq⟩ := mem_live hp
      exact (h q hq).2 p hpq
theorem Fine.merge {m i : Nat} {x : Lsm} (h : Fine m x i) : Fine m (merged x) i := ⟨h.limit, good_merge h.good, Nat.le_trans (size_merge x) h.size, h.young, mergeV_fine h.levels⟩
theorem flush_limit (x : Lsm) : (flushed x).limit = x.limit := by unfold flushed; split <;> rfl
theorem room_fine {x : Lsm} (h : ∀ l ∈ x.levels, Rising l ∧ ∀ p ∈ l, Ok p) : ∀ l ∈ room x, Rising l ∧ ∀ p ∈ l, Ok p := by
  unfold room
  split
  · exact mergeV_fine h
  · exact h
theorem Fine.flush {m i : Nat} {x : Lsm} (h : Fine m x i) : Fine m (flushed x) i := by
  refine ⟨by rw [flush_limit]; exact h.limit, good_flush h.good, Nat.le_trans (size_flush x) h.size, ?_, ?_⟩
  · unfold flushed
    split
    · exact h.young
    · exact ⟨rising_nil, fun p hp => by cases hp⟩
  · unfold flushed
    split
    · exact h.levels
    · intro l hl
      rcases List.mem_cons.1 hl with rfl | hl
      · exact h.young
      · exact room_fine h.levels l hl
theorem Fine.put {m i : Nat} {x : Lsm} (h : Fine m x i) (p : Pair) (hg : p.gone = true → p.val.size = 0) : Fine m (putted x p) (i + 1) := by
  by_cases h0 : putE x.young p = 0
  · have hok : Ok p := by
      have h1 := put_ok h0
      refine ⟨?_, h1.2.2.1, hg⟩
      unfold keyE
      rw [if_neg (by omega), if_neg (by omega)]
    have hy : Rising (withP x.young p) ∧ ∀ q ∈ withP x.young p, Ok q := ⟨rising_with p h.young.1, fun q hq => by
      rcases mem_with _ _ _ hq with rfl | hq
      · exact hok
      · exact h.young.2 q hq⟩
    refine ⟨?_, good_put h.good p, by have := size_put x p; have := h.size; omega, ?_, ?_⟩
    · unfold putted
      rw [if_pos h0]
      split
      · rw [flush_limit]; exact h.limit
      · exact h.limit
    · unfold putted
      rw [if_pos h0]
      split
      · unfold flushed
        split
        · exact hy
        · exact ⟨rising_nil, fun p hp => by cases hp⟩
      · exact hy
    · unfold putted
      rw [if_pos h0]
      split
      · unfold flushed
        split
        · exact h.levels
        · intro l hl
          rcases List.mem_cons.1 hl with rfl | hl
          · exact hy
          · exact room_fine (x := { x with young := withP x.young p }) h.levels l hl
      · exact h.levels
  · rw [put_same x p h0]
    exact h.more
theorem total_mem : ∀ {r : List (List Pair)} {l : List Pair}, l ∈ r → l.length ≤ total r
  | a :: r, l, h => by
    rcases List.mem_cons.1 h with rfl | h
    · simp [total]
    · have := total_mem h
      simp only [total]
      omega
/-- what the tables want -/
theorem Fine.tabs {m i : Nat} {x : Lsm} (h : Fine m x i) : ∀ l ∈ x.levels, pairsE l = 0 ∧ l.length ≤ i := fun l hl =>
  ⟨pairs_of (h.levels l hl).1 (h.levels l hl).2, by
    have h1 := total_mem hl
    have h2 := h.size
    unfold Lsm.size at h2
    omega⟩
/-- what is there of a key, by the list of all -/
theorem all_get (x : Lsm) (k : ByteArray) : getE x.all k = getLE x k ∧ getV x.all k = getLV x k := by
  have hf := all_find x k
  unfold getE getV getLE getLV
  rw [hf]
  unfold Lsm.val
  cases Lsms.look x.lists k with
  | none => exact ⟨rfl, rfl⟩
  | some p =>
    obtain ⟨a, b, g⟩ := p
    cases g <;> exact ⟨rfl, rfl⟩

end Go.Proofs.Ytbepfeajaoaocaf.LsmFines
