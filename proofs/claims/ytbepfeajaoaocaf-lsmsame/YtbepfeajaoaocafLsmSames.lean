/-
  Plain mathematics of LsmSame: the same puts into levels and into a store: what one can get is the same, flushed or not, merged or not.
-/
import Derived.Test.YtbepfeajaoaocafLsmLetters
namespace Go.Proofs.Ytbepfeajaoaocaf.LsmSames
open Stores
open Lsms
open LsmLetters (good_put good_flush good_merge put_fine)

theorem limit_flush (x : Lsm) : (flushed x).limit = x.limit := by unfold flushed; split <;> rfl
theorem limit_put (x : Lsm) (p : Pair) : (putted x p).limit = x.limit := by
  unfold putted
  split
  · split
    · rw [limit_flush]
    · rfl
  · rfl
/-- of so many puts -/
structure Same (m : Nat) (x : Lsm) (s : List Pair) (i : Nat) : Prop where
  limit : x.limit = m
  good : LsmLetters.Good x
  size : x.size ≤ i
  rising : Rising s
  len : s.length ≤ i
  keys : ∀ p ∈ s, p.key.size ≤ 200
  val : ∀ k, x.val k = (find s k).filter fun p => !p.gone
theorem Same.start {limit : Nat} (h1 : 1 ≤ limit) (h2 : limit ≤ 60) : Same limit ⟨limit, [], []⟩ [] 0 := ⟨rfl, ⟨h1, h2, by show 0 < limit; omega, Nat.zero_le _⟩, Nat.le_refl _, rising_nil, Nat.le_refl _, (by intro p hp; cases hp), fun _ => rfl⟩
/-- refused by one as by the other -/
theorem Same.err {m : Nat} {x : Lsm} {s : List Pair} {i : Nat} (h : Same m x s i) (hi : i < 60) (p : Pair) : putE x.young p = putE s p := by
  have h1 := h.good.small
  have h2 := h.good.high
  have h3 := h.len
  unfold putE
  by_cases hk : keyE p.key ≠ 0
  · rw [if_pos hk, if_pos hk]
  · rw [if_neg hk, if_neg hk]
    by_cases hv : 200 < p.val.size
    · rw [if_pos (.inl hv), if_pos (.inl hv)]
    · rw [if_neg, if_neg]
      · rintro (q | ⟨_, q⟩)
        · exact hv q
        · omega
      · rintro (q | ⟨_, q⟩)
        · exact hv q
        · omega
theorem Same.put {m : Nat} {x : Lsm} {s : List Pair} {i : Nat} (h : Same m x s i) (hi : i < 60) (p : Pair) : Same m (putted x p) (putL s p) (i + 1) := by
  have he := h.err hi p
  by_cases h0 : putE s p = 0
  · refine ⟨by rw [limit_put]; exact h.limit, good_put h.good p, ?_, rising_put p h.rising, ?_, fun q hq => ?_, fun k => ?_⟩
    · have := size_put x p
      have := h.size
      omega
    · have := with_le s p
      have := h.len
      rw [show putL s p = withP s p from if_pos h0]
      omega
    · rw [show putL s p = withP s p from if_pos h0] at hq
      rcases mem_with s p q hq with rfl | hq
      · exact (put_ok h0).2.1
      · exact h.keys q hq
    · rw [put_val x p (by rw [he]; exact h0), show putL s p = withP s p from if_pos h0]
      by_cases hk : p.key = k
      · subst hk
        rw [if_pos rfl, find_with_same]
      · rw [if_neg hk, find_with_other s p (fun e => hk e.symm), h.val]
  · rw [put_same x p (by rw [he]; exact h0), show putL s p = s from if_neg h0]
    exact ⟨h.limit, h.good, by have := h.size; omega, h.rising, by have := h.len; omega, h.keys, h.val⟩
theorem Same.flush {m : Nat} {x : Lsm} {s : List Pair} {i : Nat} (h : Same m x s i) : Same m (flushed x) s i :=
  ⟨by rw [limit_flush]; exact h.limit, good_flush h.good, Nat.le_trans (size_flush x) h.size, h.rising, h.len, h.keys, fun k => by rw [flush_val, h.val]⟩
theorem Same.merge {m : Nat} {x : Lsm} {s : List Pair} {i : Nat} (h : Same m x s i) : Same m (merged x) s i :=
  ⟨h.limit, good_merge h.good, Nat.le_trans (size_merge x) h.size, h.rising, h.len, h.keys, fun k => by rw [merge_val, h.val]⟩
theorem Same.all {m : Nat} {x : Lsm} {s : List Pair} {i : Nat} (h : Same m x s i) : x.all = alive s :=
  rising_ext (all_rising x) (rising_alive h.rising) fun k => by rw [all_find, h.val, find_alive h.rising]
theorem Same.get {m : Nat} {x : Lsm} {s : List Pair} {i : Nat} (h : Same m x s i) (k : ByteArray) : getLE x k = getE s k ∧ getLV x k = getV s k := by
  unfold getLE getLV getE getV
  rw [h.val]
  cases find s k with
  | none => exact ⟨rfl, rfl⟩
  | some p =>
    obtain ⟨a, b, g⟩ := p
    cases g <;> exact ⟨rfl, rfl⟩
theorem alive_all (s : List Pair) : alive (s.take s.length) = alive s := by rw [List.take_of_length_le (Nat.le_refl _)]
theorem alive_le (s : List Pair) (j : Nat) : (alive (s.take j)).length ≤ s.length := by
  have h := List.length_filter_le (fun p : Pair => !p.gone) (s.take j)
  have h2 := List.length_take_le j s
  unfold alive
  rw [List.length_take] at h
  omega
/-- the law's own -/
def pa : Pair := ⟨⟨#[97]⟩, ⟨#[120]⟩, false⟩
theorem one_put : putE [] pa = 0 := by decide +kernel
theorem one_is : putted ⟨1, [], []⟩ pa = ⟨1, [], [[pa]]⟩ := by
  unfold putted
  rw [if_pos one_put]
  rfl
theorem one_get : getLE ⟨1, [], [[pa]]⟩ ⟨#[97]⟩ = 0 ∧ getLV ⟨1, [], [[pa]]⟩ ⟨#[97]⟩ = ⟨#[120]⟩ := by decide +kernel

end Go.Proofs.Ytbepfeajaoaocaf.LsmSames
