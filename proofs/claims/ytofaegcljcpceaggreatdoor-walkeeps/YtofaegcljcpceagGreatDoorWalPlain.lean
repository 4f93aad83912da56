/-
  Plain mathematics of a log of batches that stops, crashes, and goes on. Nothing of the program is named here.
-/
import Derived.Test.YtofaegcljcpceagGreatDoorPlains
import Derived.Test.YtofaegcljcpceagGreatDoorEntries
namespace Go.Proofs.YtofaegcljcpceagGreatDoor.Wals
open Stores (Pair putE withP)
open Lsms (Lsm putted)

/-- what is wrong with a batch ahead of all -/
def shapeE (l : List Pair) : Nat := if 20 < l.length then 4 else if l.any (fun p => p.gone && decide (p.val.size ≠ 0)) = true then 3 else 0
/-- pair by pair: what comes of it, and the first fault -/
def puts (x : Lsm) : List Pair → Lsm × Nat
  | [] => (x, 0)
  | p :: l => if putE x.young p = 0 then puts (putted x p) l else (x, putE x.young p)
theorem puts_append : ∀ (l m : List Pair) (x : Lsm), puts x (l ++ m) = if (puts x l).2 = 0 then puts (puts x l).1 m else puts x l
  | [], m, x => by rw [List.nil_append]; simp [puts]
  | p :: l, m, x => by
    rw [List.cons_append, puts, puts]
    by_cases h : putE x.young p = 0
    · rw [if_pos h, if_pos h, puts_append l m]
    · rw [if_neg h, if_neg h, if_neg h]
def batchE (x : Lsm) (l : List Pair) : Nat := if shapeE l = 0 then (puts x l).2 else shapeE l
def batched (x : Lsm) (l : List Pair) : Lsm := if batchE x l = 0 then (puts x l).1 else x

/-- what was done: behind each batch the bytes, and what came of it; behind nothing, first -/
structure Wal where
  hist : List (Nat × Lsm)
  tail : Nat
  safe : Nat
  fails : Option Nat
  stopped : Bool
def Wal.last (x : Wal) : Nat × Lsm := x.hist.getLastD (0, ⟨1, [], []⟩)
def Wal.cur (x : Wal) : Lsm := x.last.2
def Wal.bytes (x : Wal) : Nat := x.last.1 + x.tail
def newW (limit : Nat) : Wal := ⟨[(0, ⟨limit, [], []⟩)], 0, 0, none, false⟩
def putWE (x : Wal) (l : List Pair) : Nat := if x.stopped = true then 6 else if batchE x.cur l ≠ 0 then batchE x.cur l else if x.fails = some 0 then 6 else 0
/-- n: how many bytes it has; t: how many of it are there where it stops -/
def putW (x : Wal) (l : List Pair) (n t : Nat) : Wal :=
  if x.stopped = true ∨ batchE x.cur l ≠ 0 then x
  else if x.fails = some 0 then { x with stopped := true, tail := t }
  else { x with hist := x.hist ++ [(x.last.1 + n, batched x.cur l)], fails := x.fails.map (· - 1) }
def syncE (x : Wal) : Nat := if x.stopped = true ∨ x.fails = some 0 then 6 else 0
def syncW (x : Wal) : Wal := if x.stopped = true then x else if x.fails = some 0 then { x with stopped := true } else { x with safe := x.bytes, fails := x.fails.map (· - 1) }
def failW (x : Wal) (n : Int) : Wal := { x with fails := if n < 0 then none else some n.toNat }
/-- how far it is kept -/
def high (x : Wal) (keep : Int) : Nat := if 0 < keep then (if keep < (x.bytes : Int) - x.safe then x.safe + keep.toNat else x.bytes) else x.safe
def crashW (x : Wal) (keep : Int) : Wal :=
  let h := x.hist.filter fun e => decide (e.1 ≤ high x keep)
  ⟨h, 0, (h.getLastD (0, ⟨1, [], []⟩)).1, none, false⟩

/-- it begins with nothing, and goes on from there -/
structure Ok (x : Wal) (limit : Nat) : Prop where
  first : ∃ r, x.hist = (0, ⟨limit, [], []⟩) :: r
  rise : x.hist.Pairwise fun a b => a.1 + 2 ≤ b.1
  safe : x.safe ≤ x.bytes
  whole : x.stopped = false → x.tail = 0
theorem ok_new (limit : Nat) : Ok (newW limit) limit := ⟨⟨[], rfl⟩, List.pairwise_singleton _ _, Nat.zero_le _, fun _ => rfl⟩
theorem ok_fail {x : Wal} {limit : Nat} (h : Ok x limit) (n : Int) : Ok (failW x n) limit := ⟨h.first, h.rise, h.safe, h.whole⟩
theorem last_snoc (x : Wal) (e : Nat × Lsm) : (x.hist ++ [e]).getLastD (0, ⟨1, [], []⟩) = e := by simp
theorem last_ge {x : Wal} {limit : Nat} (h : Ok x limit) : ∀ e ∈ x.hist, e.1 ≤ x.last.1 := by
  intro e he
  have hne : x.hist ≠ [] := by obtain ⟨r, hr⟩ := h.first; rw [hr]; simp
  have el : x.last = x.hist.getLast hne := by unfold Wal.last; rw [List.getLastD_eq_getLast?, List.getLast?_eq_some_getLast hne]; rfl
  have hp := h.rise
  rw [← List.dropLast_concat_getLast hne] at he hp
  rw [List.mem_append, List.mem_singleton] at he
  rw [el]
  rcases he with he | rfl
  · have := (List.pairwise_append.1 hp).2.2 e he _ (List.mem_singleton.2 rfl)
    omega
  · exact Nat.le_refl _
theorem ok_put {x : Wal} {limit : Nat} (h : Ok x limit) (l : List Pair) {n t : Nat} (hn : 2 ≤ n) : Ok (putW x l n t) limit := by
  unfold putW
  split
  · exact h
  · rename_i hs
    have hf : x.stopped = false := by cases q : x.stopped; rfl; exact absurd (.inl q) hs
    split
    · exact ⟨h.first, h.rise, by have := h.safe; have := h.whole hf; unfold Wal.bytes at *; show x.safe ≤ x.last.1 + t; omega, fun q => by cases q⟩
    · obtain ⟨r, hr⟩ := h.first
      refine ⟨⟨r ++ [(x.last.1 + n, batched x.cur l)], by rw [hr]; rfl⟩, ?_, ?_, fun _ => h.whole hf⟩
      · refine List.pairwise_append.2 ⟨h.rise, List.pairwise_singleton _ _, fun a ha b hb => ?_⟩
        rw [List.mem_singleton.1 hb]
        have := last_ge h a ha
        show a.1 + 2 ≤ x.last.1 + n
        omega
      · have hsf := h.safe
        have ht := h.whole hf
        unfold Wal.bytes Wal.last at *
        rw [last_snoc]
        show x.safe ≤ _ + n + x.tail
        omega
theorem ok_sync {x : Wal} {limit : Nat} (h : Ok x limit) : Ok (syncW x) limit := by
  unfold syncW
  split
  · exact h
  · rename_i hs
    split
    · exact ⟨h.first, h.rise, h.safe, fun q => by cases q⟩
    · exact ⟨h.first, h.rise, Nat.le_refl _, h.whole⟩
theorem ok_crash {x : Wal} {limit : Nat} (h : Ok x limit) (keep : Int) : Ok (crashW x keep) limit := by
  obtain ⟨r, hr⟩ := h.first
  refine ⟨⟨r.filter fun e => decide (e.1 ≤ high x keep), ?_⟩, h.rise.filter _, ?_, fun _ => rfl⟩
  · show x.hist.filter _ = _
    rw [hr, List.filter_cons_of_pos (by simp)]
  · exact Nat.le_refl _

/-! how many there are -/
theorem few_put (x : Wal) (l : List Pair) (n t : Nat) : (putW x l n t).hist.length ≤ x.hist.length + 1 := by
  unfold putW
  split
  · omega
  · split
    · exact Nat.le_succ _
    · simp
theorem few_sync (x : Wal) : (syncW x).hist.length = x.hist.length := by
  unfold syncW
  split
  · rfl
  · split <;> rfl
theorem few_crash (x : Wal) (keep : Int) : (crashW x keep).hist.length ≤ x.hist.length := List.length_filter_le _ _

end Go.Proofs.YtofaegcljcpceagGreatDoor.Wals

/-
  Plain mathematics of TopKept: entries that are put one by one into a log of batches, each by its place; what is left of them behind a crash is a beginning of them.
-/
namespace Go.Proofs.YtofaegcljcpceagGreatDoor.WalKept
open Stores
open Lsms
open LsmLetters (good_put put_fine rise ltr_inj find_end X0)
open Letters (ltr key_ok)
open Wals
open Entries (Entry entE)
open Nums (str)

/-- the pair at a place -/
def pr (l : List Entry) (i : Nat) : Pair := ⟨ltr i, str (Entries.bytes (l.getD i (0, ⟨#[]⟩))), false⟩
def P (l : List Entry) (k : Nat) : List Pair := (List.range k).map (pr l)
def Z (l : List Entry) : Nat → Lsm
  | 0 => X0 9
  | k + 1 => putted (Z l k) (pr l k)
theorem P_length (l : List Entry) (k : Nat) : (P l k).length = k := by simp [P]
theorem P_succ (l : List Entry) (k : Nat) : P l (k + 1) = P l k ++ [pr l k] := by simp [P, List.range_succ]
theorem P_at (l : List Entry) {k i : Nat} (h : i < k) : (P l k)[i]'(by rw [P_length]; exact h) = pr l i := by simp [P]
theorem P_rising (l : List Entry) : ∀ (k : Nat), k ≤ 110 → Rising (P l k)
  | 0, _ => rising_nil
  | k + 1, h => by
    rw [P_succ]
    refine List.pairwise_append.2 ⟨P_rising l k (by omega), List.pairwise_singleton _ _, fun p hp q hq => ?_⟩
    obtain ⟨i, hi, rfl⟩ := List.mem_map.1 hp
    rw [List.mem_singleton.1 hq]
    exact rise (List.mem_range.1 hi) (by omega)
theorem P_new (l : List Entry) : ∀ (k : Nat), k ≤ 100 → find (P l k) (ltr k) = none := by
  intro k hk
  refine find_none.2 fun p hp => ?_
  obtain ⟨i, hi, rfl⟩ := List.mem_map.1 hp
  intro e
  have := ltr_inj (by have := List.mem_range.1 hi; omega) (by omega) e
  have := List.mem_range.1 hi
  omega

/-- the first so many entries fit -/
def Fits (l : List Entry) (k : Nat) : Prop := ∀ i (h : i < l.length), i < k → (Entries.bytes l[i]).length ≤ 200
theorem fits_zero (l : List Entry) : Fits l 0 := fun _ _ h => by omega
theorem fits_next {l : List Entry} {k : Nat} (h : Fits l k) (hk : k < l.length) (h2 : (Entries.bytes l[k]).length ≤ 200) : Fits l (k + 1) := fun i hi hik => by
  by_cases e : i = k
  · subst e; exact h2
  · exact h i hi (by omega)
theorem good (l : List Entry) : ∀ k, LsmLetters.Good (Z l k)
  | 0 => ⟨by show 1 ≤ 9; decide, by show 9 ≤ 60; decide, by show 0 < 9; decide, by show 0 ≤ 8; decide⟩
  | k + 1 => good_put (good l k) _
theorem put_ok {l : List Entry} {k : Nat} (h : Fits l (k + 1)) (hk : k < l.length) : putE (Z l k).young (pr l k) = 0 := by
  refine put_fine (good l k) (key_ok k) ?_
  show (str (Entries.bytes (l.getD k (0, ⟨#[]⟩)))).size ≤ 200
  rw [Nums.str_size, List.getD_eq_getElem?_getD, List.getElem?_eq_getElem hk]
  exact h k hk (Nat.lt_succ_self _)
theorem batch_ok {l : List Entry} {k : Nat} (h : Fits l (k + 1)) (hk : k < l.length) : batchE (Z l k) [pr l k] = 0 ∧ batched (Z l k) [pr l k] = Z l (k + 1) := by
  have e1 : shapeE [pr l k] = 0 := by
    unfold shapeE
    rw [if_neg (by simp), if_neg (by simp [pr])]
  have e2 : puts (Z l k) [pr l k] = (Z l (k + 1), 0) := by
    rw [puts, if_pos (put_ok h hk)]
    rfl
  have e3 : batchE (Z l k) [pr l k] = 0 := by unfold batchE; rw [e1, if_pos rfl, e2]
  refine ⟨e3, ?_⟩
  unfold batched
  rw [if_pos e3, e2]
theorem val_is {l : List Entry} : ∀ (k : Nat), Fits l k → k ≤ l.length → k ≤ 100 → ∀ q, (Z l k).val q = find (P l k) q
  | 0, _, _, _, q => rfl
  | k + 1, h, hk, h1, q => by
    rw [Z, put_val _ _ (put_ok h hk), val_is k (fun i hi hik => h i hi (by omega)) (by omega) (by omega), P_succ, find_end, show (pr l k).key = ltr k from rfl]
    by_cases e : ltr k = q
    · subst e
      rw [if_pos rfl, if_pos rfl, P_new l k (by omega)]
      rfl
    · rw [if_neg e, if_neg e, Option.or_none]
theorem all_is {l : List Entry} {k : Nat} (h : Fits l k) (hk : k ≤ l.length) (h1 : k ≤ 100) : (Z l k).all = P l k :=
  rising_ext (all_rising _) (P_rising l k (by omega)) fun q => by rw [all_find, val_is k h hk h1]
theorem size_is (l : List Entry) : ∀ k, (Z l k).size ≤ k
  | 0 => Nat.le_refl _
  | k + 1 => by
    have := size_is l k
    have := size_put (Z l k) (pr l k)
    rw [Z]
    omega

/-- so many are put -/
structure St (l : List Entry) (sync : Int) (x : Wal) (k : Nat) : Prop where
  ok : Ok x 9
  goes : x.stopped = false ∧ x.fails = none
  are : x.hist.map Prod.snd = (List.range (k + 1)).map (Z l)
  safe : ∀ s : Nat, (s : Int) = sync → s < k → ∀ j e, x.hist[j]? = some e → j ≤ s + 1 → e.1 ≤ x.safe
theorem St.length {l : List Entry} {sync : Int} {x : Wal} {k : Nat} (h : St l sync x k) : x.hist.length = k + 1 := by
  have := congrArg List.length h.are
  simpa using this
theorem St.cur {l : List Entry} {sync : Int} {x : Wal} {k : Nat} (h : St l sync x k) : x.cur = Z l k := by
  have hl := h.length
  have hne : x.hist ≠ [] := by intro e; rw [e] at hl; simp at hl
  unfold Wal.cur Wal.last
  rw [List.getLastD_eq_getLast?, List.getLast?_eq_getElem?, hl]
  have e := congrArg (·[k]?) h.are
  simp only [List.getElem?_map] at e
  rw [Nat.add_sub_cancel]
  rw [List.getElem?_range (by omega), Option.map_some] at e
  obtain ⟨y, hy, he⟩ := Option.map_eq_some_iff.1 e
  rw [hy]
  exact he
theorem st_new (l : List Entry) (sync : Int) : St l sync (newW 9) 0 := ⟨ok_new 9, ⟨rfl, rfl⟩, rfl, fun s _ h => by omega⟩
theorem st_put {l : List Entry} {sync : Int} {x : Wal} {k : Nat} (hf : Fits l (k + 1)) (h : St l sync x k) (hk : k < l.length) {n t : Nat} (hn : 2 ≤ n) (hs : (k : Int) ≠ sync) : putWE x [pr l k] = 0 ∧ St l sync (putW x [pr l k] n t) (k + 1) := by
  obtain ⟨e1, e2⟩ := batch_ok hf hk
  rw [← h.cur] at e1 e2
  have hno : ¬ (x.stopped = true ∨ batchE x.cur [pr l k] ≠ 0) := by rw [h.goes.1, e1]; simp
  have hno2 : ¬ x.fails = some 0 := by rw [h.goes.2]; simp
  have e3 : putW x [pr l k] n t = { x with hist := x.hist ++ [(x.last.1 + n, batched x.cur [pr l k])], fails := x.fails.map (· - 1) } := by unfold putW; rw [if_neg hno, if_neg hno2]
  have ok := ok_put h.ok [pr l k] (t := t) hn
  refine ⟨?_, ?_⟩
  · unfold putWE
    rw [h.goes.1, if_neg (by decide), e1, if_neg (by simp), if_neg hno2]
  · rw [e3] at ok ⊢
    refine ⟨ok, ⟨h.goes.1, by show x.fails.map _ = none; rw [h.goes.2]; rfl⟩, ?_, ?_⟩
    · show (x.hist ++ [_]).map Prod.snd = _
      rw [List.map_append, h.are, List.range_succ (n := k + 1), List.map_append]
      congr 1
      show [batched x.cur [pr l k]] = [Z l (k + 1)]
      rw [e2]
    · intro s hs1 hs2 j e he hj
      have hs3 : s < k := by
        rcases Nat.lt_or_ge s k with q | q
        · exact q
        · have : s = k := by omega
          subst this
          exact absurd hs1 hs
      have hl := h.length
      show e.1 ≤ x.safe
      change (x.hist ++ [_])[j]? = some e at he
      rw [List.getElem?_append_left (by omega)] at he
      exact h.safe s hs1 hs3 j e he hj
/-- the one behind which all is made safe -/
theorem st_sync {l : List Entry} {sync : Int} {x : Wal} {k : Nat} (hf : Fits l (k + 1)) (h : St l sync x k) (hk : k < l.length) {n t : Nat} (hn : 2 ≤ n) : putWE x [pr l k] = 0 ∧ syncE (putW x [pr l k] n t) = 0 ∧ St l sync (syncW (putW x [pr l k] n t)) (k + 1) := by
  obtain ⟨e1, e2⟩ := batch_ok hf hk
  rw [← h.cur] at e1 e2
  have hno : ¬ (x.stopped = true ∨ batchE x.cur [pr l k] ≠ 0) := by rw [h.goes.1, e1]; simp
  have hno2 : ¬ x.fails = some 0 := by rw [h.goes.2]; simp
  have e3 : putW x [pr l k] n t = { x with hist := x.hist ++ [(x.last.1 + n, batched x.cur [pr l k])], fails := none } := by unfold putW; rw [if_neg hno, if_neg hno2, h.goes.2]; rfl
  have ok := ok_put h.ok [pr l k] (t := t) hn
  have hst : (putW x [pr l k] n t).stopped = false := by rw [e3]; exact h.goes.1
  have hfa : (putW x [pr l k] n t).fails = none := by rw [e3]
  have e4 : syncW (putW x [pr l k] n t) = { putW x [pr l k] n t with safe := (putW x [pr l k] n t).bytes, fails := none } := by
    unfold syncW
    rw [if_neg (by rw [hst]; decide), if_neg (by rw [hfa]; simp), hfa]
    rfl
  have ok2 := ok_sync ok
  refine ⟨?_, ?_, ?_⟩
  · unfold putWE
    rw [h.goes.1, if_neg (by decide), e1, if_neg (by simp), if_neg hno2]
  · unfold syncE
    rw [if_neg (by rw [hst, hfa]; simp)]
  · rw [e4] at ok2 ⊢
    refine ⟨ok2, ⟨hst, rfl⟩, ?_, ?_⟩
    · show (putW x [pr l k] n t).hist.map Prod.snd = _
      rw [e3]
      show (x.hist ++ [_]).map Prod.snd = _
      rw [List.map_append, h.are, List.range_succ (n := k + 1), List.map_append]
      congr 1
      show [batched x.cur [pr l k]] = [Z l (k + 1)]
      rw [e2]
    · intro s _ _ j e he _
      show e.1 ≤ (putW x [pr l k] n t).bytes
      have := last_ge ok e (List.mem_of_getElem? he)
      unfold Wal.bytes
      omega
/-- a beginning of what rises -/
theorem filter_take (h : Nat) : ∀ (r : List (Nat × Lsm)), r.Pairwise (fun a b => a.1 + 2 ≤ b.1) → ∃ m, m ≤ r.length ∧ r.filter (fun e => decide (e.1 ≤ h)) = r.take m
  | [], _ => ⟨0, Nat.le_refl _, rfl⟩
  | e :: r, hp => by
    obtain ⟨h1, h2⟩ := List.pairwise_cons.1 hp
    by_cases he : e.1 ≤ h
    · obtain ⟨m, hm, q⟩ := filter_take h r h2
      refine ⟨m + 1, by simp; omega, ?_⟩
      rw [List.filter_cons_of_pos (by simpa using he), q]
      rfl
    · refine ⟨0, Nat.zero_le _, ?_⟩
      rw [List.filter_cons_of_neg (by simpa using he)]
      rw [List.filter_eq_nil_iff.2 fun x hx => by have := h1 x hx; simp; omega]
      rfl
theorem high_ge (x : Wal) (limit : Nat) (h : Ok x limit) (keep : Int) : x.safe ≤ high x keep := by
  have := h.safe
  unfold high
  split
  · split <;> omega
  · exact Nat.le_refl _
/-- what is left behind a crash -/
theorem st_crash {l : List Entry} {sync : Int} {x : Wal} {k : Nat} (h : St l sync x k) (keep : Int) : ∃ m, m ≤ k ∧ (crashW x keep).cur = Z l m ∧ (0 ≤ sync → sync < k → sync + 1 ≤ m) := by
  obtain ⟨m, hm, q⟩ := filter_take (high x keep) x.hist h.ok.rise
  have hl := h.length
  obtain ⟨r, hr⟩ := h.ok.first
  have hm0 : m ≠ 0 := by
    intro e
    subst e
    rw [hr, List.filter_cons_of_pos (by simp)] at q
    simp at q
  refine ⟨m - 1, by omega, ?_, ?_⟩
  · unfold Wal.cur Wal.last
    show ((x.hist.filter _).getLastD _).2 = _
    rw [q, List.getLastD_eq_getLast?, List.getLast?_eq_getElem?, List.length_take, show min m x.hist.length - 1 = m - 1 by omega, List.getElem?_take_of_lt (by omega)]
    have e := congrArg (·[m - 1]?) h.are
    simp only [List.getElem?_map] at e
    rw [List.getElem?_range (by omega), Option.map_some] at e
    obtain ⟨y, hy, he⟩ := Option.map_eq_some_iff.1 e
    rw [hy]
    exact he
  · intro h0 h1
    obtain ⟨s, rfl⟩ := Int.eq_ofNat_of_zero_le h0
    have hs : s < k := by omega
    have hg : s + 1 < x.hist.length := by omega
    have h2 := h.safe s rfl hs (s + 1) _ (List.getElem?_eq_getElem hg) (Nat.le_refl _)
    have h3 := high_ge x 9 h.ok keep
    have h4 : x.hist[s + 1] ∈ x.hist.filter (fun e => decide (e.1 ≤ high x keep)) := List.mem_filter.2 ⟨List.getElem_mem hg, decide_eq_true (Nat.le_trans h2 h3)⟩
    rw [q] at h4
    obtain ⟨j, hj, he⟩ := List.getElem_of_mem h4
    rw [List.getElem_take] at he
    rw [List.length_take] at hj
    -- marks rise: no two places have one
    have hjs : j = s + 1 := by
      rcases Nat.lt_trichotomy j (s + 1) with c | c | c
      · have := List.pairwise_iff_getElem.1 h.ok.rise j (s + 1) (by omega) hg c
        rw [he] at this
        omega
      · exact c
      · have := List.pairwise_iff_getElem.1 h.ok.rise (s + 1) j hg (by omega) c
        rw [he] at this
        omega
    omega

end Go.Proofs.YtofaegcljcpceagGreatDoor.WalKept

/-
  Plain mathematics of WalKeeps: what a log of batches says, and has, behind each step, held against the batches themselves.
-/
namespace Go.Proofs.YtofaegcljcpceagGreatDoor.WalHolds
open Stores (Pair)
open Lsms (Lsm)
open Wals

/-- what a batch is told: that it has stopped, or what the batch itself is told -/
theorem told (x : Wal) (l : List Pair) : putWE x l = 6 ∨ putWE x l = batchE x.cur l := by
  unfold putWE
  split
  · exact .inl rfl
  · split
    · exact .inr rfl
    · rename_i h
      split
      · exact .inl rfl
      · exact .inr (Decidable.not_not.1 h).symm
/-- one that is done -/
theorem put_done {x : Wal} {l : List Pair} (h : putWE x l = 0) (n t : Nat) : x.stopped = false ∧ batchE x.cur l = 0 ∧ (putW x l n t).hist = x.hist ++ [(x.last.1 + n, batched x.cur l)] ∧ (putW x l n t).stopped = false ∧ (putW x l n t).tail = x.tail ∧ (putW x l n t).safe = x.safe := by
  unfold putWE at h
  split at h
  · cases h
  · rename_i h1
    split at h
    · rename_i h2
      exact absurd h h2
    · rename_i h2
      split at h
      · cases h
      · rename_i h3
        have hs : x.stopped = false := by cases q : x.stopped; rfl; exact absurd q h1
        have e : putW x l n t = { x with hist := x.hist ++ [(x.last.1 + n, batched x.cur l)], fails := x.fails.map (· - 1) } := by
          unfold putW
          rw [if_neg (fun q => q.elim h1 h2), if_neg h3]
        rw [e]
        exact ⟨hs, Decidable.not_not.1 h2, rfl, hs, rfl, rfl⟩
/-- and one that is not -/
theorem put_not {x : Wal} {l : List Pair} (h : putWE x l ≠ 0) (n t : Nat) : (putW x l n t).hist = x.hist ∧ (putW x l n t).safe = x.safe := by
  unfold putW
  split
  · exact ⟨rfl, rfl⟩
  · rename_i h1
    split
    · exact ⟨rfl, rfl⟩
    · rename_i h2
      exfalso
      apply h
      unfold putWE
      rw [if_neg (fun q => h1 (.inl q)), if_neg (fun q => h1 (.inr q)), if_neg h2]
theorem sync_hist (x : Wal) : (syncW x).hist = x.hist := by
  unfold syncW
  split
  · rfl
  · split <;> rfl
theorem sync_safe {x : Wal} (h : syncE x = 0) : (syncW x).safe = (syncW x).bytes := by
  unfold syncE at h
  split at h
  · cases h
  · rename_i h1
    unfold syncW
    rw [if_neg (fun q => h1 (.inl q)), if_neg (fun q => h1 (.inr q))]
    rfl
theorem fail_hist (x : Wal) (n : Int) : (failW x n).hist = x.hist := rfl
/-- the last that is whole among what is left -/
theorem crash_left {x : Wal} {limit : Nat} (h : Ok x limit) (keep : Int) : ∃ m, ∃ hm : m < x.hist.length, (crashW x keep).hist = x.hist.take (m + 1) ∧ x.hist[m].1 ≤ high x keep ∧ (∀ i (hi : i < x.hist.length), m < i → high x keep < x.hist[i].1) ∧ (crashW x keep).last = x.hist[m] ∧ (crashW x keep).bytes = x.hist[m].1 ∧ (crashW x keep).safe = x.hist[m].1 := by
  obtain ⟨m, hm, q⟩ := WalKept.filter_take (high x keep) x.hist h.rise
  obtain ⟨r, hr⟩ := h.first
  have hm0 : m ≠ 0 := by
    intro e
    subst e
    rw [hr, List.filter_cons_of_pos (by simp)] at q
    simp at q
  have hlt : m - 1 < x.hist.length := by omega
  have hh : (crashW x keep).hist = x.hist.take (m - 1 + 1) := by
    show x.hist.filter _ = _
    rw [q, show m - 1 + 1 = m by omega]
  have hl : (crashW x keep).last = x.hist[m - 1] := by
    unfold Wal.last
    rw [hh, List.getLastD_eq_getLast?, List.getLast?_eq_getElem?, List.length_take, show min (m - 1 + 1) x.hist.length - 1 = m - 1 by omega, List.getElem?_take_of_lt (by omega), List.getElem?_eq_getElem hlt]
    rfl
  refine ⟨m - 1, hlt, hh, ?_, ?_, hl, ?_, ?_⟩
  · have hmem : x.hist[m - 1] ∈ x.hist.filter (fun e => decide (e.1 ≤ high x keep)) := by
      rw [q]
      exact List.mem_of_getElem? (show (x.hist.take m)[m - 1]? = some x.hist[m - 1] by rw [List.getElem?_take_of_lt (by omega), List.getElem?_eq_getElem hlt])
    exact of_decide_eq_true (List.mem_filter.1 hmem).2
  · intro i hi hmi
    rcases Nat.lt_or_ge (high x keep) x.hist[i].1 with c | c
    · exact c
    · exfalso
      have hmem : x.hist[i] ∈ x.hist.filter (fun e => decide (e.1 ≤ high x keep)) := List.mem_filter.2 ⟨List.getElem_mem hi, decide_eq_true c⟩
      rw [q] at hmem
      obtain ⟨j, hj, he⟩ := List.getElem_of_mem hmem
      rw [List.getElem_take] at he
      rw [List.length_take] at hj
      have := List.pairwise_iff_getElem.1 h.rise j i (by omega) hi (by omega)
      rw [he] at this
      omega
  · unfold Wal.bytes
    rw [hl]
    rfl
  · show ((x.hist.filter _).getLastD _).1 = _
    have : (x.hist.filter fun e => decide (e.1 ≤ high x keep)).getLastD (0, ⟨1, [], []⟩) = x.hist[m - 1] := hl
    rw [this]
/-- and what is told of a log that goes on is what was done last -/
theorem cur_last (x : Wal) : x.cur = x.last.2 := rfl
theorem last_put {x : Wal} {l : List Pair} (h : putWE x l = 0) (n t : Nat) : (putW x l n t).last = (x.last.1 + n, batched x.cur l) := by
  obtain ⟨_, _, h3, _⟩ := put_done h n t
  unfold Wal.last at h3 ⊢
  rw [h3]
  simp

end Go.Proofs.YtofaegcljcpceagGreatDoor.WalHolds

/-
  Plain mathematics of batches as bytes: records one behind the other, what is left of them when they are cut off, and what a log of batches holds of them. Nothing of the program is named here.
-/
namespace Go.Proofs.YtofaegcljcpceagGreatDoor.WalBytes
open Stores (Pair putE keyE find)
open Lsms (Lsm putted)
open LsmFines (Fine)
open LsmLetters (good_put)
open Wals

/-! what is refused hangs on the pair alone -/
theorem put_alone {x : Lsm} (h : LsmLetters.Good x) (p : Pair) : putE x.young p = putE [] p := by
  have h1 := h.small
  have h2 := h.high
  unfold putE
  by_cases hk : keyE p.key ≠ 0
  · rw [if_pos hk, if_pos hk]
  · rw [if_neg hk, if_neg hk]
    by_cases hv : 200 < p.val.size
    · rw [if_pos (.inl hv), if_pos (.inl hv)]
    · rw [if_neg (fun q => q.elim hv fun r => by omega), if_neg (fun q => q.elim hv fun r => by have := r.2; simp at this)]
theorem puts_alone : ∀ (l : List Pair) {x y : Lsm}, LsmLetters.Good x → LsmLetters.Good y → (puts x l).2 = (puts y l).2
  | [], _, _, _, _ => rfl
  | p :: l, x, y, hx, hy => by
    rw [puts, puts, put_alone hx, put_alone hy]
    split
    · exact puts_alone l (good_put hx p) (good_put hy p)
    · rfl
theorem good_puts : ∀ (l : List Pair) {x : Lsm}, LsmLetters.Good x → LsmLetters.Good (puts x l).1
  | [], _, h => h
  | p :: l, x, h => by
    rw [puts]
    split
    · exact good_puts l (good_put h p)
    · exact h
theorem size_puts : ∀ (l : List Pair) (x : Lsm), (puts x l).1.size ≤ x.size + l.length
  | [], _ => Nat.le_refl _
  | p :: l, x => by
    rw [puts]
    split
    · have h1 := size_puts l (putted x p)
      have h2 := Lsms.size_put x p
      rw [List.length_cons]
      omega
    · exact Nat.le_add_right _ _
theorem puts_next {x : Lsm} {l : List Pair} {k : Nat} {p : Pair} (hk : l[k]? = some p) (h0 : (puts x (l.take k)).2 = 0) (h : putE (puts x (l.take k)).1.young p = 0) : puts x (l.take (k + 1)) = (putted (puts x (l.take k)).1 p, 0) := by
  obtain ⟨hl, rfl⟩ := List.getElem?_eq_some_iff.1 hk
  rw [List.take_succ_eq_append_getElem hl, puts_append, if_pos h0, puts, if_pos h, puts]
theorem puts_stop {x : Lsm} {l : List Pair} {k : Nat} {p : Pair} (hk : l[k]? = some p) (h0 : (puts x (l.take k)).2 = 0) (h : putE (puts x (l.take k)).1.young p ≠ 0) : puts x l = ((puts x (l.take k)).1, putE (puts x (l.take k)).1.young p) := by
  obtain ⟨hl, rfl⟩ := List.getElem?_eq_some_iff.1 hk
  have e : l = l.take k ++ l.drop k := (List.take_append_drop ..).symm
  rw [List.drop_eq_getElem_cons hl] at e
  rw [show puts x l = puts x (l.take k ++ l[k] :: l.drop (k + 1)) by rw [← e], puts_append, if_pos h0, puts, if_neg h]

/-! batches that come to a record -/
def Fit (l : List Pair) : Prop := l.length ≤ 20 ∧ ∀ p ∈ l, LsmFines.Ok p
theorem ok_of {p : Pair} (h : putE [] p = 0) (hg : p.gone = true → p.val.size = 0) : LsmFines.Ok p := by
  obtain ⟨h1, h2, h3, _⟩ := Stores.put_ok h
  refine ⟨?_, h3, hg⟩
  unfold keyE
  rw [if_neg (by omega), if_neg (by omega)]
theorem put_of {p : Pair} (h : LsmFines.Ok p) : putE [] p = 0 := by
  unfold putE
  rw [if_neg (fun q => q h.1), if_neg]
  rintro (q | ⟨_, q⟩)
  · have := h.2.1; omega
  · simp at q
theorem shape_of {l : List Pair} (h : shapeE l = 0) : l.length ≤ 20 ∧ ∀ p ∈ l, p.gone = true → p.val.size = 0 := by
  unfold shapeE at h
  split at h
  · cases h
  · rename_i h1
    split at h
    · cases h
    · rename_i h2
      refine ⟨by omega, fun p hp hg => ?_⟩
      rw [List.any_eq_true] at h2
      by_cases hv : p.val.size = 0
      · exact hv
      · exact absurd ⟨p, hp, by simp [hg, hv]⟩ h2
theorem shape_fit {l : List Pair} (h : Fit l) : shapeE l = 0 := by
  have h1 := h.1
  unfold shapeE
  rw [if_neg (by omega), if_neg]
  rw [List.any_eq_true]
  rintro ⟨p, hp, q⟩
  simp only [Bool.and_eq_true, decide_eq_true_eq] at q
  exact q.2 ((h.2 p hp).2.2 q.1)
theorem puts_ok : ∀ {l : List Pair} {x : Lsm}, LsmLetters.Good x → (puts x l).2 = 0 → ∀ p ∈ l, putE [] p = 0
  | [], _, _, _, p, hp => by cases hp
  | q :: l, x, hx, h, p, hp => by
    rw [puts, put_alone hx] at h
    by_cases e : putE [] q = 0
    · rw [if_pos e] at h
      rcases List.mem_cons.1 hp with rfl | hp
      · exact e
      · exact puts_ok (good_put hx q) h p hp
    · rw [if_neg e] at h
      exact absurd h e
theorem puts_fit : ∀ {l : List Pair} {x : Lsm}, LsmLetters.Good x → (∀ p ∈ l, putE [] p = 0) → (puts x l).2 = 0
  | [], _, _, _ => rfl
  | q :: l, x, hx, h => by
    rw [puts, put_alone hx, if_pos (h q (List.mem_cons_self ..))]
    exact puts_fit (good_put hx q) fun p hp => h p (List.mem_cons_of_mem _ hp)
theorem fit_of {x : Lsm} {l : List Pair} (h : LsmLetters.Good x) (he : batchE x l = 0) : Fit l := by
  unfold batchE at he
  by_cases hs : shapeE l = 0
  · rw [if_pos hs] at he
    obtain ⟨h1, h2⟩ := shape_of hs
    exact ⟨h1, fun p hp => ok_of (puts_ok h he p hp) (h2 p hp)⟩
  · rw [if_neg hs] at he
    exact absurd he hs
theorem fit_puts {x : Lsm} {l : List Pair} (h : LsmLetters.Good x) (hf : Fit l) : (puts x l).2 = 0 := puts_fit h fun p hp => put_of (hf.2 p hp)
theorem fit_batch {x : Lsm} {l : List Pair} (h : LsmLetters.Good x) (hf : Fit l) : batchE x l = 0 := by
  unfold batchE
  rw [if_pos (shape_fit hf)]
  exact fit_puts h hf
theorem batch_alone {x y : Lsm} (hx : LsmLetters.Good x) (hy : LsmLetters.Good y) (l : List Pair) : batchE x l = batchE y l := by
  unfold batchE
  rw [puts_alone l hx hy]
theorem fine_puts : ∀ {l : List Pair} {m i : Nat} {x : Lsm}, Fine m x i → (∀ p ∈ l, p.gone = true → p.val.size = 0) → Fine m (puts x l).1 (i + l.length)
  | [], _, _, _, h, _ => h
  | p :: l, m, i, x, h, hg => by
    rw [puts, List.length_cons]
    split
    · have := fine_puts (l := l) (h.put p (hg p (List.mem_cons_self ..))) fun q hq => hg q (List.mem_cons_of_mem _ hq)
      rw [show i + (l.length + 1) = i + 1 + l.length by omega]
      exact this
    · exact ⟨h.limit, h.good, by have := h.size; show x.size ≤ _; omega, h.young, h.levels⟩

/-! what comes of batches -/
def stateOf (limit : Nat) (bs : List (List Pair)) : Lsm := bs.foldl (fun x l => (puts x l).1) ⟨limit, [], []⟩
theorem state_snoc (limit : Nat) (bs : List (List Pair)) (l : List Pair) : stateOf limit (bs ++ [l]) = (puts (stateOf limit bs) l).1 := by simp [stateOf]
theorem state_fine {limit : Nat} (h1 : 1 ≤ limit) (h2 : limit ≤ 60) (bs : List (List Pair)) (hf : ∀ l ∈ bs, Fit l) : Fine limit (stateOf limit bs) (20 * bs.length) := by
  suffices ∀ (n : Nat) (bs : List (List Pair)), bs.length = n → (∀ l ∈ bs, Fit l) → Fine limit (stateOf limit bs) (20 * bs.length) from this _ bs rfl hf
  intro n
  induction n with
  | zero => intro bs hn hf; rw [List.length_eq_zero_iff.1 hn]; exact Fine.start h1 h2
  | succ n ih =>
    intro bs hn hf
    have hne : bs ≠ [] := fun e => by rw [e] at hn; cases hn
    obtain ⟨cs, l, rfl⟩ : ∃ cs l, bs = cs ++ [l] := ⟨_, _, (List.dropLast_concat_getLast hne).symm⟩
    have hl := hf l (by simp)
    have hc := ih cs (by simpa using hn) fun m hm => hf m (by simp [hm])
    have hp := fine_puts hc (l := l) fun p hp => (hl.2 p hp).2.2
    rw [state_snoc]
    have := hl.1
    refine ⟨hp.limit, hp.good, Nat.le_trans hp.size ?_, hp.young, hp.levels⟩
    rw [List.length_append, List.length_singleton]
    omega

/-! as bytes -/
def pairB (p : Pair) : List UInt8 := Tabs.mark p.gone :: UInt8.ofNat p.key.size :: UInt8.ofNat p.val.size :: (p.key.data.toList ++ p.val.data.toList)
def pairsB : List Pair → List UInt8
  | [] => []
  | p :: l => pairB p ++ pairsB l
def recB (l : List Pair) : List UInt8 := UInt8.ofNat ((pairsB l).length / 256) :: UInt8.ofNat ((pairsB l).length % 256) :: pairsB l
def flat : List (List Pair) → List UInt8
  | [] => []
  | l :: r => recB l ++ flat r
theorem pairB_length (p : Pair) : (pairB p).length = 3 + p.key.size + p.val.size := by
  simp only [pairB, List.length_cons, List.length_append, show p.key.data.toList.length = p.key.size from Array.length_toList, show p.val.data.toList.length = p.val.size from Array.length_toList]
  omega
theorem pairsB_append : ∀ (l m : List Pair), pairsB (l ++ m) = pairsB l ++ pairsB m
  | [], _ => rfl
  | p :: l, m => by rw [List.cons_append, pairsB, pairsB, pairsB_append l m, List.append_assoc]
theorem key_le {p : Pair} (h : LsmFines.Ok p) : 0 < p.key.size ∧ p.key.size ≤ 200 := by
  have h1 := h.1
  unfold keyE at h1
  split at h1
  · cases h1
  · split at h1
    · cases h1
    · omega
theorem pairsB_le : ∀ (l : List Pair), (∀ p ∈ l, LsmFines.Ok p) → (pairsB l).length ≤ 403 * l.length
  | [], _ => Nat.zero_le _
  | p :: l, h => by
    have h1 := pairsB_le l fun q hq => h q (List.mem_cons_of_mem _ hq)
    have h2 := key_le (h p (List.mem_cons_self ..))
    have h3 := (h p (List.mem_cons_self ..)).2.1
    rw [pairsB, List.length_append, pairB_length, List.length_cons]
    omega
theorem fit_le {l : List Pair} (h : Fit l) : (pairsB l).length ≤ 8060 := by
  have h1 := pairsB_le l h.2
  have h2 := h.1
  omega
theorem recB_length (l : List Pair) : (recB l).length = 2 + (pairsB l).length := by simp only [recB, List.length_cons]; omega
theorem flat_append : ∀ (a b : List (List Pair)), flat (a ++ b) = flat a ++ flat b
  | [], _ => rfl
  | l :: a, b => by rw [List.cons_append, flat, flat, flat_append a b, List.append_assoc]
theorem flat_snoc (a : List (List Pair)) (l : List Pair) : flat (a ++ [l]) = flat a ++ recB l := by rw [flat_append, flat, flat, List.append_nil]
theorem flat_le : ∀ (bs : List (List Pair)), (∀ l ∈ bs, Fit l) → (flat bs).length ≤ 8062 * bs.length
  | [], _ => Nat.zero_le _
  | l :: bs, h => by
    have h1 := flat_le bs fun m hm => h m (List.mem_cons_of_mem _ hm)
    have h2 := fit_le (h l (List.mem_cons_self ..))
    rw [flat, List.length_append, recB_length, List.length_cons]
    omega
/-- what two bytes ahead of a record say -/
theorem head_of {l : List Pair} (h : Fit l) : (UInt8.ofNat ((pairsB l).length / 256)).toNat * 256 + (UInt8.ofNat ((pairsB l).length % 256)).toNat = (pairsB l).length := by
  have := fit_le h
  simp only [UInt8.toNat_ofNat']
  omega
theorem rec_head {l : List Pair} (h : Fit l) (r : List UInt8) : ∃ a b q, recB l ++ r = a :: b :: q ∧ 2 + (a.toNat * 256 + b.toNat) = (recB l).length := ⟨_, _, _, rfl, by rw [recB_length, head_of h]⟩
/-- a record that is cut off -/
def Part (q : List UInt8) : Prop := ∃ l n, Fit l ∧ n < (recB l).length ∧ q = (recB l).take n
theorem fit_nil : Fit [] := ⟨Nat.zero_le _, fun p hp => by cases hp⟩
theorem part_nil : Part [] := ⟨[], 0, fit_nil, by rw [recB_length]; omega, rfl⟩
theorem part_head {q : List UInt8} (h : Part q) : q.length < 2 ∨ ∃ a b r, q = a :: b :: r ∧ q.length < 2 + (a.toNat * 256 + b.toNat) := by
  obtain ⟨l, n, hf, hn, rfl⟩ := h
  rw [recB_length] at hn
  match n, hn with
  | 0, _ => left; simp
  | 1, _ => left; simp [recB]
  | n + 2, hn =>
    right
    refine ⟨_, _, _, rfl, ?_⟩
    rw [head_of hf, List.length_take, recB_length]
    omega
theorem part_take {q : List UInt8} (h : Part q) (n : Nat) : Part (q.take n) := by
  obtain ⟨l, k, hf, hk, rfl⟩ := h
  exact ⟨l, min n k, hf, by omega, by rw [List.take_take]⟩
theorem part_le {q : List UInt8} (h : Part q) : q.length ≤ 8062 := by
  obtain ⟨l, k, hf, hk, rfl⟩ := h
  have := fit_le hf
  rw [recB_length] at hk
  rw [List.length_take]
  omega

/-! what a log of batches holds -/
def hists (limit : Nat) (bs : List (List Pair)) : List (Nat × Lsm) := (List.range (bs.length + 1)).map fun k => ((flat (bs.take k)).length, stateOf limit (bs.take k))
theorem hists_length (limit : Nat) (bs : List (List Pair)) : (hists limit bs).length = bs.length + 1 := by simp [hists]
theorem hists_at (limit : Nat) (bs : List (List Pair)) {k : Nat} (h : k < (hists limit bs).length) : (hists limit bs)[k] = ((flat (bs.take k)).length, stateOf limit (bs.take k)) := by simp [hists]
theorem hists_take (limit : Nat) (bs : List (List Pair)) {m : Nat} (h : m ≤ bs.length) : (hists limit bs).take (m + 1) = hists limit (bs.take m) := by
  apply List.ext_getElem
  · rw [List.length_take, hists_length, hists_length, List.length_take]; omega
  · intro i h1 h2
    rw [hists_length, List.length_take] at h2
    rw [List.getElem_take, hists_at, hists_at, List.take_take, Nat.min_eq_left (by omega)]
theorem hists_snoc (limit : Nat) (bs : List (List Pair)) (l : List Pair) : hists limit (bs ++ [l]) = hists limit bs ++ [((flat (bs ++ [l])).length, stateOf limit (bs ++ [l]))] := by
  have h := hists_take limit (bs ++ [l]) (m := bs.length) (by simp)
  rw [List.take_left] at h
  rw [← h]
  conv => lhs; rw [← List.take_append_drop (bs.length + 1) (hists limit (bs ++ [l]))]
  congr 1
  apply List.ext_getElem
  · rw [List.length_drop, hists_length]; simp
  · intro i h1 h2
    rw [List.length_singleton] at h2
    obtain rfl : i = 0 := by omega
    rw [List.getElem_drop, hists_at, List.getElem_singleton]
    rw [List.take_of_length_le (by simp)]
theorem hists_last (limit : Nat) (bs : List (List Pair)) (d : Nat × Lsm) : (hists limit bs).getLastD d = ((flat bs).length, stateOf limit bs) := by
  rw [List.getLastD_eq_getLast?, List.getLast?_eq_getElem?, List.getElem?_eq_getElem (by rw [hists_length]; omega), hists_at]
  simp [hists_length]
structure Holds (x : Wal) (limit : Nat) (bs : List (List Pair)) (q : List UInt8) : Prop where
  low : 1 ≤ limit
  high : limit ≤ 60
  ok : Ok x limit
  fit : ∀ l ∈ bs, Fit l
  hist : x.hist = hists limit bs
  tail : x.tail = q.length
  part : Part q
  whole : x.stopped = false → q = []
theorem Holds.last {x : Wal} {limit : Nat} {bs : List (List Pair)} {q : List UInt8} (h : Holds x limit bs q) : x.last = ((flat bs).length, stateOf limit bs) := by
  unfold Wal.last
  rw [h.hist, hists_last]
theorem Holds.cur {x : Wal} {limit : Nat} {bs : List (List Pair)} {q : List UInt8} (h : Holds x limit bs q) : x.cur = stateOf limit bs := by
  unfold Wal.cur
  rw [h.last]
theorem Holds.bytes {x : Wal} {limit : Nat} {bs : List (List Pair)} {q : List UInt8} (h : Holds x limit bs q) : (flat bs ++ q).length = x.bytes := by
  unfold Wal.bytes
  rw [h.last, h.tail, List.length_append]
theorem Holds.count {x : Wal} {limit : Nat} {bs : List (List Pair)} {q : List UInt8} (h : Holds x limit bs q) : x.hist.length = bs.length + 1 := by rw [h.hist, hists_length]
theorem Holds.fine {x : Wal} {limit : Nat} {bs : List (List Pair)} {q : List UInt8} (h : Holds x limit bs q) : Fine limit x.cur (20 * bs.length) := by
  rw [h.cur]
  exact state_fine h.low h.high bs h.fit
theorem Holds.bytes_le {x : Wal} {limit : Nat} {bs : List (List Pair)} {q : List UInt8} (h : Holds x limit bs q) : x.bytes ≤ 8062 * x.hist.length := by
  rw [← h.bytes, List.length_append, h.count]
  have := flat_le bs h.fit
  have := part_le h.part
  omega
theorem holds_new {limit : Nat} (h1 : 1 ≤ limit) (h2 : limit ≤ 60) : Holds (newW limit) limit [] [] := ⟨h1, h2, ok_new limit, (fun l hl => by cases hl), rfl, rfl, part_nil, fun _ => rfl⟩
theorem holds_fail {x : Wal} {limit : Nat} {bs : List (List Pair)} {q : List UInt8} (h : Holds x limit bs q) (n : Int) : Holds (failW x n) limit bs q := ⟨h.low, h.high, ok_fail h.ok n, h.fit, h.hist, h.tail, h.part, h.whole⟩
theorem holds_sync {x : Wal} {limit : Nat} {bs : List (List Pair)} {q : List UInt8} (h : Holds x limit bs q) : Holds (syncW x) limit bs q := by
  refine ⟨h.low, h.high, ok_sync h.ok, h.fit, by rw [WalHolds.sync_hist]; exact h.hist, ?_, h.part, ?_⟩
  · unfold syncW
    split
    · exact h.tail
    · split <;> exact h.tail
  · unfold syncW
    split
    · exact h.whole
    · rename_i hs
      have hf : x.stopped = false := by cases e : x.stopped; rfl; exact absurd e hs
      exact fun _ => h.whole hf
theorem putW_not {x : Wal} {l : List Pair} (h : x.stopped = true ∨ batchE x.cur l ≠ 0) (n t : Nat) : putW x l n t = x := by unfold putW; rw [if_pos h]
theorem holds_stop {x : Wal} {limit : Nat} {bs : List (List Pair)} {q : List UInt8} {l : List Pair} (h : Holds x limit bs q) (hs : x.stopped = false) (he : batchE x.cur l = 0) (hf : x.fails = some 0) :
    Holds (putW x l (recB l).length ((recB l).length / 2)) limit bs ((recB l).take ((recB l).length / 2)) := by
  have e : putW x l (recB l).length ((recB l).length / 2) = { x with stopped := true, tail := (recB l).length / 2 } := by
    unfold putW
    rw [if_neg (fun c => c.elim (fun c => by rw [hs] at c; cases c) fun c => c he), if_pos hf]
  have hfit := fit_of h.fine.good he
  refine ⟨h.low, h.high, ok_put h.ok l (by rw [recB_length]; omega), h.fit, by rw [e]; exact h.hist, ?_, ⟨l, _, hfit, by rw [recB_length]; omega, rfl⟩, fun c => by rw [e] at c; cases c⟩
  rw [e, List.length_take]
  show _ / 2 = _
  omega
theorem holds_done {x : Wal} {limit : Nat} {bs : List (List Pair)} {q : List UInt8} {l : List Pair} (h : Holds x limit bs q) (hs : x.stopped = false) (he : batchE x.cur l = 0) (hf : x.fails ≠ some 0) (t : Nat) :
    Holds (putW x l (recB l).length t) limit (bs ++ [l]) [] := by
  have e : putW x l (recB l).length t = { x with hist := x.hist ++ [(x.last.1 + (recB l).length, batched x.cur l)], fails := x.fails.map (· - 1) } := by
    unfold putW
    rw [if_neg (fun c => c.elim (fun c => by rw [hs] at c; cases c) fun c => c he), if_neg hf]
  have hfit := fit_of h.fine.good he
  refine ⟨h.low, h.high, ok_put h.ok l (by rw [recB_length]; omega), fun m hm => ?_, ?_, ?_, part_nil, fun _ => rfl⟩
  · rcases List.mem_append.1 hm with hm | hm
    · exact h.fit m hm
    · rw [List.mem_singleton.1 hm]; exact hfit
  · rw [e, hists_snoc, ← h.hist, h.last, h.cur, state_snoc, flat_snoc, List.length_append]
    have hb : batched (stateOf limit bs) l = (puts (stateOf limit bs) l).1 := by
      unfold batched
      rw [if_pos (by rw [← h.cur]; exact he)]
    rw [hb]
  · rw [e]
    show x.tail = 0
    rw [h.tail, h.whole hs]
    rfl
theorem holds_crash {x : Wal} {limit : Nat} {bs : List (List Pair)} {q : List UInt8} (h : Holds x limit bs q) (keep : Int) :
    ∃ m p, m ≤ bs.length ∧ Part p ∧ (flat bs ++ q).take (high x keep) = flat (bs.take m) ++ p ∧ Holds (crashW x keep) limit (bs.take m) [] ∧ (crashW x keep).safe = (flat (bs.take m)).length := by
  obtain ⟨m, hm, h1, h2, h3, h4, h5, h6⟩ := WalHolds.crash_left h.ok keep
  have hmb : m ≤ bs.length := by rw [h.count] at hm; omega
  have em : x.hist[m].1 = (flat (bs.take m)).length := by
    have := hists_at limit bs (k := m) (by rw [hists_length]; omega)
    simp only [h.hist, this]
  rw [em] at h2 h6
  have hfit : ∀ l ∈ bs.take m, Fit l := fun l hl => h.fit l (List.mem_of_mem_take hl)
  have hnew : Holds (crashW x keep) limit (bs.take m) [] := ⟨h.low, h.high, ok_crash h.ok keep, hfit, by rw [h1, h.hist, hists_take limit bs hmb], rfl, part_nil, fun _ => rfl⟩
  by_cases hlt : m < bs.length
  · have e1 : bs = bs.take m ++ bs[m] :: bs.drop (m + 1) := by rw [← List.drop_eq_getElem_cons hlt, List.take_append_drop]
    have en := h3 (m + 1) (by rw [h.count]; omega) (by omega)
    have en2 : x.hist[m + 1]'(by rw [h.count]; omega) = ((flat (bs.take (m + 1))).length, stateOf limit (bs.take (m + 1))) := by
      have := hists_at limit bs (k := m + 1) (by rw [hists_length]; omega)
      simp only [h.hist, this]
    rw [en2, List.take_succ_eq_append_getElem hlt, flat_snoc, List.length_append] at en
    simp only at en
    refine ⟨m, (recB bs[m]).take (Wals.high x keep - (flat (bs.take m)).length), hmb, ⟨bs[m], _, h.fit _ (List.getElem_mem hlt), by omega, rfl⟩, ?_, hnew, h6⟩
    conv => lhs; rw [e1]
    rw [flat_append, flat, List.append_assoc, List.append_assoc, List.take_append, List.take_of_length_le h2, List.take_append, show Wals.high x keep - (flat (bs.take m)).length - (recB bs[m]).length = 0 by omega, List.take_zero, List.append_nil]
  · obtain rfl : m = bs.length := by omega
    rw [List.take_length] at h2 hnew h6
    exact ⟨bs.length, q.take (Wals.high x keep - (flat bs).length), Nat.le_refl _, part_take h.part _, by rw [List.take_length, List.take_append, List.take_of_length_le h2], by rw [List.take_length]; exact hnew, by rw [List.take_length]; exact h6⟩

/-! how far it is kept, as the program reckons it -/
theorem high_is {x : Wal} {limit : Nat} (h : Ok x limit) (keep : Int) : (high x keep : Int) = x.safe + min (max keep 0) ((x.bytes : Int) - x.safe) := by
  have := h.safe
  unfold high
  split
  · split <;> omega
  · omega
theorem high_le {x : Wal} {limit : Nat} (h : Ok x limit) (keep : Int) : high x keep ≤ x.bytes := by
  have := h.safe
  unfold high
  split
  · split <;> omega
  · omega

end Go.Proofs.YtofaegcljcpceagGreatDoor.WalBytes

