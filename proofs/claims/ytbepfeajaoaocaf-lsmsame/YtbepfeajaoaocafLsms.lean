/-
  Plain mathematics of levels: young pairs and tables, the youngest first; what one can get of them; that a flush or a merge changes none of it. Nothing of the program is named here.
-/
import Derived.Test.YtbepfeajaoaocafStores
namespace Go.Proofs.Ytbepfeajaoaocaf.Lsms
open Stores

/-! lists, the youngest first -/
def joinL (a : List Pair) : List Pair → List Pair
  | [] => a
  | p :: l => joinL (if find a p.key = none then withP a p else a) l
def liveA (a : List Pair) : List (List Pair) → List Pair
  | [] => a
  | l :: r => liveA (joinL a l) r
def alive (l : List Pair) : List Pair := l.filter fun p => !p.gone
def live (r : List (List Pair)) : List Pair := alive (liveA [] r)
/-- the youngest that has the key -/
def look : List (List Pair) → ByteArray → Option Pair
  | [], _ => none
  | l :: r, k => (find l k).or (look r k)
theorem find_join : ∀ (l a : List Pair) (k : ByteArray), find (joinL a l) k = (find a k).or (find l k)
  | [], a, k => by rw [joinL, find_nil]; simp
  | p :: l, a, k => by
    rw [joinL, find_join l, find_cons]
    by_cases h : find a p.key = none
    · rw [if_pos h]
      by_cases hk : p.key = k
      · subst hk
        rw [find_with_same, h, if_pos rfl]
        rfl
      · rw [find_with_other a p (fun e => hk e.symm), if_neg hk]
    · rw [if_neg h]
      by_cases hk : p.key = k
      · subst hk
        rw [if_pos rfl]
        cases h2 : find a p.key with
        | none => exact absurd h2 h
        | some q => rfl
      · rw [if_neg hk]
theorem find_live : ∀ (r : List (List Pair)) (a : List Pair) (k : ByteArray), find (liveA a r) k = (find a k).or (look r k)
  | [], a, k => by rw [liveA, look]; simp
  | l :: r, a, k => by rw [liveA, find_live r, find_join, look, Option.or_assoc]
theorem rising_join : ∀ (l a : List Pair), Rising a → Rising (joinL a l)
  | [], _, h => h
  | p :: l, a, h => by
    rw [joinL]
    apply rising_join l
    split
    · exact rising_with p h
    · exact h
theorem rising_live : ∀ (r : List (List Pair)) (a : List Pair), Rising a → Rising (liveA a r)
  | [], _, h => h
  | l :: r, a, h => rising_live r _ (rising_join l a h)
theorem rising_alive {l : List Pair} (h : Rising l) : Rising (alive l) := List.Pairwise.filter _ h
theorem rising_nil : Rising [] := List.Pairwise.nil
/-- of rising pairs: one that is there and alive -/
theorem find_alive : ∀ {l : List Pair}, Rising l → ∀ (k : ByteArray), find (alive l) k = (find l k).filter fun p => !p.gone
  | [], _, k => rfl
  | q :: l, h, k => by
    obtain ⟨h1, h2⟩ := List.pairwise_cons.1 h
    have i := find_alive h2 k
    have hn : q.key = k → find l k = none := fun e => find_none.2 fun x hx => by rw [← e]; exact (lt_ne (h1 x hx)).symm
    rw [find_cons]
    by_cases hg : q.gone = true
    · rw [show alive (q :: l) = alive l by simp [alive, hg], i]
      by_cases hk : q.key = k
      · rw [if_pos hk, hn hk]
        simp [Option.filter, hg]
      · rw [if_neg hk]
    · rw [show alive (q :: l) = q :: alive l by simp [alive, hg], find_cons]
      by_cases hk : q.key = k
      · rw [if_pos hk, if_pos hk]
        simp [Option.filter, hg]
      · rw [if_neg hk, if_neg hk, i]
theorem rising_ext : ∀ {a b : List Pair}, Rising a → Rising b → (∀ k, find a k = find b k) → a = b
  | [], [], _, _, _ => rfl
  | [], q :: b, _, _, h => by
    have := h q.key
    rw [find_nil, find_cons, if_pos rfl] at this
    cases this
  | p :: a, [], _, _, h => by
    have := h p.key
    rw [find_nil, find_cons, if_pos rfl] at this
    cases this
  | p :: a, q :: b, ha, hb, h => by
    obtain ⟨a1, a2⟩ := List.pairwise_cons.1 ha
    obtain ⟨b1, b2⟩ := List.pairwise_cons.1 hb
    have hp := h p.key
    have hq := h q.key
    rw [find_cons, find_cons, if_pos rfl] at hp
    rw [find_cons, find_cons, if_pos rfl] at hq
    have he : p.key = q.key := by
      by_cases e : q.key = p.key
      · exact e.symm
      · rw [if_neg e] at hp
        rw [if_neg (fun x => e x.symm)] at hq
        have m1 : p ∈ b := List.mem_of_find?_eq_some hp.symm
        have m2 : q ∈ a := List.mem_of_find?_eq_some hq
        have l1 := b1 p m1
        have l2 := a1 q m2
        rw [lt_asymm l1] at l2
        cases l2
    rw [if_pos he.symm] at hp
    obtain rfl : p = q := by simpa using hp
    congr 1
    apply rising_ext a2 b2
    intro k
    have hk := h k
    rw [find_cons, find_cons] at hk
    by_cases e : p.key = k
    · subst e
      rw [find_none.2 fun x hx => (lt_ne (a1 x hx)).symm, find_none.2 fun x hx => (lt_ne (b1 x hx)).symm]
    · rw [if_neg e, if_neg e] at hk
      exact hk

theorem join_append : ∀ (l a m : List Pair), joinL a (l ++ m) = joinL (joinL a l) m
  | [], _, _ => rfl
  | p :: l, a, m => by rw [List.cons_append, joinL, joinL, join_append l]
theorem join_next (a l : List Pair) {k : Nat} (hk : k < l.length) : joinL a (l.take (k + 1)) = if find (joinL a (l.take k)) (l[k]).key = none then withP (joinL a (l.take k)) l[k] else joinL a (l.take k) := by
  rw [List.take_succ_eq_append_getElem hk, join_append]
  rfl
theorem live_append : ∀ (r : List (List Pair)) (a : List Pair) (q : List (List Pair)), liveA a (r ++ q) = liveA (liveA a r) q
  | [], _, _ => rfl
  | l :: r, a, q => by rw [List.cons_append, liveA, liveA, live_append r]
theorem live_next (r : List (List Pair)) {i : Nat} (hi : i < r.length) : liveA [] (r.take (i + 1)) = joinL (liveA [] (r.take i)) r[i] := by
  rw [List.take_succ_eq_append_getElem hi, live_append]
  rfl
theorem alive_next {s : List Pair} {j : Nat} (hj : j < s.length) : alive (s.take (j + 1)) = alive (s.take j) ++ (if (s[j]).gone = true then [] else [s[j]]) := by
  rw [List.take_succ_eq_append_getElem hj]
  unfold alive
  rw [List.filter_append]
  congr 1
  by_cases h : (s[j]).gone = true
  · rw [if_pos h]; simp [h]
  · rw [if_neg h]; simp [h]

/-! an lsm -/
structure Lsm where
  limit : Nat
  young : List Pair
  levels : List (List Pair)
def Lsm.lists (x : Lsm) : List (List Pair) := x.young :: x.levels
/-- what one can get of a key -/
def Lsm.val (x : Lsm) (k : ByteArray) : Option Pair := (look x.lists k).filter fun p => !p.gone
def Lsm.all (x : Lsm) : List Pair := live x.lists
theorem live_find (r : List (List Pair)) (k : ByteArray) : find (live r) k = (look r k).filter fun p => !p.gone := by
  unfold live
  rw [find_alive (rising_live r [] rising_nil), find_live, find_nil]
  rfl
theorem live_rising (r : List (List Pair)) : Rising (live r) := rising_alive (rising_live r [] rising_nil)
theorem all_find (x : Lsm) (k : ByteArray) : find x.all k = x.val k := live_find _ k
theorem all_rising (x : Lsm) : Rising x.all := live_rising _
theorem all_eq {x y : Lsm} (h : ∀ k, x.val k = y.val k) : x.all = y.all := rising_ext (all_rising x) (all_rising y) fun k => by rw [all_find, all_find, h]
def mergeV (x : Lsm) : List (List Pair) := if x.levels = [] then [] else if live x.levels = [] then [] else [live x.levels]
def mergeE (x : Lsm) : Nat := if x.levels = [] then 6 else 0
def merged (x : Lsm) : Lsm := { x with levels := mergeV x }
def room (x : Lsm) : List (List Pair) := if 8 ≤ x.levels.length then mergeV x else x.levels
def flushE (x : Lsm) : Nat := if x.young = [] then 6 else 0
def flushed (x : Lsm) : Lsm := if x.young = [] then x else { x with young := [], levels := x.young :: room x }
def putE' (x : Lsm) (p : Pair) : Nat := putE x.young p
def putted (x : Lsm) (p : Pair) : Lsm := if putE x.young p = 0 then (if x.limit ≤ (withP x.young p).length then flushed { x with young := withP x.young p } else { x with young := withP x.young p }) else x
theorem filter_twice {o : Option Pair} : (o.filter fun p => !p.gone).filter (fun p => !p.gone) = o.filter fun p => !p.gone := by
  cases o with
  | none => rfl
  | some p =>
    simp
theorem or_filter {a b c : Option Pair} (h : b.filter (fun p => !p.gone) = c.filter fun p => !p.gone) : (a.or b).filter (fun p => !p.gone) = (a.or c).filter fun p => !p.gone := by
  cases a with
  | none => exact h
  | some p => rfl
theorem look_merge (x : Lsm) (k : ByteArray) : (look (mergeV x) k).filter (fun p => !p.gone) = (look x.levels k).filter fun p => !p.gone := by
  unfold mergeV
  by_cases h : x.levels = []
  · rw [if_pos h, h]
  · rw [if_neg h]
    by_cases h2 : live x.levels = []
    · rw [if_pos h2, look, ← live_find, h2, find_nil]
      rfl
    · rw [if_neg h2, look, look, Option.or_none, live_find, filter_twice]
theorem merge_val (x : Lsm) (k : ByteArray) : (merged x).val k = x.val k := by
  unfold Lsm.val Lsm.lists merged
  rw [look, look]
  exact or_filter (look_merge x k)
theorem flush_val (x : Lsm) (k : ByteArray) : (flushed x).val k = x.val k := by
  unfold flushed
  by_cases h : x.young = []
  · rw [if_pos h]
  · rw [if_neg h]
    unfold Lsm.val Lsm.lists
    simp only
    rw [look, find_nil, Option.none_or, look, look]
    refine or_filter ?_
    unfold room
    split
    · exact look_merge x k
    · rfl
theorem put_val (x : Lsm) (p : Pair) (h : putE x.young p = 0) (k : ByteArray) : (putted x p).val k = if p.key = k then (some p).filter (fun p => !p.gone) else x.val k := by
  have h2 : ({ x with young := withP x.young p } : Lsm).val k = if p.key = k then (some p).filter (fun p => !p.gone) else x.val k := by
    unfold Lsm.val Lsm.lists
    simp only
    rw [look, look]
    by_cases hk : p.key = k
    · subst hk
      rw [find_with_same, if_pos rfl]
      rfl
    · rw [find_with_other _ p (fun e => hk e.symm), if_neg hk]
  unfold putted
  rw [if_pos h]
  split
  · rw [flush_val]
    exact h2
  · exact h2
/-! how many pairs there are at most -/
def total : List (List Pair) → Nat
  | [] => 0
  | l :: r => l.length + total r
def Lsm.size (x : Lsm) : Nat := x.young.length + total x.levels
theorem with_le : ∀ (l : List Pair) (p : Pair), (withP l p).length ≤ l.length + 1
  | [], _ => Nat.le_refl _
  | q :: r, p => by
    have i := with_le r p
    unfold withP
    split
    · simp only [List.length_cons]; omega
    · split
      · simp only [List.length_cons]; omega
      · simp only [List.length_cons]; omega
theorem join_le : ∀ (l a : List Pair), (joinL a l).length ≤ a.length + l.length
  | [], a => Nat.le_refl _
  | p :: l, a => by
    rw [joinL]
    have i := join_le l (if find a p.key = none then withP a p else a)
    have j : (if find a p.key = none then withP a p else a).length ≤ a.length + 1 := by
      split
      · exact with_le a p
      · omega
    simp only [List.length_cons]
    omega
theorem liveA_le : ∀ (r : List (List Pair)) (a : List Pair), (liveA a r).length ≤ a.length + total r
  | [], a => Nat.le_refl _
  | l :: r, a => by
    rw [liveA, total]
    have i := liveA_le r (joinL a l)
    have j := join_le l a
    omega
theorem live_le (r : List (List Pair)) : (live r).length ≤ total r := by
  have h := liveA_le r []
  have h2 := List.length_filter_le (fun p : Pair => !p.gone) (liveA [] r)
  unfold live alive
  simp only [List.length_nil] at h
  omega
theorem merge_le (x : Lsm) : total (mergeV x) ≤ total x.levels := by
  unfold mergeV
  split
  · exact Nat.zero_le _
  · split
    · exact Nat.zero_le _
    · have := live_le x.levels
      simp only [total]
      omega
theorem size_merge (x : Lsm) : (merged x).size ≤ x.size := by
  have := merge_le x
  unfold Lsm.size merged
  simp only
  omega
theorem size_flush (x : Lsm) : (flushed x).size ≤ x.size := by
  unfold flushed
  split
  · exact Nat.le_refl _
  · have h : total (room x) ≤ total x.levels := by
      unfold room
      split
      · exact merge_le x
      · exact Nat.le_refl _
    unfold Lsm.size
    simp only [total, List.length_nil]
    omega
theorem size_put (x : Lsm) (p : Pair) : (putted x p).size ≤ x.size + 1 := by
  have h := with_le x.young p
  have h2 : ({ x with young := withP x.young p } : Lsm).size ≤ x.size + 1 := by
    unfold Lsm.size
    simp only
    omega
  unfold putted
  split
  · split
    · exact Nat.le_trans (size_flush _) h2
    · exact h2
  · omega
/-- what Get answers -/
def getLV (x : Lsm) (k : ByteArray) : ByteArray := ((x.val k).map (·.val)).getD ⟨#[]⟩
def getLE (x : Lsm) (k : ByteArray) : Nat := if (x.val k).isSome = true then 0 else 5
/-- what New refuses -/
def newE (limit : Int) : Nat := if limit < 1 ∨ 60 < limit then 1 else 0
theorem put_same (x : Lsm) (p : Pair) (h : putE x.young p ≠ 0) : putted x p = x := if_neg h

end Go.Proofs.Ytbepfeajaoaocaf.Lsms
