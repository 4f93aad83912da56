/-
  Plain mathematics of WalWhole: a batch of rising keys, one of which may be empty: all of it is done, or nothing.
-/
import Derived.Test.YtofaegcljcpceafGreatDoorWalPlain
import Derived.Test.YtofaegcljcpceafGreatDoorPlains
namespace Go.Proofs.YtofaegcljcpceafGreatDoor.WalOnes
open Stores
open Lsms
open LsmLetters (one vee V X0 X1 ok1 val1 V_length V_rising)
open Wals

/-- the pair at a place -/
def nul : Pair := ⟨⟨#[]⟩, vee, false⟩
def item (bad : Int) (i : Nat) : Pair := if (i : Int) = bad then nul else one i
def W (bad : Int) (n : Nat) : List Pair := (List.range n).map (item bad)
theorem W_length (bad : Int) (n : Nat) : (W bad n).length = n := by simp [W]
theorem W_succ (bad : Int) (n : Nat) : W bad (n + 1) = W bad n ++ [item bad n] := by simp [W, List.range_succ]
theorem W_gone (bad : Int) (n : Nat) : (W bad n).any (fun p => p.gone && decide (p.val.size ≠ 0)) = false := by
  rw [List.any_eq_false]
  intro p hp
  obtain ⟨i, _, rfl⟩ := List.mem_map.1 hp
  unfold item
  split <;> simp [nul, one]
theorem shape_few (bad : Int) {n : Nat} (h : n ≤ 20) : shapeE (W bad n) = 0 := by
  unfold shapeE
  rw [W_length, if_neg (by omega), if_neg (by rw [W_gone]; decide)]
theorem many (bad : Int) {n : Nat} (h : 20 < n) (x : Lsm) : batchE x (W bad n) = 4 := by
  have e : shapeE (W bad n) = 4 := by unfold shapeE; rw [W_length, if_pos h]
  unfold batchE
  rw [e, if_neg (by decide)]
theorem puts_V : ∀ (k : Nat), puts (X0 50) (V k) = (X1 50 k, 0)
  | 0 => rfl
  | k + 1 => by
    rw [LsmLetters.V_succ, puts_append, puts_V k, if_pos rfl]
    show puts (X1 50 k) [one k] = _
    rw [puts, if_pos (ok1 (by decide) (by decide) k)]
    rfl
theorem W_V {bad : Int} : ∀ {n : Nat}, (¬ (0 ≤ bad ∧ bad < n)) → W bad n = V n
  | 0, _ => rfl
  | n + 1, h => by
    rw [W_succ, LsmLetters.V_succ, W_V (by omega)]
    congr 2
    exact if_neg (by omega)
theorem fine {bad : Int} {n : Nat} (hb : ¬ (0 ≤ bad ∧ bad < n)) (h : n ≤ 20) : batchE (X0 50) (W bad n) = 0 ∧ (batched (X0 50) (W bad n)).all.length = n := by
  have e : batchE (X0 50) (W bad n) = 0 := by
    unfold batchE
    rw [shape_few bad h, if_pos rfl, W_V hb, puts_V]
  refine ⟨e, ?_⟩
  have e2 : batched (X0 50) (W bad n) = X1 50 n := by
    unfold batched
    rw [if_pos e, W_V hb, puts_V]
  have e3 : (X1 50 n).all = V n := rising_ext (all_rising _) (V_rising n (by omega)) fun k => by rw [all_find, val1 (by decide) (by decide) n (by omega)]
  rw [e2, e3, V_length]
/-- one that is refused: the first one of them -/
theorem puts_bad {bad : Int} : ∀ {n : Nat}, (0 ≤ bad ∧ bad < n) → (puts (X0 50) (W bad n)).2 = 2
  | 0, h => by omega
  | n + 1, h => by
    rw [W_succ, puts_append]
    by_cases hb : bad = n
    · rw [W_V (by omega), puts_V, if_pos rfl]
      have ei : item bad n = nul := if_pos hb.symm
      show (puts (X1 50 n) [item bad n]).2 = 2
      have ek : putE (X1 50 n).young nul = 2 := by
        unfold putE
        have hk : keyE nul.key = 2 := by decide +kernel
        rw [hk, if_pos (by decide)]
      rw [ei, puts, ek, if_neg (by decide)]
    · have i := puts_bad (n := n) (bad := bad) (by omega)
      rw [i, if_neg (by decide), i]
theorem refused {bad : Int} {n : Nat} (hb : 0 ≤ bad ∧ bad < n) (h : n ≤ 20) : batchE (X0 50) (W bad n) = 2 := by
  unfold batchE
  rw [shape_few bad h, if_pos rfl, puts_bad hb]
/-- what is there of a log to which nothing was done -/
theorem none_all : (X0 50).all.length = 0 := by decide +kernel

/-! and of a new log -/
theorem put_err (l : List Pair) : putWE (newW 50) l = batchE (X0 50) l := by
  unfold putWE
  rw [if_neg (show ¬ (newW 50).stopped = true from fun q => by cases q)]
  show (if batchE (X0 50) l ≠ 0 then batchE (X0 50) l else if (none : Option Nat) = some 0 then 6 else 0) = _
  by_cases h : batchE (X0 50) l = 0
  · rw [if_neg (fun q => q h), if_neg (fun q => by cases q), h]
  · rw [if_pos h]
theorem put_bad {l : List Pair} (h : batchE (X0 50) l ≠ 0) (n t : Nat) : putW (newW 50) l n t = newW 50 := if_pos (.inr h)
theorem put_cur {l : List Pair} (h : batchE (X0 50) l = 0) (n t : Nat) : (putW (newW 50) l n t).cur = batched (X0 50) l := by
  unfold putW
  rw [if_neg (show ¬ ((newW 50).stopped = true ∨ batchE (newW 50).cur l ≠ 0) from fun q => q.elim (fun q => by cases q) fun q => q h), if_neg (show ¬ (newW 50).fails = some 0 from fun q => by cases q)]
  exact congrArg Prod.snd (last_snoc (newW 50) _)
theorem none_size : (newW 50).cur.size = 0 ∧ (newW 50).cur.all.length = 0 ∧ (newW 50).bytes = 0 := ⟨rfl, none_all, rfl⟩
theorem fine_size {bad : Int} {n : Nat} (hb : ¬ (0 ≤ bad ∧ bad < n)) (h : n ≤ 20) : (batched (X0 50) (W bad n)).size ≤ 10000 := by
  obtain ⟨e, _⟩ := fine hb h
  unfold batched
  rw [if_pos e, W_V hb, puts_V]
  have := LsmLetters.size1 50 n
  show (X1 50 n).size ≤ _
  omega
theorem W_size (bad : Int) (n : Nat) : ∀ e ∈ W bad n, e.key.size ≤ 10 ∧ e.val.size ≤ 10 := by
  intro e he
  obtain ⟨i, _, rfl⟩ := List.mem_map.1 he
  unfold item
  split
  · decide
  · exact ⟨by show (Letters.ltr i).size ≤ 10; rw [Letters.ltr_size]; decide, by show vee.size ≤ 10; decide⟩

end Go.Proofs.YtofaegcljcpceafGreatDoor.WalOnes
