/-
  Plain mathematics of so many entries, as some laws make them: at each place its number, and its digits. Nothing of the program is named here.
-/
import Derived.Test.YtigbbhojgajkjaiEntries
import Derived.Test.YtigbbhojgajkjaiDecimals
namespace Go.Proofs.Ytigbbhojgajkjai.Somes
open Entries (Entry entE entsE)
open Decimals (dec)
open Nums (str)

def one (i : Nat) : Entry := ((i : Int), str (dec i))
def some_ (n : Nat) : List Entry := (List.range n).map one
theorem some_length (n : Nat) : (some_ n).length = n := by simp [some_]
theorem some_succ (n : Nat) : some_ (n + 1) = some_ n ++ [one n] := by simp [some_, List.range_succ]
theorem some_take {n m : Nat} (h : n ≤ m) : (some_ m).take n = some_ n := by
  unfold some_
  rw [← List.map_take, List.take_range, Nat.min_eq_left h]
theorem one_ok {i : Nat} (h : i ≤ 200) : entE (one i) = 0 := by
  have h1 := Decimals.dec_length 3 i (by omega)
  unfold entE one
  rw [if_neg (by omega), if_neg]
  show ¬ 200 < (str (dec i)).size
  rw [Nums.str_size]
  omega
theorem some_ok {n : Nat} (h : n ≤ 200) : entsE (some_ n) = 0 := by
  refine Entries.ents_of (by rw [some_length]; exact h) fun e he => ?_
  obtain ⟨i, hi, rfl⟩ := List.mem_map.1 he
  exact one_ok (by have := List.mem_range.1 hi; omega)

end Go.Proofs.Ytigbbhojgajkjai.Somes
