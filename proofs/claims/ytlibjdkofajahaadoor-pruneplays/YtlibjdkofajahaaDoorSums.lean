/-
  Plain mathematics of sums: what the sum of bytes is, that it is a sum, and when two are not the same. Nothing of the program is named here.
-/
import Derived.KernelRfl
namespace Go.Proofs.YtlibjdkofajahaaDoor.Sums

/-- one byte more -/
def step (n : Int) (c : UInt8) : Int := (n * 131 + (c.toNat : Int) + 1) % 2147483647
/-- the sum of bytes, from a number on -/
def sumFrom (n : Int) (l : List UInt8) : Int := l.foldl step n
/-- the sum of bytes -/
def sum (l : List UInt8) : Int := sumFrom 5381 l

theorem step_ge (n : Int) (c : UInt8) : 0 ≤ step n c := by unfold step; omega
theorem step_lt (n : Int) (c : UInt8) : step n c < 2147483647 := by unfold step; omega
theorem sumFrom_nil (n : Int) : sumFrom n [] = n := rfl
theorem sumFrom_append (n : Int) (l r : List UInt8) : sumFrom n (l ++ r) = sumFrom (sumFrom n l) r := List.foldl_append
theorem sumFrom_snoc (n : Int) (l : List UInt8) (c : UInt8) : sumFrom n (l ++ [c]) = step (sumFrom n l) c := by
  rw [sumFrom_append]; rfl
theorem sumFrom_cons (n : Int) (c : UInt8) (l : List UInt8) : sumFrom n (c :: l) = sumFrom (step n c) l := rfl
theorem sumFrom_bd (n : Int) (l : List UInt8) (h0 : 0 ≤ n) (h1 : n < 2147483647) : 0 ≤ sumFrom n l ∧ sumFrom n l < 2147483647 := by
  induction l generalizing n with
  | nil => exact ⟨h0, h1⟩
  | cons c l ih => rw [sumFrom_cons]; exact ih _ (step_ge _ _) (step_lt _ _)
theorem sum_bd (l : List UInt8) : 0 ≤ sum l ∧ sum l < 2147483647 := sumFrom_bd _ _ (by omega) (by omega)

theorem take_snoc (s : ByteArray) (k : Nat) (h : k < s.size) : s.data.toList.take (k + 1) = s.data.toList.take k ++ [s[k]] := by
  rw [List.take_succ_eq_append_getElem (by simpa using h)]; rfl

/-- two texts of which the last bytes alone differ, but by less than the prime: two sums -/
theorem last_ne (n : Int) (l : List UInt8) (c d : UInt8) (h : c ≠ d) : sumFrom n (l ++ [c]) ≠ sumFrom n (l ++ [d]) := by
  rw [sumFrom_snoc, sumFrom_snoc]
  intro e
  unfold step at e
  have hc := c.toNat_lt
  have hd := d.toNat_lt
  apply h
  apply UInt8.toNat_inj.1
  generalize sumFrom n l * 131 = m at e
  omega

end Go.Proofs.YtlibjdkofajahaaDoor.Sums
