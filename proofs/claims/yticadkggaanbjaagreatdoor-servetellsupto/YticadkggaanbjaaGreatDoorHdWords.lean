/-
  Plain mathematics: what the library's split and decimal numerals are, in the words of our own. Nothing of the program is named here.
-/
import Derived.Test.YticadkggaanbjaaGreatDoorMirPlain
import Derived.Lib.Split
import Derived.Lib.ItoaNum
import Derived.Lib.Join
namespace Go.Proofs.YticadkggaanbjaaGreatDoor.HdWords
open Decimals (words dec dig)
open Nums (str)

theorem decDigits_is : ∀ (f n : Nat), n < f → Lib.decDigits n = dec n
  | 0, _, h => by omega
  | f + 1, n, h => by
    rw [Lib.decDigits]
    by_cases h1 : n < 10
    · rw [dif_pos h1, Decimals.dec_small h1]
      rfl
    · rw [dif_neg h1, Decimals.dec_more h1, decDigits_is f (n / 10) (by omega)]
      rfl
theorem itoa_is (n : Int) (h : 0 ≤ n) : Lib.itoa n = dec n.toNat := by
  unfold Lib.itoa
  rw [if_neg (by omega), decDigits_is (n.toNat + 1) n.toNat (by omega)]

/-- where a byte stands first -/
theorem index_cases (c : UInt8) : ∀ s : List UInt8, (c ∉ s ∧ Lib.index s [c] = -1) ∨ ∃ a b, s = a ++ c :: b ∧ c ∉ a ∧ Lib.index s [c] = (a.length : Int)
  | [] => .inl ⟨by simp, by simp [Lib.index]⟩
  | x :: l => by
    by_cases hx : x = c
    · subst hx
      exact .inr ⟨[], l, rfl, by simp, by simp [Lib.index, List.isPrefixOf]⟩
    · have hn : ([c].isPrefixOf (x :: l)) = false := by
        simp only [List.isPrefixOf, Bool.and_true, beq_eq_false_iff_ne]
        exact fun e => hx e.symm
      rcases index_cases c l with ⟨h1, h2⟩ | ⟨a, b, h1, h2, h3⟩
      · refine .inl ⟨by simp [h1]; exact fun e => hx e.symm, ?_⟩
        rw [Lib.index, hn, h2]
        rfl
      · refine .inr ⟨x :: a, b, by rw [h1]; rfl, by simp [h2]; exact fun e => hx e.symm, ?_⟩
        rw [Lib.index, hn, h3]
        simp only [Bool.false_eq_true, if_false]
        rw [if_neg (by simp)]
        simp
theorem words_length (c : UInt8) : ∀ l, (words c l).length ≤ l.length + 1
  | [] => by simp [words]
  | x :: l => by
    have i := words_length c l
    unfold words
    split
    · simp; omega
    · match hw : words c l, Decimals.words_ne c l with
      | v :: vs, _ =>
        rw [hw] at i
        simp at i ⊢
        omega
theorem split_all (c : UInt8) : ∀ (k : Nat) (s : List UInt8), (words c s).length ≤ k + 1 → Lib.splitK [c] 0 k s = words c s
  | 0, s, h => by
    rcases index_cases c s with ⟨h1, _⟩ | ⟨a, b, h1, h2, _⟩
    · rw [Decimals.words_none h1]
      rfl
    · exfalso
      rw [h1, Decimals.words_cut b h2] at h
      have := List.length_pos_iff.2 (Decimals.words_ne c b)
      simp only [List.length_cons] at h
      omega
  | k + 1, s, h => by
    rcases index_cases c s with ⟨h1, h2⟩ | ⟨a, b, h1, h2, h3⟩
    · rw [Lib.splitK, h2, Decimals.words_none h1]
      rfl
    · rw [Lib.splitK, h3, if_neg (by simp)]
      have e : words c s = a :: words c b := by rw [h1, Decimals.words_cut b h2]
      rw [e] at h ⊢
      have e1 : s.take (((a.length : Nat) : Int).toNat + 0) = a := by rw [h1]; simp
      have e2 : s.drop (((a.length : Nat) : Int).toNat + [c].length) = b := by rw [h1]; simp
      rw [e1, e2, split_all c k b (by simpa using h)]
theorem split_many (c : UInt8) : ∀ (k : Nat) (s : List UInt8), k + 1 ≤ (words c s).length → (Lib.splitK [c] 0 k s).length = k + 1
  | 0, s, _ => rfl
  | k + 1, s, h => by
    rcases index_cases c s with ⟨h1, h2⟩ | ⟨a, b, h1, h2, h3⟩
    · rw [Decimals.words_none h1] at h
      simp at h
    · rw [Lib.splitK, h3, if_neg (by simp)]
      have e : words c s = a :: words c b := by rw [h1, Decimals.words_cut b h2]
      rw [e] at h
      have e2 : s.drop (((a.length : Nat) : Int).toNat + [c].length) = b := by rw [h1]; simp
      rw [e2, List.length_cons, split_many c k b (by simpa using h)]
/-- a text parted at blanks into five at most: into four just where it has four words -/
theorem split_five (s : List UInt8) : ((words 32 s).length = 4 ∧ Lib.splitK [32] 0 (min 5 (s.length + 1) - 1) s = words 32 s) ∨ ((words 32 s).length ≠ 4 ∧ (Lib.splitK [32] 0 (min 5 (s.length + 1) - 1) s).length ≠ 4) := by
  have hl := words_length 32 s
  by_cases h5 : 5 ≤ (words 32 s).length
  · refine .inr ⟨by omega, ?_⟩
    rw [show min 5 (s.length + 1) - 1 = 4 by omega, split_many 32 4 s (by omega)]
    decide
  · have e := split_all 32 (min 5 (s.length + 1) - 1) s (by omega)
    by_cases h4 : (words 32 s).length = 4
    · exact .inl ⟨h4, e⟩
    · exact .inr ⟨h4, by rw [e]; exact h4⟩

theorem join_four (a b c d : List UInt8) : Lib.join [a, b, c, d] [32] = a ++ 32 :: (b ++ 32 :: (c ++ 32 :: d)) := by
  simp [Lib.join, List.intercalate, List.intersperse]

end Go.Proofs.YticadkggaanbjaaGreatDoor.HdWords
