/-
  Plain mathematics of numbers in decimal, and of words between blanks. Nothing of the program is named here.
-/
import Derived.Test.YtigbbhojgajkjaiNums
namespace Go.Proofs.Ytigbbhojgajkjai.Decimals

/-- a digit -/
def dig (k : Nat) : UInt8 := UInt8.ofNat (48 + k)
theorem dig_toNat {k : Nat} (h : k < 10) : (dig k).toNat = 48 + k := by unfold dig; rw [UInt8.toNat_ofNat']; omega
/-- a number's digits -/
def decF : Nat → Nat → List UInt8
  | 0, _ => []
  | f + 1, n => if n < 10 then [dig n] else decF f (n / 10) ++ [dig (n % 10)]
theorem decF_fuel : ∀ (f g n : Nat), n < f → n < g → decF f n = decF g n
  | 0, _, _, h, _ => by omega
  | _ + 1, 0, _, _, h => by omega
  | f + 1, g + 1, n, hf, hg => by
    unfold decF
    split
    · rfl
    · rw [decF_fuel f g (n / 10) (by omega) (by omega)]
def dec (n : Nat) : List UInt8 := decF (n + 1) n
theorem dec_small {n : Nat} (h : n < 10) : dec n = [dig n] := by unfold dec decF; rw [if_pos h]
theorem dec_more {n : Nat} (h : ¬ n < 10) : dec n = dec (n / 10) ++ [dig (n % 10)] := by
  unfold dec
  rw [decF, if_neg h, decF_fuel n (n / 10 + 1) (n / 10) (by omega) (by omega)]
theorem dec_ne (n : Nat) : dec n ≠ [] := by
  by_cases h : n < 10
  · rw [dec_small h]; simp
  · rw [dec_more h]; simp
/-- how long it is at most -/
theorem dec_length : ∀ (k n : Nat), n < 10 ^ (k + 1) → (dec n).length ≤ k + 1
  | 0, n, h => by rw [dec_small (by simpa using h)]; simp
  | k + 1, n, h => by
    by_cases h1 : n < 10
    · rw [dec_small h1]; simp
    · have h2 : n / 10 < 10 ^ (k + 1) := by
        rw [Nat.pow_succ] at h
        exact Nat.div_lt_of_lt_mul (by rw [Nat.mul_comm]; exact h)
      have := dec_length k (n / 10) h2
      rw [dec_more h1, List.length_append, List.length_singleton]
      omega

/-- is a byte a digit? -/
def isDig (c : UInt8) : Bool := decide (48 ≤ c.toNat ∧ c.toNat ≤ 57)
theorem isDig_dig {k : Nat} (h : k < 10) : isDig (dig k) = true := by
  unfold isDig
  rw [dig_toNat h]
  exact decide_eq_true (by omega)
theorem dig_of {c : UInt8} (h : isDig c = true) : dig (c.toNat - 48) = c := by
  have h' := of_decide_eq_true h
  apply UInt8.toNat_inj.1
  rw [dig_toNat (by omega)]
  omega
def allDig (l : List UInt8) : Bool := l.all isDig
theorem allDig_snoc (l : List UInt8) (c : UInt8) : allDig (l ++ [c]) = (allDig l && isDig c) := by simp [allDig]
theorem dec_all : ∀ (f n : Nat), n < f → allDig (dec n) = true
  | 0, _, h => by omega
  | f + 1, n, h => by
    by_cases h1 : n < 10
    · rw [dec_small h1]
      simp [allDig, isDig_dig h1]
    · rw [dec_more h1, allDig_snoc, dec_all f (n / 10) (by omega), isDig_dig (Nat.mod_lt _ (by decide))]
      rfl
theorem dec_digs (n : Nat) : allDig (dec n) = true := dec_all (n + 1) n (by omega)
/-- what digits are worth -/
def val (l : List UInt8) : Nat := l.foldl (fun n c => n * 10 + (c.toNat - 48)) 0
theorem val_snoc (l : List UInt8) (c : UInt8) : val (l ++ [c]) = val l * 10 + (c.toNat - 48) := by simp [val]
theorem val_dec : ∀ (f n : Nat), n < f → val (dec n) = n
  | 0, _, h => by omega
  | f + 1, n, h => by
    by_cases h1 : n < 10
    · rw [dec_small h1]
      simp only [val, List.foldl_cons, List.foldl_nil]
      rw [dig_toNat h1]
      omega
    · rw [dec_more h1, val_snoc, val_dec f (n / 10) (by omega), dig_toNat (Nat.mod_lt _ (by decide))]
      omega
theorem dec_val (n : Nat) : val (dec n) = n := val_dec (n + 1) n (by omega)
theorem val_lt : ∀ (k : Nat) (l : List UInt8), l.length ≤ k → allDig l = true → val l < 10 ^ k := by
  intro k
  induction k with
  | zero =>
    intro l hl _
    rw [List.length_eq_zero_iff.1 (by omega : l.length = 0)]
    simp [val]
  | succ k ih =>
    intro l hl hd
    by_cases h0 : l = []
    · subst h0
      simp only [val, List.foldl_nil]
      exact Nat.pow_pos (by decide)
    · obtain ⟨r, c, rfl⟩ : ∃ r c, l = r ++ [c] := ⟨l.dropLast, l.getLast h0, (List.dropLast_concat_getLast _).symm⟩
      rw [allDig_snoc, Bool.and_eq_true] at hd
      have h1 := of_decide_eq_true hd.2
      have := ih r (by simpa using hl) hd.1
      rw [val_snoc, Nat.pow_succ]
      omega
/-- is there a needless 0 ahead? -/
def needless (l : List UInt8) : Bool := decide (l.head? = some 48 ∧ 1 < l.length)
theorem dec_head : ∀ (f n : Nat), n < f → 0 < n → (dec n).head? ≠ some 48
  | 0, _, h, _ => by omega
  | f + 1, n, h, h0 => by
    by_cases h1 : n < 10
    · rw [dec_small h1]
      simp only [List.head?_cons, ne_eq, Option.some.injEq]
      intro e
      have := congrArg UInt8.toNat e
      rw [dig_toNat h1] at this
      have e2 : (48 : UInt8).toNat = 48 := rfl
      omega
    · rw [dec_more h1]
      have i := dec_head f (n / 10) (by omega) (by omega)
      have hn := dec_ne (n / 10)
      match hd : dec (n / 10), hn with
      | c :: r, _ => rw [hd] at i; simpa using i
theorem dec_needless (n : Nat) : needless (dec n) = false := by
  unfold needless
  apply decide_eq_false
  rintro ⟨h1, h2⟩
  rcases Nat.eq_zero_or_pos n with h | h
  · subst h
    rw [dec_small (by decide)] at h2
    simp at h2
  · exact dec_head (n + 1) n (by omega) h h1
/-- digits without a needless 0 are those of what they are worth -/
theorem dec_of : ∀ (k : Nat) (l : List UInt8), l.length = k + 1 → allDig l = true → needless l = false → dec (val l) = l := by
  intro k
  induction k with
  | zero =>
    intro l hl hd _
    match l, hl with
    | [c], _ =>
      have hc : isDig c = true := by simpa [allDig] using hd
      have h1 := of_decide_eq_true hc
      have e : val [c] = c.toNat - 48 := by simp [val]
      rw [e, dec_small (by omega), dig_of hc]
  | succ k ih =>
    intro l hl hd hn
    have hne : l ≠ [] := by intro h; simp [h] at hl
    obtain ⟨r, c, rfl⟩ : ∃ r c, l = r ++ [c] := ⟨l.dropLast, l.getLast hne, (List.dropLast_concat_getLast _).symm⟩
    rw [allDig_snoc, Bool.and_eq_true] at hd
    have hr : r.length = k + 1 := by simpa using hl
    have h1 := of_decide_eq_true hd.2
    have hh : r.head? ≠ some 48 := by
      intro h
      have := of_decide_eq_false hn
      apply this
      refine ⟨?_, by simp; omega⟩
      rw [List.head?_append, h]; rfl
    have hnr : needless r = false := decide_eq_false fun h => hh h.1
    have i := ih r hr hd.1 hnr
    have hpos : 0 < val r := by
      rcases Nat.eq_zero_or_pos (val r) with h | h
      · rw [h, dec_small (by decide)] at i
        rw [← i] at hh
        exact absurd rfl hh
      · exact h
    rw [val_snoc, dec_more (by omega), show (val r * 10 + (c.toNat - 48)) / 10 = val r by omega, show (val r * 10 + (c.toNat - 48)) % 10 = c.toNat - 48 by omega, i, dig_of hd.2]
/-- a text as a number of at most so many digits -/
def number (l : List UInt8) (most : Nat) : Option Nat := if l = [] ∨ most < l.length ∨ needless l = true ∨ allDig l = false then none else some (val l)
theorem number_dec (n most : Nat) (h : (dec n).length ≤ most) : number (dec n) most = some n := by
  unfold number
  rw [if_neg, dec_val]
  rintro (h1 | h1 | h1 | h1)
  · exact dec_ne n h1
  · omega
  · rw [dec_needless] at h1; cases h1
  · rw [dec_digs] at h1; cases h1
theorem number_some {l : List UInt8} {most n : Nat} (h : number l most = some n) : dec n = l ∧ l.length ≤ most := by
  unfold number at h
  split at h
  · cases h
  · rename_i h1
    simp only [Option.some.injEq] at h
    subst h
    have hne : l ≠ [] := fun e => h1 (.inl e)
    have hl : 0 < l.length := List.length_pos_iff.2 hne
    refine ⟨dec_of (l.length - 1) l (by omega) ?_ ?_, by omega⟩
    · cases hd : allDig l
      · exact absurd (.inr (.inr (.inr hd))) h1
      · rfl
    · cases hd : needless l
      · rfl
      · exact absurd (.inr (.inr (.inl hd))) h1

/-- the words of a text, between the bytes c -/
def words (c : UInt8) : List UInt8 → List (List UInt8)
  | [] => [[]]
  | x :: l => if x = c then [] :: words c l else match words c l with | [] => [[x]] | w :: ws => (x :: w) :: ws
theorem words_ne (c : UInt8) : ∀ l, words c l ≠ []
  | [] => by simp [words]
  | x :: l => by
    unfold words
    split
    · simp
    · split <;> simp
theorem words_none {c : UInt8} : ∀ {l : List UInt8}, c ∉ l → words c l = [l]
  | [], _ => rfl
  | x :: l, h => by
    have h1 : x ≠ c := fun e => h (by simp [e])
    have h2 : c ∉ l := fun e => h (List.mem_cons_of_mem _ e)
    rw [words, if_neg h1, words_none h2]
theorem words_cut {c : UInt8} : ∀ {a : List UInt8} (b : List UInt8), c ∉ a → words c (a ++ c :: b) = a :: words c b
  | [], b, _ => by rw [List.nil_append, words, if_pos rfl]
  | x :: a, b, h => by
    have h1 : x ≠ c := fun e => h (by simp [e])
    have h2 : c ∉ a := fun e => h (List.mem_cons_of_mem _ e)
    rw [List.cons_append, words, if_neg h1, words_cut b h2]
/-- and back -/
def joined (c : UInt8) : List (List UInt8) → List UInt8
  | [] => []
  | [w] => w
  | w :: v :: ws => w ++ c :: joined c (v :: ws)
theorem joined_words (c : UInt8) : ∀ l, joined c (words c l) = l
  | [] => rfl
  | x :: l => by
    have i := joined_words c l
    rw [words]
    split
    · rename_i h
      subst h
      match hw : words x l, words_ne x l with
      | v :: ws, _ =>
        rw [hw] at i
        rw [joined, i]
        rfl
    · match hw : words c l, words_ne c l with
      | [v], _ =>
        rw [hw] at i
        simp only [joined] at i ⊢
        rw [i]
      | v :: u :: ws, _ =>
        rw [hw] at i
        simp only [joined] at i ⊢
        rw [List.cons_append, i]
theorem blank_dig {l : List UInt8} (h : allDig l = true) : (32 : UInt8) ∉ l := by
  intro hm
  have := List.all_eq_true.1 h _ hm
  exact absurd this (by decide)

end Go.Proofs.Ytigbbhojgajkjai.Decimals
