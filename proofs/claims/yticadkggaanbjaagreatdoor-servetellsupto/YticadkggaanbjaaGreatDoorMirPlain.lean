/-
  Plain mathematics of sums: what the sum of bytes is, that it is a sum, and when two are not the same. Nothing of the program is named here.
-/
import Derived.KernelRfl
import Derived.Lib.Bytealg
namespace Go.Proofs.YticadkggaanbjaaGreatDoor.Sums

/-- one byte more -/
def step (n : Int) (c : UInt8) : Int := (n * 131 + (c.toNat : Int) + 1) % 2147483647
/-- the sum of bytes, from a number on -/
def sumFrom (n : Int) (l : List UInt8) : Int := l.foldl step n
/-- the sum of bytes -/
def sum (l : List UInt8) : Int := sumFrom 5381 l

theorem step_ge (n : Int) (c : UInt8) : 0 ≤ step n c := by unfold step; omega
theorem step_lt (n : Int) (c : UInt8) : step n c < 2147483647 := by unfold step; omega
theorem sumFrom_nil (n : Int) : sumFrom n [] = n := rfl
theorem sumFrom_append (n : Int) (l r : List UInt8) : sumFrom n (l ++ r) = sumFrom (sumFrom n l) r := List.foldl_append
theorem sumFrom_snoc (n : Int) (l : List UInt8) (c : UInt8) : sumFrom n (l ++ [c]) = step (sumFrom n l) c := by
  rw [sumFrom_append]; rfl
theorem sumFrom_cons (n : Int) (c : UInt8) (l : List UInt8) : sumFrom n (c :: l) = sumFrom (step n c) l := rfl
theorem sumFrom_bd (n : Int) (l : List UInt8) (h0 : 0 ≤ n) (h1 : n < 2147483647) : 0 ≤ sumFrom n l ∧ sumFrom n l < 2147483647 := by
  induction l generalizing n with
  | nil => exact ⟨h0, h1⟩
  | cons c l ih => rw [sumFrom_cons]; exact ih _ (step_ge _ _) (step_lt _ _)
theorem sum_bd (l : List UInt8) : 0 ≤ sum l ∧ sum l < 2147483647 := sumFrom_bd _ _ (by omega) (by omega)

theorem take_snoc (s : ByteArray) (k : Nat) (h : k < s.size) : s.data.toList.take (k + 1) = s.data.toList.take k ++ [s[k]] := by
  rw [List.take_succ_eq_append_getElem (by simpa using h)]; rfl

/-- two texts of which the last bytes alone differ, but by less than the prime: two sums -/
theorem last_ne (n : Int) (l : List UInt8) (c d : UInt8) (h : c ≠ d) : sumFrom n (l ++ [c]) ≠ sumFrom n (l ++ [d]) := by
  rw [sumFrom_snoc, sumFrom_snoc]
  intro e
  unfold step at e
  have hc := c.toNat_lt
  have hd := d.toNat_lt
  apply h
  apply UInt8.toNat_inj.1
  generalize sumFrom n l * 131 = m at e
  omega

end Go.Proofs.YticadkggaanbjaaGreatDoor.Sums

/-
  Plain mathematics of sums as numbers: which are sums, a sum as four bytes and as eight digits of base 16, and what a text reads as. Nothing of the program is named here.
-/
namespace Go.Proofs.YticadkggaanbjaaGreatDoor.Nums

/-- bytes as a string -/
def str (l : List UInt8) : ByteArray := ⟨l.toArray⟩
theorem str_data (l : List UInt8) : (str l).data.toList = l := rfl
theorem str_toList (l : List UInt8) : (str l).toList = l := by rw [ByteArray.toList_eq, str_data]
theorem str_size (l : List UInt8) : (str l).size = l.length := by simp [str, ByteArray.size]
theorem str_append (a b : List UInt8) : str a ++ str b = str (a ++ b) := by
  apply ByteArray.ext
  apply Array.toList_inj.1
  simp [str]
theorem str_of (s : ByteArray) : str s.data.toList = s := rfl
theorem str_inj {a b : List UInt8} (h : str a = str b) : a = b := by rw [← str_data a, h, str_data]

/-- is a number a sum? -/
def valid (n : Int) : Bool := decide (0 ≤ n ∧ n < 2147483647)
theorem valid_iff {n : Int} : valid n = true ↔ 0 ≤ n ∧ n < 2147483647 := by unfold valid; exact decide_eq_true_iff
theorem valid_no {n : Int} : valid n = false ↔ ¬ (0 ≤ n ∧ n < 2147483647) := by unfold valid; exact decide_eq_false_iff_not

/-- a sum as four bytes -/
def four (a : Int) : List UInt8 := [UInt8.ofNat (a.toNat / 16777216), UInt8.ofNat (a.toNat / 65536), UInt8.ofNat (a.toNat / 256), UInt8.ofNat a.toNat]
/-- the bytes of a node -/
def nodeBytes (a b : Int) : List UInt8 := 1 :: (four a ++ four b)

theorem four_inj {a b : Int} (ha : valid a = true) (hb : valid b = true) (h : four a = four b) : a = b := by
  rw [valid_iff] at ha hb
  simp only [four, List.cons.injEq, and_true, ← UInt8.toNat_inj, UInt8.toNat_ofNat'] at h
  omega
theorem four_length (a : Int) : (four a).length = 4 := rfl
theorem nodeBytes_length (a b : Int) : (nodeBytes a b).length = 9 := rfl
theorem nodeBytes_inj {a b c d : Int} (ha : valid a = true) (hb : valid b = true) (hc : valid c = true) (hd : valid d = true) : nodeBytes a b = nodeBytes c d ↔ a = c ∧ b = d := by
  constructor
  · intro h
    have h' := (List.cons.inj h).2
    have := List.append_inj h' (by rw [four_length, four_length])
    exact ⟨four_inj ha hc this.1, four_inj hb hd this.2⟩
  · rintro ⟨rfl, rfl⟩; rfl

/-- the digits of base 16 -/
def digits : List UInt8 := [48, 49, 50, 51, 52, 53, 54, 55, 56, 57, 97, 98, 99, 100, 101, 102]
def digit (k : Nat) : UInt8 := digits.getD k 0
/-- what a byte is worth; -1 if it is no digit -/
def hexv (c : UInt8) : Int := Lib.indexByte digits c

theorem hexv_digit (k : Nat) (h : k < 16) : hexv (digit k) = k := by
  have : ∀ k : Fin 16, hexv (digit k.val) = (k.val : Int) := by decide +kernel
  exact this ⟨k, h⟩
theorem hexv_all (c : UInt8) : hexv c = -1 ∨ (0 ≤ hexv c ∧ hexv c < 16 ∧ digit (hexv c).toNat = c) := by
  have : ∀ k : Fin 256, hexv (UInt8.ofNat k.val) = -1 ∨ (0 ≤ hexv (UInt8.ofNat k.val) ∧ hexv (UInt8.ofNat k.val) < 16 ∧ digit (hexv (UInt8.ofNat k.val)).toNat = UInt8.ofNat k.val) := by decide +kernel
  have h := this ⟨c.toNat, c.toNat_lt⟩
  simpa using h
theorem hexv_ge (c : UInt8) : -1 ≤ hexv c := by rcases hexv_all c with h | h <;> omega
theorem hexv_lt (c : UInt8) : hexv c < 16 := by rcases hexv_all c with h | h <;> omega
theorem digit_hexv (c : UInt8) (h : 0 ≤ hexv c) : digit (hexv c).toNat = c := by
  rcases hexv_all c with h' | h'
  · omega
  · exact h'.2.2

/-- the last k digits of a number -/
def hexOf : Nat → Nat → List UInt8
  | 0, _ => []
  | k + 1, n => hexOf k (n / 16) ++ [digit (n % 16)]
theorem hexOf_length (k n : Nat) : (hexOf k n).length = k := by
  induction k generalizing n with
  | zero => rfl
  | succ k ih => simp [hexOf, ih]
theorem hexOf_cons (k n : Nat) : hexOf (k + 1) n = digit (n / 16 ^ k % 16) :: hexOf k n := by
  induction k generalizing n with
  | zero => simp [hexOf]
  | succ k ih =>
    rw [hexOf, ih (n / 16), hexOf, List.cons_append, Nat.div_div_eq_div_mul, Nat.pow_succ, Nat.mul_comm 16]
/-- a sum as text -/
def text (n : Int) : List UInt8 := hexOf 8 n.toNat
theorem text_length (n : Int) : (text n).length = 8 := hexOf_length _ _

def val (l : List UInt8) : Int := l.foldl (fun n c => n * 16 + hexv c) 0
theorem val_snoc (l : List UInt8) (c : UInt8) : val (l ++ [c]) = val l * 16 + hexv c := by simp [val]
def allHex (l : List UInt8) : Bool := l.all fun c => decide (0 ≤ hexv c)
theorem allHex_snoc (l : List UInt8) (c : UInt8) : allHex (l ++ [c]) = (allHex l && decide (0 ≤ hexv c)) := by simp [allHex]

/-- a text as a sum, and what is wrong: 0 nothing, 1 its size, 2 its form -/
def read (l : List UInt8) : Int × Nat :=
  if l.length = 8 ∧ allHex l = true then (if valid (val l) then (val l, 0) else (0, 1)) else (0, 2)

theorem hexOf_all (k n : Nat) : allHex (hexOf k n) = true := by
  induction k generalizing n with
  | zero => rfl
  | succ k ih =>
    rw [hexOf, allHex_snoc, ih, hexv_digit _ (Nat.mod_lt _ (by decide))]
    simp
    omega
theorem val_hexOf (k n : Nat) : val (hexOf k n) = ((n % 16 ^ k : Nat) : Int) := by
  induction k generalizing n with
  | zero => simp [hexOf, val, Nat.mod_one]
  | succ k ih =>
    rw [hexOf, val_snoc, ih, hexv_digit _ (Nat.mod_lt _ (by decide))]
    have h : n % 16 ^ (k + 1) = n % 16 + 16 * (n / 16 % 16 ^ k) := by
      rw [Nat.pow_succ, Nat.mul_comm, Nat.mod_mul]
    rw [h]
    omega
theorem val_bd (l : List UInt8) (h : allHex l = true) : 0 ≤ val l ∧ val l < ((16 ^ l.length : Nat) : Int) := by
  rw [← List.reverse_reverse l] at h ⊢
  generalize l.reverse = r at h ⊢
  induction r with
  | nil => simp [val]
  | cons c r ih =>
    rw [List.reverse_cons, allHex_snoc, Bool.and_eq_true, decide_eq_true_eq] at h
    have := ih h.1
    have := hexv_lt c
    rw [List.reverse_cons, val_snoc, List.length_append, List.length_singleton, Nat.pow_succ]
    omega
theorem hexOf_val (k : Nat) (l : List UInt8) (hk : l.length = k) (h : allHex l = true) : hexOf k (val l).toNat = l := by
  induction k generalizing l with
  | zero => rw [List.length_eq_zero_iff.1 hk]; rfl
  | succ k ih =>
    obtain ⟨r, c, rfl⟩ : ∃ r c, l = r ++ [c] := ⟨l.dropLast, l.getLast (by intro e; simp [e] at hk), (List.dropLast_concat_getLast _).symm⟩
    rw [allHex_snoc, Bool.and_eq_true, decide_eq_true_eq] at h
    have b := val_bd r h.1
    have b1 := hexv_lt c
    have hc := digit_hexv c h.2
    have hr := ih r (by simpa using hk) h.1
    rw [val_snoc, hexOf]
    have e1 : (val r * 16 + hexv c).toNat / 16 = (val r).toNat := by omega
    have e2 : (val r * 16 + hexv c).toNat % 16 = (hexv c).toNat := by omega
    rw [e1, e2, hr, hc]

theorem read_text (n : Int) (h : valid n = true) : read (text n) = (n, 0) := by
  have h' := valid_iff.1 h
  have e : val (text n) = n := by
    rw [text, val_hexOf, Nat.mod_eq_of_lt (by omega)]
    omega
  rw [read, if_pos ⟨text_length n, hexOf_all _ _⟩, e, if_pos h]
theorem text_read (l : List UInt8) (k : Int) (h : read l = (k, 0)) : text k = l ∧ valid k = true := by
  unfold read at h
  split at h
  · rename_i hl
    split at h
    · rename_i hv
      simp only [Prod.mk.injEq, and_true] at h
      subst h
      exact ⟨hexOf_val 8 l hl.1 hl.2, hv⟩
    · simp at h
  · simp at h
theorem read_cases (l : List UInt8) : (∃ k, read l = (k, 0)) ∨ read l = (0, 1) ∨ read l = (0, 2) := by
  unfold read
  split
  · split
    · exact .inl ⟨_, rfl⟩
    · exact .inr (.inl rfl)
  · exact .inr (.inr rfl)

end Go.Proofs.YticadkggaanbjaaGreatDoor.Nums

/-
  Plain mathematics of numbers in decimal, and of words between blanks. Nothing of the program is named here.
-/
namespace Go.Proofs.YticadkggaanbjaaGreatDoor.Decimals

/-- a digit -/
def dig (k : Nat) : UInt8 := UInt8.ofNat (48 + k)
theorem dig_toNat {k : Nat} (h : k < 10) : (dig k).toNat = 48 + k := by unfold dig; rw [UInt8.toNat_ofNat']; omega
/-- a number's digits -/
def decF : Nat → Nat → List UInt8
  | 0, _ => []
  | f + 1, n => if n < 10 then [dig n] else decF f (n / 10) ++ [dig (n % 10)]
theorem decF_fuel : ∀ (f g n : Nat), n < f → n < g → decF f n = decF g n
  | 0, _, _, h, _ => by omega
  | _ + 1, 0, _, _, h => by omega
  | f + 1, g + 1, n, hf, hg => by
    unfold decF
    split
    · rfl
    · rw [decF_fuel f g (n / 10) (by omega) (by omega)]
def dec (n : Nat) : List UInt8 := decF (n + 1) n
theorem dec_small {n : Nat} (h : n < 10) : dec n = [dig n] := by unfold dec decF; rw [if_pos h]
theorem dec_more {n : Nat} (h : ¬ n < 10) : dec n = dec (n / 10) ++ [dig (n % 10)] := by
  unfold dec
  rw [decF, if_neg h, decF_fuel n (n / 10 + 1) (n / 10) (by omega) (by omega)]
theorem dec_ne (n : Nat) : dec n ≠ [] := by
  by_cases h : n < 10
  · rw [dec_small h]; simp
  · rw [dec_more h]; simp
/-- how long it is at most -/
theorem dec_length : ∀ (k n : Nat), n < 10 ^ (k + 1) → (dec n).length ≤ k + 1
  | 0, n, h => by rw [dec_small (by simpa using h)]; simp
  | k + 1, n, h => by
    by_cases h1 : n < 10
    · rw [dec_small h1]; simp
    · have h2 : n / 10 < 10 ^ (k + 1) := by
        rw [Nat.pow_succ] at h
        exact Nat.div_lt_of_lt_mul (by rw [Nat.mul_comm]; exact h)
      have := dec_length k (n / 10) h2
      rw [dec_more h1, List.length_append, List.length_singleton]
      omega

/-- is a byte a digit? -/
def isDig (c : UInt8) : Bool := decide (48 ≤ c.toNat ∧ c.toNat ≤ 57)
theorem isDig_dig {k : Nat} (h : k < 10) : isDig (dig k) = true := by
  unfold isDig
  rw [dig_toNat h]
  exact decide_eq_true (by omega)
theorem dig_of {c : UInt8} (h : isDig c = true) : dig (c.toNat - 48) = c := by
  have h' := of_decide_eq_true h
  apply UInt8.toNat_inj.1
  rw [dig_toNat (by omega)]
  omega
def allDig (l : List UInt8) : Bool := l.all isDig
theorem allDig_snoc (l : List UInt8) (c : UInt8) : allDig (l ++ [c]) = (allDig l && isDig c) := by simp [allDig]
theorem dec_all : ∀ (f n : Nat), n < f → allDig (dec n) = true
  | 0, _, h => by omega
  | f + 1, n, h => by
    by_cases h1 : n < 10
    · rw [dec_small h1]
      simp [allDig, isDig_dig h1]
    · rw [dec_more h1, allDig_snoc, dec_all f (n / 10) (by omega), isDig_dig (Nat.mod_lt _ (by decide))]
      rfl
theorem dec_digs (n : Nat) : allDig (dec n) = true := dec_all (n + 1) n (by omega)
/-- what digits are worth -/
def val (l : List UInt8) : Nat := l.foldl (fun n c => n * 10 + (c.toNat - 48)) 0
theorem val_snoc (l : List UInt8) (c : UInt8) : val (l ++ [c]) = val l * 10 + (c.toNat - 48) := by simp [val]
theorem val_dec : ∀ (f n : Nat), n < f → val (dec n) = n
  | 0, _, h => by omega
  | f + 1, n, h => by
    by_cases h1 : n < 10
    · rw [dec_small h1]
      simp only [val, List.foldl_cons, List.foldl_nil]
      rw [dig_toNat h1]
      omega
    · rw [dec_more h1, val_snoc, val_dec f (n / 10) (by omega), dig_toNat (Nat.mod_lt _ (by decide))]
      omega
theorem dec_val (n : Nat) : val (dec n) = n := val_dec (n + 1) n (by omega)
theorem val_lt : ∀ (k : Nat) (l : List UInt8), l.length ≤ k → allDig l = true → val l < 10 ^ k := by
  intro k
  induction k with
  | zero =>
    intro l hl _
    rw [List.length_eq_zero_iff.1 (by omega : l.length = 0)]
    simp [val]
  | succ k ih =>
    intro l hl hd
    by_cases h0 : l = []
    · subst h0
      simp only [val, List.foldl_nil]
      exact Nat.pow_pos (by decide)
    · obtain ⟨r, c, rfl⟩ : ∃ r c, l = r ++ [c] := ⟨l.dropLast, l.getLast h0, (List.dropLast_concat_getLast _).symm⟩
      rw [allDig_snoc, Bool.and_eq_true] at hd
      have h1 := of_decide_eq_true hd.2
      have := ih r (by simpa using hl) hd.1
      rw [val_snoc, Nat.pow_succ]
      omega
/-- is there a needless 0 ahead? -/
def needless (l : List UInt8) : Bool := decide (l.head? = some 48 ∧ 1 < l.length)
theorem dec_head : ∀ (f n : Nat), n < f → 0 < n → (dec n).head? ≠ some 48
  | 0, _, h, _ => by omega
  | f + 1, n, h, h0 => by
    by_cases h1 : n < 10
    · rw [dec_small h1]
      simp only [List.head?_cons, ne_eq, Option.some.injEq]
      intro e
      have := congrArg UInt8.toNat e
      rw [dig_toNat h1] at this
      have e2 : (48 : UInt8).toNat = 48 := rfl
      omega
    · rw [dec_more h1]
      have i := dec_head f (n / 10) (by omega) (by omega)
      have hn := dec_ne (n / 10)
      match hd : dec (n / 10), hn with
      | c :: r, _ => rw [hd] at i; simpa using i
theorem dec_needless (n : Nat) : needless (dec n) = false := by
  unfold needless
  apply decide_eq_false
  rintro ⟨h1, h2⟩
  rcases Nat.eq_zero_or_pos n with h | h
  · subst h
    rw [dec_small (by decide)] at h2
    simp at h2
  · exact dec_head (n + 1) n (by omega) h h1
/-- digits without a needless 0 are those of what they are worth -/
theorem dec_of : ∀ (k : Nat) (l : List UInt8), l.length = k + 1 → allDig l = true → needless l = false → dec (val l) = l := by
  intro k
  induction k with
  | zero =>
    intro l hl hd _
    match l, hl with
    | [c], _ =>
      have hc : isDig c = true := by simpa [allDig] using hd
      have h1 := of_decide_eq_true hc
      have e : val [c] = c.toNat - 48 := by simp [val]
      rw [e, dec_small (by omega), dig_of hc]
  | succ k ih =>
    intro l hl hd hn
    have hne : l ≠ [] := by intro h; simp [h] at hl
    obtain ⟨r, c, rfl⟩ : ∃ r c, l = r ++ [c] := ⟨l.dropLast, l.getLast hne, (List.dropLast_concat_getLast _).symm⟩
    rw [allDig_snoc, Bool.and_eq_true] at hd
    have hr : r.length = k + 1 := by simpa using hl
    have h1 := of_decide_eq_true hd.2
    have hh : r.head? ≠ some 48 := by
      intro h
      have := of_decide_eq_false hn
      apply this
      refine ⟨?_, by simp; omega⟩
      rw [List.head?_append, h]; rfl
    have hnr : needless r = false := decide_eq_false fun h => hh h.1
    have i := ih r hr hd.1 hnr
    have hpos : 0 < val r := by
      rcases Nat.eq_zero_or_pos (val r) with h | h
      · rw [h, dec_small (by decide)] at i
        rw [← i] at hh
        exact absurd rfl hh
      · exact h
    rw [val_snoc, dec_more (by omega), show (val r * 10 + (c.toNat - 48)) / 10 = val r by omega, show (val r * 10 + (c.toNat - 48)) % 10 = c.toNat - 48 by omega, i, dig_of hd.2]
/-- a text as a number of at most so many digits -/
def number (l : List UInt8) (most : Nat) : Option Nat := if l = [] ∨ most < l.length ∨ needless l = true ∨ allDig l = false then none else some (val l)
theorem number_dec (n most : Nat) (h : (dec n).length ≤ most) : number (dec n) most = some n := by
  unfold number
  rw [if_neg, dec_val]
  rintro (h1 | h1 | h1 | h1)
  · exact dec_ne n h1
  · omega
  · rw [dec_needless] at h1; cases h1
  · rw [dec_digs] at h1; cases h1
theorem number_some {l : List UInt8} {most n : Nat} (h : number l most = some n) : dec n = l ∧ l.length ≤ most := by
  unfold number at h
  split at h
  · cases h
  · rename_i h1
    simp only [Option.some.injEq] at h
    subst h
    have hne : l ≠ [] := fun e => h1 (.inl e)
    have hl : 0 < l.length := List.length_pos_iff.2 hne
    refine ⟨dec_of (l.length - 1) l (by omega) ?_ ?_, by omega⟩
    · cases hd : allDig l
      · exact absurd (.inr (.inr (.inr hd))) h1
      · rfl
    · cases hd : needless l
      · rfl
      · exact absurd (.inr (.inr (.inl hd))) h1

/-- the words of a text, between the bytes c -/
def words (c : UInt8) : List UInt8 → List (List UInt8)
  | [] => [[]]
  | x :: l => if x = c then [] :: words c l else match words c l with | [] => [[x]] | w :: ws => (x :: w) :: ws
theorem words_ne (c : UInt8) : ∀ l, words c l ≠ []
  | [] => by simp [words]
  | x :: l => by
    unfold words
    split
    · simp
    · split <;> simp
theorem words_none {c : UInt8} : ∀ {l : List UInt8}, c ∉ l → words c l = [l]
  | [], _ => rfl
  | x :: l, h => by
    have h1 : x ≠ c := fun e => h (by simp [e])
    have h2 : c ∉ l := fun e => h (List.mem_cons_of_mem _ e)
    rw [words, if_neg h1, words_none h2]
theorem words_cut {c : UInt8} : ∀ {a : List UInt8} (b : List UInt8), c ∉ a → words c (a ++ c :: b) = a :: words c b
  | [], b, _ => by rw [List.nil_append, words, if_pos rfl]
  | x :: a, b, h => by
    have h1 : x ≠ c := fun e => h (by simp [e])
    have h2 : c ∉ a := fun e => h (List.mem_cons_of_mem _ e)
    rw [List.cons_append, words, if_neg h1, words_cut b h2]
/-- and back -/
def joined (c : UInt8) : List (List UInt8) → List UInt8
  | [] => []
  | [w] => w
  | w :: v :: ws => w ++ c :: joined c (v :: ws)
theorem joined_words (c : UInt8) : ∀ l, joined c (words c l) = l
  | [] => rfl
  | x :: l => by
    have i := joined_words c l
    rw [words]
    split
    · rename_i h
      subst h
      match hw : words x l, words_ne x l with
      | v :: ws, _ =>
        rw [hw] at i
        rw [joined, i]
        rfl
    · match hw : words c l, words_ne c l with
      | [v], _ =>
        rw [hw] at i
        simp only [joined] at i ⊢
        rw [i]
      | v :: u :: ws, _ =>
        rw [hw] at i
        simp only [joined] at i ⊢
        rw [List.cons_append, i]
theorem blank_dig {l : List UInt8} (h : allDig l = true) : (32 : UInt8) ∉ l := by
  intro hm
  have := List.all_eq_true.1 h _ hm
  exact absurd this (by decide)

end Go.Proofs.YticadkggaanbjaaGreatDoor.Decimals

/-
  Plain mathematics of heads: what is wrong with one, its text and what a text reads as, its sign, and which is the better. Nothing of the program is named here.
-/
namespace Go.Proofs.YticadkggaanbjaaGreatDoor.Heads
open Nums (valid text read)
open Decimals (dec number words)

/-- size, root, time, sign -/
structure Head where
  size : Int
  root : Int
  time : Int
  sign : Int
theorem Head.ext_iff' {a b : Head} : a = b ↔ a.size = b.size ∧ a.root = b.root ∧ a.time = b.time ∧ a.sign = b.sign := by
  constructor
  · rintro rfl; exact ⟨rfl, rfl, rfl, rfl⟩
  · obtain ⟨_, _, _, _⟩ := a
    obtain ⟨_, _, _, _⟩ := b
    rintro ⟨h1, h2, h3, h4⟩
    simp only at h1 h2 h3 h4
    subst h1 h2 h3 h4
    rfl
/-- is there nothing wrong with one? -/
def ok (h : Head) : Bool := decide (0 ≤ h.size ∧ h.size ≤ 200 ∧ 0 ≤ h.time ∧ h.time ≤ 1000000) && valid h.root && valid h.sign
def headE (h : Head) : Nat := if ok h = true then 0 else 1
theorem ok_iff {h : Head} : ok h = true ↔ (0 ≤ h.size ∧ h.size ≤ 200 ∧ 0 ≤ h.time ∧ h.time ≤ 1000000) ∧ valid h.root = true ∧ valid h.sign = true := by
  unfold ok
  rw [Bool.and_eq_true, Bool.and_eq_true, decide_eq_true_iff, and_assoc]
theorem headE_zero {h : Head} : headE h = 0 ↔ ok h = true := by
  unfold headE
  split
  · exact ⟨fun _ => by assumption, fun _ => rfl⟩
  · rename_i h1
    exact ⟨fun h2 => (by cases h2), fun h2 => absurd h2 h1⟩

/-- its text -/
def print (h : Head) : List UInt8 := dec h.size.toNat ++ 32 :: (text h.root ++ 32 :: (dec h.time.toNat ++ 32 :: text h.sign))
/-- the text that is signed -/
def said (h : Head) (key : Int) : List UInt8 := dec h.size.toNat ++ 32 :: (text h.root ++ 32 :: (dec h.time.toNat ++ 32 :: dec key.toNat))
def signOf (h : Head) (key : Int) : Int := Sums.sum (said h key)
theorem signOf_valid (h : Head) (key : Int) : valid (signOf h key) = true := by
  have := Sums.sum_bd (said h key)
  exact Nums.valid_iff.2 ⟨this.1, this.2⟩
/-- its sign is none of what is signed -/
theorem said_sign (h : Head) (s : Int) (key : Int) : said { h with sign := s } key = said h key := rfl
def isKey (key : Int) : Bool := decide (1 ≤ key ∧ key ≤ 1000000)
/-- what is wrong with a sign -/
def verifyE (h : Head) (key : Int) : Nat := if isKey key = true ∧ ok h = true then (if h.sign = signOf h key then 0 else 9) else 1
def blank (h : Head) : Head := { h with sign := 0 }
def signE (h : Head) (key : Int) : Nat := if isKey key = true ∧ ok (blank h) = true then 0 else 1
def zero : Head := ⟨0, 0, 0, 0⟩
def signV (h : Head) (key : Int) : Head := if signE h key = 0 then { h with sign := signOf h key } else zero
/-- is the first the one to go by? -/
def more (a b : Head) : Bool := decide (b.size < a.size ∨ (a.size = b.size ∧ b.time < a.time))
def betterE (a b : Head) : Nat := if headE a = 0 then headE b else headE a
def betterV (a b : Head) : Bool := decide (betterE a b = 0) && more a b

/-- a text as a head, and what is wrong -/
def parse (s : List UInt8) : Head × Nat :=
  match words 32 s with
  | [a, b, c, d] =>
    match number a 9, number c 9 with
    | some x, some y =>
      if (read b).2 = 2 ∨ (read d).2 = 2 then (zero, 2)
      else if (read b).2 = 0 ∧ (read d).2 = 0 ∧ ok ⟨x, (read b).1, y, (read d).1⟩ = true then (⟨x, (read b).1, y, (read d).1⟩, 0) else (zero, 1)
    | _, _ => (zero, 2)
  | _ => (zero, 2)

theorem text_blank (n : Int) : (32 : UInt8) ∉ text n := by
  intro hm
  have h := Nums.hexOf_all 8 n.toNat
  have := List.all_eq_true.1 h _ hm
  exact absurd this (by decide)
theorem print_words (h : Head) : words 32 (print h) = [dec h.size.toNat, text h.root, dec h.time.toNat, text h.sign] := by
  unfold print
  rw [Decimals.words_cut _ (Decimals.blank_dig (Decimals.dec_digs _)), Decimals.words_cut _ (text_blank _), Decimals.words_cut _ (Decimals.blank_dig (Decimals.dec_digs _)), Decimals.words_none (text_blank _)]
theorem parse_print {h : Head} (hk : ok h = true) : parse (print h) = (h, 0) := by
  obtain ⟨⟨h1, h2, h3, h4⟩, h5, h6⟩ := ok_iff.1 hk
  have n1 := Decimals.number_dec h.size.toNat 9 (Decimals.dec_length 8 _ (by omega))
  have n2 := Decimals.number_dec h.time.toNat 9 (Decimals.dec_length 8 _ (by omega))
  have r1 := Nums.read_text h.root h5
  have r2 := Nums.read_text h.sign h6
  have e : (⟨(h.size.toNat : Int), h.root, (h.time.toNat : Int), h.sign⟩ : Head) = h := by
    rw [Head.ext_iff']
    refine ⟨?_, rfl, ?_, rfl⟩
    · show (h.size.toNat : Int) = h.size
      omega
    · show (h.time.toNat : Int) = h.time
      omega
  unfold parse
  simp only [print_words, n1, n2, r1, r2, e, hk]
  rfl
theorem print_parse {s : List UInt8} {h : Head} (hp : parse s = (h, 0)) : print h = s ∧ ok h = true := by
  unfold parse at hp
  split at hp
  · rename_i a b c d hw
    split at hp
    · rename_i x y hx hy
      split at hp
      · simp at hp
      · split at hp
        · rename_i hq
          simp only [Prod.mk.injEq, and_true] at hp
          subst hp
          refine ⟨?_, hq.2.2⟩
          have j := Decimals.joined_words 32 s
          rw [hw] at j
          simp only [Decimals.joined] at j
          have t1 := (Nums.text_read b (read b).1 (Prod.ext rfl hq.1)).1
          have t2 := (Nums.text_read d (read d).1 (Prod.ext rfl hq.2.1)).1
          unfold print
          simp only [Int.toNat_natCast]
          rw [(Decimals.number_some hx).1, (Decimals.number_some hy).1, t1, t2]
          exact j
        · simp at hp
    · simp at hp
  · simp at hp
/-- not both are the better -/
theorem more_not (a b : Head) (h : more a b = true) : more b a = false := by
  have := of_decide_eq_true h
  exact decide_eq_false (by omega)
theorem more_trans (a b c : Head) (h : more a b = true) (h2 : more b c = true) : more a c = true := by
  have := of_decide_eq_true h
  have := of_decide_eq_true h2
  exact decide_eq_true (by omega)

end Go.Proofs.YticadkggaanbjaaGreatDoor.Heads

/-
  Plain mathematics of entries: what is wrong with one, its bytes, what bytes read as one or as many; and that they are read as they were. Nothing of the program is named here.
-/
namespace Go.Proofs.YticadkggaanbjaaGreatDoor.Entries
open Nums (str str_data str_size)

/-- a time, and what is said -/
abbrev Entry := Int × ByteArray
/-- what is wrong with one -/
def entE (e : Entry) : Nat := if e.1 < 0 ∨ 1000000 < e.1 then 1 else if 200 < e.2.size then 4 else 0
theorem ent_ok {e : Entry} (h : entE e = 0) : 0 ≤ e.1 ∧ e.1 ≤ 1000000 ∧ e.2.size ≤ 200 := by
  unfold entE at h
  split at h
  · cases h
  · split at h
    · cases h
    · omega
theorem ent_of {e : Entry} (h0 : 0 ≤ e.1) (h1 : e.1 ≤ 1000000) (h2 : e.2.size ≤ 200) : entE e = 0 := by
  unfold entE
  rw [if_neg (by omega), if_neg (by omega)]
/-- its bytes -/
def bytes (e : Entry) : List UInt8 := UInt8.ofNat (e.1.toNat / 65536) :: UInt8.ofNat (e.1.toNat / 256) :: UInt8.ofNat e.1.toNat :: UInt8.ofNat e.2.size :: e.2.data.toList
theorem bytes_length (e : Entry) : (bytes e).length = 4 + e.2.size := by
  simp only [bytes, List.length_cons]
  have : e.2.data.toList.length = e.2.size := by simp
  omega
/-- one of three bytes and of others -/
def made (a b c : UInt8) (d : List UInt8) : Entry := (((a.toNat * 65536 + b.toNat * 256 + c.toNat : Nat) : Int), str d)
/-- an entry off bytes -/
def take1 : List UInt8 → Option (Entry × List UInt8)
  | a :: b :: c :: n :: r => if n.toNat ≤ r.length ∧ entE (made a b c (r.take n.toNat)) = 0 then some (made a b c (r.take n.toNat), r.drop n.toNat) else none
  | _ => none
theorem take1_bytes (e : Entry) (r : List UInt8) (h : entE e = 0) : take1 (bytes e ++ r) = some (e, r) := by
  obtain ⟨h0, h1, h2⟩ := ent_ok h
  have hl : e.2.data.toList.length = e.2.size := by simp
  have hn : (UInt8.ofNat e.2.size).toNat = e.2.size := by rw [UInt8.toNat_ofNat']; omega
  have hm : made (UInt8.ofNat (e.1.toNat / 65536)) (UInt8.ofNat (e.1.toNat / 256)) (UInt8.ofNat e.1.toNat) e.2.data.toList = e := by
    unfold made
    apply Prod.ext
    · simp only [UInt8.toNat_ofNat']
      omega
    · rfl
  show (if (UInt8.ofNat e.2.size).toNat ≤ (e.2.data.toList ++ r).length ∧ entE (made (UInt8.ofNat (e.1.toNat / 65536)) (UInt8.ofNat (e.1.toNat / 256)) (UInt8.ofNat e.1.toNat) ((e.2.data.toList ++ r).take (UInt8.ofNat e.2.size).toNat)) = 0 then some (made (UInt8.ofNat (e.1.toNat / 65536)) (UInt8.ofNat (e.1.toNat / 256)) (UInt8.ofNat e.1.toNat) ((e.2.data.toList ++ r).take (UInt8.ofNat e.2.size).toNat), (e.2.data.toList ++ r).drop (UInt8.ofNat e.2.size).toNat) else none) = some (e, r)
  rw [hn, ← hl, List.take_left, List.drop_left, hm, if_pos ⟨by rw [List.length_append]; omega, h⟩]
theorem bytes_made (a b c n : UInt8) (d : List UInt8) (h : d.length = n.toNat) : bytes (made a b c d) = a :: b :: c :: n :: d := by
  have ha := a.toNat_lt
  have hb := b.toNat_lt
  have hc := c.toNat_lt
  unfold bytes made
  simp only [Int.toNat_natCast, str_data, str_size]
  rw [h]
  congr 1
  · apply UInt8.toNat_inj.1; rw [UInt8.toNat_ofNat']; omega
  · congr 1
    · apply UInt8.toNat_inj.1; rw [UInt8.toNat_ofNat']; omega
    · congr 1
      · apply UInt8.toNat_inj.1; rw [UInt8.toNat_ofNat']; omega
      · congr 1
        apply UInt8.toNat_inj.1
        rw [UInt8.toNat_ofNat']
        have := n.toNat_lt
        omega
theorem take1_four (a b c n : UInt8) (r : List UInt8) : take1 (a :: b :: c :: n :: r) = if n.toNat ≤ r.length ∧ entE (made a b c (r.take n.toNat)) = 0 then some (made a b c (r.take n.toNat), r.drop n.toNat) else none := rfl
theorem take1_short : ∀ (s : List UInt8), s.length < 4 → take1 s = none
  | [], _ => rfl
  | [_], _ => rfl
  | [_, _], _ => rfl
  | [_, _, _], _ => rfl
  | _ :: _ :: _ :: _ :: r, h => by simp at h; omega
theorem four_of : ∀ (s : List UInt8), ¬ s.length < 4 → ∃ a b c n r, s = a :: b :: c :: n :: r
  | [], h => absurd (by simp) h
  | [_], h => absurd (by simp) h
  | [_, _], h => absurd (by simp) h
  | [_, _, _], h => absurd (by simp) h
  | a :: b :: c :: n :: r, _ => ⟨a, b, c, n, r, rfl⟩
theorem take1_some {s r : List UInt8} {e : Entry} (h : take1 s = some (e, r)) : s = bytes e ++ r ∧ entE e = 0 := by
  by_cases hl : s.length < 4
  · rw [take1_short s hl] at h; cases h
  · obtain ⟨a, b, c, n, q, rfl⟩ := four_of s hl
    rw [take1_four] at h
    by_cases hq : n.toNat ≤ q.length ∧ entE (made a b c (q.take n.toNat)) = 0
    · rw [if_pos hq] at h
      simp only [Option.some.injEq, Prod.mk.injEq] at h
      obtain ⟨rfl, rfl⟩ := h
      refine ⟨?_, hq.2⟩
      rw [bytes_made a b c n _ (by rw [List.length_take]; omega)]
      simp
    · rw [if_neg hq] at h; cases h

/-- so many, one behind the other -/
def takes : Nat → List UInt8 → Option (List Entry × List UInt8)
  | 0, s => some ([], s)
  | k + 1, s => match takes k s with
    | none => none
    | some (l, r) => match take1 r with
      | none => none
      | some (e, q) => some (l ++ [e], q)
theorem takes_snoc {k : Nat} {s r q : List UInt8} {l : List Entry} {e : Entry} (h : takes k s = some (l, r)) (h1 : take1 r = some (e, q)) : takes (k + 1) s = some (l ++ [e], q) := by
  simp only [takes, h, h1]
theorem takes_end {k : Nat} {s r : List UInt8} {l : List Entry} (h : takes k s = some (l, r)) (h1 : take1 r = none) : takes (k + 1) s = none := by
  simp only [takes, h, h1]
theorem takes_none {k : Nat} {s : List UInt8} (h : takes k s = none) : ∀ j, takes (k + j) s = none
  | 0 => h
  | j + 1 => by rw [← Nat.add_assoc]; simp only [takes, takes_none h j]
/-- the bytes of some -/
def all (l : List Entry) : List UInt8 := l.flatMap bytes
theorem all_snoc (l : List Entry) (e : Entry) : all (l ++ [e]) = all l ++ bytes e := by simp [all]
theorem takes_some : ∀ {k : Nat} {s r : List UInt8} {l : List Entry}, takes k s = some (l, r) → s = all l ++ r ∧ l.length = k ∧ ∀ e ∈ l, entE e = 0
  | 0, s, r, l, h => by
    simp only [takes, Option.some.injEq, Prod.mk.injEq] at h
    obtain ⟨rfl, rfl⟩ := h
    exact ⟨rfl, rfl, by intro e he; cases he⟩
  | k + 1, s, r, l, h => by
    cases h1 : takes k s with
    | none => simp only [takes, h1] at h; cases h
    | some x =>
      obtain ⟨m, q⟩ := x
      obtain ⟨i1, i2, i3⟩ := takes_some h1
      cases h2 : take1 q with
      | none => simp only [takes, h1, h2] at h; cases h
      | some y =>
        obtain ⟨e, p⟩ := y
        obtain ⟨j1, j2⟩ := take1_some h2
        simp only [takes, h1, h2, Option.some.injEq, Prod.mk.injEq] at h
        obtain ⟨rfl, rfl⟩ := h
        refine ⟨by rw [all_snoc, List.append_assoc, ← j1]; exact i1, by simp [i2], ?_⟩
        intro x hx
        rcases List.mem_append.1 hx with hx | hx
        · exact i3 x hx
        · rw [List.mem_singleton.1 hx]; exact j2
theorem takes_all : ∀ (m : List Entry) (q : List UInt8), (∀ e ∈ m, entE e = 0) → takes m.length (all m ++ q) = some (m, q) := by
  have h : ∀ (n : Nat) (m : List Entry) (q : List UInt8), m.length = n → (∀ e ∈ m, entE e = 0) → takes m.length (all m ++ q) = some (m, q) := by
    intro n
    induction n with
    | zero =>
      intro m q hm _
      rw [List.length_eq_zero_iff.1 hm]
      rfl
    | succ n ih =>
      intro m q hm hv
      obtain ⟨r, e, rfl⟩ : ∃ r e, m = r ++ [e] := ⟨m.dropLast, m.getLast (by intro h; simp [h] at hm), (List.dropLast_concat_getLast _).symm⟩
      have i := ih r (bytes e ++ q) (by simpa using hm) (fun x hx => hv x (List.mem_append_left _ hx))
      rw [all_snoc, List.append_assoc, List.length_append]
      exact takes_snoc i (take1_bytes e q (hv e (by simp)))
  exact fun m q hv => h m.length m q rfl hv

/-- nothing may be left -/
def whole {α : Type} : Option (α × List UInt8) → Option α
  | some (x, []) => some x
  | _ => none
theorem whole_some {α : Type} {o : Option (α × List UInt8)} {x : α} (h : whole o = some x) : o = some (x, []) := by
  match o, h with
  | some (y, []), h => simp only [whole, Option.some.injEq] at h; rw [h]
/-- bytes as one entry -/
def dec (s : List UInt8) : Option Entry := whole (take1 s)
theorem dec_bytes {e : Entry} (h : entE e = 0) : dec (bytes e) = some e := by
  have := take1_bytes e [] h
  rw [List.append_nil] at this
  rw [dec, this]
  rfl
theorem dec_some {s : List UInt8} {e : Entry} (h : dec s = some e) : s = bytes e ∧ entE e = 0 := by
  have := take1_some (whole_some h)
  rw [List.append_nil] at this
  exact this
/-- many as bytes -/
def pack (l : List Entry) : List UInt8 := UInt8.ofNat l.length :: all l
/-- bytes as many -/
def unpack : List UInt8 → Option (List Entry)
  | [] => none
  | n :: r => if 200 < n.toNat then none else whole (takes n.toNat r)
theorem unpack_cons (n : UInt8) (r : List UInt8) : unpack (n :: r) = if 200 < n.toNat then none else whole (takes n.toNat r) := rfl
theorem unpack_pack {l : List Entry} (hn : l.length ≤ 200) (h : ∀ e ∈ l, entE e = 0) : unpack (pack l) = some l := by
  have hm : (UInt8.ofNat l.length).toNat = l.length := by rw [UInt8.toNat_ofNat']; omega
  have i := takes_all l [] h
  rw [List.append_nil] at i
  rw [pack, unpack_cons, hm, if_neg (by omega), i]
  rfl
theorem pack_unpack {s : List UInt8} {l : List Entry} (h : unpack s = some l) : pack l = s ∧ l.length ≤ 200 ∧ ∀ e ∈ l, entE e = 0 := by
  match s with
  | [] => cases h
  | n :: r =>
    rw [unpack_cons] at h
    by_cases hn : 200 < n.toNat
    · rw [if_pos hn] at h; cases h
    · rw [if_neg hn] at h
      obtain ⟨i1, i2, i3⟩ := takes_some (whole_some h)
      rw [List.append_nil] at i1
      refine ⟨?_, by omega, i3⟩
      rw [pack, i2, ← i1]
      simp
/-- what is wrong with some -/
def firstE : List Entry → Nat
  | [] => 0
  | e :: l => if entE e = 0 then firstE l else entE e
def entsE (l : List Entry) : Nat := if 200 < l.length then 4 else firstE l
theorem firstE_zero : ∀ {l : List Entry}, firstE l = 0 ↔ ∀ e ∈ l, entE e = 0
  | [] => by simp [firstE]
  | e :: l => by
    unfold firstE
    by_cases h : entE e = 0
    · rw [if_pos h, firstE_zero]
      simp [h]
    · rw [if_neg h]
      simp [h]
theorem firstE_at : ∀ {l : List Entry} {k : Nat} (h : k < l.length), (∀ e ∈ l.take k, entE e = 0) → entE l[k] ≠ 0 → firstE l = entE l[k]
  | e :: l, 0, _, _, h1 => by
    unfold firstE
    exact if_neg h1
  | e :: l, k + 1, h, h0, h1 => by
    unfold firstE
    rw [if_pos (h0 e (by simp))]
    exact firstE_at (l := l) (k := k) (by simpa using h) (fun x hx => h0 x (by rw [List.take_succ_cons]; exact List.mem_cons_of_mem _ hx)) h1
theorem ents_ok {l : List Entry} (h : entsE l = 0) : l.length ≤ 200 ∧ ∀ e ∈ l, entE e = 0 := by
  unfold entsE at h
  split at h
  · cases h
  · exact ⟨by omega, firstE_zero.1 h⟩
theorem ents_of {l : List Entry} (h0 : l.length ≤ 200) (h1 : ∀ e ∈ l, entE e = 0) : entsE l = 0 := by
  unfold entsE
  rw [if_neg (by omega)]
  exact firstE_zero.2 h1
/-- the leafs of some -/
def leafsOf (l : List Entry) : List Int := l.map fun e => Sums.sum (0 :: bytes e)
def packV (l : List Entry) : List UInt8 := if entsE l = 0 then pack l else []
def leafsV (l : List Entry) : List Int := if entsE l = 0 then leafsOf l else []

/-- what is told where there is nothing wrong, and else -/
def encV (e : Entry) : List UInt8 := if entE e = 0 then bytes e else []
def decE (s : List UInt8) : Nat := if (dec s).isSome = true then 0 else 2
def decV (s : List UInt8) : Entry := (dec s).getD (0, ⟨#[]⟩)
def unpackE (s : List UInt8) : Nat := if (unpack s).isSome = true then 0 else 2
def unpackV (s : List UInt8) : List Entry := (unpack s).getD []
theorem dec_is {s : List UInt8} {e : Entry} (h : dec s = some e) : decE s = 0 ∧ decV s = e := by
  unfold decE decV
  rw [h]
  exact ⟨rfl, rfl⟩
theorem dec_not {s : List UInt8} (h : dec s = none) : decE s = 2 ∧ decV s = (0, ⟨#[]⟩) := by
  unfold decE decV
  rw [h]
  exact ⟨rfl, rfl⟩
theorem unpack_is {s : List UInt8} {l : List Entry} (h : unpack s = some l) : unpackE s = 0 ∧ unpackV s = l := by
  unfold unpackE unpackV
  rw [h]
  exact ⟨rfl, rfl⟩
theorem unpack_not {s : List UInt8} (h : unpack s = none) : unpackE s = 2 ∧ unpackV s = [] := by
  unfold unpackE unpackV
  rw [h]
  exact ⟨rfl, rfl⟩
theorem unpackV_len (s : List UInt8) : (unpackV s).length ≤ 200 := by
  cases h : unpack s with
  | none => rw [(unpack_not h).2]; exact Nat.zero_le _
  | some l => rw [(unpack_is h).2]; exact (pack_unpack h).2.1
theorem all_length : ∀ (l : List Entry), (∀ e ∈ l, entE e = 0) → (all l).length ≤ 204 * l.length
  | [], _ => by simp [all]
  | e :: l, h => by
    have i := all_length l fun x hx => h x (List.mem_cons_of_mem _ hx)
    have k := (ent_ok (h e (by simp))).2.2
    have e1 : all (e :: l) = bytes e ++ all l := by simp [all]
    rw [e1, List.length_append, bytes_length, List.length_cons]
    omega

end Go.Proofs.YticadkggaanbjaaGreatDoor.Entries

