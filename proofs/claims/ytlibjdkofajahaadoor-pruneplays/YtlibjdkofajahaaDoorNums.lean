/-
  Plain mathematics of sums as numbers: which are sums, a sum as four bytes and as eight digits of base 16, and what a text reads as. Nothing of the program is named here.
-/
import Derived.Lib.Bytealg
import Derived.KernelRfl
namespace Go.Proofs.YtlibjdkofajahaaDoor.Nums

/-- bytes as a string -/
def str (l : List UInt8) : ByteArray := ⟨l.toArray⟩
theorem str_data (l : List UInt8) : (str l).data.toList = l := rfl
theorem str_toList (l : List UInt8) : (str l).toList = l := by rw [ByteArray.toList_eq, str_data]
theorem str_size (l : List UInt8) : (str l).size = l.length := by simp [str, ByteArray.size]
theorem str_append (a b : List UInt8) : str a ++ str b = str (a ++ b) := by
  apply ByteArray.ext
  apply Array.toList_inj.1
  simp [str]
theorem str_of (s : ByteArray) : str s.data.toList = s := rfl
theorem str_inj {a b : List UInt8} (h : str a = str b) : a = b := by rw [← str_data a, h, str_data]

/-- is a number a sum? -/
def valid (n : Int) : Bool := decide (0 ≤ n ∧ n < 2147483647)
theorem valid_iff {n : Int} : valid n = true ↔ 0 ≤ n ∧ n < 2147483647 := by unfold valid; exact decide_eq_true_iff
theorem valid_no {n : Int} : valid n = false ↔ ¬ (0 ≤ n ∧ n < 2147483647) := by unfold valid; exact decide_eq_false_iff_not

/-- a sum as four bytes -/
def four (a : Int) : List UInt8 := [UInt8.ofNat (a.toNat / 16777216), UInt8.ofNat (a.toNat / 65536), UInt8.ofNat (a.toNat / 256), UInt8.ofNat a.toNat]
/-- the bytes of a node -/
def nodeBytes (a b : Int) : List UInt8 := 1 :: (four a ++ four b)

theorem four_inj {a b : Int} (ha : valid a = true) (hb : valid b = true) (h : four a = four b) : a = b := by
  rw [valid_iff] at ha hb
  simp only [four, List.cons.injEq, and_true, ← UInt8.toNat_inj, UInt8.toNat_ofNat'] at h
  omega
theorem four_length (a : Int) : (four a).length = 4 := rfl
theorem nodeBytes_length (a b : Int) : (nodeBytes a b).length = 9 := rfl
theorem nodeBytes_inj {a b c d : Int} (ha : valid a = true) (hb : valid b = true) (hc : valid c = true) (hd : valid d = true) : nodeBytes a b = nodeBytes c d ↔ a = c ∧ b = d := by
  constructor
  · intro h
    have h' := (List.cons.inj h).2
    have := List.append_inj h' (by rw [four_length, four_length])
    exact ⟨four_inj ha hc this.1, four_inj hb hd this.2⟩
  · rintro ⟨rfl, rfl⟩; rfl

/-- the digits of base 16 -/
def digits : List UInt8 := [48, 49, 50, 51, 52, 53, 54, 55, 56, 57, 97, 98, 99, 100, 101, 102]
def digit (k : Nat) : UInt8 := digits.getD k 0
/-- what a byte is worth; -1 if it is no digit -/
def hexv (c : UInt8) : Int := Lib.indexByte digits c

theorem hexv_digit (k : Nat) (h : k < 16) : hexv (digit k) = k := by
  have : ∀ k : Fin 16, hexv (digit k.val) = (k.val : Int) := by decide +kernel
  exact this ⟨k, h⟩
theorem hexv_all (c : UInt8) : hexv c = -1 ∨ (0 ≤ hexv c ∧ hexv c < 16 ∧ digit (hexv c).toNat = c) := by
  have : ∀ k : Fin 256, hexv (UInt8.ofNat k.val) = -1 ∨ (0 ≤ hexv (UInt8.ofNat k.val) ∧ hexv (UInt8.ofNat k.val) < 16 ∧ digit (hexv (UInt8.ofNat k.val)).toNat = UInt8.ofNat k.val) := by decide +kernel
  have h := this ⟨c.toNat, c.toNat_lt⟩
  simpa using h
theorem hexv_ge (c : UInt8) : -1 ≤ hexv c := by rcases hexv_all c with h | h <;> omega
theorem hexv_lt (c : UInt8) : hexv c < 16 := by rcases hexv_all c with h | h <;> omega
theorem digit_hexv (c : UInt8) (h : 0 ≤ hexv c) : digit (hexv c).toNat = c := by
  rcases hexv_all c with h' | h'
  · omega
  · exact h'.2.2

/-- the last k digits of a number -/
def hexOf : Nat → Nat → List UInt8
  | 0, _ => []
  | k + 1, n => hexOf k (n / 16) ++ [digit (n % 16)]
theorem hexOf_length (k n : Nat) : (hexOf k n).length = k := by
  induction k generalizing n with
  | zero => rfl
  | succ k ih => simp [hexOf, ih]
theorem hexOf_cons (k n : Nat) : hexOf (k + 1) n = digit (n / 16 ^ k % 16) :: hexOf k n := by
  induction k generalizing n with
  | zero => simp [hexOf]
  | succ k ih =>
    rw [hexOf, ih (n / 16), hexOf, List.cons_append, Nat.div_div_eq_div_mul, Nat.pow_succ, Nat.mul_comm 16]
/-- a sum as text -/
def text (n : Int) : List UInt8 := hexOf 8 n.toNat
theorem text_length (n : Int) : (text n).length = 8 := hexOf_length _ _

def val (l : List UInt8) : Int := l.foldl (fun n c => n * 16 + hexv c) 0
theorem val_snoc (l : List UInt8) (c : UInt8) : val (l ++ [c]) = val l * 16 + hexv c := by simp [val]
def allHex (l : List UInt8) : Bool := l.all fun c => decide (0 ≤ hexv c)
theorem allHex_snoc (l : List UInt8) (c : UInt8) : allHex (l ++ [c]) = (allHex l && decide (0 ≤ hexv c)) := by simp [allHex]

/-- a text as a sum, and what is wrong: 0 nothing, 1 its size, 2 its form -/
def read (l : List UInt8) : Int × Nat :=
  if l.length = 8 ∧ allHex l = true then (if valid (val l) then (val l, 0) else (0, 1)) else (0, 2)

theorem hexOf_all (k n : Nat) : allHex (hexOf k n) = true := by
  induction k generalizing n with
  | zero => rfl
  | succ k ih =>
    rw [hexOf, allHex_snoc, ih, hexv_digit _ (Nat.mod_lt _ (by decide))]
    simp
    omega
theorem val_hexOf (k n : Nat) : val (hexOf k n) = ((n % 16 ^ k : Nat) : Int) := by
  induction k generalizing n with
  | zero => simp [hexOf, val, Nat.mod_one]
  | succ k ih =>
    rw [hexOf, val_snoc, ih, hexv_digit _ (Nat.mod_lt _ (by decide))]
    have h : n % 16 ^ (k + 1) = n % 16 + 16 * (n / 16 % 16 ^ k) := by
      rw [Nat.pow_succ, Nat.mul_comm, Nat.mod_mul]
    rw [h]
    omega
theorem val_bd (l : List UInt8) (h : allHex l = true) : 0 ≤ val l ∧ val l < ((16 ^ l.length : Nat) : Int) := by
  rw [← List.reverse_reverse l] at h ⊢
  generalize l.reverse = r at h ⊢
  induction r with
  | nil => simp [val]
  | cons c r ih =>
    rw [List.reverse_cons, allHex_snoc, Bool.and_eq_true, decide_eq_true_eq] at h
    have := ih h.1
    have := hexv_lt c
    rw [List.reverse_cons, val_snoc, List.length_append, List.length_singleton, Nat.pow_succ]
    omega
theorem hexOf_val (k : Nat) (l : List UInt8) (hk : l.length = k) (h : allHex l = true) : hexOf k (val l).toNat = l := by
  induction k generalizing l with
  | zero => rw [List.length_eq_zero_iff.1 hk]; rfl
  | succ k ih =>
    obtain ⟨r, c, rfl⟩ : ∃ r c, l = r ++ [c] := ⟨l.dropLast, l.getLast (by intro e; simp [e] at hk), (List.dropLast_concat_getLast _).symm⟩
    rw [allHex_snoc, Bool.and_eq_true, decide_eq_true_eq] at h
    have b := val_bd r h.1
    have b1 := hexv_lt c
    have hc := digit_hexv c h.2
    have hr := ih r (by simpa using hk) h.1
    rw [val_snoc, hexOf]
    have e1 : (val r * 16 + hexv c).toNat / 16 = (val r).toNat := by omega
    have e2 : (val r * 16 + hexv c).toNat % 16 = (hexv c).toNat := by omega
    rw [e1, e2, hr, hc]

theorem read_text (n : Int) (h : valid n = true) : read (text n) = (n, 0) := by
  have h' := valid_iff.1 h
  have e : val (text n) = n := by
    rw [text, val_hexOf, Nat.mod_eq_of_lt (by omega)]
    omega
  rw [read, if_pos ⟨text_length n, hexOf_all _ _⟩, e, if_pos h]
theorem text_read (l : List UInt8) (k : Int) (h : read l = (k, 0)) : text k = l ∧ valid k = true := by
  unfold read at h
  split at h
  · rename_i hl
    split at h
    · rename_i hv
      simp only [Prod.mk.injEq, and_true] at h
      subst h
      exact ⟨hexOf_val 8 l hl.1 hl.2, hv⟩
    · simp at h
  · simp at h
theorem read_cases (l : List UInt8) : (∃ k, read l = (k, 0)) ∨ read l = (0, 1) ∨ read l = (0, 2) := by
  unfold read
  split
  · split
    · exact .inl ⟨_, rfl⟩
    · exact .inr (.inl rfl)
  · exact .inr (.inr rfl)

end Go.Proofs.YtlibjdkofajahaaDoor.Nums
