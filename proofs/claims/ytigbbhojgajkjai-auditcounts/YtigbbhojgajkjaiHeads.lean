/-
  Plain mathematics of heads: what is wrong with one, its text and what a text reads as, its sign, and which is the better. Nothing of the program is named here.
-/
import Derived.Test.YtigbbhojgajkjaiSums
import Derived.Test.YtigbbhojgajkjaiDecimals
namespace Go.Proofs.Ytigbbhojgajkjai.Heads
open Nums (valid text read)
open Decimals (dec number words)

/-- size, root, time, sign -/
structure Head where
  size : Int
  root : Int
  time : Int
  sign : Int
theorem Head.ext_iff' {a b : Head} : a = b ↔ a.size = b.size ∧ a.root = b.root ∧ a.time = b.time ∧ a.sign = b.sign := by
  constructor
  · rintro rfl; exact ⟨rfl, rfl, rfl, rfl⟩
  · obtain ⟨_, _, _, _⟩ := a
    obtain ⟨_, _, _, _⟩ := b
    rintro ⟨h1, h2, h3, h4⟩
    simp only at h1 h2 h3 h4
    subst h1 h2 h3 h4
    rfl
/-- is there nothing wrong with one? -/
def ok (h : Head) : Bool := decide (0 ≤ h.size ∧ h.size ≤ 200 ∧ 0 ≤ h.time ∧ h.time ≤ 1000000) && valid h.root && valid h.sign
def headE (h : Head) : Nat := if ok h = true then 0 else 1
theorem ok_iff {h : Head} : ok h = true ↔ (0 ≤ h.size ∧ h.size ≤ 200 ∧ 0 ≤ h.time ∧ h.time ≤ 1000000) ∧ valid h.root = true ∧ valid h.sign = true := by
  unfold ok
  rw [Bool.and_eq_true, Bool.and_eq_true, decide_eq_true_iff, and_assoc]
theorem headE_zero {h : Head} : headE h = 0 ↔ ok h = true := by
  unfold headE
  split
  · exact ⟨fun _ => by assumption, fun _ => rfl⟩
  · rename_i h1
    exact ⟨fun h2 => (by cases h2), fun h2 => absurd h2 h1⟩

/-- its text -/
def print (h : Head) : List UInt8 := dec h.size.toNat ++ 32 :: (text h.root ++ 32 :: (dec h.time.toNat ++ 32 :: text h.sign))
/-- the text that is signed -/
def said (h : Head) (key : Int) : List UInt8 := dec h.size.toNat ++ 32 :: (text h.root ++ 32 :: (dec h.time.toNat ++ 32 :: dec key.toNat))
def signOf (h : Head) (key : Int) : Int := Sums.sum (said h key)
theorem signOf_valid (h : Head) (key : Int) : valid (signOf h key) = true := by
  have := Sums.sum_bd (said h key)
  exact Nums.valid_iff.2 ⟨this.1, this.2⟩
/-- its sign is none of what is signed -/
theorem said_sign (h : Head) (s : Int) (key : Int) : said { h with sign := s } key = said h key := rfl
def isKey (key : Int) : Bool := decide (1 ≤ key ∧ key ≤ 1000000)
/-- what is wrong with a sign -/
def verifyE (h : Head) (key : Int) : Nat := if isKey key = true ∧ ok h = true then (if h.sign = signOf h key then 0 else 9) else 1
def blank (h : Head) : Head := { h with sign := 0 }
def signE (h : Head) (key : Int) : Nat := if isKey key = true ∧ ok (blank h) = true then 0 else 1
def zero : Head := ⟨0, 0, 0, 0⟩
def signV (h : Head) (key : Int) : Head := if signE h key = 0 then { h with sign := signOf h key } else zero
/-- is the first the one to go by? -/
def more (a b : Head) : Bool := decide (b.size < a.size ∨ (a.size = b.size ∧ b.time < a.time))
def betterE (a b : Head) : Nat := if headE a = 0 then headE b else headE a
def betterV (a b : Head) : Bool := decide (betterE a b = 0) && more a b

/-- a text as a head, and what is wrong -/
def parse (s : List UInt8) : Head × Nat :=
  match words 32 s with
  | [a, b, c, d] =>
    match number a 9, number c 9 with
    | some x, some y =>
      if (read b).2 = 2 ∨ (read d).2 = 2 then (zero, 2)
      else if (read b).2 = 0 ∧ (read d).2 = 0 ∧ ok ⟨x, (read b).1, y, (read d).1⟩ = true then (⟨x, (read b).1, y, (read d).1⟩, 0) else (zero, 1)
    | _, _ => (zero, 2)
  | _ => (zero, 2)

theorem text_blank (n : Int) : (32 : UInt8) ∉ text n := by
  intro hm
  have h := Nums.hexOf_all 8 n.toNat
  have := List.all_eq_true.1 h _ hm
  exact absurd this (by decide)
theorem print_words (h : Head) : words 32 (print h) = [dec h.size.toNat, text h.root, dec h.time.toNat, text h.sign] := by
  unfold print
  rw [Decimals.words_cut _ (Decimals.blank_dig (Decimals.dec_digs _)), Decimals.words_cut _ (text_blank _), Decimals.words_cut _ (Decimals.blank_dig (Decimals.dec_digs _)), Decimals.words_none (text_blank _)]
theorem parse_print {h : Head} (hk : ok h = true) : parse (print h) = (h, 0) := by
  obtain ⟨⟨h1, h2, h3, h4⟩, h5, h6⟩ := ok_iff.1 hk
  have n1 := Decimals.number_dec h.size.toNat 9 (Decimals.dec_length 8 _ (by omega))
  have n2 := Decimals.number_dec h.time.toNat 9 (Decimals.dec_length 8 _ (by omega))
  have r1 := Nums.read_text h.root h5
  have r2 := Nums.read_text h.sign h6
  have e : (⟨(h.size.toNat : Int), h.root, (h.time.toNat : Int), h.sign⟩ : Head) = h := by
    rw [Head.ext_iff']
    refine ⟨?_, rfl, ?_, rfl⟩
    · show (h.size.toNat : Int) = h.size
      omega
    · show (h.time.toNat : Int) = h.time
      omega
  unfold parse
  simp only [print_words, n1, n2, r1, r2, e, hk]
  rfl
theorem print_parse {s : List UInt8} {h : Head} (hp : parse s = (h, 0)) : print h = s ∧ ok h = true := by
  unfold parse at hp
  split at hp
  · rename_i a b c d hw
    split at hp
    · rename_i x y hx hy
      split at hp
      · simp at hp
      · split at hp
        · rename_i hq
          simp only [Prod.mk.injEq, and_true] at hp
          subst hp
          refine ⟨?_, hq.2.2⟩
          have j := Decimals.joined_words 32 s
          rw [hw] at j
          simp only [Decimals.joined] at j
          have t1 := (Nums.text_read b (read b).1 (Prod.ext rfl hq.1)).1
          have t2 := (Nums.text_read d (read d).1 (Prod.ext rfl hq.2.1)).1
          unfold print
          simp only [Int.toNat_natCast]
          rw [(Decimals.number_some hx).1, (Decimals.number_some hy).1, t1, t2]
          exact j
        · simp at hp
    · simp at hp
  · simp at hp
/-- not both are the better -/
theorem more_not (a b : Head) (h : more a b = true) : more b a = false := by
  have := of_decide_eq_true h
  exact decide_eq_false (by omega)
theorem more_trans (a b c : Head) (h : more a b = true) (h2 : more b c = true) : more a c = true := by
  have := of_decide_eq_true h
  have := of_decide_eq_true h2
  exact decide_eq_true (by omega)

end Go.Proofs.Ytigbbhojgajkjai.Heads
