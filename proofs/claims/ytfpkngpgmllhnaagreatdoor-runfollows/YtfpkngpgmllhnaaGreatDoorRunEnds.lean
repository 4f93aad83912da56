/-
  The last two answers of a session that follows, word by word.
-/
import Derived.Test.YtfpkngpgmllhnaaGreatDoorRuPlain
namespace Go.Proofs.YtfpkngpgmllhnaaGreatDoor.RunEnds
open Runs RunFollow
open Decimals (dec words)
open Nums (str text)
open Answers (logE logH)
open Mirrors (rootE)

theorem no_digs {l : List UInt8} (h : Decimals.allDig l = true) : (10 : UInt8) ∉ l := by
  intro hm
  exact absurd (List.all_eq_true.1 h _ hm) (by decide)
theorem no_text (n : Int) : (10 : UInt8) ∉ text n := by
  intro hm
  have h := Nums.hexOf_all 8 n.toNat
  exact absurd (List.all_eq_true.1 h _ hm) (by decide)
/-- the answer to 'state', and to 'ask head' -/
def endA (n m : Nat) : List UInt8 := dec (n + m) ++ 32 :: text (rootE (both n m))
def endB (n m : Nat) : List UInt8 := Heads.print (logH (both n m) 7 0)
theorem no_app {a b : List UInt8} (ha : (10 : UInt8) ∉ a) (hb : (10 : UInt8) ∉ b) : (10 : UInt8) ∉ a ++ 32 :: b := by
  intro h
  rcases List.mem_append.1 h with h | h
  · exact ha h
  · rcases List.mem_cons.1 h with h | h
    · exact absurd h (by decide)
    · exact hb h
theorem no_endA (n m : Nat) : (10 : UInt8) ∉ endA n m := no_app (no_digs (Decimals.dec_digs _)) (no_text _)
theorem no_endB (n m : Nat) : (10 : UInt8) ∉ endB n m := by
  unfold endB Heads.print
  exact no_app (no_digs (Decimals.dec_digs _)) (no_app (no_text _) (no_app (no_digs (Decimals.dec_digs _)) (no_text _)))
theorem cut_ends (n m : Nat) : words 10 (endA n m ++ 10 :: (endB n m ++ [10])) = [endA n m, endB n m, []] := by
  rw [Decimals.words_cut _ (no_endA n m), Decimals.words_cut _ (no_endB n m)]
  rfl
theorem words_A (n m : Nat) : words 32 (endA n m) = [dec (n + m), text (rootE (both n m))] := by
  unfold endA
  rw [Decimals.words_cut _ (Decimals.blank_dig (Decimals.dec_digs _)), Decimals.words_none (Heads.text_blank _)]
theorem words_B {n m : Nat} (h : n + m ≤ 200) : ∃ x y, words 32 (endB n m) = [dec (n + m), text (rootE (both n m)), x, y] := by
  have e := Serves.log_is (log_both h)
  have e1 : (logH (both n m) 7 0).size = ((n + m : Nat) : Int) := by rw [e, both_length]
  have e2 : (logH (both n m) 7 0).root = rootE (both n m) := by rw [e]
  unfold endB
  rw [Heads.print_words, e1, e2, Int.toNat_natCast]
  exact ⟨_, _, rfl⟩
theorem run_ends {n m : Nat} (hn : 1 ≤ n) (hn2 : n ≤ 40) (hm : 1 ≤ m) (hm2 : m ≤ 40) : run (asText (session n m)) = oks (n + (1 + (n + 15) / 16) + m + (2 + (m + 15) / 16)) ++ (endA n m ++ 10 :: (endB n m ++ [10])) := run_session hn hn2 hm hm2
theorem len_ends {n m : Nat} (hn : n + m ≤ 200) : (endA n m ++ 10 :: (endB n m ++ [10])).length ≤ 1000 := by
  have e := Serves.log_is (log_both hn)
  have e1 : (logH (both n m) 7 0).size = ((n + m : Nat) : Int) := by rw [e, both_length]
  have e3 : (logH (both n m) 7 0).time = 0 := by rw [e]
  have d1 : (dec (n + m)).length ≤ 9 := Decimals.dec_length 8 _ (by omega)
  have d0 : (dec 0).length ≤ 9 := Decimals.dec_length 8 _ (by decide)
  unfold endA endB Heads.print
  rw [e1, e3, Int.toNat_natCast]
  simp only [List.length_append, List.length_cons, List.length_nil, Nums.text_length, Int.toNat_zero]
  omega

/-! how the text is made -/
theorem text_more (P : List (List UInt8)) (s : List UInt8) (k : Nat) : asText (P ++ List.replicate (k + 1) s) = asText (P ++ List.replicate k s) ++ (s ++ [10]) := by
  rw [List.replicate_succ', ← List.append_assoc, asText_snoc]
theorem oks_more (k : Nat) : oks (k + 1) = oks k ++ [111, 107, 10] := by
  rw [oks_add]
  rfl
theorem session_text (n m : Nat) : asText (session n m) = asText (((([] ++ List.replicate n addX) ++ List.replicate (1 + (n + 15) / 16) wStep) ++ List.replicate m addY) ++ List.replicate (2 + (m + 15) / 16) wStep) ++ [115, 116, 97, 116, 101, 10, 97, 115, 107, 32, 104, 101, 97, 100, 10] := by
  unfold session
  rw [List.nil_append, ← List.append_assoc, ← List.append_assoc, ← List.append_assoc, asText_append]
  rfl
theorem text_len (P : List (List UInt8)) (s : List UInt8) (k : Nat) : (asText (P ++ List.replicate k s)).length = (asText P).length + k * (s.length + 1) := by
  rw [asText_append, List.length_append, text_rep]

end Go.Proofs.YtfpkngpgmllhnaaGreatDoor.RunEnds
