/-
  What the document's own answers (package witref1) return on heads: Head, Digits, Key, HeadText, Signed, Verify.
-/
import Derived.Test.YtjacioplocmciahGreatDoorWalkRef
import Derived.Test.YtjacioplocmciahGreatDoorHeadRows
import Derived.Test.YtjacioplocmciahGreatDoorListRows
import Derived.Deep.CutBlock
import Derived.Lib.QuietBelow
import Derived.Deep.DeepMust
namespace Go.Proofs.YtjacioplocmciahGreatDoor.WalkHeadRef
open Go.RowKit
open Lists (bt)
open Heads (Head ok headE print said signOf isKey verifyE)
open Decimals (dec dig)
open Nums (str text valid)
open HeadVals (hv aggH sizeH)


theorem cut_dig (k : Nat) (h : k < 10) : (ByteArray.mk #[48, 49, 50, 51, 52, 53, 54, 55, 56, 57]).extract k (k + 1) = str [dig k] := by
  have hd : ∀ k : Fin 10, ((ByteArray.mk #[48, 49, 50, 51, 52, 53, 54, 55, 56, 57]).extract k.val (k.val + 1)).data = #[dig k.val] := by decide +kernel
  apply ByteArray.ext
  exact hd ⟨k, h⟩

set_option maxHeartbeats 1000000 in
theorem digits_any : ∀ (f : Nat) (n : Nat) (N : Int) (w : World), N = n → n < f → n ≤ 1000000000 →
    Calls Tryz.prog 7 #[.int .i64 N] w fun e w' => e = .returned (.string (str (dec n))) ∧ w' = w
  | 0, _, _, _, _, h, _ => by omega
  | f + 1, n, N, w, hN, hf, hn => by
    subst hN
    by_cases h0 : n < 10
    · have i0 : (n : Int) < 10 := by omega
      have HV : Hid ((ByteArray.mk #[48, 49, 50, 51, 52, 53, 54, 55, 56, 57]).extract n (n + 1) = str (dec n)) := by
        show _ = _
        rw [cut_dig n h0, Decimals.dec_small h0]
      have i1 : (n : Int) ≤ (n : Int) + 1 := by omega
      have i2 : (n : Int) + 1 ≤ 10 := by omega
      clear h0 hf hn
      go_enter Tryz.func7, Tryz.ntmps7
      go_wp2_with fail
      go_ret
      exact ⟨congrArg Ending.returned (congrArg Value.string HV.out), rfl⟩
    · have i0 : ¬ (n : Int) < 10 := by omega
      have c1 := digits_any f (n / 10) ((n : Int) / 10) w (by omega) (by omega) (by omega)
      have hk : n % 10 < 10 := Nat.mod_lt _ (by decide)
      have HC : Hid ((ByteArray.mk #[48, 49, 50, 51, 52, 53, 54, 55, 56, 57]).extract (n % 10) (n % 10 + 1) = str [dig (n % 10)]) := cut_dig _ hk
      have HV : Hid (str (dec (n / 10)) ++ str [dig (n % 10)] = str (dec n)) := by
        show _ = _
        rw [Nums.str_append, ← Decimals.dec_more h0]
      have z1 : (str (dec (n / 10))).size ≤ 20 := by
        rw [Nums.str_size]
        exact Nat.le_trans (Decimals.dec_length 9 _ (by omega)) (by decide)
      generalize str (dec (n / 10)) = X at c1 HV z1
      obtain ⟨K, HK⟩ : ∃ K : Nat, Hid (n % 10 = K) := ⟨_, rfl⟩
      rw [HK.out] at HC HV hk
      have kk : (n : Int) % 10 = (K : Int) := by have := HK.out; omega
      clear h0 hf
      go_enter Tryz.func7, Tryz.ntmps7
      go_wp2_with fail
      refine c1.mono ?_
      rintro e w1 ⟨rfl, rfl⟩
      have i3 : (K : Int) ≤ (K : Int) + 1 := by omega
      have i4 : (K : Int) + 1 ≤ 10 := by omega
      clear c1
      go_wp2_with fail
      go_ret
      refine ⟨congrArg Ending.returned (congrArg Value.string ?_), rfl⟩
      rw [← HV.out, ← HC.out]
theorem digits (n : Nat) (N : Int) (w : World) (hN : N = n) (hn : n ≤ 1000000000) :
    Calls Tryz.prog 7 #[.int .i64 N] w fun e w' => e = .returned (.string (str (dec n))) ∧ w' = w := digits_any (n + 1) n N w hN (by omega) hn
theorem dec_small (n : Nat) (h : n ≤ 1000000) : (str (dec n)).size ≤ 10 := by
  rw [Nums.str_size]
  exact Nat.le_trans (Decimals.dec_length 6 n (by omega)) (by decide)
theorem text_small (n : Int) : (str (text n)).size ≤ 10 := by
  rw [Nums.str_size, Nums.text_length]
  decide
theorem four_words (a b c d : List UInt8) : str a ++ ⟨#[32]⟩ ++ str b ++ ⟨#[32]⟩ ++ str c ++ ⟨#[32]⟩ ++ str d = str (a ++ 32 :: (b ++ 32 :: (c ++ 32 :: d))) := by
  have e : (⟨#[32]⟩ : ByteArray) = str [32] := rfl
  rw [e]
  simp only [Nums.str_append]
  simp




end Go.Proofs.YtjacioplocmciahGreatDoor.WalkHeadRef

/-
  What the document's own answers (package witref1) return on heads: Verify, Number, Cut, ReadHead.
-/
namespace Go.Proofs.YtjacioplocmciahGreatDoor.WalkVerifyRef
open Go.RowKit
open Lists (Row strs bt)
open Heads (Head ok headE print said signOf isKey verifyE)
open Decimals (dec dig number words)
open Nums (str text valid)
open HeadVals (hv aggH sizeH)
open Go.Sort (grow)

theorem head_cells (h : Head) (w : World) : (w.alloc (.cells #[.int .i64 h.size, .int .i64 h.root, .int .i64 h.time, .int .i64 h.sign] 30)).cell? ⟨w.heap.size, 0, none⟩ = some (.int .i64 h.size) ∧ (w.alloc (.cells #[.int .i64 h.size, .int .i64 h.root, .int .i64 h.time, .int .i64 h.sign] 30)).cell? ⟨w.heap.size, 1, none⟩ = some (.int .i64 h.root) ∧ (w.alloc (.cells #[.int .i64 h.size, .int .i64 h.root, .int .i64 h.time, .int .i64 h.sign] 30)).cell? ⟨w.heap.size, 2, none⟩ = some (.int .i64 h.time) ∧ (w.alloc (.cells #[.int .i64 h.size, .int .i64 h.root, .int .i64 h.time, .int .i64 h.sign] 30)).cell? ⟨w.heap.size, 3, none⟩ = some (.int .i64 h.sign) := ⟨by simp, by simp, by simp, by simp⟩


end Go.Proofs.YtjacioplocmciahGreatDoor.WalkVerifyRef

