/-
  The digits of a number, as the document's own Digits (package witref1) writes them.
-/
import Derived.Test.YticadkggaanbjaaGreatDoorRefTree
import Derived.Test.YticadkggaanbjaaGreatDoorMirPlain
import Derived.Test.YticadkggaanbjaaGreatDoorListRows
import Derived.Deep.CutBlock
namespace Go.Proofs.YticadkggaanbjaaGreatDoor.WalkHeadRef
open Go.RowKit
open Lists (bt)
open Decimals (dec dig)
open Nums (str text valid)

theorem cut_dig (k : Nat) (h : k < 10) : (ByteArray.mk #[48, 49, 50, 51, 52, 53, 54, 55, 56, 57]).extract k (k + 1) = str [dig k] := by
  have hd : ∀ k : Fin 10, ((ByteArray.mk #[48, 49, 50, 51, 52, 53, 54, 55, 56, 57]).extract k.val (k.val + 1)).data = #[dig k.val] := by decide +kernel
  apply ByteArray.ext
  exact hd ⟨k, h⟩

set_option maxHeartbeats 1000000 in
theorem digits_any : ∀ (f : Nat) (n : Nat) (N : Int) (w : World), N = n → n < f → n ≤ 1000000000 →
    Calls Tryz.prog 14 #[.int .i64 N] w fun e w' => e = .returned (.string (str (dec n))) ∧ w' = w
  | 0, _, _, _, _, h, _ => by omega
  | f + 1, n, N, w, hN, hf, hn => by
    subst hN
    by_cases h0 : n < 10
    · have i0 : (n : Int) < 10 := by omega
      have HV : Hid ((ByteArray.mk #[48, 49, 50, 51, 52, 53, 54, 55, 56, 57]).extract n (n + 1) = str (dec n)) := by
        show _ = _
        rw [cut_dig n h0, Decimals.dec_small h0]
      have i1 : (n : Int) ≤ (n : Int) + 1 := by omega
      have i2 : (n : Int) + 1 ≤ 10 := by omega
      clear h0 hf hn
      go_enter Tryz.func14, Tryz.ntmps14
      go_wp2_with fail
      go_ret
      exact ⟨congrArg Ending.returned (congrArg Value.string HV.out), rfl⟩
    · have i0 : ¬ (n : Int) < 10 := by omega
      have c1 := digits_any f (n / 10) ((n : Int) / 10) w (by omega) (by omega) (by omega)
      have hk : n % 10 < 10 := Nat.mod_lt _ (by decide)
      have HC : Hid ((ByteArray.mk #[48, 49, 50, 51, 52, 53, 54, 55, 56, 57]).extract (n % 10) (n % 10 + 1) = str [dig (n % 10)]) := cut_dig _ hk
      have HV : Hid (str (dec (n / 10)) ++ str [dig (n % 10)] = str (dec n)) := by
        show _ = _
        rw [Nums.str_append, ← Decimals.dec_more h0]
      have z1 : (str (dec (n / 10))).size ≤ 20 := by
        rw [Nums.str_size]
        exact Nat.le_trans (Decimals.dec_length 9 _ (by omega)) (by decide)
      generalize str (dec (n / 10)) = X at c1 HV z1
      obtain ⟨K, HK⟩ : ∃ K : Nat, Hid (n % 10 = K) := ⟨_, rfl⟩
      rw [HK.out] at HC HV hk
      have kk : (n : Int) % 10 = (K : Int) := by have := HK.out; omega
      clear h0 hf
      go_enter Tryz.func14, Tryz.ntmps14
      go_wp2_with fail
      refine c1.mono ?_
      rintro e w1 ⟨rfl, rfl⟩
      have i3 : (K : Int) ≤ (K : Int) + 1 := by omega
      have i4 : (K : Int) + 1 ≤ 10 := by omega
      clear c1
      go_wp2_with fail
      go_ret
      refine ⟨congrArg Ending.returned (congrArg Value.string ?_), rfl⟩
      rw [← HV.out, ← HC.out]
theorem digits (n : Nat) (N : Int) (w : World) (hN : N = n) (hn : n ≤ 1000000000) :
    Calls Tryz.prog 14 #[.int .i64 N] w fun e w' => e = .returned (.string (str (dec n))) ∧ w' = w := digits_any (n + 1) n N w hN (by omega) hn
end Go.Proofs.YticadkggaanbjaaGreatDoor.WalkHeadRef
