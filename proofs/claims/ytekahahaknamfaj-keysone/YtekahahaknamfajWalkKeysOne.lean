/-
  The walk of KeysOne: of one pair the key is proved, and any other one that stands elsewhere is not there.
-/
import Derived.Test.YtekahahaknamfajWalkKy
import Derived.Test.YtekahahaknamfajKeyTrees
import Derived.Test.YtekahahaknamfajKeyOnes
import Derived.Test.YtekahahaknamfajPairRows
import Derived.Test.YtekahahaknamfajLists
import Derived.Test.YtekahahaknamfajErrs
import Derived.Deep.CutBlock
namespace Go.Proofs.Ytekahahaknamfaj.WalkKeysOne
open Go.RowKit
open Nums (str)
open Lists (Row ints bt)
open Keeps (owns_row)
open Wides (Wide)
open Stores (Pair keyE)
open PairRows (cells)
open Errs (errv errv0 errv_pos)
open KeyTrees
open KeyOnes (one_wide one_fault key_no key_yes empty_yes empty_no)

theorem bits_a : keyE ⟨#[97]⟩ = 0 ∧ (str (bitsV ⟨#[97]⟩)).size = 8 := by decide

set_option maxHeartbeats 4000000 in
set_option maxRecDepth 100000 in
theorem walk (key : ByteArray) (hk : key.size ≤ 140737488351232) (value : ByteArray) (hv : value.size ≤ 140737488351232) (other : ByteArray) (ho : other.size ≤ 140737488351232) (w : World) :
    Calls Try.prog 3 #[.string key, .string value, .string other] w fun e w' => e = .returned (.bool true) ∧ Below w.heap.size w w' := by
  have hmk : key.size ≤ maxLen := by unfold maxLen; omega
  have hmv : value.size ≤ maxLen := by unfold maxLen; omega
  have hmo : other.size ≤ maxLen := by unfold maxLen; omega
  have cA := WalkKy.bits_any ⟨#[97]⟩ w (by decide)
  rw [bits_a.1, errv0] at cA
  have sA := bits_a.2
  obtain ⟨P, HP⟩ : ∃ P : List Pair, Hid (P = [⟨key, value, false⟩]) := ⟨_, rfl⟩
  have HZ : Hid (∀ e ∈ P, e.key.size ≤ maxLen ∧ e.val.size ≤ maxLen) := by
    rw [HP.out]
    intro e he
    rw [List.mem_singleton.1 he]
    exact ⟨hmk, hmv⟩
  have HBi : Hid (∀ k : ByteArray, k.size ≤ maxLen → ∀ w', Calls Try.prog 4 #[.string k] w' fun e w'' => e = .returned (.tuple #[.string (str (bitsV k)), errv (keyE k)]) ∧ Below w'.heap.size w' w'') := fun k h w' => WalkKy.bits_any k w' h
  have HMk : Hid (key.size ≤ maxLen ∧ value.size ≤ maxLen ∧ other.size ≤ maxLen) := ⟨hmk, hmv, hmo⟩
  clear hmk hmv hmo
  generalize str (bitsV ⟨#[97]⟩) = SA at cA sA
  go_enter Try.func3, Try.ntmps3
  go_wp2_with fail
  refine cA.mono ?_
  rintro e w1 ⟨rfl, b1⟩
  clear cA
  have i8 : ((SA.size : Int) != 8) = false := by rw [sA]; rfl
  have HB2 : Hid (Below w.heap.size w (w1.alloc (.cells #[.string key, .string value, .bool false] 27))) := b1.alloc b1.size _
  have HW2 : Hid (Wide 3 (w1.alloc (.cells #[.string key, .string value, .bool false] 27)) (some ⟨w1.heap.size, 0, none⟩) 1 1 (cells P)) := by rw [HP.out]; exact one_wide w1 key value _
  clear b1
  go_upto_region 5 with fail
  clear i8 sA
  generalize w1.heap.size = g at HW2 ⊢
  generalize w1.alloc (.cells #[.string key, .string value, .bool false] 27) = w2 at HB2 HW2 ⊢
  have cR := WalkKy.root_any P _ 1 1 w2 HW2.out HZ.out
  have HW : Hid (∀ w', Below w2.heap.size w2 w' → Wide 3 w' (some ⟨g, 0, none⟩) 1 1 (cells P)) := fun w' b => HW2.out.below b
  go_wp2_with fail
  refine cR.mono ?_
  rintro e w3 ⟨rfl, b3⟩
  have HB3 : Hid (Below w.heap.size w w3) := bt HB2.out b3
  have HBc : Hid (Below w2.heap.size w2 w3) := b3
  clear cR b3
  have HPe : Hid (pairsE P = if keyE key ≠ 0 then keyE key else if 200 < value.size then 4 else 0) := by rw [HP.out]; exact one_fault key value
  by_cases hK : keyE key ≠ 0
  · have hE : pairsE P = keyE key := by rw [HPe.out, if_pos hK]
    rw [errv_pos _ (by rw [hE]; exact hK)]
    generalize ((pairsE P : Nat) : Int) = E
    have HKn : Hid (key.size = 0 ∨ (key.size ≠ 0 ∧ 200 < key.size)) := key_no hK
    clear hK hE HPe
    rcases HKn.out with h0 | ⟨h0, h2⟩
    · have e0 := empty_yes h0
      clear h0
      go_wp2_with fail
      go_ret
      exact ⟨rfl, HB3.out⟩
    · have e0 := empty_no h0
      have i0 : (200 : Int) < (key.size : Int) := by omega
      clear h0 h2
      go_wp2_with fail
      go_ret
      exact ⟨rfl, HB3.out⟩
  have hK : keyE key = 0 := Decidable.not_not.1 hK
  have hk2 := key_yes hK
  by_cases hV : 200 < value.size
  · have hE : pairsE P = 4 := by rw [HPe.out, if_neg (fun h => h hK), if_pos hV]
    rw [hE, errv_pos 4 (by decide)]
    have e0 := empty_no hk2.1
    have i0 : ¬ (200 : Int) < (key.size : Int) := by omega
    have i1 : (200 : Int) < (value.size : Int) := by omega
    clear hK hk2 hV hE HPe
    go_wp2_with fail
    go_ret
    exact ⟨rfl, HB3.out⟩
  have hE : pairsE P = 0 := by rw [HPe.out, if_neg (fun h => h hK), if_neg hV]
  have hmem : (⟨key, value, false⟩ : Pair) ∈ P := by rw [HP.out]; exact List.mem_singleton.2 rfl
  have hP1 := check_pair hE hmem
  have HPr : Hid (∀ k, keyE k = 0 → proveE P k = 0 ∧ proveL P k = beside (place P) (spot k)) := fun k h => by
    have h1 : proveE P k = 0 := by unfold proveE; rw [if_neg (fun z => z hE)]; exact h
    exact ⟨h1, if_pos h1⟩
  have HCk : Hid (checkE (rootK P) key value true (beside (place P) (spot key)) = 0) := hP1.2
  have HCn : Hid (∀ k, keyE k = 0 → spot k ≠ spot key → checkE (rootK P) k ⟨#[]⟩ false (beside (place P) (spot k)) = 0) := fun k h h2 => check_none h (by
    rw [HP.out]
    intro e he
    rw [List.mem_singleton.1 he]
    exact fun z => h2 z.symm)
  have HKy : Hid (keyE key = 0) := hK
  have cP := fun w' (b : Below w2.heap.size w2 w') => WalkKy.prove_any P _ 1 1 key w' (HW.out w' b) HZ.out HMk.out.1
  rw [(HPr.out key hK).1, (HPr.out key hK).2, errv0, beside_length] at cP
  rw [hE, errv0, show rootV P = rootK P from if_pos hE]
  clear hK hk2 hV hE hmem hP1 HPe
  go_wp2_with fail
  refine (cP _ HBc.out).mono ?_
  rintro e w4 ⟨v4, rfl, o4, b4⟩
  obtain ⟨a4, c4, rfl, r4, _⟩ := owns_row o4
  have HB4 : Hid (Below w2.heap.size w2 w4) := bt HBc.out b4
  have cC := WalkKy.check_any (rootK P) key value true (beside (place P) (spot key)) a4 8 c4 w4 HMk.out.1 HMk.out.2.1 r4 (by decide)
  rw [HCk.out, errv0] at cC
  clear cP o4 b4 r4 HBc
  go_wp2_with fail
  refine cC.mono ?_
  rintro e w5 ⟨rfl, b5⟩
  have HB5 : Hid (Below w2.heap.size w2 w5) := bt HB4.out b5
  clear cC b5 HB4
  go_wp2_with fail
  refine (HBi.out key HMk.out.1 _).mono ?_
  rintro e w6 ⟨rfl, b6⟩
  have HB6 : Hid (Below w2.heap.size w2 w6) := bt HB5.out b6
  clear b6 HB5
  rw [HKy.out, errv0]
  have sK : (str (bitsV key)).size = 8 := by rw [Nums.str_size, show bitsV key = bitsT (spot key) from if_pos HKy.out, bitsT_length]
  have HBk : Hid (bitsV key = bitsT (spot key)) := if_pos HKy.out
  obtain ⟨SK, HSK⟩ : ∃ SK, Hid (str (bitsV key) = SK) := ⟨_, rfl⟩
  rw [HSK.out] at sK ⊢
  go_wp2_with fail
  refine (HBi.out other HMk.out.2.2 _).mono ?_
  rintro e w7 ⟨rfl, b7⟩
  have HB7 : Hid (Below w2.heap.size w2 w7) := bt HB6.out b7
  have HBw : Hid (Below w.heap.size w w7) := bt HB2.out HB7.out
  clear b7 HB6
  obtain ⟨SO, HSO⟩ : ∃ SO, Hid (str (bitsV other) = SO) := ⟨_, rfl⟩
  rw [HSO.out]
  by_cases hO : keyE other = 0
  rotate_left
  · rw [errv_pos _ hO]
    generalize ((keyE other : Nat) : Int) = E
    clear hO
    go_wp2_with fail
    go_ret
    exact ⟨rfl, HBw.out⟩
  rw [hO, errv0]
  by_cases hS : SK = SO
  · subst hS
    have e1 : (SK.toList == SK.toList) = true := by simp
    clear hO
    go_wp2_with fail
    go_ret
    exact ⟨rfl, HBw.out⟩
  have e1 : (SK.toList == SO.toList) = false := by rw [beq_eq_false_iff_ne]; exact fun e => hS (Stores.toList_inj e)
  have hne : spot other ≠ spot key := fun e => hS (by rw [← HSK.out, ← HSO.out, HBk.out, show bitsV other = bitsT (spot other) from if_pos hO, e])
  have cP := fun w' (b : Below w2.heap.size w2 w') => WalkKy.prove_any P _ 1 1 other w' (HW.out w' b) HZ.out HMk.out.2.2
  rw [(HPr.out other hO).1, (HPr.out other hO).2, errv0, beside_length] at cP
  have HCo : Hid (checkE (rootK P) other ⟨#[]⟩ false (beside (place P) (spot other)) = 0) := HCn.out other hO hne
  have i8 : ((SK.size : Int) == 8) = true := by rw [sK]; rfl
  clear hO hS hne HCn HPr
  go_wp2_with fail
  refine (cP _ HB7.out).mono ?_
  rintro e w8 ⟨v8, rfl, o8, b8⟩
  obtain ⟨a8, c8, rfl, r8, _⟩ := owns_row o8
  have HB8 : Hid (Below w.heap.size w w8) := bt HBw.out b8
  have cC := WalkKy.check_any (rootK P) other ⟨#[]⟩ false (beside (place P) (spot other)) a8 8 c8 w8 HMk.out.2.2 (by decide) r8 (by decide)
  rw [HCo.out, errv0] at cC
  clear cP o8 b8 r8 HBw HB7 sK
  go_wp2_with fail
  refine cC.mono ?_
  rintro e w9 ⟨rfl, b9⟩
  have HB9 : Hid (Below w.heap.size w w9) := bt HB8.out b9
  clear cC b9
  go_wp2_with fail
  go_ret
  exact ⟨rfl, HB9.out⟩

end Go.Proofs.Ytekahahaknamfaj.WalkKeysOne
