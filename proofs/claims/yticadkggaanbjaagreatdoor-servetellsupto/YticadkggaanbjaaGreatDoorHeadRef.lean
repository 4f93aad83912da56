/-
  What the document's own answers (package witref1) return on heads: Head, Digits, Key, HeadText, Signed, Verify.
-/
import Derived.Test.YticadkggaanbjaaGreatDoorRefTree
import Derived.Test.YticadkggaanbjaaGreatDoorWalkDigits
import Derived.Test.YticadkggaanbjaaGreatDoorHeadRows
import Derived.Test.YticadkggaanbjaaGreatDoorListRows
import Derived.Deep.CutBlock
import Derived.Lib.QuietBelow
import Derived.Deep.DeepMust
namespace Go.Proofs.YticadkggaanbjaaGreatDoor.WalkHeadRef
open Go.RowKit
open Lists (bt)
open Heads (Head ok headE print said signOf isKey verifyE)
open Decimals (dec dig)
open Nums (str text valid)
open HeadVals (hv aggH sizeH)

set_option maxHeartbeats 1000000 in
theorem head_any (h : Head) (w : World) :
    Calls Tryz.prog 61 #[hv h] w fun e w' => e = .returned (.int .i64 (headE h : Nat)) ∧ Below w.heap.size w w' := by
  obtain ⟨a, b, c, d⟩ := h
  have HB : Hid (Below w.heap.size w (w.alloc (.cells #[.int .i64 a, .int .i64 b, .int .i64 c, .int .i64 d] 31))) := (Below.refl _ _).alloc (Nat.le_refl _) _
  have k0 : (w.alloc (.cells #[.int .i64 a, .int .i64 b, .int .i64 c, .int .i64 d] 31)).cell? ⟨w.heap.size, 0, none⟩ = some (.int .i64 a) := by simp
  have k1 : (w.alloc (.cells #[.int .i64 a, .int .i64 b, .int .i64 c, .int .i64 d] 31)).cell? ⟨w.heap.size, 1, none⟩ = some (.int .i64 b) := by simp
  have k2 : (w.alloc (.cells #[.int .i64 a, .int .i64 b, .int .i64 c, .int .i64 d] 31)).cell? ⟨w.heap.size, 2, none⟩ = some (.int .i64 c) := by simp
  have k3 : (w.alloc (.cells #[.int .i64 a, .int .i64 b, .int .i64 c, .int .i64 d] 31)).cell? ⟨w.heap.size, 3, none⟩ = some (.int .i64 d) := by simp
  have HE : Hid (headE ⟨a, b, c, d⟩ = if (0 ≤ a ∧ a ≤ 200 ∧ 0 ≤ c ∧ c ≤ 1000000) ∧ valid b = true ∧ valid d = true then 0 else 1) := by
    show _ = _
    unfold headE
    by_cases hk : ok ⟨a, b, c, d⟩ = true
    · rw [if_pos hk, if_pos (Heads.ok_iff.1 hk)]
    · rw [if_neg hk, if_neg (fun q => hk (Heads.ok_iff.2 q))]
  obtain ⟨B1, HB1⟩ : ∃ B1 : Bool, Hid (valid b = B1) := ⟨_, rfl⟩
  obtain ⟨B2, HB2⟩ : ∃ B2 : Bool, Hid (valid d = B2) := ⟨_, rfl⟩
  rw [HB1.out, HB2.out] at HE
  unfold hv
  go_enter Tryz.func61, Tryz.ntmps61
  go_upto_region 1 with fail
  generalize w.alloc (.cells #[.int .i64 a, .int .i64 b, .int .i64 c, .int .i64 d] 31) = w1 at HB k0 k1 k2 k3 ⊢
  go_wp2_with fail
  refine (WalkRef.valid_any b _).mono ?_
  rintro e w2 ⟨rfl, rfl⟩
  rw [HB1.out]
  go_wp2_with fail
  refine (WalkRef.valid_any d _).mono ?_
  rintro e w2 ⟨rfl, rfl⟩
  rw [HB2.out]
  by_cases h0 : a < 0
  · have HV : Hid (headE ⟨a, b, c, d⟩ = 1) := by rw [HE.out]; exact if_neg (fun q => by omega)
    go_wp2_with fail
    go_ret
    exact ⟨by rw [HV.out]; rfl, HB.out⟩
  by_cases h1 : 200 < a
  · have HV : Hid (headE ⟨a, b, c, d⟩ = 1) := by rw [HE.out]; exact if_neg (fun q => by omega)
    go_wp2_with fail
    go_ret
    exact ⟨by rw [HV.out]; rfl, HB.out⟩
  by_cases h2 : c < 0
  · have HV : Hid (headE ⟨a, b, c, d⟩ = 1) := by rw [HE.out]; exact if_neg (fun q => by omega)
    go_wp2_with fail
    go_ret
    exact ⟨by rw [HV.out]; rfl, HB.out⟩
  by_cases h3 : 1000000 < c
  · have HV : Hid (headE ⟨a, b, c, d⟩ = 1) := by rw [HE.out]; exact if_neg (fun q => by omega)
    go_wp2_with fail
    go_ret
    exact ⟨by rw [HV.out]; rfl, HB.out⟩
  cases B1
  · have HV : Hid (headE ⟨a, b, c, d⟩ = 1) := by rw [HE.out]; exact if_neg (fun q => by cases q.2.1)
    go_wp2_with fail
    go_ret
    exact ⟨by rw [HV.out]; rfl, HB.out⟩
  cases B2
  · have HV : Hid (headE ⟨a, b, c, d⟩ = 1) := by rw [HE.out]; exact if_neg (fun q => by cases q.2.2)
    go_wp2_with fail
    go_ret
    exact ⟨by rw [HV.out]; rfl, HB.out⟩
  · have HV : Hid (headE ⟨a, b, c, d⟩ = 0) := by rw [HE.out]; exact if_pos ⟨by omega, rfl, rfl⟩
    go_wp2_with fail
    go_ret
    exact ⟨by rw [HV.out]; rfl, HB.out⟩

theorem dec_small (n : Nat) (h : n ≤ 1000000) : (str (dec n)).size ≤ 10 := by
  rw [Nums.str_size]
  exact Nat.le_trans (Decimals.dec_length 6 n (by omega)) (by decide)
theorem text_small (n : Int) : (str (text n)).size ≤ 10 := by
  rw [Nums.str_size, Nums.text_length]
  decide
theorem four_words (a b c d : List UInt8) : str a ++ ⟨#[32]⟩ ++ str b ++ ⟨#[32]⟩ ++ str c ++ ⟨#[32]⟩ ++ str d = str (a ++ 32 :: (b ++ 32 :: (c ++ 32 :: d))) := by
  have e : (⟨#[32]⟩ : ByteArray) = str [32] := rfl
  rw [e]
  simp only [Nums.str_append]
  simp

theorem key_any (k : Int) (w : World) : Calls Tryz.prog 60 #[.int .i64 k] w fun e w' => e = .returned (.bool (isKey k)) ∧ w' = w := by
  by_cases h0 : 1 ≤ k
  · by_cases h1 : k ≤ 1000000
    · have HV : Hid (isKey k = true) := decide_eq_true ⟨h0, h1⟩
      go_enter Tryz.func60, Tryz.ntmps60
      go_wp2_with fail
      go_ret
      exact ⟨by rw [HV.out]; rfl, rfl⟩
    · have HV : Hid (isKey k = false) := decide_eq_false fun h => h1 h.2
      go_enter Tryz.func60, Tryz.ntmps60
      go_wp2_with fail
      go_ret
      exact ⟨by rw [HV.out]; rfl, rfl⟩
  · have HV : Hid (isKey k = false) := decide_eq_false fun h => h0 h.1
    go_enter Tryz.func60, Tryz.ntmps60
    go_wp2_with fail
    go_ret
    exact ⟨by rw [HV.out]; rfl, rfl⟩

set_option maxHeartbeats 1000000 in
theorem headText_any (h : Head) (w : World) (hk : ok h = true) :
    Calls Tryz.prog 42 #[hv h] w fun e w' => e = .returned (.string (str (print h))) ∧ Below w.heap.size w w' := by
  obtain ⟨⟨h1, h2, h3, h4⟩, h5, h6⟩ := Heads.ok_iff.1 hk
  obtain ⟨a, b, c, d⟩ := h
  simp only at h1 h2 h3 h4 h5 h6
  obtain ⟨A, rfl⟩ := Int.eq_ofNat_of_zero_le h1
  obtain ⟨C, rfl⟩ := Int.eq_ofNat_of_zero_le h3
  have HB : Hid (Below w.heap.size w (w.alloc (.cells #[.int .i64 (A : Int), .int .i64 b, .int .i64 (C : Int), .int .i64 d] 31))) := (Below.refl _ _).alloc (Nat.le_refl _) _
  have k0 : (w.alloc (.cells #[.int .i64 (A : Int), .int .i64 b, .int .i64 (C : Int), .int .i64 d] 31)).cell? ⟨w.heap.size, 0, none⟩ = some (.int .i64 (A : Int)) := by simp
  have k1 : (w.alloc (.cells #[.int .i64 (A : Int), .int .i64 b, .int .i64 (C : Int), .int .i64 d] 31)).cell? ⟨w.heap.size, 1, none⟩ = some (.int .i64 b) := by simp
  have k2 : (w.alloc (.cells #[.int .i64 (A : Int), .int .i64 b, .int .i64 (C : Int), .int .i64 d] 31)).cell? ⟨w.heap.size, 2, none⟩ = some (.int .i64 (C : Int)) := by simp
  have k3 : (w.alloc (.cells #[.int .i64 (A : Int), .int .i64 b, .int .i64 (C : Int), .int .i64 d] 31)).cell? ⟨w.heap.size, 3, none⟩ = some (.int .i64 d) := by simp
  have HP : Hid (str (dec A) ++ ⟨#[32]⟩ ++ str (text b) ++ ⟨#[32]⟩ ++ str (dec C) ++ ⟨#[32]⟩ ++ str (text d) = str (print ⟨(A : Int), b, (C : Int), d⟩)) := four_words _ _ _ _
  have cA := fun w => digits A (A : Int) w rfl (by omega)
  have cB := fun w => WalkRef.text_any b w h5
  have cC := fun w => digits C (C : Int) w rfl (by omega)
  have cD := fun w => WalkRef.text_any d w h6
  have zA := dec_small A (by omega)
  have zB := text_small b
  have zC := dec_small C (by omega)
  have zD := text_small d
  generalize str (dec A) = XA at cA zA HP
  generalize str (text b) = XB at cB zB HP
  generalize str (dec C) = XC at cC zC HP
  generalize str (text d) = XD at cD zD HP
  unfold hv
  clear hk h1 h2 h3 h4 h5 h6
  go_enter Tryz.func42, Tryz.ntmps42
  go_upto_region 1 with fail
  generalize w.alloc (.cells #[.int .i64 (A : Int), .int .i64 b, .int .i64 (C : Int), .int .i64 d] 31) = w1 at HB k0 k1 k2 k3 ⊢
  go_wp2_with fail
  refine (cA _).mono ?_
  rintro e w2 ⟨rfl, rfl⟩
  go_wp2_with fail
  refine (cB _).mono ?_
  rintro e w2 ⟨rfl, rfl⟩
  go_wp2_with fail
  refine (cC _).mono ?_
  rintro e w2 ⟨rfl, rfl⟩
  go_wp2_with fail
  refine (cD _).mono ?_
  rintro e w2 ⟨rfl, rfl⟩
  clear cA cB cC cD
  go_wp2_with fail
  go_ret
  exact ⟨congrArg Ending.returned (congrArg Value.string HP.out), HB.out⟩

set_option maxHeartbeats 1000000 in
theorem signed_any (h : Head) (key : Int) (w : World) (hk : ok h = true) (hy : isKey key = true) :
    Calls Tryz.prog 62 #[hv h, .int .i64 key] w fun e w' => e = .returned (.int .i64 (signOf h key)) ∧ Below w.heap.size w w' := by
  obtain ⟨⟨h1, h2, h3, h4⟩, h5, h6⟩ := Heads.ok_iff.1 hk
  have hy' := of_decide_eq_true hy
  obtain ⟨a, b, c, d⟩ := h
  simp only at h1 h2 h3 h4 h5 h6
  obtain ⟨A, rfl⟩ := Int.eq_ofNat_of_zero_le h1
  obtain ⟨C, rfl⟩ := Int.eq_ofNat_of_zero_le h3
  obtain ⟨K, rfl⟩ := Int.eq_ofNat_of_zero_le (show 0 ≤ key by omega)
  have HB : Hid (Below w.heap.size w (w.alloc (.cells #[.int .i64 (A : Int), .int .i64 b, .int .i64 (C : Int), .int .i64 d] 31))) := (Below.refl _ _).alloc (Nat.le_refl _) _
  have k0 : (w.alloc (.cells #[.int .i64 (A : Int), .int .i64 b, .int .i64 (C : Int), .int .i64 d] 31)).cell? ⟨w.heap.size, 0, none⟩ = some (.int .i64 (A : Int)) := by simp
  have k1 : (w.alloc (.cells #[.int .i64 (A : Int), .int .i64 b, .int .i64 (C : Int), .int .i64 d] 31)).cell? ⟨w.heap.size, 1, none⟩ = some (.int .i64 b) := by simp
  have k2 : (w.alloc (.cells #[.int .i64 (A : Int), .int .i64 b, .int .i64 (C : Int), .int .i64 d] 31)).cell? ⟨w.heap.size, 2, none⟩ = some (.int .i64 (C : Int)) := by simp
  have HP : Hid (str (dec A) ++ ⟨#[32]⟩ ++ str (text b) ++ ⟨#[32]⟩ ++ str (dec C) ++ ⟨#[32]⟩ ++ str (dec K) = str (said ⟨(A : Int), b, (C : Int), d⟩ (K : Int))) := four_words _ _ _ _
  have cA := fun w => digits A (A : Int) w rfl (by omega)
  have cB := fun w => WalkRef.text_any b w h5
  have cC := fun w => digits C (C : Int) w rfl (by omega)
  have cD := fun w => digits K (K : Int) w rfl (by omega)
  have zA := dec_small A (by omega)
  have zB := text_small b
  have zC := dec_small C (by omega)
  have zD := dec_small K (by omega)
  have HS : Hid (signOf ⟨(A : Int), b, (C : Int), d⟩ (K : Int) = Sums.sum (str (said ⟨(A : Int), b, (C : Int), d⟩ (K : Int))).data.toList) := rfl
  generalize str (dec A) = XA at cA zA HP
  generalize str (text b) = XB at cB zB HP
  generalize str (dec C) = XC at cC zC HP
  generalize str (dec K) = XD at cD zD HP
  generalize str (said ⟨(A : Int), b, (C : Int), d⟩ (K : Int)) = XE at HP HS
  unfold hv
  clear hk h1 h2 h3 h4 h5 h6 hy hy'
  go_enter Tryz.func62, Tryz.ntmps62
  go_upto_region 1 with fail
  generalize w.alloc (.cells #[.int .i64 (A : Int), .int .i64 b, .int .i64 (C : Int), .int .i64 d] 31) = w1 at HB k0 k1 k2 ⊢
  go_wp2_with fail
  refine (cA _).mono ?_
  rintro e w2 ⟨rfl, rfl⟩
  go_wp2_with fail
  refine (cB _).mono ?_
  rintro e w2 ⟨rfl, rfl⟩
  go_wp2_with fail
  refine (cC _).mono ?_
  rintro e w2 ⟨rfl, rfl⟩
  go_wp2_with fail
  refine (cD _).mono ?_
  rintro e w2 ⟨rfl, rfl⟩
  clear cA cB cC cD
  have zE : XE.size ≤ maxLen := by
    rw [← HP.out]
    unfold maxLen
    simp only [ByteArray.size_append]
    have e32 : (⟨#[32]⟩ : ByteArray).size = 1 := rfl
    omega
  go_wp2_with fail
  rw [HP.out]
  refine (WalkRef.sum_any XE _ zE).mono ?_
  rintro e w2 ⟨rfl, rfl⟩
  go_wp2_with fail
  go_ret
  exact ⟨by rw [HS.out]; rfl, HB.out⟩

end Go.Proofs.YticadkggaanbjaaGreatDoor.WalkHeadRef

/-
  What the document's own answers (package witref1) return on heads: Verify, Number, Cut, ReadHead.
-/
namespace Go.Proofs.YticadkggaanbjaaGreatDoor.WalkVerifyRef
open Go.RowKit
open Lists (Row strs bt)
open Heads (Head ok headE print said signOf isKey verifyE)
open Decimals (dec dig number words)
open Nums (str text valid)
open HeadVals (hv aggH sizeH)
open Go.Sort (grow)

theorem head_cells (h : Head) (w : World) : (w.alloc (.cells #[.int .i64 h.size, .int .i64 h.root, .int .i64 h.time, .int .i64 h.sign] 31)).cell? ⟨w.heap.size, 0, none⟩ = some (.int .i64 h.size) ∧ (w.alloc (.cells #[.int .i64 h.size, .int .i64 h.root, .int .i64 h.time, .int .i64 h.sign] 31)).cell? ⟨w.heap.size, 1, none⟩ = some (.int .i64 h.root) ∧ (w.alloc (.cells #[.int .i64 h.size, .int .i64 h.root, .int .i64 h.time, .int .i64 h.sign] 31)).cell? ⟨w.heap.size, 2, none⟩ = some (.int .i64 h.time) ∧ (w.alloc (.cells #[.int .i64 h.size, .int .i64 h.root, .int .i64 h.time, .int .i64 h.sign] 31)).cell? ⟨w.heap.size, 3, none⟩ = some (.int .i64 h.sign) := ⟨by simp, by simp, by simp, by simp⟩


end Go.Proofs.YticadkggaanbjaaGreatDoor.WalkVerifyRef

