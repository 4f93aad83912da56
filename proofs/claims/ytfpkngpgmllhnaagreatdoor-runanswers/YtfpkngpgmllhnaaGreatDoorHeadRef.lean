/-
  What the document's own answers (package witref1) return on heads: Head, Digits, Key, HeadText, Signed, Verify.
-/
import Derived.Test.YtfpkngpgmllhnaaGreatDoorRefTree
import Derived.Test.YtfpkngpgmllhnaaGreatDoorRefNum
import Derived.Test.YtfpkngpgmllhnaaGreatDoorHeadRows
import Derived.Test.YtfpkngpgmllhnaaGreatDoorListRows
import Derived.Deep.CutBlock
import Derived.Lib.QuietBelow
import Derived.Deep.DeepMust
namespace Go.Proofs.YtfpkngpgmllhnaaGreatDoor.WalkHeadRef
open Go.RowKit
open Lists (bt)
open Heads (Head ok headE print said signOf isKey verifyE)
open Decimals (dec dig)
open Nums (str text valid)
open HeadVals (hv aggH sizeH)

set_option maxHeartbeats 1000000 in
theorem head_any (h : Head) (w : World) :
    Calls Tryz.prog 76 #[hv h] w fun e w' => e = .returned (.int .i64 (headE h : Nat)) ∧ Below w.heap.size w w' := by
  obtain ⟨a, b, c, d⟩ := h
  have HB : Hid (Below w.heap.size w (w.alloc (.cells #[.int .i64 a, .int .i64 b, .int .i64 c, .int .i64 d] 29))) := (Below.refl _ _).alloc (Nat.le_refl _) _
  have k0 : (w.alloc (.cells #[.int .i64 a, .int .i64 b, .int .i64 c, .int .i64 d] 29)).cell? ⟨w.heap.size, 0, none⟩ = some (.int .i64 a) := by simp
  have k1 : (w.alloc (.cells #[.int .i64 a, .int .i64 b, .int .i64 c, .int .i64 d] 29)).cell? ⟨w.heap.size, 1, none⟩ = some (.int .i64 b) := by simp
  have k2 : (w.alloc (.cells #[.int .i64 a, .int .i64 b, .int .i64 c, .int .i64 d] 29)).cell? ⟨w.heap.size, 2, none⟩ = some (.int .i64 c) := by simp
  have k3 : (w.alloc (.cells #[.int .i64 a, .int .i64 b, .int .i64 c, .int .i64 d] 29)).cell? ⟨w.heap.size, 3, none⟩ = some (.int .i64 d) := by simp
  have HE : Hid (headE ⟨a, b, c, d⟩ = if (0 ≤ a ∧ a ≤ 200 ∧ 0 ≤ c ∧ c ≤ 1000000) ∧ valid b = true ∧ valid d = true then 0 else 1) := by
    show _ = _
    unfold headE
    by_cases hk : ok ⟨a, b, c, d⟩ = true
    · rw [if_pos hk, if_pos (Heads.ok_iff.1 hk)]
    · rw [if_neg hk, if_neg (fun q => hk (Heads.ok_iff.2 q))]
  obtain ⟨B1, HB1⟩ : ∃ B1 : Bool, Hid (valid b = B1) := ⟨_, rfl⟩
  obtain ⟨B2, HB2⟩ : ∃ B2 : Bool, Hid (valid d = B2) := ⟨_, rfl⟩
  rw [HB1.out, HB2.out] at HE
  unfold hv
  go_enter Tryz.func76, Tryz.ntmps76
  go_upto_region 1 with fail
  generalize w.alloc (.cells #[.int .i64 a, .int .i64 b, .int .i64 c, .int .i64 d] 29) = w1 at HB k0 k1 k2 k3 ⊢
  go_wp2_with fail
  refine (WalkRef.valid_any b _).mono ?_
  rintro e w2 ⟨rfl, rfl⟩
  rw [HB1.out]
  go_wp2_with fail
  refine (WalkRef.valid_any d _).mono ?_
  rintro e w2 ⟨rfl, rfl⟩
  rw [HB2.out]
  by_cases h0 : a < 0
  · have HV : Hid (headE ⟨a, b, c, d⟩ = 1) := by rw [HE.out]; exact if_neg (fun q => by omega)
    go_wp2_with fail
    go_ret
    exact ⟨by rw [HV.out]; rfl, HB.out⟩
  by_cases h1 : 200 < a
  · have HV : Hid (headE ⟨a, b, c, d⟩ = 1) := by rw [HE.out]; exact if_neg (fun q => by omega)
    go_wp2_with fail
    go_ret
    exact ⟨by rw [HV.out]; rfl, HB.out⟩
  by_cases h2 : c < 0
  · have HV : Hid (headE ⟨a, b, c, d⟩ = 1) := by rw [HE.out]; exact if_neg (fun q => by omega)
    go_wp2_with fail
    go_ret
    exact ⟨by rw [HV.out]; rfl, HB.out⟩
  by_cases h3 : 1000000 < c
  · have HV : Hid (headE ⟨a, b, c, d⟩ = 1) := by rw [HE.out]; exact if_neg (fun q => by omega)
    go_wp2_with fail
    go_ret
    exact ⟨by rw [HV.out]; rfl, HB.out⟩
  cases B1
  · have HV : Hid (headE ⟨a, b, c, d⟩ = 1) := by rw [HE.out]; exact if_neg (fun q => by cases q.2.1)
    go_wp2_with fail
    go_ret
    exact ⟨by rw [HV.out]; rfl, HB.out⟩
  cases B2
  · have HV : Hid (headE ⟨a, b, c, d⟩ = 1) := by rw [HE.out]; exact if_neg (fun q => by cases q.2.2)
    go_wp2_with fail
    go_ret
    exact ⟨by rw [HV.out]; rfl, HB.out⟩
  · have HV : Hid (headE ⟨a, b, c, d⟩ = 0) := by rw [HE.out]; exact if_pos ⟨by omega, rfl, rfl⟩
    go_wp2_with fail
    go_ret
    exact ⟨by rw [HV.out]; rfl, HB.out⟩

theorem dec_small (n : Nat) (h : n ≤ 1000000) : (str (dec n)).size ≤ 10 := by
  rw [Nums.str_size]
  exact Nat.le_trans (Decimals.dec_length 6 n (by omega)) (by decide)
theorem text_small (n : Int) : (str (text n)).size ≤ 10 := by
  rw [Nums.str_size, Nums.text_length]
  decide
theorem four_words (a b c d : List UInt8) : str a ++ ⟨#[32]⟩ ++ str b ++ ⟨#[32]⟩ ++ str c ++ ⟨#[32]⟩ ++ str d = str (a ++ 32 :: (b ++ 32 :: (c ++ 32 :: d))) := by
  have e : (⟨#[32]⟩ : ByteArray) = str [32] := rfl
  rw [e]
  simp only [Nums.str_append]
  simp

theorem key_any (k : Int) (w : World) : Calls Tryz.prog 75 #[.int .i64 k] w fun e w' => e = .returned (.bool (isKey k)) ∧ w' = w := by
  by_cases h0 : 1 ≤ k
  · by_cases h1 : k ≤ 1000000
    · have HV : Hid (isKey k = true) := decide_eq_true ⟨h0, h1⟩
      go_enter Tryz.func75, Tryz.ntmps75
      go_wp2_with fail
      go_ret
      exact ⟨by rw [HV.out]; rfl, rfl⟩
    · have HV : Hid (isKey k = false) := decide_eq_false fun h => h1 h.2
      go_enter Tryz.func75, Tryz.ntmps75
      go_wp2_with fail
      go_ret
      exact ⟨by rw [HV.out]; rfl, rfl⟩
  · have HV : Hid (isKey k = false) := decide_eq_false fun h => h0 h.1
    go_enter Tryz.func75, Tryz.ntmps75
    go_wp2_with fail
    go_ret
    exact ⟨by rw [HV.out]; rfl, rfl⟩

set_option maxHeartbeats 1000000 in
theorem headText_any (h : Head) (w : World) (hk : ok h = true) :
    Calls Tryz.prog 43 #[hv h] w fun e w' => e = .returned (.string (str (print h))) ∧ Below w.heap.size w w' := by
  obtain ⟨⟨h1, h2, h3, h4⟩, h5, h6⟩ := Heads.ok_iff.1 hk
  obtain ⟨a, b, c, d⟩ := h
  simp only at h1 h2 h3 h4 h5 h6
  obtain ⟨A, rfl⟩ := Int.eq_ofNat_of_zero_le h1
  obtain ⟨C, rfl⟩ := Int.eq_ofNat_of_zero_le h3
  have HB : Hid (Below w.heap.size w (w.alloc (.cells #[.int .i64 (A : Int), .int .i64 b, .int .i64 (C : Int), .int .i64 d] 29))) := (Below.refl _ _).alloc (Nat.le_refl _) _
  have k0 : (w.alloc (.cells #[.int .i64 (A : Int), .int .i64 b, .int .i64 (C : Int), .int .i64 d] 29)).cell? ⟨w.heap.size, 0, none⟩ = some (.int .i64 (A : Int)) := by simp
  have k1 : (w.alloc (.cells #[.int .i64 (A : Int), .int .i64 b, .int .i64 (C : Int), .int .i64 d] 29)).cell? ⟨w.heap.size, 1, none⟩ = some (.int .i64 b) := by simp
  have k2 : (w.alloc (.cells #[.int .i64 (A : Int), .int .i64 b, .int .i64 (C : Int), .int .i64 d] 29)).cell? ⟨w.heap.size, 2, none⟩ = some (.int .i64 (C : Int)) := by simp
  have k3 : (w.alloc (.cells #[.int .i64 (A : Int), .int .i64 b, .int .i64 (C : Int), .int .i64 d] 29)).cell? ⟨w.heap.size, 3, none⟩ = some (.int .i64 d) := by simp
  have HP : Hid (str (dec A) ++ ⟨#[32]⟩ ++ str (text b) ++ ⟨#[32]⟩ ++ str (dec C) ++ ⟨#[32]⟩ ++ str (text d) = str (print ⟨(A : Int), b, (C : Int), d⟩)) := four_words _ _ _ _
  have cA := fun w => digits A (A : Int) w rfl (by omega)
  have cB := fun w => WalkRef.text_any b w h5
  have cC := fun w => digits C (C : Int) w rfl (by omega)
  have cD := fun w => WalkRef.text_any d w h6
  have zA := dec_small A (by omega)
  have zB := text_small b
  have zC := dec_small C (by omega)
  have zD := text_small d
  generalize str (dec A) = XA at cA zA HP
  generalize str (text b) = XB at cB zB HP
  generalize str (dec C) = XC at cC zC HP
  generalize str (text d) = XD at cD zD HP
  unfold hv
  clear hk h1 h2 h3 h4 h5 h6
  go_enter Tryz.func43, Tryz.ntmps43
  go_upto_region 1 with fail
  generalize w.alloc (.cells #[.int .i64 (A : Int), .int .i64 b, .int .i64 (C : Int), .int .i64 d] 29) = w1 at HB k0 k1 k2 k3 ⊢
  go_wp2_with fail
  refine (cA _).mono ?_
  rintro e w2 ⟨rfl, rfl⟩
  go_wp2_with fail
  refine (cB _).mono ?_
  rintro e w2 ⟨rfl, rfl⟩
  go_wp2_with fail
  refine (cC _).mono ?_
  rintro e w2 ⟨rfl, rfl⟩
  go_wp2_with fail
  refine (cD _).mono ?_
  rintro e w2 ⟨rfl, rfl⟩
  clear cA cB cC cD
  go_wp2_with fail
  go_ret
  exact ⟨congrArg Ending.returned (congrArg Value.string HP.out), HB.out⟩

set_option maxHeartbeats 1000000 in
theorem signed_any (h : Head) (key : Int) (w : World) (hk : ok h = true) (hy : isKey key = true) :
    Calls Tryz.prog 77 #[hv h, .int .i64 key] w fun e w' => e = .returned (.int .i64 (signOf h key)) ∧ Below w.heap.size w w' := by
  obtain ⟨⟨h1, h2, h3, h4⟩, h5, h6⟩ := Heads.ok_iff.1 hk
  have hy' := of_decide_eq_true hy
  obtain ⟨a, b, c, d⟩ := h
  simp only at h1 h2 h3 h4 h5 h6
  obtain ⟨A, rfl⟩ := Int.eq_ofNat_of_zero_le h1
  obtain ⟨C, rfl⟩ := Int.eq_ofNat_of_zero_le h3
  obtain ⟨K, rfl⟩ := Int.eq_ofNat_of_zero_le (show 0 ≤ key by omega)
  have HB : Hid (Below w.heap.size w (w.alloc (.cells #[.int .i64 (A : Int), .int .i64 b, .int .i64 (C : Int), .int .i64 d] 29))) := (Below.refl _ _).alloc (Nat.le_refl _) _
  have k0 : (w.alloc (.cells #[.int .i64 (A : Int), .int .i64 b, .int .i64 (C : Int), .int .i64 d] 29)).cell? ⟨w.heap.size, 0, none⟩ = some (.int .i64 (A : Int)) := by simp
  have k1 : (w.alloc (.cells #[.int .i64 (A : Int), .int .i64 b, .int .i64 (C : Int), .int .i64 d] 29)).cell? ⟨w.heap.size, 1, none⟩ = some (.int .i64 b) := by simp
  have k2 : (w.alloc (.cells #[.int .i64 (A : Int), .int .i64 b, .int .i64 (C : Int), .int .i64 d] 29)).cell? ⟨w.heap.size, 2, none⟩ = some (.int .i64 (C : Int)) := by simp
  have HP : Hid (str (dec A) ++ ⟨#[32]⟩ ++ str (text b) ++ ⟨#[32]⟩ ++ str (dec C) ++ ⟨#[32]⟩ ++ str (dec K) = str (said ⟨(A : Int), b, (C : Int), d⟩ (K : Int))) := four_words _ _ _ _
  have cA := fun w => digits A (A : Int) w rfl (by omega)
  have cB := fun w => WalkRef.text_any b w h5
  have cC := fun w => digits C (C : Int) w rfl (by omega)
  have cD := fun w => digits K (K : Int) w rfl (by omega)
  have zA := dec_small A (by omega)
  have zB := text_small b
  have zC := dec_small C (by omega)
  have zD := dec_small K (by omega)
  have HS : Hid (signOf ⟨(A : Int), b, (C : Int), d⟩ (K : Int) = Sums.sum (str (said ⟨(A : Int), b, (C : Int), d⟩ (K : Int))).data.toList) := rfl
  generalize str (dec A) = XA at cA zA HP
  generalize str (text b) = XB at cB zB HP
  generalize str (dec C) = XC at cC zC HP
  generalize str (dec K) = XD at cD zD HP
  generalize str (said ⟨(A : Int), b, (C : Int), d⟩ (K : Int)) = XE at HP HS
  unfold hv
  clear hk h1 h2 h3 h4 h5 h6 hy hy'
  go_enter Tryz.func77, Tryz.ntmps77
  go_upto_region 1 with fail
  generalize w.alloc (.cells #[.int .i64 (A : Int), .int .i64 b, .int .i64 (C : Int), .int .i64 d] 29) = w1 at HB k0 k1 k2 ⊢
  go_wp2_with fail
  refine (cA _).mono ?_
  rintro e w2 ⟨rfl, rfl⟩
  go_wp2_with fail
  refine (cB _).mono ?_
  rintro e w2 ⟨rfl, rfl⟩
  go_wp2_with fail
  refine (cC _).mono ?_
  rintro e w2 ⟨rfl, rfl⟩
  go_wp2_with fail
  refine (cD _).mono ?_
  rintro e w2 ⟨rfl, rfl⟩
  clear cA cB cC cD
  have zE : XE.size ≤ maxLen := by
    rw [← HP.out]
    unfold maxLen
    simp only [ByteArray.size_append]
    have e32 : (⟨#[32]⟩ : ByteArray).size = 1 := rfl
    omega
  go_wp2_with fail
  rw [HP.out]
  refine (WalkRef.sum_any XE _ zE).mono ?_
  rintro e w2 ⟨rfl, rfl⟩
  go_wp2_with fail
  go_ret
  exact ⟨by rw [HS.out]; rfl, HB.out⟩

end Go.Proofs.YtfpkngpgmllhnaaGreatDoor.WalkHeadRef

/-
  What the document's own answers (package witref1) return on heads: Verify, Number, Cut, ReadHead.
-/
namespace Go.Proofs.YtfpkngpgmllhnaaGreatDoor.WalkVerifyRef
open Go.RowKit
open Lists (Row strs bt)
open Heads (Head ok headE print said signOf isKey verifyE)
open Decimals (dec dig number words)
open Nums (str text valid)
open HeadVals (hv aggH sizeH)
open Go.Sort (grow)

theorem head_cells (h : Head) (w : World) : (w.alloc (.cells #[.int .i64 h.size, .int .i64 h.root, .int .i64 h.time, .int .i64 h.sign] 29)).cell? ⟨w.heap.size, 0, none⟩ = some (.int .i64 h.size) ∧ (w.alloc (.cells #[.int .i64 h.size, .int .i64 h.root, .int .i64 h.time, .int .i64 h.sign] 29)).cell? ⟨w.heap.size, 1, none⟩ = some (.int .i64 h.root) ∧ (w.alloc (.cells #[.int .i64 h.size, .int .i64 h.root, .int .i64 h.time, .int .i64 h.sign] 29)).cell? ⟨w.heap.size, 2, none⟩ = some (.int .i64 h.time) ∧ (w.alloc (.cells #[.int .i64 h.size, .int .i64 h.root, .int .i64 h.time, .int .i64 h.sign] 29)).cell? ⟨w.heap.size, 3, none⟩ = some (.int .i64 h.sign) := ⟨by simp, by simp, by simp, by simp⟩

set_option maxHeartbeats 1000000 in
theorem verify_any (h : Head) (key : Int) (w : World) :
    Calls Tryz.prog 81 #[hv h, .int .i64 key] w fun e w' => e = .returned (.int .i64 (verifyE h key : Nat)) ∧ Below w.heap.size w w' := by
  have HB : Hid (Below w.heap.size w (w.alloc (.cells #[.int .i64 h.size, .int .i64 h.root, .int .i64 h.time, .int .i64 h.sign] 29))) := (Below.refl _ _).alloc (Nat.le_refl _) _
  obtain ⟨k0, k1, k2, k3⟩ := head_cells h w
  have cH := WalkHeadRef.head_any h
  have cS := WalkHeadRef.signed_any h key
  have HE : Hid (verifyE h key = if isKey key = true ∧ ok h = true then (if h.sign = signOf h key then 0 else 9) else 1) := rfl
  have HO : Hid (headE h = 0 ↔ ok h = true) := Heads.headE_zero
  obtain ⟨a, b, c, d⟩ := h
  unfold hv at cH cS ⊢
  simp only at k0 k1 k2 k3 cH cS HB ⊢
  generalize headE ⟨a, b, c, d⟩ = E at cH HO
  obtain ⟨V, HVE⟩ : ∃ V : Nat, Hid (verifyE ⟨a, b, c, d⟩ key = V) := ⟨_, rfl⟩
  rw [HVE.out]
  rw [HVE.out] at HE
  have a52 := aggH
  have z52 := sizeH
  go_enter Tryz.func81, Tryz.ntmps81
  go_upto_region 1 with fail
  generalize w.alloc (.cells #[.int .i64 a, .int .i64 b, .int .i64 c, .int .i64 d] 29) = w1 at HB k0 k1 k2 k3 ⊢
  go_wp2_with fail
  refine (WalkHeadRef.key_any key _).mono ?_
  rintro e w2 ⟨rfl, rfl⟩
  cases hy : isKey key
  · have HV : Hid (V = 1) := by show _ = _; rw [HE.out]; exact if_neg (fun q => by rw [hy] at q; cases q.1)
    clear hy cH cS
    go_wp2_with fail
    go_ret
    exact ⟨by rw [HV.out]; rfl, HB.out⟩
  · have HY : Hid (isKey key = true) := hy
    clear hy
    go_wp2_with fail
    refine (cH _).mono ?_
    rintro e w3 ⟨rfl, b3⟩
    by_cases h0 : E = 0
    · have hk := HO.out.1 h0
      have hx : (((E : Nat) : Int) != 0) = false := by rw [h0]; rfl
      have k0' := Lists.cell_below b3 k0
      have k1' := Lists.cell_below b3 k1
      have k2' := Lists.cell_below b3 k2
      have k3' := Lists.cell_below b3 k3
      have HB3 : Hid (Below w.heap.size w w3) := bt HB.out b3
      have c1 : ∀ dd os, Calls Tryz.prog 77 #[.agg #[.int .i64 a, .int .i64 b, .int .i64 c, .int .i64 d], .int .i64 key] (grow (redrawn w3 dd) os) fun e w'' => e = .returned (.int .i64 (signOf ⟨a, b, c, d⟩ key)) ∧ ∃ p : Regrown, w'' = grow (redrawn w3 p.d) p.os :=
        fun dd os => Calls.regrown_of (cS _ hk HY.out)
      have HV : Hid (V = if d = signOf ⟨a, b, c, d⟩ key then 0 else 9) := by show _ = _; rw [HE.out]; exact if_pos ⟨HY.out, hk⟩
      generalize signOf ⟨a, b, c, d⟩ key = S at c1 HV
      have r0 := fun dd os => cell_regrown k0' dd os
      have r1 := fun dd os => cell_regrown k1' dd os
      have r2 := fun dd os => cell_regrown k2' dd os
      have r3 := fun dd os => cell_regrown k3' dd os
      clear h0 hk cH cS b3
      by_cases hs : d = S
      · have hq : (d != S) = false := by rw [hs]; simp
        have HW : Hid (V = 0) := by rw [HV.out]; exact if_pos hs
        clear hs
        go_wp2_with fail
        refine wp_region_quiet_below (by kernel_rfl) (by kernel_rfl) ?_
        repeat (quiet_step (fail))
        quiet_step (exact c1 _ _)
        repeat (quiet_step (fail))
        refine wpQuiet_nil ?_
        intro _ hw'
        obtain ⟨⟨dq, osq⟩, hw''⟩ := hw'
        subst hw''
        go_wp2_with fail
        go_ret
        exact ⟨by rw [HW.out]; rfl, bt HB3.out (below_regrown w3 dq osq)⟩
      · have hq : (d != S) = true := by rw [bne_iff_ne]; exact hs
        have HW : Hid (V = 9) := by rw [HV.out]; exact if_neg hs
        clear hs
        go_wp2_with fail
        refine wp_region_quiet_below (by kernel_rfl) (by kernel_rfl) ?_
        repeat (quiet_step (fail))
        quiet_step (exact c1 _ _)
        repeat (quiet_step (fail))
        refine wpQuiet_nil ?_
        intro _ hw'
        obtain ⟨⟨dq, osq⟩, hw''⟩ := hw'
        subst hw''
        go_wp2_with fail
        go_ret
        exact ⟨by rw [HW.out]; rfl, bt HB3.out (below_regrown w3 dq osq)⟩
    · have hx : (((E : Nat) : Int) != 0) = true := by rw [bne_iff_ne]; omega
      have HV : Hid (V = 1) := by show _ = _; rw [HE.out]; exact if_neg (fun q => h0 (HO.out.2 q.2))
      have HB3 : Hid (Below w.heap.size w w3) := bt HB.out b3
      clear h0 cH cS b3
      go_wp2_with fail
      go_ret
      exact ⟨by rw [HV.out]; rfl, HB3.out⟩

end Go.Proofs.YtfpkngpgmllhnaaGreatDoor.WalkVerifyRef

