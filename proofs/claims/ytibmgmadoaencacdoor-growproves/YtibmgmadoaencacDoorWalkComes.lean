/-
  What the law's own comes returns: two sums that come to one, each time with the next sum of a proof on their right.
-/
import Derived.Test.YtibmgmadoaencacDoorWalkMix
import Derived.Test.YtibmgmadoaencacDoorGrowsE
import Derived.Test.YtibmgmadoaencacDoorLists
namespace Go.Proofs.YtibmgmadoaencacDoor.WalkComes
open Go.RowKit
open Lists (Row ints bt)
open Ways (meetsL up1 text1)

theorem size_text (x y : Int) : (Nums.str (Nums.nodeBytes x y)).size ≤ maxLen := by rw [Nums.str_size, Nums.nodeBytes_length]; decide
theorem beq_text {x y : List UInt8} (h : x ≠ y) : ((Nums.str x).toList == (Nums.str y).toList) = false := by
  rw [beq_eq_false_iff_ne, Nums.str_toList, Nums.str_toList]; exact h

set_option maxHeartbeats 1000000 in
set_option maxRecDepth 100000 in
theorem comes_any (A B : Int) (p : List Int) (T : List Bool) (a : Option Addr) (m cap : Nat) (w : World) (hT : Grows.straight T = true) (htl : p.length = T.length) (m2 : m ≤ 1000) (hr : Row w a m cap (ints p)) (hv : ∀ x ∈ p, Nums.valid x = true) (hA : Nums.valid A = true) (hB : Nums.valid B = true) (hM : meetsL A B p T = true) :
    Calls Tryd.prog 17 #[.int .i64 A, .int .i64 B, .slice a m cap] w fun e w' => e = .returned (.bool true) ∧ Below w.heap.size w w' := by
  have hln : p.length = m := by rw [← hr.1, Lists.ints_length]
  have HR : Hid (Row w a m cap (ints p)) := hr
  have HM : Hid (meetsL A B (p.drop 0) (T.drop 0) = true) := hM
  have HV0 : Hid (Nums.valid A = true ∧ Nums.valid B = true) := ⟨hA, hB⟩
  have HP : Hid (∀ x ∈ p, Nums.valid x = true) := hv
  have HT : Hid (Grows.straight T = true) := hT
  have HTL : Hid (p.length = T.length) := htl
  clear hr hv hA hB hM hT htl
  go_enter Tryd.func17, Tryd.ntmps17
  go_wp2_with fail
  go_loopw [0, 1, 7, 8, 9, 10, 11] (fun a b s _ _ _ _ wr => ∃ (X Y : Int) (k : Nat), a = .int .i64 X ∧ b = .int .i64 Y ∧ s = .int .i64 (k : Int) ∧ k ≤ m ∧ Hid (Nums.valid X = true ∧ Nums.valid Y = true) ∧ Hid (meetsL X Y (p.drop k) (T.drop k) = true) ∧ Below w.heap.size w wr) (fun _ _ s _ _ _ _ _ => m - (intOf s).toNat)
  case atStart => exact ⟨A, B, 0, rfl, rfl, rfl, by omega, HV0, HM, Below.refl _ _⟩
  case round =>
    obtain ⟨X, Y, k, rfl, rfl, rfl, hk, HV, HMK, hb⟩ := hrel
    clear HM HV0
    by_cases hlt : k < m
    · obtain ⟨b, off, rfl, hc⟩ := (HR.out.below hb).2.2 (by omega)
      have hcell := hc k _ (Lists.ints_at (by omega))
      clear hc
      have i1 : (k : Int) < (m : Int) := by omega
      have st := Turns.meets_step (by omega) HTL.out HMK.out
      rw [Grows.straight_at HT.out k] at st
      have vy : Nums.valid (p.getD k 0) = true := HP.out _ (by rw [List.getD_eq_getElem?_getD, List.getElem?_eq_getElem (by omega)]; exact List.getElem_mem _)
      generalize p.getD k 0 = z at hcell st vy
      have c1 := fun w => WalkMix.nodeBytes_yes X z w HV.out.1 vy
      have c2 := fun w => WalkMix.nodeBytes_yes Y z w HV.out.2 vy
      have d1 := fun w => WalkSum.sum_any (Nums.str (Nums.nodeBytes X z)) w (size_text X z)
      have d2 := fun w => WalkSum.sum_any (Nums.str (Nums.nodeBytes Y z)) w (size_text Y z)
      rw [Nums.str_data] at d1 d2
      have st' : if Sums.sum (Nums.nodeBytes X z) = Sums.sum (Nums.nodeBytes Y z) then Nums.nodeBytes X z ≠ Nums.nodeBytes Y z else meetsL (Sums.sum (Nums.nodeBytes X z)) (Sums.sum (Nums.nodeBytes Y z)) (p.drop (k + 1)) (T.drop (k + 1)) = true := st
      have v1 := Ways.node_valid X z
      have v2 := Ways.node_valid Y z
      unfold Ways.node at v1 v2
      by_cases he : Sums.sum (Nums.nodeBytes X z) = Sums.sum (Nums.nodeBytes Y z)
      · rw [if_pos he] at st'
        have q1 := beq_text st'
        have q2 : (Sums.sum (Nums.nodeBytes X z) == Sums.sum (Nums.nodeBytes Y z)) = true := by rw [beq_iff_eq]; exact he
        generalize Nums.str (Nums.nodeBytes X z) = s1 at c1 d1 q1
        generalize Nums.str (Nums.nodeBytes Y z) = s2 at c2 d2 q1
        generalize Sums.sum (Nums.nodeBytes X z) = u1 at d1 q2
        generalize Sums.sum (Nums.nodeBytes Y z) = u2 at d2 q2
        clear st st' he v1 v2 vy
        go_wp2_with fail
        refine (c1 _).mono ?_
        rintro e w2 ⟨rfl, b2⟩
        have hcell2 := Lists.cell_below b2 hcell
        clear c1
        go_wp2_with fail
        refine (c2 _).mono ?_
        rintro e w3 ⟨rfl, b3⟩
        clear c2
        go_wp2_with fail
        refine (d1 _).mono ?_
        rintro e w4 ⟨rfl, rfl⟩
        clear d1
        go_wp2_with fail
        refine (d2 _).mono ?_
        rintro e w4 ⟨rfl, rfl⟩
        clear d2
        go_wp2_with fail
        go_ret
        exact ⟨rfl, bt (bt hb b2) b3⟩
      · rw [if_neg he] at st'
        have q2 : (Sums.sum (Nums.nodeBytes X z) == Sums.sum (Nums.nodeBytes Y z)) = false := by rw [beq_eq_false_iff_ne]; exact he
        have HST : Hid (meetsL (Sums.sum (Nums.nodeBytes X z)) (Sums.sum (Nums.nodeBytes Y z)) (p.drop (k + 1)) (T.drop (k + 1)) = true) := st'
        have HVV : Hid (Nums.valid (Sums.sum (Nums.nodeBytes X z)) = true ∧ Nums.valid (Sums.sum (Nums.nodeBytes Y z)) = true) := ⟨v1, v2⟩
        generalize Nums.str (Nums.nodeBytes X z) = s1 at c1 d1
        generalize Nums.str (Nums.nodeBytes Y z) = s2 at c2 d2
        generalize Sums.sum (Nums.nodeBytes X z) = u1 at d1 q2 HST HVV
        generalize Sums.sum (Nums.nodeBytes Y z) = u2 at d2 q2 HST HVV
        clear st st' he v1 v2 vy
        go_wp2_with fail
        refine (c1 _).mono ?_
        rintro e w2 ⟨rfl, b2⟩
        have hcell2 := Lists.cell_below b2 hcell
        clear c1
        go_wp2_with fail
        refine (c2 _).mono ?_
        rintro e w3 ⟨rfl, b3⟩
        clear c2
        have HB3 : Hid (Below w.heap.size w w3) := bt (bt hb b2) b3
        go_wp2_with fail
        refine (d1 _).mono ?_
        rintro e w4 ⟨rfl, rfl⟩
        clear d1
        go_wp2_with fail
        refine (d2 _).mono ?_
        rintro e w4 ⟨rfl, rfl⟩
        clear d2
        go_wp2_with fail
        go_roundw
        case rel => exact ⟨u1, u2, k + 1, rfl, rfl, by go_num, by omega, HVV, HST, HB3.out⟩
        case measure => simp [intOf]; omega
    · exfalso
      have h := HMK.out
      rw [Turns.meets_end (by omega)] at h
      cases h

end Go.Proofs.YtibmgmadoaencacDoor.WalkComes
