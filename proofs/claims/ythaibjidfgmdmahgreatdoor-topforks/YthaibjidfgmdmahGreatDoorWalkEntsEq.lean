/-
  What witsame.Entries returns on any two lists of entries: whether they are the same.
-/
import Derived.Test.YthaibjidfgmdmahGreatDoorWalkEntsSame
namespace Go.Proofs.YthaibjidfgmdmahGreatDoor.WalkEntsEq
open Go.RowKit
open Wides (Wide)
open Entries (Entry)
open EntRows (cells)
open WalkEntsSame (aggE sizeE below_drewN beq_yes)

theorem toList_inj {x y : ByteArray} (h : x.toList = y.toList) : x = y := by
  rw [ByteArray.toList_eq, ByteArray.toList_eq] at h
  exact ByteArray.ext (Array.toList_inj.1 h)
theorem eq_no {x y : ByteArray} (h : x ≠ y) : (x.toList == y.toList) = false := by rw [beq_eq_false_iff_ne]; exact fun e => h (toList_inj e)

set_option maxHeartbeats 4000000 in
theorem entries_eq (l m : List Entry) (a b : Option Addr) (n k cap cap' : Nat) (w : World) (hr : Wide 2 w a n cap (cells l)) (hs : Wide 2 w b k cap' (cells m)) (hn : n ≤ 17592186043904) :
    Calls Tryz.prog 15 #[.slice a n cap, .slice b k cap'] w fun e w' => e = .returned (.bool (decide (l = m))) ∧ Below w.heap.size w w' := by
  have hln := EntRows.len_of hr
  have hmk := EntRows.len_of hs
  have HR : Hid (Wide 2 w a n cap (cells l)) := hr
  have HS : Hid (Wide 2 w b k cap' (cells m)) := hs
  clear hr hs
  by_cases hnk : n = k
  · subst hnk
    have i0 : ((n : Int) != (n : Int)) = false := by simp
    go_enter Tryz.func15, Tryz.ntmps15
    go_wp2_with fail
    go_loopw [5] (fun i wr => ∃ j : Nat, j ≤ n ∧ i = .int .i64 j ∧ Hid (l.take j = m.take j) ∧ Below w.heap.size w wr) (fun i _ => n - (intOf i).toNat)
    case atStart => exact ⟨0, Nat.zero_le _, rfl, rfl, Below.refl _ _⟩
    case round =>
      obtain ⟨j, hj, rfl, HT, hb⟩ := hrel
      by_cases hlt : j < n
      · obtain ⟨b1, off1, rfl, hc1⟩ := (HR.out.below hb).2.2 (by omega)
        obtain ⟨b2, off2, rfl, hc2⟩ := (HS.out.below hb).2.2 (by omega)
        obtain ⟨p0, p1⟩ := EntRows.at_two (HR.out.below hb) j (by omega)
        obtain ⟨q0, q1⟩ := EntRows.at_two (HS.out.below hb) j (by omega)
        have HL : Hid (l.take (j + 1) = l.take j ++ [l[j]'(by omega)]) := List.take_succ_eq_append_getElem (by omega)
        have HM : Hid (m.take (j + 1) = m.take j ++ [m[j]'(by omega)]) := List.take_succ_eq_append_getElem (by omega)
        have HN : Hid (l[j]'(by omega) ≠ m[j]'(by omega) → decide (l = m) = false) := fun h => decide_eq_false fun e => h (by subst e; rfl)
        clear hc1 hc2
        generalize l[j]'(by omega) = x at p0 p1 HL HN
        generalize m[j]'(by omega) = y at q0 q1 HM HN
        obtain ⟨x0, x1⟩ := x
        obtain ⟨y0, y1⟩ := y
        have i1 : (j : Int) < (n : Int) := by omega
        have a26 := aggE
        have z26 := sizeE
        simp only at p0 p1 q0 q1
        by_cases h0 : x0 = y0
        · subst h0
          have e0 : (x0 == x0) = true := by simp
          by_cases h1 : x1 = y1
          · subst h1
            have e1 := beq_yes x1
            clear HN
            go_wp2_with fail
            go_quiet (fail)
            go_wp2_with fail
            go_roundw
            case rel => exact ⟨j + 1, by omega, by go_num, (show l.take (j + 1) = m.take (j + 1) by rw [HL.out, HM.out, HT.out]), below_drewN hb _⟩
            case measure => simp [intOf]; omega
          · have e1 := eq_no h1
            have HV : Hid (decide (l = m) = false) := HN.out (fun e => h1 (by simp only [Prod.mk.injEq] at e; exact e.2))
            clear HN h1
            go_wp2_with fail
            go_quiet (fail)
            go_wp2_with fail
            go_ret
            exact ⟨by rw [HV.out]; rfl, below_drewN hb _⟩
        · have e0 : (x0 == y0) = false := by simpa using h0
          have HV : Hid (decide (l = m) = false) := HN.out (fun e => h0 (by simp only [Prod.mk.injEq] at e; exact e.1))
          clear HN h0
          go_wp2_with fail
          go_quiet (fail)
          go_wp2_with fail
          go_ret
          exact ⟨by rw [HV.out]; rfl, below_drewN hb _⟩
      · have i1 : ¬ (j : Int) < (n : Int) := by omega
        have HV : Hid (decide (l = m) = true) := by
          have h := HT.out
          rw [List.take_of_length_le (by omega), List.take_of_length_le (by omega)] at h
          exact decide_eq_true h
        go_wp2_with fail
        go_ret
        exact ⟨by rw [HV.out]; rfl, hb⟩
  · have i0 : ((n : Int) != (k : Int)) = true := by rw [bne_iff_ne]; omega
    have HV : Hid (decide (l = m) = false) := decide_eq_false fun h => hnk (by rw [← hln, ← hmk, h])
    go_enter Tryz.func15, Tryz.ntmps15
    go_wp2_with fail
    go_ret
    exact ⟨by rw [HV.out]; rfl, Below.refl _ _⟩

end Go.Proofs.YthaibjidfgmdmahGreatDoor.WalkEntsEq
