/-
  What witsame.Pairs returns on any two lists of pairs: whether they are the same.
-/
import Derived.Test.YtinjkmimaokffaeWalkPairsSame
namespace Go.Proofs.Ytinjkmimaokffae.WalkPairsEq
open Go.RowKit
open Wides (Wide)
open Stores (Pair)
open PairRows (cells)
open WalkPairsSame (aggP sizeP below_drewN beq_yes)

theorem eq_no {x y : ByteArray} (h : x ≠ y) : (x.toList == y.toList) = false := by rw [beq_eq_false_iff_ne]; exact fun e => h (Stores.toList_inj e)

set_option maxHeartbeats 4000000 in
theorem pairs_eq (l m : List Pair) (a b : Option Addr) (n k cap cap' : Nat) (w : World) (hr : Wide 3 w a n cap (cells l)) (hs : Wide 3 w b k cap' (cells m)) (hn : n ≤ 17592186043904) :
    Calls Try.prog 13 #[.slice a n cap, .slice b k cap'] w fun e w' => e = .returned (.bool (decide (l = m))) ∧ Below w.heap.size w w' := by
  have hln := PairRows.len_of hr
  have hmk := PairRows.len_of hs
  have HR : Hid (Wide 3 w a n cap (cells l)) := hr
  have HS : Hid (Wide 3 w b k cap' (cells m)) := hs
  clear hr hs
  by_cases hnk : n = k
  · subst hnk
    have i0 : ((n : Int) != (n : Int)) = false := by simp
    go_enter Try.func13, Try.ntmps13
    go_wp2_with fail
    go_loopw [5] (fun i wr => ∃ j : Nat, j ≤ n ∧ i = .int .i64 j ∧ Hid (l.take j = m.take j) ∧ Below w.heap.size w wr) (fun i _ => n - (intOf i).toNat)
    case atStart => exact ⟨0, Nat.zero_le _, rfl, rfl, Below.refl _ _⟩
    case round =>
      obtain ⟨j, hj, rfl, HT, hb⟩ := hrel
      by_cases hlt : j < n
      · obtain ⟨b1, off1, rfl, hc1⟩ := (HR.out.below hb).2.2 (by omega)
        obtain ⟨b2, off2, rfl, hc2⟩ := (HS.out.below hb).2.2 (by omega)
        obtain ⟨p0, p1, p2⟩ := PairRows.at_three (HR.out.below hb) j (by omega)
        obtain ⟨q0, q1, q2⟩ := PairRows.at_three (HS.out.below hb) j (by omega)
        have HL : Hid (l.take (j + 1) = l.take j ++ [l[j]'(by omega)]) := List.take_succ_eq_append_getElem (by omega)
        have HM : Hid (m.take (j + 1) = m.take j ++ [m[j]'(by omega)]) := List.take_succ_eq_append_getElem (by omega)
        have HN : Hid (l[j]'(by omega) ≠ m[j]'(by omega) → decide (l = m) = false) := fun h => decide_eq_false fun e => h (by subst e; rfl)
        clear hc1 hc2
        generalize l[j]'(by omega) = x at p0 p1 p2 HL HN
        generalize m[j]'(by omega) = y at q0 q1 q2 HM HN
        obtain ⟨x0, x1, x2⟩ := x
        obtain ⟨y0, y1, y2⟩ := y
        have i1 : (j : Int) < (n : Int) := by omega
        have a26 := aggP
        have z26 := sizeP
        simp only at p0 p1 p2 q0 q1 q2
        by_cases h0 : x0 = y0
        · subst h0
          have e0 := beq_yes x0
          by_cases h1 : x1 = y1
          · subst h1
            have e1 := beq_yes x1
            by_cases h2 : x2 = y2
            · subst h2
              have e2 : (x2 == x2) = true := by simp
              clear HN
              go_wp2_with fail
              go_quiet (fail)
              go_wp2_with fail
              go_roundw
              case rel => exact ⟨j + 1, by omega, by go_num, (show l.take (j + 1) = m.take (j + 1) by rw [HL.out, HM.out, HT.out]), below_drewN hb _⟩
              case measure => simp [intOf]; omega
            · have e2 : (x2 == y2) = false := by simpa using h2
              have HV : Hid (decide (l = m) = false) := HN.out (fun e => h2 (by simpa using e))
              clear HN h2
              go_wp2_with fail
              go_quiet (fail)
              go_wp2_with fail
              go_ret
              exact ⟨by rw [HV.out]; rfl, below_drewN hb _⟩
          · have e1 := eq_no h1
            have HV : Hid (decide (l = m) = false) := HN.out (fun e => h1 (by simp only [Pair.mk.injEq] at e; exact e.2.1))
            clear HN h1
            go_wp2_with fail
            go_quiet (fail)
            go_wp2_with fail
            go_ret
            exact ⟨by rw [HV.out]; rfl, below_drewN hb _⟩
        · have e0 := eq_no h0
          have HV : Hid (decide (l = m) = false) := HN.out (fun e => h0 (by simp only [Pair.mk.injEq] at e; exact e.1))
          clear HN h0
          go_wp2_with fail
          go_quiet (fail)
          go_wp2_with fail
          go_ret
          exact ⟨by rw [HV.out]; rfl, below_drewN hb _⟩
      · have i1 : ¬ (j : Int) < (n : Int) := by omega
        have HV : Hid (decide (l = m) = true) := by
          have h := HT.out
          rw [List.take_of_length_le (by omega), List.take_of_length_le (by omega)] at h
          exact decide_eq_true h
        go_wp2_with fail
        go_ret
        exact ⟨by rw [HV.out]; rfl, hb⟩
  · have i0 : ((n : Int) != (k : Int)) = true := by rw [bne_iff_ne]; omega
    have HV : Hid (decide (l = m) = false) := decide_eq_false fun h => hnk (by rw [← hln, ← hmk, h])
    go_enter Try.func13, Try.ntmps13
    go_wp2_with fail
    go_ret
    exact ⟨by rw [HV.out]; rfl, Below.refl _ _⟩

end Go.Proofs.Ytinjkmimaokffae.WalkPairsEq
