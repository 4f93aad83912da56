/-
  What witsame.Ints returns on two lists of numbers that are not too long.
-/
import Derived.Test.YtlibjdkofajahaaDoorLists
import Derived.Test.YtlibjdkofajahaaDoorRows
import Derived.WalkKit
import Derived.BigQuiet
import Derived.Deep.QuietTactic
namespace Go.Proofs.YtlibjdkofajahaaDoor.WalkInts
open Go.RowKit
open Lists (Row ints bt)

theorem below_drewN {B : Nat} {a w : World} (h : Below B a w) (n : Nat) : Below B a (w.drewN n) := ⟨h.os, h.tape, h.output, h.size, h.block⟩
theorem take_snoc (l : List Int) (k : Nat) (h : k < l.length) : l.take (k + 1) = l.take k ++ [l.getD k 0] := by
  rw [List.take_succ_eq_append_getElem h, List.getD_eq_getElem?_getD, List.getElem?_eq_getElem h]; rfl

set_option maxHeartbeats 1000000 in
theorem ints_any (l m : List Int) (a b : Option Addr) (n k cap cap' : Nat) (w : World) (hr : Row w a n cap (ints l)) (hs : Row w b k cap' (ints m)) (hn : n ≤ 1000000) :
    Calls Tryd.prog 20 #[.slice a n cap, .slice b k cap'] w fun e w' => e = .returned (.bool (decide (l = m))) ∧ Below w.heap.size w w' := by
  have hln : l.length = n := by rw [← hr.1, Lists.ints_length]
  have hmn : m.length = k := by rw [← hs.1, Lists.ints_length]
  have HR : Hid (Row w a n cap (ints l)) := hr
  have HS : Hid (Row w b k cap' (ints m)) := hs
  clear hr hs
  by_cases hnk : n = k
  · subst hnk
    go_enter Tryd.func20, Tryd.ntmps20
    go_wp2_with fail
    go_loopw [5] (fun i wr => ∃ j : Nat, j ≤ n ∧ i = .int .i64 j ∧ Hid (l.take j = m.take j) ∧ Below w.heap.size w wr) (fun i _ => n - (intOf i).toNat)
    case atStart => exact ⟨0, Nat.zero_le _, rfl, rfl, Below.refl _ _⟩
    case round =>
      obtain ⟨j, hj, rfl, HT, hb⟩ := hrel
      by_cases hlt : j < n
      · obtain ⟨b1, off1, rfl, hc1⟩ := (HR.out.below hb).2.2 (by omega)
        obtain ⟨b2, off2, rfl, hc2⟩ := (HS.out.below hb).2.2 (by omega)
        have cell1 := hc1 j _ (Lists.ints_at (by omega))
        have cell2 := hc2 j _ (Lists.ints_at (by omega))
        clear hc1 hc2
        have i1 : (j : Int) < (n : Int) := by omega
        have HL : Hid (l.take (j + 1) = l.take j ++ [l.getD j 0]) := take_snoc l j (by omega)
        have HM : Hid (m.take (j + 1) = m.take j ++ [m.getD j 0]) := take_snoc m j (by omega)
        have HE : Hid (l = m → l.getD j 0 = m.getD j 0) := fun h => by rw [h]
        generalize l.getD j 0 = x at cell1 HL HE
        generalize m.getD j 0 = y at cell2 HM HE
        by_cases hxy : x = y
        · subst hxy
          have hq : (x != x) = false := by simp
          go_wp2_with fail
          go_quiet (fail)
          go_wp2_with fail
          go_roundw
          case rel => exact ⟨j + 1, by omega, by go_num, (show l.take (j + 1) = m.take (j + 1) by rw [HL.out, HM.out, HT.out]), below_drewN hb _⟩
          case measure => simp [intOf]; omega
        · have hq : (x != y) = true := by rw [bne_iff_ne]; exact hxy
          have HN : Hid (decide (l = m) = false) := decide_eq_false fun h => hxy (HE.out h)
          clear hxy HE
          go_wp2_with fail
          go_quiet (fail)
          go_wp2_with fail
          go_ret
          exact ⟨by rw [HN.out]; rfl, below_drewN hb _⟩
      · have HQ : Hid (l = m) := by
          have h := HT.out
          rw [List.take_of_length_le (by omega), List.take_of_length_le (by omega)] at h
          exact h
        go_wp2_with fail
        go_ret
        exact ⟨by rw [decide_eq_true HQ.out]; rfl, hb⟩
  · have i1 : ((n : Int) != (k : Int)) = true := by rw [bne_iff_ne]; omega
    have HN : Hid (decide (l = m) = false) := decide_eq_false fun h => hnk (by rw [← hln, ← hmn, h])
    go_enter Tryd.func20, Tryd.ntmps20
    go_wp2_with fail
    go_ret
    exact ⟨by rw [HN.out]; rfl, Below.refl _ _⟩

end Go.Proofs.YtlibjdkofajahaaDoor.WalkInts
