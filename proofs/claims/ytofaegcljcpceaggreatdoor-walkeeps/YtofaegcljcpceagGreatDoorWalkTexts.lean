/-
  What witsame.Texts returns on two lists of texts that are the same.
-/
import Derived.Test.YtofaegcljcpceagGreatDoorRows
import Derived.Test.YtofaegcljcpceagGreatDoorKeeps
import Derived.WalkKit
import Derived.BigQuiet
import Derived.Deep.QuietTactic
namespace Go.Proofs.YtofaegcljcpceagGreatDoor.WalkTexts
open Go.RowKit
open Lists (Row strs bt)

theorem below_drewN {B : Nat} {a w : World} (h : Below B a w) (n : Nat) : Below B a (w.drewN n) := ⟨h.os, h.tape, h.output, h.size, h.block⟩

set_option maxHeartbeats 1000000 in
theorem texts_same (l : List ByteArray) (a b : Option Addr) (n cap cap' : Nat) (w : World) (hr : Row w a n cap (strs l)) (hs : Row w b n cap' (strs l)) (hn : n ≤ 1000) :
    Calls Tryz.prog 17 #[.slice a n cap, .slice b n cap'] w fun e w' => e = .returned (.bool true) ∧ Below w.heap.size w w' := by
  have hln : l.length = n := by rw [← hr.1, Lists.strs_length]
  have HR : Hid (Row w a n cap (strs l)) := hr
  have HS : Hid (Row w b n cap' (strs l)) := hs
  clear hr hs
  go_enter Tryz.func17, Tryz.ntmps17
  go_wp2_with fail
  go_loopw [5] (fun i wr => ∃ j : Nat, j ≤ n ∧ i = .int .i64 j ∧ Below w.heap.size w wr) (fun i _ => n - (intOf i).toNat)
  case atStart => exact ⟨0, Nat.zero_le _, rfl, Below.refl _ _⟩
  case round =>
    obtain ⟨j, hj, rfl, hb⟩ := hrel
    by_cases hlt : j < n
    · obtain ⟨b1, off1, rfl, hc1⟩ := (HR.out.below hb).2.2 (by omega)
      obtain ⟨b2, off2, rfl, hc2⟩ := (HS.out.below hb).2.2 (by omega)
      have cell1 := hc1 j _ (Lists.strs_at (by omega))
      have cell2 := hc2 j _ (Lists.strs_at (by omega))
      clear hc1 hc2
      have i1 : (j : Int) < (n : Int) := by omega
      generalize l.getD j ByteArray.empty = x at cell1 cell2
      have hq : (x.toList == x.toList) = true := beq_self_eq_true _
      go_wp2_with fail
      go_quiet (fail)
      go_wp2_with fail
      go_roundw
      case rel => exact ⟨j + 1, by omega, by go_num, below_drewN hb _⟩
      case measure => simp [intOf]; omega
    · have i1 : ¬ (j : Int) < (n : Int) := by omega
      go_wp2_with fail
      go_ret
      exact ⟨rfl, hb⟩

end Go.Proofs.YtofaegcljcpceagGreatDoor.WalkTexts
