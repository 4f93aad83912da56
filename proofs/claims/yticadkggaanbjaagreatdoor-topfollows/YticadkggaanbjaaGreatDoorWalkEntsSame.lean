/-
  What witsame.Entries returns on two lists that hold the same entries.
-/
import Derived.Test.YticadkggaanbjaaGreatDoorListRows
import Derived.Test.YticadkggaanbjaaGreatDoorRows
import Derived.WalkKit
import Derived.BigQuiet
import Derived.Deep.QuietTactic
namespace Go.Proofs.YticadkggaanbjaaGreatDoor.WalkEntsSame
open Go.RowKit
open Wides (Wide)
open Entries (Entry)
open EntRows (cells)

theorem aggE (w : World) : (isAgg 38).run Tryz.prog w = .ok true w := by kernel_rfl
theorem sizeE (w : World) : (sizeOf 38).run Tryz.prog w = .ok 2 w := by kernel_rfl

theorem below_drewN {B : Nat} {a w : World} (h : Below B a w) (n : Nat) : Below B a (w.drewN n) := ⟨h.os, h.tape, h.output, h.size, h.block⟩
theorem beq_yes (x : ByteArray) : (x.toList == x.toList) = true := beq_self_eq_true _

set_option maxHeartbeats 1000000 in
theorem entries_same (l : List Entry) (a b : Option Addr) (n cap cap' : Nat) (w : World) (hr : Wide 2 w a n cap (cells l)) (hs : Wide 2 w b n cap' (cells l)) (hn : n ≤ 17592186043904) :
    Calls Tryz.prog 24 #[.slice a n cap, .slice b n cap'] w fun e w' => e = .returned (.bool true) ∧ Below w.heap.size w w' := by
  have hln := EntRows.len_of hr
  have HR : Hid (Wide 2 w a n cap (cells l)) := hr
  have HS : Hid (Wide 2 w b n cap' (cells l)) := hs
  clear hr hs
  go_enter Tryz.func24, Tryz.ntmps24
  go_wp2_with fail
  go_loopw [5] (fun i wr => ∃ j : Nat, j ≤ n ∧ i = .int .i64 j ∧ Below w.heap.size w wr) (fun i _ => n - (intOf i).toNat)
  case atStart => exact ⟨0, Nat.zero_le _, rfl, Below.refl _ _⟩
  case round =>
    obtain ⟨j, hj, rfl, hb⟩ := hrel
    by_cases hlt : j < n
    · obtain ⟨b1, off1, rfl, hc1⟩ := (HR.out.below hb).2.2 (by omega)
      obtain ⟨b2, off2, rfl, hc2⟩ := (HS.out.below hb).2.2 (by omega)
      obtain ⟨p0, p1⟩ := EntRows.at_two (HR.out.below hb) j (by omega)
      obtain ⟨q0, q1⟩ := EntRows.at_two (HS.out.below hb) j (by omega)
      clear hc1 hc2
      generalize l[j] = t at p0 p1 q0 q1
      obtain ⟨x, y⟩ := t
      have i1 : (j : Int) < (n : Int) := by omega
      have a23 := aggE
      have z23 := sizeE
      have hq := beq_yes y
      have hx : (x == x) = true := by simp
      simp only at p0 p1 q0 q1
      go_wp2_with fail
      go_quiet (fail)
      go_wp2_with fail
      go_roundw
      case rel => exact ⟨j + 1, by omega, by go_num, below_drewN hb _⟩
      case measure => simp [intOf]; omega
    · have i1 : ¬ (j : Int) < (n : Int) := by omega
      go_wp2_with fail
      go_ret
      exact ⟨rfl, hb⟩

end Go.Proofs.YticadkggaanbjaaGreatDoor.WalkEntsSame
