/-
  What witsame.Lists returns on two lists that hold the same lists of ints.
-/
import Derived.Test.YtigbbhojgajkjaiGreatDoorReplyAll
import Derived.Test.YtigbbhojgajkjaiGreatDoorWalkInts
import Derived.Lib.QuietBelow
namespace Go.Proofs.YtigbbhojgajkjaiGreatDoor.WalkListsSame
open Go.RowKit
open Lists (Row ints bt)
open IntRows (Rowss)
open Go.Sort (grow)

set_option maxHeartbeats 1000000 in
theorem lists_same (ls : List (List Int)) (a b : Option Addr) (n cap cap' : Nat) (w : World) (hr : Rowss w a n cap ls) (hs : Rowss w b n cap' ls) (hn : n ≤ 1000000) (hl : ∀ l ∈ ls, l.length ≤ 1000000) :
    Calls Tryz.prog 14 #[.slice a n cap, .slice b n cap'] w fun e w' => e = .returned (.bool true) ∧ Below w.heap.size w w' := by
  have hln := hr.1
  have HR : Hid (Rowss w a n cap ls) := hr
  have HS : Hid (Rowss w b n cap' ls) := hs
  have HL : Hid (∀ l ∈ ls, l.length ≤ 1000000) := hl
  clear hr hs hl
  have i0 : ((n : Int) != (n : Int)) = false := by simp
  go_enter Tryz.func14, Tryz.ntmps14
  go_wp2_with fail
  go_loopw [5] (fun i wr => ∃ j : Nat, j ≤ n ∧ i = .int .i64 j ∧ Hid (Below w.heap.size w wr)) (fun i _ => n - (intOf i).toNat)
  case atStart => exact ⟨0, Nat.zero_le _, rfl, Below.refl _ _⟩
  case round =>
    obtain ⟨j, hj, rfl, HB⟩ := hrel
    by_cases hlt : j < n
    · have i1 : (j : Int) < (n : Int) := by omega
      obtain ⟨q, hq⟩ : ∃ q, ls[j]? = some q := ⟨ls[j]'(by omega), List.getElem?_eq_getElem _⟩
      obtain ⟨b1, off1, rfl, hc1⟩ := (HR.out.below HB.out).2.2 (by omega)
      obtain ⟨b2, off2, rfl, hc2⟩ := (HS.out.below HB.out).2.2 (by omega)
      obtain ⟨a3, c3, p1, r1⟩ := hc1 j q hq
      obtain ⟨a4, c4, p2, r2⟩ := hc2 j q hq
      have cI : ∀ d os, Calls Tryz.prog 15 #[.slice a3 q.length c3, .slice a4 q.length c4] (grow (redrawn wr d) os) fun e w'' => e = .returned (.bool true) ∧ ∃ p : Regrown, w'' = grow (redrawn wr p.d) p.os := fun d os => Calls.regrown_of (by
        have h := WalkInts.ints_any q q a3 a4 q.length q.length c3 c4 (grow (redrawn wr d) os) (r1.below (below_regrown wr d os)) (r2.below (below_regrown wr d os)) (HL.out q (List.mem_of_getElem? hq))
        rw [decide_eq_true (rfl : q = q)] at h
        exact h)
      have p1' := cell_regrown p1
      have p2' := cell_regrown p2
      clear hc1 hc2 r1 r2 hq p1 p2
      generalize q.length = ql at cI p1' p2'
      go_wp2_with fail
      refine wp_region_quiet_below (by kernel_rfl) (by kernel_rfl) ?_
      repeat (quiet_step (fail))
      quiet_step (exact cI _ _)
      repeat (quiet_step (fail))
      refine wpQuiet_nil ?_
      intro _ hw'
      obtain ⟨⟨dq, osq⟩, hw''⟩ := hw'
      subst hw''
      have HB2 : Hid (Below w.heap.size w (grow (redrawn wr dq) osq)) := bt HB.out (below_regrown _ dq osq)
      clear cI p1' p2'
      go_wp2_with fail
      go_roundw
      case rel => exact ⟨j + 1, by omega, by go_num, HB2⟩
      case measure => simp [intOf]; omega
    · have i1 : ¬ (j : Int) < (n : Int) := by omega
      go_wp2_with fail
      go_ret
      exact ⟨rfl, HB.out⟩

end Go.Proofs.YtigbbhojgajkjaiGreatDoor.WalkListsSame
