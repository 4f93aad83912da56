/-
  What is wrong with a head, and which of two is the better: the program's Check and Better.
-/
import Derived.Test.YtlibjdkofajahaaGreatDoorHeadRows
import Derived.Test.YtlibjdkofajahaaGreatDoorErrs
import Derived.Test.YtlibjdkofajahaaGreatDoorWalkIsSum
import Derived.Deep.CutBlock
namespace Go.Proofs.YtlibjdkofajahaaGreatDoor.WalkHdOne
open Go.RowKit
open Lists (bt)
open Errs (errv errv0 errv_pos)
open Heads (Head ok headE betterV betterE more)
open HeadVals (hv aggH sizeH At)

theorem bad {h : Head} (hh : ¬ ok h = true) : errv (headE h) = .iface 67 (.int .i64 1) := by
  have : headE h = 1 := if_neg hh
  rw [this]
  rfl
theorem good {h : Head} (hh : ok h = true) : errv (headE h) = .nilIface := by
  rw [Heads.headE_zero.2 hh]
  rfl

set_option maxHeartbeats 2000000 in
theorem check_any (h : Head) (w : World) : Calls Tryz.prog 68 #[hv h] w fun e w' => e = .returned (errv (headE h)) ∧ Below w.heap.size w w' := by
  obtain ⟨s, r, t, g⟩ := h
  have HB : Hid (Below w.heap.size w (w.alloc (.cells #[.int .i64 s, .int .i64 r, .int .i64 t, .int .i64 g] 40))) := (Below.refl _ _).alloc (Nat.le_refl _) _
  have a42 := aggH
  have z42 := sizeH
  have c1 := fun w1 => WalkIsSum.isSum_any r w1
  have c2 := fun w1 => WalkIsSum.isSum_any g w1
  unfold hv
  by_cases h1 : s < 0
  · have H : Hid (¬ ok ⟨s, r, t, g⟩ = true) := fun q => by have := (Heads.ok_iff.1 q).1.1; simp only at this; omega
    go_enter Tryz.func68, Tryz.ntmps68
    go_wp2_with fail
    go_ret
    exact ⟨by rw [bad H.out]; rfl, HB.out⟩
  by_cases h2 : 200 < s
  · have H : Hid (¬ ok ⟨s, r, t, g⟩ = true) := fun q => by have := (Heads.ok_iff.1 q).1.2.1; simp only at this; omega
    go_enter Tryz.func68, Tryz.ntmps68
    go_wp2_with fail
    go_ret
    exact ⟨by rw [bad H.out]; rfl, HB.out⟩
  by_cases h3 : t < 0
  · have H : Hid (¬ ok ⟨s, r, t, g⟩ = true) := fun q => by have := (Heads.ok_iff.1 q).1.2.2.1; simp only at this; omega
    go_enter Tryz.func68, Tryz.ntmps68
    go_wp2_with fail
    go_ret
    exact ⟨by rw [bad H.out]; rfl, HB.out⟩
  by_cases h4 : 1000000 < t
  · have H : Hid (¬ ok ⟨s, r, t, g⟩ = true) := fun q => by have := (Heads.ok_iff.1 q).1.2.2.2; simp only at this; omega
    go_enter Tryz.func68, Tryz.ntmps68
    go_wp2_with fail
    go_ret
    exact ⟨by rw [bad H.out]; rfl, HB.out⟩
  have HO : Hid (ok ⟨s, r, t, g⟩ = (Nums.valid r && Nums.valid g)) := by
    show ok ⟨s, r, t, g⟩ = _
    unfold ok
    simp only
    rw [decide_eq_true (by omega), Bool.true_and]
  generalize Nums.valid r = V1 at c1 HO
  generalize Nums.valid g = V2 at c2 HO
  cases V1
  · have H : Hid (¬ ok ⟨s, r, t, g⟩ = true) := by show ¬ ok ⟨s, r, t, g⟩ = true; rw [HO.out]; simp
    go_enter Tryz.func68, Tryz.ntmps68
    go_wp2_with fail
    refine (c1 _).mono ?_
    rintro e w1 ⟨rfl, rfl⟩
    go_wp2_with fail
    go_ret
    exact ⟨by rw [bad H.out]; rfl, HB.out⟩
  cases V2
  · have H : Hid (¬ ok ⟨s, r, t, g⟩ = true) := by show ¬ ok ⟨s, r, t, g⟩ = true; rw [HO.out]; simp
    go_enter Tryz.func68, Tryz.ntmps68
    go_wp2_with fail
    refine (c1 _).mono ?_
    rintro e w1 ⟨rfl, rfl⟩
    go_wp2_with fail
    refine (c2 _).mono ?_
    rintro e w1 ⟨rfl, rfl⟩
    go_wp2_with fail
    go_ret
    exact ⟨by rw [bad H.out]; rfl, HB.out⟩
  · have H : Hid (ok ⟨s, r, t, g⟩ = true) := by rw [HO.out]; rfl
    go_enter Tryz.func68, Tryz.ntmps68
    go_wp2_with fail
    refine (c1 _).mono ?_
    rintro e w1 ⟨rfl, rfl⟩
    go_wp2_with fail
    refine (c2 _).mono ?_
    rintro e w1 ⟨rfl, rfl⟩
    go_wp2_with fail
    go_ret
    exact ⟨by rw [good H.out]; rfl, HB.out⟩


end Go.Proofs.YtlibjdkofajahaaGreatDoor.WalkHdOne
