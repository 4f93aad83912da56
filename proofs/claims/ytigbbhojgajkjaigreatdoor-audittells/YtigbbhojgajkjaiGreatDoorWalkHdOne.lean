/-
  What is wrong with a head, and which of two is the better: the program's Check and Better.
-/
import Derived.Test.YtigbbhojgajkjaiGreatDoorHeadRows
import Derived.Test.YtigbbhojgajkjaiGreatDoorErrs
import Derived.Test.YtigbbhojgajkjaiGreatDoorWalkIsSum
import Derived.Deep.CutBlock
namespace Go.Proofs.YtigbbhojgajkjaiGreatDoor.WalkHdOne
open Go.RowKit
open Lists (bt)
open Errs (errv errv0 errv_pos)
open Heads (Head ok headE betterV betterE more)
open HeadVals (hv aggH sizeH At)

theorem bad {h : Head} (hh : ¬ ok h = true) : errv (headE h) = .iface 70 (.int .i64 1) := by
  have : headE h = 1 := if_neg hh
  rw [this]
  rfl
theorem good {h : Head} (hh : ok h = true) : errv (headE h) = .nilIface := by
  rw [Heads.headE_zero.2 hh]
  rfl

set_option maxHeartbeats 2000000 in
theorem check_any (h : Head) (w : World) : Calls Tryz.prog 85 #[hv h] w fun e w' => e = .returned (errv (headE h)) ∧ Below w.heap.size w w' := by
  obtain ⟨s, r, t, g⟩ := h
  have HB : Hid (Below w.heap.size w (w.alloc (.cells #[.int .i64 s, .int .i64 r, .int .i64 t, .int .i64 g] 24))) := (Below.refl _ _).alloc (Nat.le_refl _) _
  have a42 := aggH
  have z42 := sizeH
  have c1 := fun w1 => WalkIsSum.isSum_any r w1
  have c2 := fun w1 => WalkIsSum.isSum_any g w1
  unfold hv
  by_cases h1 : s < 0
  · have H : Hid (¬ ok ⟨s, r, t, g⟩ = true) := fun q => by have := (Heads.ok_iff.1 q).1.1; simp only at this; omega
    go_enter Tryz.func85, Tryz.ntmps85
    go_wp2_with fail
    go_ret
    exact ⟨by rw [bad H.out]; rfl, HB.out⟩
  by_cases h2 : 200 < s
  · have H : Hid (¬ ok ⟨s, r, t, g⟩ = true) := fun q => by have := (Heads.ok_iff.1 q).1.2.1; simp only at this; omega
    go_enter Tryz.func85, Tryz.ntmps85
    go_wp2_with fail
    go_ret
    exact ⟨by rw [bad H.out]; rfl, HB.out⟩
  by_cases h3 : t < 0
  · have H : Hid (¬ ok ⟨s, r, t, g⟩ = true) := fun q => by have := (Heads.ok_iff.1 q).1.2.2.1; simp only at this; omega
    go_enter Tryz.func85, Tryz.ntmps85
    go_wp2_with fail
    go_ret
    exact ⟨by rw [bad H.out]; rfl, HB.out⟩
  by_cases h4 : 1000000 < t
  · have H : Hid (¬ ok ⟨s, r, t, g⟩ = true) := fun q => by have := (Heads.ok_iff.1 q).1.2.2.2; simp only at this; omega
    go_enter Tryz.func85, Tryz.ntmps85
    go_wp2_with fail
    go_ret
    exact ⟨by rw [bad H.out]; rfl, HB.out⟩
  have HO : Hid (ok ⟨s, r, t, g⟩ = (Nums.valid r && Nums.valid g)) := by
    show ok ⟨s, r, t, g⟩ = _
    unfold ok
    simp only
    rw [decide_eq_true (by omega), Bool.true_and]
  generalize Nums.valid r = V1 at c1 HO
  generalize Nums.valid g = V2 at c2 HO
  cases V1
  · have H : Hid (¬ ok ⟨s, r, t, g⟩ = true) := by show ¬ ok ⟨s, r, t, g⟩ = true; rw [HO.out]; simp
    go_enter Tryz.func85, Tryz.ntmps85
    go_wp2_with fail
    refine (c1 _).mono ?_
    rintro e w1 ⟨rfl, rfl⟩
    go_wp2_with fail
    go_ret
    exact ⟨by rw [bad H.out]; rfl, HB.out⟩
  cases V2
  · have H : Hid (¬ ok ⟨s, r, t, g⟩ = true) := by show ¬ ok ⟨s, r, t, g⟩ = true; rw [HO.out]; simp
    go_enter Tryz.func85, Tryz.ntmps85
    go_wp2_with fail
    refine (c1 _).mono ?_
    rintro e w1 ⟨rfl, rfl⟩
    go_wp2_with fail
    refine (c2 _).mono ?_
    rintro e w1 ⟨rfl, rfl⟩
    go_wp2_with fail
    go_ret
    exact ⟨by rw [bad H.out]; rfl, HB.out⟩
  · have H : Hid (ok ⟨s, r, t, g⟩ = true) := by rw [HO.out]; rfl
    go_enter Tryz.func85, Tryz.ntmps85
    go_wp2_with fail
    refine (c1 _).mono ?_
    rintro e w1 ⟨rfl, rfl⟩
    go_wp2_with fail
    refine (c2 _).mono ?_
    rintro e w1 ⟨rfl, rfl⟩
    go_wp2_with fail
    go_ret
    exact ⟨by rw [good H.out]; rfl, HB.out⟩

set_option maxHeartbeats 4000000 in
theorem better_any (a b : Head) (w : World) : Calls Tryz.prog 127 #[hv a, hv b] w fun e w' => e = .returned (.tuple #[.bool (betterV a b), errv (betterE a b)]) ∧ Below w.heap.size w w' := by
  obtain ⟨s, r, t, g⟩ := a
  obtain ⟨s2, r2, t2, g2⟩ := b
  have b0 : Below w.heap.size w ((w.alloc (.cells #[.int .i64 s, .int .i64 r, .int .i64 t, .int .i64 g] 24)).alloc (.cells #[.int .i64 s2, .int .i64 r2, .int .i64 t2, .int .i64 g2] 24)) := ((Below.refl _ _).alloc (Nat.le_refl _) _).alloc (by simp) _
  have hA : At ((w.alloc (.cells #[.int .i64 s, .int .i64 r, .int .i64 t, .int .i64 g] 24)).alloc (.cells #[.int .i64 s2, .int .i64 r2, .int .i64 t2, .int .i64 g2] 24)) w.heap.size ⟨s, r, t, g⟩ := (At.new w s r t g).alloc _
  have hC : At ((w.alloc (.cells #[.int .i64 s, .int .i64 r, .int .i64 t, .int .i64 g] 24)).alloc (.cells #[.int .i64 s2, .int .i64 r2, .int .i64 t2, .int .i64 g2] 24)) (w.heap.size + 1) ⟨s2, r2, t2, g2⟩ := by
    have h := At.new (w.alloc (.cells #[.int .i64 s, .int .i64 r, .int .i64 t, .int .i64 g] 24)) s2 r2 t2 g2
    simpa using h
  have a42 := aggH
  have z42 := sizeH
  have c1 := fun w1 => check_any ⟨s, r, t, g⟩ w1
  have c2 := fun w1 => check_any ⟨s2, r2, t2, g2⟩ w1
  have HE : Hid (betterE ⟨s, r, t, g⟩ ⟨s2, r2, t2, g2⟩ = if headE ⟨s, r, t, g⟩ = 0 then headE ⟨s2, r2, t2, g2⟩ else headE ⟨s, r, t, g⟩) := rfl
  have HV : Hid (betterV ⟨s, r, t, g⟩ ⟨s2, r2, t2, g2⟩ = (decide (betterE ⟨s, r, t, g⟩ ⟨s2, r2, t2, g2⟩ = 0) && decide (s2 < s ∨ (s = s2 ∧ t2 < t)))) := rfl
  generalize betterV ⟨s, r, t, g⟩ ⟨s2, r2, t2, g2⟩ = V at HV ⊢
  generalize betterE ⟨s, r, t, g⟩ ⟨s2, r2, t2, g2⟩ = E at HE HV ⊢
  generalize headE ⟨s, r, t, g⟩ = E1 at c1 HE
  generalize headE ⟨s2, r2, t2, g2⟩ = E2 at c2 HE
  unfold hv at *
  simp only at c1 c2
  go_enter Tryz.func127, Tryz.ntmps127
  go_upto_region 1 with fail
  generalize (w.alloc (.cells #[.int .i64 s, .int .i64 r, .int .i64 t, .int .i64 g] 24)).alloc (.cells #[.int .i64 s2, .int .i64 r2, .int .i64 t2, .int .i64 g2] 24) = w0 at b0 hA hC ⊢
  obtain ⟨p0, p1, p2, p3⟩ := hA
  simp only at p0 p1 p2 p3
  have hA : At w0 w.heap.size ⟨s, r, t, g⟩ := ⟨p0, p1, p2, p3⟩
  go_wp2_with fail
  refine (c1 _).mono ?_
  rintro e w1 ⟨rfl, b1⟩
  replace hA := hA.below b1
  replace hC := hC.below b1
  replace b0 := bt b0 b1
  clear c1 b1 p0 p1 p2 p3
  by_cases h1 : E1 = 0
  rotate_left
  · have HX : Hid (E = E1) := by show E = E1; rw [HE.out, if_neg h1]
    have HY : Hid (V = false) := by show V = false; rw [HV.out, HX.out, decide_eq_false h1]; rfl
    have HZ : Hid (Below w.heap.size w w1) := b0
    have HN : Hid (errv E = .iface 70 (.int .i64 E1)) := by show errv E = _; rw [HX.out, errv_pos _ h1]
    rw [errv_pos _ h1]
    clear h1 HE HV b0 HX
    go_wp2_with fail
    go_ret2
    exact ⟨by rw [HN.out, HY.out]; rfl, HZ.out⟩
  have HX : Hid (E = E2) := by show E = E2; rw [HE.out, if_pos h1]
  rw [h1, errv0]
  clear h1 HE
  obtain ⟨p0, p1, p2, p3⟩ := hC
  simp only at p0 p1 p2 p3
  have hC : At w1 (w.heap.size + 1) ⟨s2, r2, t2, g2⟩ := ⟨p0, p1, p2, p3⟩
  go_wp2_with fail
  refine (c2 _).mono ?_
  rintro e w2 ⟨rfl, b1⟩
  replace hA := hA.below b1
  replace hC := hC.below b1
  have HZ : Hid (Below w.heap.size w w2) := bt b0 b1
  clear c2 b1 p0 p1 p2 p3 b0
  by_cases h2 : E2 = 0
  rotate_left
  · have HY : Hid (V = false) := by show V = false; rw [HV.out, HX.out, decide_eq_false h2]; rfl
    have HN : Hid (errv E = .iface 70 (.int .i64 E2)) := by show errv E = _; rw [HX.out, errv_pos _ h2]
    rw [errv_pos _ h2]
    clear h2 HV HX hA hC
    go_wp2_with fail
    go_ret2
    exact ⟨by rw [HN.out, HY.out]; rfl, HZ.out⟩
  have HY : Hid (V = decide (s2 < s ∨ (s = s2 ∧ t2 < t))) := by show V = _; rw [HV.out, HX.out, decide_eq_true h2]; rfl
  have HN : Hid (errv E = .nilIface) := by show errv E = _; rw [HX.out, h2, errv0]
  rw [h2, errv0]
  clear h2 HX HV
  obtain ⟨p0, p1, p2, p3⟩ := hA
  obtain ⟨q0, q1, q2, q3⟩ := hC
  simp only at p0 p1 p2 p3 q0 q1 q2 q3
  by_cases g1 : s2 < s
  · have HW : Hid (V = true) := by show V = true; rw [HY.out]; exact decide_eq_true (.inl g1)
    clear HY
    go_wp2_with fail
    go_ret2
    exact ⟨by rw [HW.out, HN.out]; rfl, HZ.out⟩
  have hd1 : decide (s2 < s) = false := decide_eq_false g1
  by_cases g2 : s = s2
  rotate_left
  · have HW : Hid (V = false) := by show V = false; rw [HY.out]; exact decide_eq_false fun q => q.elim g1 fun q => g2 q.1
    have hd2 : (s == s2) = false := by rw [beq_eq_false_iff_ne]; exact g2
    clear HY
    go_wp2_with fail
    go_ret2
    exact ⟨by rw [HW.out, HN.out]; rfl, HZ.out⟩
  have hd2 : (s == s2) = true := by rw [g2]; exact beq_self_eq_true _
  by_cases g3 : t2 < t
  · have HW : Hid (V = true) := by show V = true; rw [HY.out]; exact decide_eq_true (.inr ⟨g2, g3⟩)
    clear HY g2
    go_wp2_with fail
    go_ret2
    exact ⟨by rw [HW.out, HN.out]; rfl, HZ.out⟩
  · have HW : Hid (V = false) := by show V = false; rw [HY.out]; exact decide_eq_false fun q => q.elim g1 fun q => g3 q.2
    have hd3 : decide (t2 < t) = false := decide_eq_false g3
    clear HY g2
    go_wp2_with fail
    go_ret2
    exact ⟨by rw [HW.out, HN.out]; rfl, HZ.out⟩

end Go.Proofs.YtigbbhojgajkjaiGreatDoor.WalkHdOne
