/-
  The walk of HeadBetter: of two heads not both are the better; of three, who is better than the better one is better.
-/
import Derived.Test.YtibmgmadoaencaeWalkHd
import Derived.Deep.CutBlock
namespace Go.Proofs.Ytibmgmadoaencae.WalkHeadBetter
open Go.RowKit
open Lists (bt)
open Errs (errv errv0 errv_pos)
open Heads (Head headE betterV betterE more)
open HeadVals (hv aggH sizeH At)

theorem fact_ok : betterE ⟨2, 0, 0, 0⟩ ⟨1, 0, 5, 0⟩ = 0 := by decide +kernel
theorem fact_is : betterV ⟨2, 0, 0, 0⟩ ⟨1, 0, 5, 0⟩ = true := by decide +kernel
theorem better_is {a b : Head} (h : betterE a b = 0) : betterV a b = more a b := by
  unfold betterV
  rw [decide_eq_true h, Bool.true_and]

set_option maxHeartbeats 16000000 in
set_option maxRecDepth 100000 in
theorem walk (a0 : Int) (_ : (Lit.int .i64 a0).wf = true) (a1 : Int) (_ : (Lit.int .i64 a1).wf = true) (a2 : Int) (_ : (Lit.int .i64 a2).wf = true) (a3 : Int) (_ : (Lit.int .i64 a3).wf = true)
    (b0 : Int) (_ : (Lit.int .i64 b0).wf = true) (b1 : Int) (_ : (Lit.int .i64 b1).wf = true) (b2 : Int) (_ : (Lit.int .i64 b2).wf = true) (b3 : Int) (_ : (Lit.int .i64 b3).wf = true)
    (c0 : Int) (_ : (Lit.int .i64 c0).wf = true) (c1 : Int) (_ : (Lit.int .i64 c1).wf = true) (c2 : Int) (_ : (Lit.int .i64 c2).wf = true) (c3 : Int) (_ : (Lit.int .i64 c3).wf = true) (w : World) :
    Calls Try.prog 3 #[.agg #[.int .i64 a0, .int .i64 a1, .int .i64 a2, .int .i64 a3], .agg #[.int .i64 b0, .int .i64 b1, .int .i64 b2, .int .i64 b3], .agg #[.int .i64 c0, .int .i64 c1, .int .i64 c2, .int .i64 c3]] w fun e w' => e = .returned (.bool true) ∧ Below w.heap.size w w' := by
  have HB : Hid (Below w.heap.size w (((w.alloc (.cells #[.int .i64 a0, .int .i64 a1, .int .i64 a2, .int .i64 a3] 23)).alloc (.cells #[.int .i64 b0, .int .i64 b1, .int .i64 b2, .int .i64 b3] 23)).alloc (.cells #[.int .i64 c0, .int .i64 c1, .int .i64 c2, .int .i64 c3] 23))) := (((Below.refl _ _).alloc (Nat.le_refl _) _).alloc (by simp) _).alloc (by simp; omega) _
  have hA : At (((w.alloc (.cells #[.int .i64 a0, .int .i64 a1, .int .i64 a2, .int .i64 a3] 23)).alloc (.cells #[.int .i64 b0, .int .i64 b1, .int .i64 b2, .int .i64 b3] 23)).alloc (.cells #[.int .i64 c0, .int .i64 c1, .int .i64 c2, .int .i64 c3] 23)) w.heap.size ⟨a0, a1, a2, a3⟩ := ((At.new w a0 a1 a2 a3).alloc _).alloc _
  have hB : At (((w.alloc (.cells #[.int .i64 a0, .int .i64 a1, .int .i64 a2, .int .i64 a3] 23)).alloc (.cells #[.int .i64 b0, .int .i64 b1, .int .i64 b2, .int .i64 b3] 23)).alloc (.cells #[.int .i64 c0, .int .i64 c1, .int .i64 c2, .int .i64 c3] 23)) (w.heap.size + 1) ⟨b0, b1, b2, b3⟩ := by
    have h := (At.new (w.alloc (.cells #[.int .i64 a0, .int .i64 a1, .int .i64 a2, .int .i64 a3] 23)) b0 b1 b2 b3).alloc (.cells #[.int .i64 c0, .int .i64 c1, .int .i64 c2, .int .i64 c3] 23)
    simpa using h
  have hC : At (((w.alloc (.cells #[.int .i64 a0, .int .i64 a1, .int .i64 a2, .int .i64 a3] 23)).alloc (.cells #[.int .i64 b0, .int .i64 b1, .int .i64 b2, .int .i64 b3] 23)).alloc (.cells #[.int .i64 c0, .int .i64 c1, .int .i64 c2, .int .i64 c3] 23)) (w.heap.size + 2) ⟨c0, c1, c2, c3⟩ := by
    have h := At.new ((w.alloc (.cells #[.int .i64 a0, .int .i64 a1, .int .i64 a2, .int .i64 a3] 23)).alloc (.cells #[.int .i64 b0, .int .i64 b1, .int .i64 b2, .int .i64 b3] 23)) c0 c1 c2 c3
    simpa using h
  have cF := fun w1 => WalkHd.better_any ⟨2, 0, 0, 0⟩ ⟨1, 0, 5, 0⟩ w1
  rw [fact_ok, fact_is, errv0] at cF
  have c12 := fun w1 => WalkHd.better_any ⟨a0, a1, a2, a3⟩ ⟨b0, b1, b2, b3⟩ w1
  have c21 := fun w1 => WalkHd.better_any ⟨b0, b1, b2, b3⟩ ⟨a0, a1, a2, a3⟩ w1
  have c23 := fun w1 => WalkHd.better_any ⟨b0, b1, b2, b3⟩ ⟨c0, c1, c2, c3⟩ w1
  have c13 := fun w1 => WalkHd.better_any ⟨a0, a1, a2, a3⟩ ⟨c0, c1, c2, c3⟩ w1
  unfold hv at cF c12 c21 c23 c13
  simp only at cF c12 c21 c23 c13
  have HT1 : Hid (betterE ⟨a0, a1, a2, a3⟩ ⟨b0, b1, b2, b3⟩ = 0 → betterE ⟨b0, b1, b2, b3⟩ ⟨a0, a1, a2, a3⟩ = 0 → betterV ⟨a0, a1, a2, a3⟩ ⟨b0, b1, b2, b3⟩ = true → betterV ⟨b0, b1, b2, b3⟩ ⟨a0, a1, a2, a3⟩ = false) := fun h1 h2 h3 => by
    rw [better_is h1] at h3
    rw [better_is h2]
    exact Heads.more_not _ _ h3
  have HT2 : Hid (betterE ⟨a0, a1, a2, a3⟩ ⟨b0, b1, b2, b3⟩ = 0 → betterE ⟨b0, b1, b2, b3⟩ ⟨c0, c1, c2, c3⟩ = 0 → betterE ⟨a0, a1, a2, a3⟩ ⟨c0, c1, c2, c3⟩ = 0 → betterV ⟨a0, a1, a2, a3⟩ ⟨b0, b1, b2, b3⟩ = true → betterV ⟨b0, b1, b2, b3⟩ ⟨c0, c1, c2, c3⟩ = true → betterV ⟨a0, a1, a2, a3⟩ ⟨c0, c1, c2, c3⟩ = true) := fun h1 h2 h3 h4 h5 => by
    rw [better_is h1] at h4
    rw [better_is h2] at h5
    rw [better_is h3]
    exact Heads.more_trans _ _ _ h4 h5
  generalize betterE ⟨a0, a1, a2, a3⟩ ⟨b0, b1, b2, b3⟩ = E1 at c12 HT1 HT2
  generalize betterV ⟨a0, a1, a2, a3⟩ ⟨b0, b1, b2, b3⟩ = V1 at c12 HT1 HT2
  generalize betterE ⟨b0, b1, b2, b3⟩ ⟨a0, a1, a2, a3⟩ = E2 at c21 HT1
  generalize betterV ⟨b0, b1, b2, b3⟩ ⟨a0, a1, a2, a3⟩ = V2 at c21 HT1
  generalize betterE ⟨b0, b1, b2, b3⟩ ⟨c0, c1, c2, c3⟩ = E3 at c23 HT2
  generalize betterV ⟨b0, b1, b2, b3⟩ ⟨c0, c1, c2, c3⟩ = V3 at c23 HT2
  generalize betterE ⟨a0, a1, a2, a3⟩ ⟨c0, c1, c2, c3⟩ = E4 at c13 HT2
  generalize betterV ⟨a0, a1, a2, a3⟩ ⟨c0, c1, c2, c3⟩ = V4 at c13 HT2
  have a42 := aggH
  have z42 := sizeH
  go_enter Try.func3, Try.ntmps3
  go_upto_region 1 with fail
  generalize ((w.alloc (.cells #[.int .i64 a0, .int .i64 a1, .int .i64 a2, .int .i64 a3] 23)).alloc (.cells #[.int .i64 b0, .int .i64 b1, .int .i64 b2, .int .i64 b3] 23)).alloc (.cells #[.int .i64 c0, .int .i64 c1, .int .i64 c2, .int .i64 c3] 23) = w0 at HB hA hB hC ⊢
  go_wp2_with fail
  refine (cF _).mono ?_
  rintro e w1 ⟨rfl, d1⟩
  obtain ⟨p0, p1, p2, p3⟩ := hA.below d1
  obtain ⟨q0, q1, q2, q3⟩ := hB.below d1
  go_wp2_with fail
  refine (c12 _).mono ?_
  rintro e w2 ⟨rfl, d2⟩
  replace d1 := bt d1 d2
  clear d2 p0 p1 p2 p3 q0 q1 q2 q3
  obtain ⟨p0, p1, p2, p3⟩ := hA.below d1
  obtain ⟨q0, q1, q2, q3⟩ := hB.below d1
  go_wp2_with fail
  refine (c21 _).mono ?_
  rintro e w3 ⟨rfl, d2⟩
  replace d1 := bt d1 d2
  clear d2 p0 p1 p2 p3 q0 q1 q2 q3
  obtain ⟨p0, p1, p2, p3⟩ := hB.below d1
  obtain ⟨q0, q1, q2, q3⟩ := hC.below d1
  go_wp2_with fail
  refine (c23 _).mono ?_
  rintro e w4 ⟨rfl, d2⟩
  replace d1 := bt d1 d2
  clear d2 p0 p1 p2 p3 q0 q1 q2 q3
  obtain ⟨p0, p1, p2, p3⟩ := hA.below d1
  obtain ⟨q0, q1, q2, q3⟩ := hC.below d1
  go_wp2_with fail
  refine (c13 _).mono ?_
  rintro e w5 ⟨rfl, d2⟩
  have HBE : Hid (Below w.heap.size w w5) := bt HB.out (bt d1 d2)
  clear d1 d2 p0 p1 p2 p3 q0 q1 q2 q3 cF c12 c21 c23 c13 hA hB hC
  by_cases h1 : E1 = 0
  rotate_left
  · rw [errv_pos _ h1]
    clear h1 HT1 HT2
    go_wp2_with fail
    go_ret
    exact ⟨rfl, HBE.out⟩
  by_cases h2 : E2 = 0
  rotate_left
  · rw [errv_pos _ h2, h1, errv0]
    clear h1 h2 HT1 HT2
    go_wp2_with fail
    go_ret
    exact ⟨rfl, HBE.out⟩
  by_cases h3 : E3 = 0
  rotate_left
  · rw [errv_pos _ h3, h1, h2, errv0]
    clear h1 h2 h3 HT1 HT2
    go_wp2_with fail
    go_ret
    exact ⟨rfl, HBE.out⟩
  by_cases h4 : E4 = 0
  rotate_left
  · rw [errv_pos _ h4, h1, h2, h3, errv0]
    clear h1 h2 h3 h4 HT1 HT2
    go_wp2_with fail
    go_ret
    exact ⟨rfl, HBE.out⟩
  have K1 := HT1.out h1 h2
  have K2 := HT2.out h1 h3 h4
  rw [h1, h2, h3, h4, errv0]
  clear h1 h2 h3 h4 HT1 HT2
  cases V1
  · clear K1 K2
    go_wp2_with fail
    go_ret
    exact ⟨rfl, HBE.out⟩
  · obtain rfl := K1 rfl
    cases V3
    · clear K1 K2
      go_wp2_with fail
      go_ret
      exact ⟨rfl, HBE.out⟩
    · obtain rfl := K2 rfl rfl
      clear K1 K2
      go_wp2_with fail
      go_ret
      exact ⟨rfl, HBE.out⟩

end Go.Proofs.Ytibmgmadoaencae.WalkHeadBetter
