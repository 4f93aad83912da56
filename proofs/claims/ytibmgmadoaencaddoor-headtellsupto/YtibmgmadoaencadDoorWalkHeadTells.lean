/-
  The walk of HeadTells: what is wrong with any head, any as text, any text as one; who is the better, what is signed, and what is right are the document's.
-/
import Derived.Test.YtibmgmadoaencadDoorWalkHdOne
import Derived.Test.YtibmgmadoaencadDoorWalkHdSign
import Derived.Test.YtibmgmadoaencadDoorWalkHdRead
import Derived.Test.YtibmgmadoaencadDoorWalkReadRef
import Derived.Test.YtibmgmadoaencadDoorWalkTold
import Derived.Deep.CutBlock
import Derived.Lib.QuietBelow
namespace Go.Proofs.YtibmgmadoaencadDoor.WalkHeadTells
open Go.RowKit
open Lists (bt)
open WalkTold (Laid)
open Errs (errv errv0 errv_pos)
open Heads (Head ok headE signV signE verifyE signOf isKey print parse zero said betterV betterE more)
open HeadVals (hv aggH sizeH At)
open WalkReadRef (quad quad_new quad_set set_below)
open Nums (str)
open Go.Sort (grow)

theorem error_same (e : Nat) (w : World) (hg : Laid w) : Calls Tryd.prog 8 #[errv e, .int .i64 (e : Int)] w fun r w' => r = .returned (.bool true) ∧ Below w.heap.size w w' := by
  have h := WalkTold.error_is e (e : Int) w hg
  rw [beq_self_eq_true] at h
  exact h
theorem at_quad {w : World} {g : Nat} {a b c d : Int} (h : w.rowIs g 59 4 (quad a b c d)) : At w g ⟨a, b, c, d⟩ := ⟨by simpa [quad] using h.cell (i := 0) (by omega), by simpa [quad] using h.cell (i := 1) (by omega), by simpa [quad] using h.cell (i := 2) (by omega), by simpa [quad] using h.cell (i := 3) (by omega)⟩
theorem at_other {w : World} {g : Nat} {h : Head} (a : At w g h) (p : Addr) (hp : g ≠ p.block) (v : Value) : At (w.setCell p v) g h :=
  have n : ∀ j, p ≠ ⟨g, j, none⟩ := fun j e => hp (by rw [e])
  ⟨(World.cell?_setCell_other _ _ _ _ (n 0)).trans a.size, (World.cell?_setCell_other _ _ _ _ (n 1)).trans a.root, (World.cell?_setCell_other _ _ _ _ (n 2)).trans a.time, (World.cell?_setCell_other _ _ _ _ (n 3)).trans a.sign⟩
/-- one number of four is written -/
theorem quad_sign {w : World} {g : Nat} {a b c d : Int} (h : w.rowIs g 59 4 (quad a b c d)) (x : Int) : (w.setCell ⟨g, 3, none⟩ (.int .i64 x)).rowIs g 59 4 (quad a b c x) :=
  (h.set 3 _).congr fun j hj => by match j, hj with | 0, _ | 1, _ | 2, _ | 3, _ => rfl | j + 4, h => omega
theorem beq_yes (x : ByteArray) : (x.toList == x.toList) = true := beq_self_eq_true _

set_option maxHeartbeats 16000000 in
set_option maxRecDepth 100000 in
theorem walk (a0 : Int) (_ : (Lit.int .i64 a0).wf = true) (a1 : Int) (_ : (Lit.int .i64 a1).wf = true) (a2 : Int) (_ : (Lit.int .i64 a2).wf = true) (a3 : Int) (_ : (Lit.int .i64 a3).wf = true)
    (c0 : Int) (_ : (Lit.int .i64 c0).wf = true) (c1 : Int) (_ : (Lit.int .i64 c1).wf = true) (c2 : Int) (_ : (Lit.int .i64 c2).wf = true) (c3 : Int) (_ : (Lit.int .i64 c3).wf = true)
    (key : Int) (_ : (Lit.int .i64 key).wf = true) (s : ByteArray) (hs : s.size ≤ 1048576) (w : World) (hL : Laid w) (hK : WalkHdLib.Tabs w) :
    Calls Tryd.prog 5 #[.agg #[.int .i64 a0, .int .i64 a1, .int .i64 a2, .int .i64 a3], .agg #[.int .i64 c0, .int .i64 c1, .int .i64 c2, .int .i64 c3], .int .i64 key, .string s] w fun e w' => e = .returned (.bool true) ∧ Below w.heap.size w w' := by
  have HS : Hid (s.size ≤ 1048576) := hs
  have b0 : Below w.heap.size w ((w.alloc (.cells #[.int .i64 a0, .int .i64 a1, .int .i64 a2, .int .i64 a3] 59)).alloc (.cells #[.int .i64 c0, .int .i64 c1, .int .i64 c2, .int .i64 c3] 59)) := ((Below.refl _ _).alloc (Nat.le_refl _) _).alloc (by simp) _
  have HB0 : Hid (Below w.heap.size w ((w.alloc (.cells #[.int .i64 a0, .int .i64 a1, .int .i64 a2, .int .i64 a3] 59)).alloc (.cells #[.int .i64 c0, .int .i64 c1, .int .i64 c2, .int .i64 c3] 59))) := b0
  have HL : Hid (Laid ((w.alloc (.cells #[.int .i64 a0, .int .i64 a1, .int .i64 a2, .int .i64 a3] 59)).alloc (.cells #[.int .i64 c0, .int .i64 c1, .int .i64 c2, .int .i64 c3] 59))) := hL.below b0
  have HTb : Hid (WalkHdLib.Tabs ((w.alloc (.cells #[.int .i64 a0, .int .i64 a1, .int .i64 a2, .int .i64 a3] 59)).alloc (.cells #[.int .i64 c0, .int .i64 c1, .int .i64 c2, .int .i64 c3] 59))) := hK.below b0
  have hA : At ((w.alloc (.cells #[.int .i64 a0, .int .i64 a1, .int .i64 a2, .int .i64 a3] 59)).alloc (.cells #[.int .i64 c0, .int .i64 c1, .int .i64 c2, .int .i64 c3] 59)) w.heap.size ⟨a0, a1, a2, a3⟩ := (At.new w a0 a1 a2 a3).alloc _
  have hC : At ((w.alloc (.cells #[.int .i64 a0, .int .i64 a1, .int .i64 a2, .int .i64 a3] 59)).alloc (.cells #[.int .i64 c0, .int .i64 c1, .int .i64 c2, .int .i64 c3] 59)) (w.heap.size + 1) ⟨c0, c1, c2, c3⟩ := by
    have h := At.new (w.alloc (.cells #[.int .i64 a0, .int .i64 a1, .int .i64 a2, .int .i64 a3] 59)) c0 c1 c2 c3
    simpa using h
  have HA : Hid (At ((w.alloc (.cells #[.int .i64 a0, .int .i64 a1, .int .i64 a2, .int .i64 a3] 59)).alloc (.cells #[.int .i64 c0, .int .i64 c1, .int .i64 c2, .int .i64 c3] 59)) w.heap.size ⟨a0, a1, a2, a3⟩) := hA
  have HC : Hid (At ((w.alloc (.cells #[.int .i64 a0, .int .i64 a1, .int .i64 a2, .int .i64 a3] 59)).alloc (.cells #[.int .i64 c0, .int .i64 c1, .int .i64 c2, .int .i64 c3] 59)) (w.heap.size + 1) ⟨c0, c1, c2, c3⟩) := hC
  have hlt : w.heap.size + 1 < ((w.alloc (.cells #[.int .i64 a0, .int .i64 a1, .int .i64 a2, .int .i64 a3] 59)).alloc (.cells #[.int .i64 c0, .int .i64 c1, .int .i64 c2, .int .i64 c3] 59)).heap.size := by simp
  have cH := fun w1 => WalkHeadRef.head_any ⟨a0, a1, a2, a3⟩ w1
  have cK := fun w1 => WalkHdOne.check_any ⟨a0, a1, a2, a3⟩ w1
  have cP := fun w1 h1 => WalkHdSign.print_any ⟨a0, a1, a2, a3⟩ w1 h1
  have cV := fun w1 h1 => WalkHdSign.verify_any ⟨a0, a1, a2, a3⟩ key w1 h1
  have cW := fun w1 => WalkVerifyRef.verify_any ⟨a0, a1, a2, a3⟩ key w1
  have cR := fun w1 => WalkReadRef.read_any s w1 hs
  have cQ := fun w1 => WalkHdRead.parse_any s w1 (by omega)
  obtain ⟨E, HE⟩ : ∃ E : Nat, Hid (headE ⟨a0, a1, a2, a3⟩ = E) := ⟨_, rfl⟩
  obtain ⟨T, HT⟩ : ∃ T : ByteArray, Hid (str (if headE ⟨a0, a1, a2, a3⟩ = 0 then print ⟨a0, a1, a2, a3⟩ else []) = T) := ⟨_, rfl⟩
  obtain ⟨Y, HY⟩ : ∃ Y : Head × Nat, Hid (parse s.data.toList = Y) := ⟨_, rfl⟩
  obtain ⟨⟨y0, y1, y2, y3⟩, F⟩ := Y
  rw [HT.out] at cP
  rw [HE.out] at cH cK cP
  rw [HY.out] at cR cQ
  generalize verifyE ⟨a0, a1, a2, a3⟩ key = V at cV cW
  unfold hv at cH cK cP cV cW cR cQ
  simp only at cH cK cP cV cW cR cQ
  have a52 := aggH
  have z52 := sizeH
  clear hs hL hK b0 hA hC HY
  go_enter Tryd.func5, Tryd.ntmps5
  go_upto_region 1 with fail
  generalize (w.alloc (.cells #[.int .i64 a0, .int .i64 a1, .int .i64 a2, .int .i64 a3] 59)).alloc (.cells #[.int .i64 c0, .int .i64 c1, .int .i64 c2, .int .i64 c3] 59) = w0 at HB0 HL HTb HA HC hlt ⊢
  have cErr := fun (e : Nat) (w1 : World) (b : Below w0.heap.size w0 w1) => error_same e w1 (HL.out.below b)
  obtain ⟨p0, p1, p2, p3⟩ := HA.out
  simp only at p0 p1 p2 p3
  go_wp2_with fail
  refine (cH _).mono ?_
  rintro e w1 ⟨rfl, bc⟩
  clear cH p0 p1 p2 p3
  obtain ⟨p0, p1, p2, p3⟩ := HA.out.below bc
  simp only at p0 p1 p2 p3
  go_wp2_with fail
  refine (cK _).mono ?_
  rintro e w2 ⟨rfl, b2⟩
  replace bc := bt bc b2
  clear b2 cK p0 p1 p2 p3
  go_wp2_with fail
  refine (cErr _ _ bc).mono ?_
  rintro e w3 ⟨rfl, b3⟩
  replace bc := bt bc b3
  clear b3
  obtain ⟨p0, p1, p2, p3⟩ := HA.out.below bc
  simp only at p0 p1 p2 p3
  go_upto_if 35 with fail
  go_cut [11] from 34 to 37 (fun v wc => v = .string T ∧ Below w0.heap.size w0 wc)
  case first => as_aux_lemma =>
    by_cases h0 : E = 0
    · have hd : (((E : Nat) : Int) == 0) = true := by rw [h0]; rfl
      have h0' : headE ⟨a0, a1, a2, a3⟩ = 0 := by rw [HE.out]; exact h0
      have HV : Hid (T = str (print ⟨a0, a1, a2, a3⟩)) := by rw [← HT.out, if_pos h0']; rfl
      have cT := fun w1 => WalkHeadRef.headText_any ⟨a0, a1, a2, a3⟩ w1 (Heads.headE_zero.1 h0')
      rw [← HV.out] at cT
      unfold hv at cT
      simp only at cT
      clear h0 h0'
      go_wp2_with fail
      refine (cT _).mono ?_
      rintro e w4 ⟨rfl, b4⟩
      go_wp2_with fail
      go_meet
      case rel => exact ⟨rfl, bt bc b4⟩
    · have hd : (((E : Nat) : Int) == 0) = false := by rw [beq_eq_false_iff_ne]; omega
      have HV : Hid (T = ⟨#[]⟩) := by rw [← HT.out, if_neg (by rw [HE.out]; exact h0)]; rfl
      clear h0
      go_wp2_with fail
      go_meet
      case rel => exact ⟨by rw [HV.out], bc⟩
  obtain ⟨rfl, bd⟩ := hcut
  clear bc HT p0 p1 p2 p3
  obtain ⟨p0, p1, p2, p3⟩ := HA.out.below bd
  simp only at p0 p1 p2 p3
  go_wp2_with fail
  refine (cP _ (HTb.out.below bd)).mono ?_
  rintro e w5 ⟨rfl, b5⟩
  replace bd := bt bd b5
  clear cP b5 p0 p1 p2 p3
  have e1 := beq_yes T
  go_wp2_with fail
  refine (cErr _ _ bd).mono ?_
  rintro e w6 ⟨rfl, b6⟩
  replace bd := bt bd b6
  clear b6
  go_wp2_with fail
  refine (cR _).mono ?_
  rintro e w7 ⟨rfl, b7⟩
  replace bd := bt bd b7
  clear b7 cR
  have hx : At (w7.alloc (.cells #[.int .i64 y0, .int .i64 y1, .int .i64 y2, .int .i64 y3] 59)) w7.heap.size ⟨y0, y1, y2, y3⟩ := At.new w7 y0 y1 y2 y3
  have hg7 : w0.heap.size ≤ w7.heap.size := bd.size
  replace bd := bd.alloc bd.size (.cells #[.int .i64 y0, .int .i64 y1, .int .i64 y2, .int .i64 y3] 59)
  go_upto_region 9 with fail
  generalize w7.alloc (.cells #[.int .i64 y0, .int .i64 y1, .int .i64 y2, .int .i64 y3] 59) = w8 at hx bd ⊢
  go_wp2_with fail
  refine (cQ _).mono ?_
  rintro e w9 ⟨rfl, b9⟩
  replace bd := bt bd b9
  replace hx := (hx.below b9).alloc (.cells #[.int .i64 y0, .int .i64 y1, .int .i64 y2, .int .i64 y3] 59)
  have hg9 : w0.heap.size ≤ w9.heap.size := bd.size
  clear b9 cQ
  have hy : At (w9.alloc (.cells #[.int .i64 y0, .int .i64 y1, .int .i64 y2, .int .i64 y3] 59)) w9.heap.size ⟨y0, y1, y2, y3⟩ := At.new w9 y0 y1 y2 y3
  replace bd := bd.alloc bd.size (.cells #[.int .i64 y0, .int .i64 y1, .int .i64 y2, .int .i64 y3] 59)
  go_upto_region 10 with fail
  generalize w9.alloc (.cells #[.int .i64 y0, .int .i64 y1, .int .i64 y2, .int .i64 y3] 59) = wa at hx hy bd ⊢
  go_wp2_with fail
  refine (cErr _ _ bd).mono ?_
  rintro e w2 ⟨rfl, b2⟩
  replace bd := bt bd b2
  replace hx := hx.below b2
  replace hy := hy.below b2
  clear b2
  go_upto_region 11 with fail
  have d1 : ∀ dd os, Calls Tryd.prog 29 #[.agg #[.int .i64 a0, .int .i64 a1, .int .i64 a2, .int .i64 a3], .int .i64 key] (grow (redrawn w2 dd) os) fun e w'' => e = .returned (errv V) ∧ ∃ p : Regrown, w'' = grow (redrawn w2 p.d) p.os := fun dd os => Calls.regrown_of (cV _ (HTb.out.below (bt bd (below_regrown w2 dd os))))
  have d2 : ∀ dd os, Calls Tryd.prog 30 #[.agg #[.int .i64 a0, .int .i64 a1, .int .i64 a2, .int .i64 a3], .int .i64 key] (grow (redrawn w2 dd) os) fun e w'' => e = .returned (.int .i64 (V : Int)) ∧ ∃ p : Regrown, w'' = grow (redrawn w2 p.d) p.os := fun dd os => Calls.regrown_of (cW _)
  have d3 : ∀ dd os, Calls Tryd.prog 8 #[errv V, .int .i64 (V : Int)] (grow (redrawn w2 dd) os) fun e w'' => e = .returned (.bool true) ∧ ∃ p : Regrown, w'' = grow (redrawn w2 p.d) p.os := fun dd os => Calls.regrown_of (cErr _ _ (bt bd (below_regrown w2 dd os)))
  have hA := HA.out.below bd
  have r0 := fun dd os => cell_regrown hA.size dd os
  have r1 := fun dd os => cell_regrown hA.root dd os
  have r2 := fun dd os => cell_regrown hA.time dd os
  have r3 := fun dd os => cell_regrown hA.sign dd os
  clear cV cW
  refine wp_region_quiet_below (by kernel_rfl) (by kernel_rfl) ?_
  repeat (quiet_step (fail))
  quiet_step (exact d1 _ _)
  repeat (quiet_step (fail))
  quiet_step (exact d2 _ _)
  repeat (quiet_step (fail))
  quiet_step (exact d3 _ _)
  repeat (quiet_step (fail))
  refine wpQuiet_nil ?_
  intro _ hw'
  obtain ⟨⟨dq, osq⟩, hw''⟩ := hw'
  subst hw''
  have b3 := below_regrown w2 dq osq
  replace hx := hx.below b3
  replace hy := hy.below b3
  replace bd := bt bd b3
  clear d1 d2 d3 r0 r1 r2 r3 b3 hA
  generalize grow (redrawn w2 dq) osq = w3 at hx hy bd ⊢
  -- who is the better
  obtain ⟨p0, p1, p2, p3⟩ := HC.out.below bd
  simp only at p0 p1 p2 p3
  obtain ⟨E2, HE2⟩ : ∃ E2 : Nat, Hid (betterE ⟨a0, a1, a2, a3⟩ ⟨c0, c1, c2, c3⟩ = E2) := ⟨_, rfl⟩
  go_upto_if 67 with fail
  go_cut [9] from 66 to 69 (fun v wc => v = .int .i64 (E2 : Int) ∧ Below w3.heap.size w3 wc)
  case first => as_aux_lemma =>
    by_cases h0 : E = 0
    · have hd : (((E : Nat) : Int) == 0) = true := by rw [h0]; rfl
      have h0' : headE ⟨a0, a1, a2, a3⟩ = 0 := by rw [HE.out]; exact h0
      have HV : headE ⟨c0, c1, c2, c3⟩ = E2 := by rw [← HE2.out]; exact (if_pos h0').symm
      have cT := fun w1 => WalkHeadRef.head_any ⟨c0, c1, c2, c3⟩ w1
      rw [HV] at cT
      unfold hv at cT
      simp only at cT
      clear h0 h0' HV
      go_wp2_with fail
      refine (cT _).mono ?_
      rintro e w4 ⟨rfl, b4⟩
      go_wp2_with fail
      go_meet
      case rel => exact ⟨rfl, b4⟩
    · have hd : (((E : Nat) : Int) == 0) = false := by rw [beq_eq_false_iff_ne]; omega
      have HV : Hid (E2 = E) := by rw [← HE2.out, ← HE.out]; exact if_neg (by rw [HE.out]; exact h0)
      clear h0
      go_wp2_with fail
      go_meet
      case rel => exact ⟨by rw [HV.out], Below.refl _ _⟩
  obtain ⟨rfl, be⟩ := hcut
  replace hx := hx.below be
  replace hy := hy.below be
  replace bd := bt bd be
  clear be p0 p1 p2 p3 HE
  obtain ⟨p0, p1, p2, p3⟩ := HA.out.below bd
  obtain ⟨q0, q1, q2, q3⟩ := HC.out.below bd
  simp only at p0 p1 p2 p3 q0 q1 q2 q3
  obtain ⟨B, HB⟩ : ∃ B : Bool, Hid (betterV ⟨a0, a1, a2, a3⟩ ⟨c0, c1, c2, c3⟩ = B) := ⟨_, rfl⟩
  go_upto_region 14 with fail
  go_cut [20] from 70 to 92 (fun v wn => v = .bool B ∧ wc = wn)
  case first => as_aux_lemma =>
    by_cases h0 : E2 = 0
    rotate_left
    · have hd : (((E2 : Nat) : Int) == 0) = false := by rw [beq_eq_false_iff_ne]; omega
      have HV : Hid (B = false) := by rw [← HB.out]; unfold betterV; rw [HE2.out, decide_eq_false h0]; rfl
      clear h0
      go_wp2_with fail
      go_meet
      case rel => exact ⟨by rw [HV.out], rfl⟩
    have hd : (((E2 : Nat) : Int) == 0) = true := by rw [h0]; rfl
    have HM : Hid (B = decide (c0 < a0 ∨ (a0 = c0 ∧ c2 < a2))) := by rw [← HB.out]; unfold betterV; rw [HE2.out, decide_eq_true h0]; rfl
    clear h0
    by_cases g1 : c0 < a0
    · have HV : Hid (B = true) := by rw [HM.out]; exact decide_eq_true (.inl g1)
      go_wp2_with fail
      go_meet
      case rel => exact ⟨by rw [HV.out], rfl⟩
    by_cases g2 : a0 = c0
    rotate_left
    · have HV : Hid (B = false) := by rw [HM.out]; exact decide_eq_false fun q => q.elim g1 fun q => g2 q.1
      have hd2 : (a0 == c0) = false := by rw [beq_eq_false_iff_ne]; exact g2
      go_wp2_with fail
      go_meet
      case rel => exact ⟨by rw [HV.out], rfl⟩
    have hd2 : (a0 == c0) = true := by rw [g2]; exact beq_self_eq_true _
    by_cases g3 : c2 < a2
    · have HV : Hid (B = true) := by rw [HM.out]; exact decide_eq_true (.inr ⟨g2, g3⟩)
      clear g2
      go_wp2_with fail
      go_meet
      case rel => exact ⟨by rw [HV.out], rfl⟩
    · have HV : Hid (B = false) := by rw [HM.out]; exact decide_eq_false fun q => q.elim g1 fun q => g3 q.2
      clear g2
      go_wp2_with fail
      go_meet
      case rel => exact ⟨by rw [HV.out], rfl⟩
  obtain ⟨rfl, rfl⟩ := hcut
  have cB := fun w1 => WalkHdOne.better_any ⟨a0, a1, a2, a3⟩ ⟨c0, c1, c2, c3⟩ w1
  rw [HB.out, HE2.out] at cB
  unfold hv at cB
  simp only at cB
  go_wp2_with fail
  refine (cB _).mono ?_
  rintro e w1 ⟨rfl, b1⟩
  replace hx := hx.below b1
  replace hy := hy.below b1
  replace bd := bt bd b1
  clear cB b1 HB HE2 p0 p1 p2 p3 q0 q1 q2 q3
  go_wp2_with fail
  refine (cErr _ _ bd).mono ?_
  rintro e w2 ⟨rfl, b2⟩
  replace hx := hx.below b2
  replace hy := hy.below b2
  replace bd := bt bd b2
  clear b2
  -- what is signed
  obtain ⟨p0, p1, p2, p3⟩ := HA.out.below bd
  simp only at p0 p1 p2 p3
  have lx := Lists.block_lt hx.size
  have ly := Lists.block_lt hy.size
  have hq := quad_new w2 a0 a1 a2 a3
  have hg2 : w0.heap.size ≤ w2.heap.size := bd.size
  simp only at lx ly
  replace hx := hx.alloc (.cells #[.int .i64 a0, .int .i64 a1, .int .i64 a2, .int .i64 a3] 59)
  replace hy := hy.alloc (.cells #[.int .i64 a0, .int .i64 a1, .int .i64 a2, .int .i64 a3] 59)
  replace bd := bd.alloc bd.size (.cells #[.int .i64 a0, .int .i64 a1, .int .i64 a2, .int .i64 a3] 59)
  go_upto_region 18 with fail
  generalize w2.alloc (.cells #[.int .i64 a0, .int .i64 a1, .int .i64 a2, .int .i64 a3] 59) = w4 at hx hy hq bd ⊢
  clear p0 p1 p2 p3
  have r3 := (at_quad hq).sign
  have f3 := hq.frozen 3
  simp only at r3
  go_upto_region 19 with fail
  replace hx := at_other hx ⟨w2.heap.size, 3, none⟩ (by simp only; omega) (.int .i64 0)
  replace hy := at_other hy ⟨w2.heap.size, 3, none⟩ (by simp only; omega) (.int .i64 0)
  replace bd := bd.setCell (p := ⟨w2.heap.size, 3, none⟩) hg2 (.int .i64 0)
  replace hq := quad_sign hq 0
  clear r3 f3
  generalize w4.setCell ⟨w2.heap.size, 3, none⟩ (.int .i64 0) = w5 at hx hy hq bd ⊢
  obtain ⟨K, HK⟩ : ∃ K : Bool, Hid (isKey key = K) := ⟨_, rfl⟩
  obtain ⟨E3, HE3⟩ : ∃ E3 : Nat, Hid (headE ⟨a0, a1, a2, 0⟩ = E3) := ⟨_, rfl⟩
  obtain ⟨S, HSE⟩ : ∃ S : Nat, Hid (signE ⟨a0, a1, a2, a3⟩ key = S) := ⟨_, rfl⟩
  have cK := WalkHeadRef.key_any key w5
  rw [HK.out] at cK
  have cH := fun w1 => WalkHeadRef.head_any ⟨a0, a1, a2, 0⟩ w1
  rw [HE3.out] at cH
  unfold hv at cH
  simp only at cH
  go_wp2_with fail
  refine cK.mono ?_
  rintro e w6 ⟨rfl, rfl⟩
  clear cK
  obtain ⟨p0, p1, p2, p3⟩ := at_quad hq
  simp only at p0 p1 p2 p3
  go_wp2_with fail
  refine (cH _).mono ?_
  rintro e w6 ⟨rfl, b6⟩
  replace hq := hq.of_block (b6.block _ hq.lt)
  replace hx := hx.below b6
  replace hy := hy.below b6
  replace bd := bt bd b6
  clear cH b6 p0 p1 p2 p3
  go_upto_if 109 with fail
  go_cut [9] from 108 to 109 (fun v wn => v = .int .i64 (S : Int) ∧ w6 = wn)
  case first => as_aux_lemma =>
    cases K
    · have HV : Hid (S = 1) := by rw [← HSE.out]; exact if_neg fun q => by rw [HK.out] at q; cases q.1
      go_wp2_with fail
      go_meet
      case rel => exact ⟨by rw [HV.out]; rfl, rfl⟩
    · have HV : Hid (E3 = S) := by
        rw [← HSE.out, ← HE3.out]
        show headE ⟨a0, a1, a2, 0⟩ = if isKey key = true ∧ ok ⟨a0, a1, a2, 0⟩ = true then 0 else 1
        rw [HK.out]
        unfold headE
        simp
      go_wp2_with fail
      go_meet
      case rel => exact ⟨by rw [HV.out], rfl⟩
  obtain ⟨rfl, rfl⟩ := hcut
  clear HE3
  have lq := hq.lt
  have hw := quad_new w6 0 0 0 0
  have hg6 : w0.heap.size ≤ w6.heap.size := bd.size
  have lx6 := Lists.block_lt hx.size
  have ly6 := Lists.block_lt hy.size
  simp only at lx6 ly6
  replace hq := hq.alloc (.cells #[.int .i64 0, .int .i64 0, .int .i64 0, .int .i64 0] 59)
  replace hx := hx.alloc (.cells #[.int .i64 0, .int .i64 0, .int .i64 0, .int .i64 0] 59)
  replace hy := hy.alloc (.cells #[.int .i64 0, .int .i64 0, .int .i64 0, .int .i64 0] 59)
  replace bd := bd.alloc bd.size (.cells #[.int .i64 0, .int .i64 0, .int .i64 0, .int .i64 0] 59)
  obtain ⟨X, HX⟩ : ∃ X : Head, Hid (signV ⟨a0, a1, a2, a3⟩ key = X) := ⟨_, rfl⟩
  obtain ⟨x0, x1, x2, x3⟩ := X
  go_upto_if 111 with fail
  generalize w6.alloc (.cells #[.int .i64 0, .int .i64 0, .int .i64 0, .int .i64 0] 59) = w8 at hw hq hx hy bd ⊢
  go_cut [9] from 110 to 116 (fun v wn => v = .int .i64 (S : Int) ∧ At wn w6.heap.size ⟨x0, x1, x2, x3⟩ ∧ At wn w7.heap.size ⟨y0, y1, y2, y3⟩ ∧ At wn w9.heap.size ⟨y0, y1, y2, y3⟩ ∧ Below w0.heap.size w0 wn)
  case first => as_aux_lemma =>
    by_cases h0 : S = 0
    rotate_left
    · have hd : (((S : Nat) : Int) == 0) = false := by rw [beq_eq_false_iff_ne]; omega
      have HV : Hid ((⟨x0, x1, x2, x3⟩ : Head) = ⟨0, 0, 0, 0⟩) := by rw [← HX.out]; exact if_neg (by rw [HSE.out]; exact h0)
      clear h0
      go_wp2_with fail
      go_meet
      case rel =>
        refine ⟨rfl, ?_, hx, hy, bd⟩
        rw [HV.out]
        exact at_quad hw
    have hd : (((S : Nat) : Int) == 0) = true := by rw [h0]; rfl
    have h0' : signE ⟨a0, a1, a2, a3⟩ key = 0 := by rw [HSE.out]; exact h0
    have HV : Hid ((⟨x0, x1, x2, x3⟩ : Head) = ⟨a0, a1, a2, signOf ⟨a0, a1, a2, 0⟩ key⟩) := by rw [← HX.out]; exact if_pos h0'
    have hk : isKey key = true ∧ ok ⟨a0, a1, a2, 0⟩ = true := by
      unfold signE at h0'
      split at h0'
      · assumption
      · cases h0'
    have cS := fun w1 => WalkHeadRef.signed_any ⟨a0, a1, a2, 0⟩ key w1 hk.2 hk.1
    unfold hv at cS
    simp only at cS
    generalize signOf ⟨a0, a1, a2, 0⟩ key = Z at cS HV
    clear h0 h0' hk HX HSE
    obtain ⟨p0, p1, p2, p3⟩ := at_quad hq
    obtain ⟨r0, r1, r2, r3⟩ := at_quad hw
    simp only at p0 p1 p2 p3 r0 r1 r2 r3
    have f0 := hw.frozen 0
    have f1 := hw.frozen 1
    have f2 := hw.frozen 2
    have f3 := hw.frozen 3
    go_upto_region 26 with fail
    replace hx := at_other (at_other (at_other (at_other hx ⟨w6.heap.size, 0, none⟩ (by simp only; omega) (.int .i64 a0)) ⟨w6.heap.size, 1, none⟩ (by simp only; omega) (.int .i64 a1)) ⟨w6.heap.size, 2, none⟩ (by simp only; omega) (.int .i64 a2)) ⟨w6.heap.size, 3, none⟩ (by simp only; omega) (.int .i64 0)
    replace hy := at_other (at_other (at_other (at_other hy ⟨w6.heap.size, 0, none⟩ (by simp only; omega) (.int .i64 a0)) ⟨w6.heap.size, 1, none⟩ (by simp only; omega) (.int .i64 a1)) ⟨w6.heap.size, 2, none⟩ (by simp only; omega) (.int .i64 a2)) ⟨w6.heap.size, 3, none⟩ (by simp only; omega) (.int .i64 0)
    have hp := at_other (at_other (at_other (at_other (at_quad hq) ⟨w6.heap.size, 0, none⟩ (by simp only; omega) (.int .i64 a0)) ⟨w6.heap.size, 1, none⟩ (by simp only; omega) (.int .i64 a1)) ⟨w6.heap.size, 2, none⟩ (by simp only; omega) (.int .i64 a2)) ⟨w6.heap.size, 3, none⟩ (by simp only; omega) (.int .i64 0)
    replace hw := quad_set hw a0 a1 a2 0
    replace bd := set_below bd hg6 (.int .i64 a0) (.int .i64 a1) (.int .i64 a2) (.int .i64 0)
    clear p0 p1 p2 p3 r0 r1 r2 r3 f0 f1 f2 f3 hq
    generalize (((w8.setCell ⟨w6.heap.size, 0, none⟩ (.int .i64 a0)).setCell ⟨w6.heap.size, 1, none⟩ (.int .i64 a1)).setCell ⟨w6.heap.size, 2, none⟩ (.int .i64 a2)).setCell ⟨w6.heap.size, 3, none⟩ (.int .i64 0) = wb at hx hy hp hw bd ⊢
    obtain ⟨p0, p1, p2, p3⟩ := hp
    simp only at p0 p1 p2 p3
    go_wp2_with fail
    refine (cS _).mono ?_
    rintro e wd ⟨rfl, bb⟩
    replace hw := hw.of_block (bb.block _ hw.lt)
    replace hx := hx.below bb
    replace hy := hy.below bb
    replace bd := bt bd bb
    clear cS bb p0 p1 p2 p3
    have r3 := (at_quad hw).sign
    have f3 := hw.frozen 3
    simp only at r3
    go_wp2_with fail
    go_meet
    case rel =>
      refine ⟨rfl, ?_, at_other hx _ (by simp only; omega) _, at_other hy _ (by simp only; omega) _, bd.setCell hg6 _⟩
      rw [HV.out]
      exact at_quad (quad_sign hw Z)
  obtain ⟨rfl, hw', hx', hy', be⟩ := hcut
  clear hw hq hx hy bd
  have cS := fun w1 h1 => WalkHdSign.sign_any ⟨a0, a1, a2, a3⟩ key w1 h1
  rw [HX.out, HSE.out] at cS
  unfold hv at cS
  simp only at cS
  clear HX HSE HK HC
  obtain ⟨p0, p1, p2, p3⟩ := HA.out.below be
  simp only at p0 p1 p2 p3
  go_wp2_with fail
  refine (cS _ (HTb.out.below be)).mono ?_
  rintro e wd ⟨rfl, bb⟩
  replace hw' := (hw'.below bb).alloc (.cells #[.int .i64 x0, .int .i64 x1, .int .i64 x2, .int .i64 x3] 59)
  replace hx' := (hx'.below bb).alloc (.cells #[.int .i64 x0, .int .i64 x1, .int .i64 x2, .int .i64 x3] 59)
  replace hy' := (hy'.below bb).alloc (.cells #[.int .i64 x0, .int .i64 x1, .int .i64 x2, .int .i64 x3] 59)
  have hz := At.new wd x0 x1 x2 x3
  replace be := bt be bb
  replace be := be.alloc be.size (.cells #[.int .i64 x0, .int .i64 x1, .int .i64 x2, .int .i64 x3] 59)
  clear cS bb p0 p1 p2 p3
  go_upto_region 28 with fail
  generalize wd.alloc (.cells #[.int .i64 x0, .int .i64 x1, .int .i64 x2, .int .i64 x3] 59) = we at hw' hx' hy' hz be ⊢
  go_wp2_with fail
  refine (cErr _ _ be).mono ?_
  rintro e wz ⟨rfl, bb⟩
  replace hw' := hw'.below bb
  replace hx' := hx'.below bb
  replace hy' := hy'.below bb
  replace hz := hz.below bb
  replace be := bt be bb
  have HBE : Hid (Below w.heap.size w wz) := bt HB0.out be
  clear bb be cErr HL HA HB0
  obtain ⟨p0, p1, p2, p3⟩ := hw'
  obtain ⟨q0, q1, q2, q3⟩ := hx'
  obtain ⟨r0, r1, r2, r3⟩ := hy'
  obtain ⟨t0, t1, t2, t3⟩ := hz
  simp only at p0 p1 p2 p3 q0 q1 q2 q3 r0 r1 r2 r3 t0 t1 t2 t3
  have e2 : (B == B) = true := beq_self_eq_true _
  go_wp2_with fail
  go_ret
  exact ⟨rfl, HBE.out⟩

end Go.Proofs.YtibmgmadoaencadDoor.WalkHeadTells
