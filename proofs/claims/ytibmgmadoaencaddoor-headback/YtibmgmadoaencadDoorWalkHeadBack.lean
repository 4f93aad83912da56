/-
  The walk of HeadBack: what was signed is looked at and right, and read as it was; signed again it has the same sign; any text of a head is read, and written so.
-/
import Derived.Test.YtibmgmadoaencadDoorWalkHdOne
import Derived.Test.YtibmgmadoaencadDoorWalkHdSign
import Derived.Test.YtibmgmadoaencadDoorWalkHdRead
import Derived.Test.YtibmgmadoaencadDoorWalkSum
import Derived.Deep.CutBlock
import Derived.Lib.QuietBelow
namespace Go.Proofs.YtibmgmadoaencadDoor.WalkHeadBack
open Go.RowKit
open Lists (bt)
open Errs (errv errv0 errv_pos)
open Heads (Head ok headE signV signE verifyE signOf isKey print parse zero said)
open HeadVals (hv aggH sizeH At)
open Nums (str)
open Go.Sort (grow)

theorem fact_said : (⟨#[51, 32, 48, 48, 48, 48, 48, 48, 102, 102, 32, 57, 32, 55]⟩ : ByteArray).data.toList = said ⟨3, 255, 9, 0⟩ 7 := by decide +kernel
theorem fact_ok : signE ⟨3, 255, 9, 0⟩ 7 = 0 := by decide +kernel
theorem fact_is : signV ⟨3, 255, 9, 0⟩ 7 = ⟨3, 255, 9, signOf ⟨3, 255, 9, 0⟩ 7⟩ := by
  unfold signV
  rw [if_pos fact_ok]
theorem fact_right : verifyE ⟨3, 255, 9, signOf ⟨3, 255, 9, 0⟩ 7⟩ 7 = 0 := by
  unfold verifyE
  rw [if_pos ⟨by decide +kernel, Heads.ok_iff.2 ⟨by decide, by decide +kernel, Heads.signOf_valid _ _⟩⟩]
  exact if_pos rfl
theorem beq_yes (x : ByteArray) : (x.toList == x.toList) = true := beq_self_eq_true _
/-- what was signed -/
theorem signed {h : Head} {key : Int} (hs : signE h key = 0) : signV h key = ⟨h.size, h.root, h.time, signOf h key⟩ ∧ ok ⟨h.size, h.root, h.time, signOf h key⟩ = true ∧ verifyE ⟨h.size, h.root, h.time, signOf h key⟩ key = 0 ∧ signE ⟨h.size, h.root, h.time, 0⟩ key = 0 ∧ signV ⟨h.size, h.root, h.time, 0⟩ key = ⟨h.size, h.root, h.time, signOf h key⟩ := by
  have hq : isKey key = true ∧ ok (Heads.blank h) = true := by
    unfold signE at hs
    split at hs
    · assumption
    · cases hs
  obtain ⟨q1, q2, _⟩ := Heads.ok_iff.1 hq.2
  have e1 : ok ⟨h.size, h.root, h.time, signOf h key⟩ = true := Heads.ok_iff.2 ⟨q1, q2, Heads.signOf_valid _ _⟩
  have e2 : signE ⟨h.size, h.root, h.time, 0⟩ key = 0 := if_pos ⟨hq.1, hq.2⟩
  refine ⟨?_, e1, ?_, e2, ?_⟩
  · unfold signV
    rw [if_pos hs]
  · unfold verifyE
    rw [if_pos ⟨hq.1, e1⟩]
    exact if_pos rfl
  · unfold signV
    rw [if_pos e2]
    rfl
theorem print_small {h : Head} (hk : ok h = true) : (str (print h)).size ≤ 1048576 := by
  obtain ⟨⟨h1, h2, h3, h4⟩, _, _⟩ := Heads.ok_iff.1 hk
  have d1 := Decimals.dec_length 8 h.size.toNat (by omega)
  have d2 := Decimals.dec_length 8 h.time.toNat (by omega)
  rw [Nums.str_size]
  unfold print
  simp only [List.length_append, List.length_cons, Nums.text_length]
  omega

set_option maxHeartbeats 16000000 in
set_option maxRecDepth 100000 in
theorem walk (a0 : Int) (_ : (Lit.int .i64 a0).wf = true) (a1 : Int) (_ : (Lit.int .i64 a1).wf = true) (a2 : Int) (_ : (Lit.int .i64 a2).wf = true) (a3 : Int) (_ : (Lit.int .i64 a3).wf = true)
    (key : Int) (_ : (Lit.int .i64 key).wf = true) (s : ByteArray) (hs : s.size ≤ 140737488351232) (w : World) (hK : WalkHdLib.Tabs w) :
    Calls Tryd.prog 6 #[.agg #[.int .i64 a0, .int .i64 a1, .int .i64 a2, .int .i64 a3], .int .i64 key, .string s] w fun e w' => e = .returned (.bool true) ∧ Below w.heap.size w w' := by
  have HS : Hid (s.size ≤ 140737488351232) := hs
  have HK : Hid (WalkHdLib.Tabs w) := hK
  have cF := fun w1 h1 => WalkHdSign.sign_any ⟨3, 255, 9, 0⟩ 7 w1 h1
  rw [fact_ok, fact_is, errv0] at cF
  have cV := fun w1 h1 => WalkHdSign.verify_any ⟨3, 255, 9, signOf ⟨3, 255, 9, 0⟩ 7⟩ 7 w1 h1
  rw [fact_right, errv0] at cV
  have cM := fun w1 => WalkSum.sum_any ⟨#[51, 32, 48, 48, 48, 48, 48, 48, 102, 102, 32, 57, 32, 55]⟩ w1 (by decide)
  rw [fact_said] at cM
  change ∀ w1, Calls Tryd.prog 35 #[.string ⟨#[51, 32, 48, 48, 48, 48, 48, 48, 102, 102, 32, 57, 32, 55]⟩] w1 fun e w' => e = .returned (.int .i64 (signOf ⟨3, 255, 9, 0⟩ 7)) ∧ w' = w1 at cM
  unfold hv at cF cV
  simp only at cF cV
  generalize signOf ⟨3, 255, 9, 0⟩ 7 = S at cF cV cM
  have b0 : Below w.heap.size w ((w.alloc (.cells #[.int .i64 a0, .int .i64 a1, .int .i64 a2, .int .i64 a3] 59)).alloc (.cells #[.int .i64 3, .int .i64 255, .int .i64 9, .int .i64 0] 59)) := ((Below.refl _ _).alloc (Nat.le_refl _) _).alloc (by simp) _
  have hA : At ((w.alloc (.cells #[.int .i64 a0, .int .i64 a1, .int .i64 a2, .int .i64 a3] 59)).alloc (.cells #[.int .i64 3, .int .i64 255, .int .i64 9, .int .i64 0] 59)) w.heap.size ⟨a0, a1, a2, a3⟩ := (At.new w a0 a1 a2 a3).alloc _
  have a42 := aggH
  have z42 := sizeH
  clear hs hK
  go_enter Tryd.func6, Tryd.ntmps6
  go_wp2_with fail
  generalize (w.alloc (.cells #[.int .i64 a0, .int .i64 a1, .int .i64 a2, .int .i64 a3] 59)).alloc (.cells #[.int .i64 3, .int .i64 255, .int .i64 9, .int .i64 0] 59) = w0 at b0 hA ⊢
  refine (cF _ (HK.out.below b0)).mono ?_
  rintro e w1 ⟨rfl, b1⟩
  replace hA := hA.below b1
  replace b0 := bt b0 b1
  clear cF b1
  go_upto_region 3 with fail
  have hF := At.new w1 3 255 9 S
  replace hA := hA.alloc (.cells #[.int .i64 3, .int .i64 255, .int .i64 9, .int .i64 S] 59)
  replace b0 := b0.alloc b0.size (.cells #[.int .i64 3, .int .i64 255, .int .i64 9, .int .i64 S] 59)
  generalize w1.alloc (.cells #[.int .i64 3, .int .i64 255, .int .i64 9, .int .i64 S] 59) = w2 at hA hF b0 ⊢
  have d1 : ∀ dd os, Calls Tryd.prog 35 #[.string ⟨#[51, 32, 48, 48, 48, 48, 48, 48, 102, 102, 32, 57, 32, 55]⟩] (grow (redrawn w2 dd) os) fun e w'' => e = .returned (.int .i64 S) ∧ ∃ p : Regrown, w'' = grow (redrawn w2 p.d) p.os := fun dd os => Calls.regrown_of ((cM _).mono fun e w' ⟨h1, h2⟩ => ⟨h1, by rw [h2]; exact Below.refl _ _⟩)
  have d2 : ∀ dd os, Calls Tryd.prog 29 #[.agg #[.int .i64 3, .int .i64 255, .int .i64 9, .int .i64 S], .int .i64 7] (grow (redrawn w2 dd) os) fun e w'' => e = .returned .nilIface ∧ ∃ p : Regrown, w'' = grow (redrawn w2 p.d) p.os := fun dd os => Calls.regrown_of (cV _ (HK.out.below (bt b0 (below_regrown w2 dd os))))
  have r0 := fun dd os => cell_regrown hF.size dd os
  have r1 := fun dd os => cell_regrown hF.root dd os
  have r2 := fun dd os => cell_regrown hF.time dd os
  have r3 := fun dd os => cell_regrown hF.sign dd os
  have hq : (S != S) = false := by simp
  clear cM cV
  refine wp_region_quiet_below (by kernel_rfl) (by kernel_rfl) ?_
  repeat (quiet_step (fail))
  quiet_step (exact d1 _ _)
  repeat (quiet_step (fail))
  quiet_step (exact d2 _ _)
  repeat (quiet_step (fail))
  refine wpQuiet_nil ?_
  intro _ hw'
  obtain ⟨⟨dq, osq⟩, hw''⟩ := hw'
  subst hw''
  have b3 := below_regrown w2 dq osq
  replace hA := hA.below b3
  replace b0 := bt b0 b3
  clear d1 d2 r0 r1 r2 r3 hF b3
  generalize grow (redrawn w2 dq) osq = w3 at hA b0 ⊢
  -- what is signed
  obtain ⟨p0, p1, p2, p3⟩ := hA
  have cS := WalkHdSign.sign_any ⟨a0, a1, a2, a3⟩ key w3 (HK.out.below b0)
  obtain ⟨B1, HB1⟩ : ∃ B1 : Bool, Hid (decide (signE ⟨a0, a1, a2, a3⟩ key = 0) = B1) := ⟨_, rfl⟩
  obtain ⟨X, HX⟩ : ∃ X : Head, Hid (signV ⟨a0, a1, a2, a3⟩ key = X) := ⟨_, rfl⟩
  rw [HX.out] at cS
  obtain ⟨x0, x1, x2, x3⟩ := X
  unfold hv at cS
  simp only at cS
  go_wp2_with fail
  refine cS.mono ?_
  rintro e w4 ⟨rfl, b4⟩
  replace b0 := bt b0 b4
  clear cS b4 p0 p1 p2 p3
  have hX := At.new w4 x0 x1 x2 x3
  have hg5 : w.heap.size ≤ w4.heap.size := b0.size
  replace b0 := b0.alloc b0.size (.cells #[.int .i64 x0, .int .i64 x1, .int .i64 x2, .int .i64 x3] 59)
  go_upto_region 6 with fail
  generalize w4.alloc (.cells #[.int .i64 x0, .int .i64 x1, .int .i64 x2, .int .i64 x3] 59) = w5 at hX b0 ⊢
  go_cut [11, 39, 42, 44, 46] from 45 to 45 (fun _ _ _ _ v wc => v = .bool B1 ∧ w5 = wc)
  case first => as_aux_lemma =>
    by_cases hE : signE ⟨a0, a1, a2, a3⟩ key = 0
    · have HV : Hid (B1 = true) := by rw [← HB1.out]; exact decide_eq_true hE
      rw [hE, errv0]
      clear hE
      go_wp2_with fail
      go_meet
      case rel => exact ⟨by rw [HV.out], rfl⟩
    · have HV : Hid (B1 = false) := by rw [← HB1.out]; exact decide_eq_false hE
      rw [errv_pos _ hE]
      clear hE
      go_wp2_with fail
      go_meet
      case rel => exact ⟨by rw [HV.out], rfl⟩
  obtain ⟨rfl, rfl⟩ := hcut
  go_upto_if 46 with fail
  go_cut [12, 13, 14, 15, 16] from 46 to 87 (fun _ _ _ _ _ wc => Below w.heap.size w wc)
  case first => as_aux_lemma =>
    cases B1
    rotate_left
    · have hE := of_decide_eq_true HB1.out
      obtain ⟨g1, g2, g3, g4, g5⟩ := signed hE
      rw [HX.out] at g1
      simp only at g1 g2 g3 g4 g5
      have cP := WalkHdSign.print_any ⟨x0, x1, x2, x3⟩ w5 (HK.out.below b0)
      rw [g1] at cP
      have hz := Heads.headE_zero.2 g2
      rw [hz, if_pos rfl, errv0] at cP
      have hsm := print_small g2
      have cR := fun w1 => WalkHdRead.parse_any (str (print ⟨a0, a1, a2, signOf ⟨a0, a1, a2, a3⟩ key⟩)) w1 (by omega)
      rw [Nums.str_data, Heads.parse_print g2, errv0] at cR
      have cV := fun w1 h1 => WalkHdSign.verify_any ⟨a0, a1, a2, signOf ⟨a0, a1, a2, a3⟩ key⟩ key w1 h1
      rw [g3, errv0] at cV
      have cZ := fun w1 h1 => WalkHdSign.sign_any ⟨a0, a1, a2, 0⟩ key w1 h1
      rw [g4, g5, errv0] at cZ
      simp only [Head.mk.injEq] at g1
      obtain ⟨rfl, rfl, rfl, rfl⟩ := g1
      unfold hv at cP cR cV cZ
      simp only at cP cR cV cZ
      generalize signOf ⟨x0, x1, x2, a3⟩ key = S2 at *
      generalize str (print ⟨x0, x1, x2, S2⟩) = T at cP cR
      obtain ⟨p0, p1, p2, p3⟩ := hX
      simp only at p0 p1 p2 p3
      have hX5 : At w5 w4.heap.size ⟨x0, x1, x2, S2⟩ := ⟨p0, p1, p2, p3⟩
      clear hE g2 g3 g4 g5 hz hsm HX
      go_wp2_with fail
      refine cP.mono ?_
      rintro e w6 ⟨rfl, b6⟩
      have hX6 := hX5.below b6
      replace b0 := bt b0 b6
      clear cP b6 p0 p1 p2 p3 hX5
      go_wp2_with fail
      refine (cR _).mono ?_
      rintro e w7 ⟨rfl, b7⟩
      have hX7 := (hX6.below b7).alloc (.cells #[.int .i64 x0, .int .i64 x1, .int .i64 x2, .int .i64 S2] 59)
      have hY7 := At.new w7 x0 x1 x2 S2
      replace b0 := bt b0 b7
      have hg7 : w.heap.size ≤ w7.heap.size := b0.size
      have hlt7 : w4.heap.size < w7.heap.size := Nat.lt_of_lt_of_le (Lists.block_lt hX6.size) b7.size
      have HRw : Hid ((w7.alloc (.cells #[.int .i64 x0, .int .i64 x1, .int .i64 x2, .int .i64 S2] 59)).frozen? ⟨w7.heap.size, 3, none⟩ = false) := by show _ = _; simp
      replace b0 := b0.alloc b0.size (.cells #[.int .i64 x0, .int .i64 x1, .int .i64 x2, .int .i64 S2] 59)
      clear cR b7 hX6
      go_upto_region 9 with fail
      generalize w7.alloc (.cells #[.int .i64 x0, .int .i64 x1, .int .i64 x2, .int .i64 S2] 59) = w8 at hX7 hY7 b0 HRw ⊢
      obtain ⟨p0, p1, p2, p3⟩ := hX7
      obtain ⟨q0, q1, q2, q3⟩ := hY7
      simp only at p0 p1 p2 p3 q0 q1 q2 q3
      have hX8 : At w8 w4.heap.size ⟨x0, x1, x2, S2⟩ := ⟨p0, p1, p2, p3⟩
      have hY8 : At w8 w7.heap.size ⟨x0, x1, x2, S2⟩ := ⟨q0, q1, q2, q3⟩
      go_wp2_with fail
      refine (cV _ (HK.out.below b0)).mono ?_
      rintro e w9 ⟨rfl, b9⟩
      have hX9 := hX8.below b9
      have hY9 := hY8.below b9
      have f3 : w9.frozen? ⟨w7.heap.size, 3, none⟩ = false := (b9.frozen (p := ⟨w7.heap.size, 3, none⟩) (Lists.block_lt hY8.sign)).trans HRw.out
      replace b0 := bt b0 b9
      clear cV b9 p0 p1 p2 p3 q0 q1 q2 q3 hX8 hY8 HRw
      have q3 := hY9.sign
      simp only at q3
      go_upto_region 12 with fail
      have nX : ∀ j, (⟨w7.heap.size, 3, none⟩ : Addr) ≠ ⟨w4.heap.size, j, none⟩ := fun j h => by
        have := congrArg Addr.block h
        simp only at this
        omega
      have hXa : At (w9.setCell ⟨w7.heap.size, 3, none⟩ (.int .i64 0)) w4.heap.size ⟨x0, x1, x2, S2⟩ := ⟨(World.cell?_setCell_other _ _ _ _ (nX 0)).trans hX9.size, (World.cell?_setCell_other _ _ _ _ (nX 1)).trans hX9.root, (World.cell?_setCell_other _ _ _ _ (nX 2)).trans hX9.time, (World.cell?_setCell_other _ _ _ _ (nX 3)).trans hX9.sign⟩
      have hYa : At (w9.setCell ⟨w7.heap.size, 3, none⟩ (.int .i64 0)) w7.heap.size ⟨x0, x1, x2, 0⟩ := ⟨(World.cell?_setCell_other _ _ _ _ (by simp)).trans hY9.size, (World.cell?_setCell_other _ _ _ _ (by simp)).trans hY9.root, (World.cell?_setCell_other _ _ _ _ (by simp)).trans hY9.time, World.cell?_setCell_same _ _ _ hY9.sign⟩
      replace b0 := b0.setCell (p := ⟨w7.heap.size, 3, none⟩) hg7 (.int .i64 0)
      clear hX9 hY9 f3 q3
      generalize w9.setCell ⟨w7.heap.size, 3, none⟩ (.int .i64 0) = wa at hXa hYa b0 ⊢
      obtain ⟨q0, q1, q2, q3⟩ := hYa
      simp only at q0 q1 q2 q3
      go_wp2_with fail
      refine (cZ _ (HK.out.below b0)).mono ?_
      rintro e wb ⟨rfl, bb⟩
      have hXb := (hXa.below bb).alloc (.cells #[.int .i64 x0, .int .i64 x1, .int .i64 x2, .int .i64 S2] 59)
      have hYb := At.new wb x0 x1 x2 S2
      replace b0 := bt b0 bb
      replace b0 := b0.alloc b0.size (.cells #[.int .i64 x0, .int .i64 x1, .int .i64 x2, .int .i64 S2] 59)
      clear cZ bb hXa q0 q1 q2 q3
      go_upto_region 13 with fail
      generalize wb.alloc (.cells #[.int .i64 x0, .int .i64 x1, .int .i64 x2, .int .i64 S2] 59) = wz at hXb hYb b0 ⊢
      obtain ⟨p0, p1, p2, p3⟩ := hXb
      obtain ⟨q0, q1, q2, q3⟩ := hYb
      simp only at p0 p1 p2 p3 q0 q1 q2 q3
      go_wp2_with fail
      go_meet
      case rel => exact b0
    · go_wp2_with fail
      go_meet
      case rel => exact b0
  have bf : Below w.heap.size w wc := hcut
  clear hcut b0
  go_wp2_with fail
  refine (WalkHdRead.parse_any s _ HS.out).mono ?_
  rintro e w9 ⟨rfl, b9⟩
  replace bf := bt bf b9
  clear b9
  obtain ⟨Y, HY⟩ : ∃ Y : Head × Nat, Hid (parse s.data.toList = Y) := ⟨_, rfl⟩
  rw [HY.out]
  obtain ⟨⟨y0, y1, y2, y3⟩, E⟩ := Y
  unfold hv
  simp only
  replace bf := bf.alloc bf.size (.cells #[.int .i64 y0, .int .i64 y1, .int .i64 y2, .int .i64 y3] 59)
  obtain ⟨k0, k1, k2, k3⟩ := At.new w9 y0 y1 y2 y3
  simp only at k0 k1 k2 k3
  by_cases hE : E = 0
  · subst hE
    rw [errv0]
    obtain ⟨q1, q2⟩ := Heads.print_parse HY.out
    have cP := fun w1 h1 => WalkHdSign.print_any ⟨y0, y1, y2, y3⟩ w1 h1
    rw [Heads.headE_zero.2 q2, if_pos rfl, errv0, q1] at cP
    have e1 := beq_yes (str s.data.toList)
    have e2 : str s.data.toList = s := Nums.str_of s
    rw [e2] at e1 cP
    unfold hv at cP
    simp only at cP
    clear q1 q2 HY e2
    go_upto_region 18 with fail
    generalize w9.alloc (.cells #[.int .i64 y0, .int .i64 y1, .int .i64 y2, .int .i64 y3] 59) = w10 at k0 k1 k2 k3 bf ⊢
    go_wp2_with fail
    refine (cP _ (HK.out.below bf)).mono ?_
    rintro e w11 ⟨rfl, b11⟩
    have HBE : Hid (Below w.heap.size w w11) := bt bf b11
    clear cP b11 bf
    go_wp2_with fail
    go_ret
    exact ⟨rfl, HBE.out⟩
  · rw [errv_pos _ hE]
    have HBE : Hid (Below w.heap.size w (w9.alloc (.cells #[.int .i64 y0, .int .i64 y1, .int .i64 y2, .int .i64 y3] 59))) := bf
    clear hE bf k0 k1 k2 k3 HY
    go_wp2_with fail
    go_ret
    exact ⟨rfl, HBE.out⟩

end Go.Proofs.YtibmgmadoaencadDoor.WalkHeadBack
