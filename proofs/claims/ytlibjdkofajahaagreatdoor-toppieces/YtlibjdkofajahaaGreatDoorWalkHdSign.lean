/-
  A head signed, looked at, and as text: the program's Sign, Verify and Print.
-/
import Derived.Test.YtlibjdkofajahaaGreatDoorWalkHdText
namespace Go.Proofs.YtlibjdkofajahaaGreatDoor.WalkHdSign
open Go.RowKit
open Lists (bt)
open Errs (errv errv0 errv_pos)
open Heads (Head ok headE signV signE verifyE signOf isKey print zero said)
open HeadVals (hv aggH sizeH At)
open Nums (str text valid)
open Decimals (dec)
open WalkHdLib (Tabs)
open WalkReadRef (quad quad_new quad_set set_below)

theorem ret_sign {w : World} {g : Nat} {a b c d : Int} (tmps : Array Value) (hp : tmps.getD 4 undef = .pointer (some ⟨g, 0, none⟩)) (h : w.rowIs g 40 4 (quad a b c d)) :
    (results Tryz.f66 tmps).run Tryz.prog w = .ok (.tuple #[hv ⟨a, b, c, d⟩, tmps.getD 5 undef]) w := by
  have hl := run_loadVar_mid (P := Tryz.prog) w g 0 40 [.int .i64 a, .int .i64 b, .int .i64 c, .int .i64 d] _ (fun j v hv => by
    match j, hv with
    | 0, hv => simp at hv; subst hv; simpa [quad] using h.cell (i := 0) (by omega)
    | 1, hv => simp at hv; subst hv; simpa [quad] using h.cell (i := 1) (by omega)
    | 2, hv => simp at hv; subst hv; simpa [quad] using h.cell (i := 2) (by omega)
    | 3, hv => simp at hv; subst hv; simpa [quad] using h.cell (i := 3) (by omega)) Tryz.underlying40 rfl (by kernel_rfl)
  rw [results_cell_tmp rfl, hp]
  simp [asAddr, hl, Result.andThen, hv]

/-- two heads' blocks, the one laid behind the other -/
theorem two_quads (w : World) (a b c d : Int) : ((w.alloc (.cells #[.int .i64 a, .int .i64 b, .int .i64 c, .int .i64 d] 40)).alloc (.cells #[.int .i64 0, .int .i64 0, .int .i64 0, .int .i64 0] 40)).rowIs w.heap.size 40 4 (quad a b c d) ∧ ((w.alloc (.cells #[.int .i64 a, .int .i64 b, .int .i64 c, .int .i64 d] 40)).alloc (.cells #[.int .i64 0, .int .i64 0, .int .i64 0, .int .i64 0] 40)).rowIs (w.heap.size + 1) 40 4 (quad 0 0 0 0) := by
  refine ⟨(quad_new w a b c d).alloc _, ?_⟩
  have h := quad_new (w.alloc (.cells #[.int .i64 a, .int .i64 b, .int .i64 c, .int .i64 d] 40)) 0 0 0 0
  simpa using h
theorem at_quad {w : World} {g : Nat} {a b c d : Int} (h : w.rowIs g 40 4 (quad a b c d)) : At w g ⟨a, b, c, d⟩ := ⟨by simpa [quad] using h.cell (i := 0) (by omega), by simpa [quad] using h.cell (i := 1) (by omega), by simpa [quad] using h.cell (i := 2) (by omega), by simpa [quad] using h.cell (i := 3) (by omega)⟩
theorem quad_sign {w : World} {g : Nat} {a b c d : Int} (h : w.rowIs g 40 4 (quad a b c d)) (x : Int) : (w.setCell ⟨g, 3, none⟩ (.int .i64 x)).rowIs g 40 4 (quad a b c x) :=
  (h.set 3 _).congr fun j hj => by match j, hj with | 0, _ | 1, _ | 2, _ | 3, _ => rfl | j + 4, h => omega

set_option maxHeartbeats 4000000 in
theorem sign_any (h : Head) (key : Int) (w : World) (hT : Tabs w) :
    Calls Tryz.prog 66 #[hv h, .int .i64 key] w fun e w' => e = .returned (.tuple #[hv (signV h key), errv (signE h key)]) ∧ Below w.heap.size w w' := by
  have a42 := aggH
  have z42 := sizeH
  obtain ⟨s, r, t, g⟩ := h
  have b0 : Below w.heap.size w ((w.alloc (.cells #[.int .i64 s, .int .i64 r, .int .i64 t, .int .i64 0] 40)).alloc (.cells #[.int .i64 0, .int .i64 0, .int .i64 0, .int .i64 0] 40)) := ((Below.refl _ _).alloc (Nat.le_refl _) _).alloc (by simp) _
  obtain ⟨hq, hz⟩ := two_quads w s r t 0
  have HT : Hid (Tabs ((w.alloc (.cells #[.int .i64 s, .int .i64 r, .int .i64 t, .int .i64 0] 40)).alloc (.cells #[.int .i64 0, .int .i64 0, .int .i64 0, .int .i64 0] 40))) := hT.below b0
  clear hT
  by_cases hk : isKey key = true ∧ ok (Heads.blank ⟨s, r, t, g⟩) = true
  · have HC : Hid (∀ w1, Tabs w1 → Calls Tryz.prog 41 #[.agg #[.int .i64 s, .int .i64 r, .int .i64 t, .int .i64 0], .int .i64 key] w1 fun e w' => e = .returned (.tuple #[.int .i64 (signOf ⟨s, r, t, g⟩ key), .nilIface]) ∧ Below w1.heap.size w1 w') := fun w1 h1 => WalkHdText.signOf_yes (Heads.blank ⟨s, r, t, g⟩) key w1 h1 hk.1 hk.2
    have HE : Hid (signE ⟨s, r, t, g⟩ key = 0) := if_pos hk
    have HV : Hid (signV ⟨s, r, t, g⟩ key = ⟨s, r, t, signOf ⟨s, r, t, g⟩ key⟩) := if_pos HE.out
    clear hk
    generalize signOf ⟨s, r, t, g⟩ key = Z at HC HV
    unfold hv
    simp only
    go_enter Tryz.func66, Tryz.ntmps66
    go_upto_region 2 with fail
    generalize (w.alloc (.cells #[.int .i64 s, .int .i64 r, .int .i64 t, .int .i64 0] 40)).alloc (.cells #[.int .i64 0, .int .i64 0, .int .i64 0, .int .i64 0] 40) = w0 at b0 hq hz HT ⊢
    obtain ⟨p0, p1, p2, p3⟩ := at_quad hq
    simp only at p0 p1 p2 p3
    go_wp2_with fail
    refine (HC.out _ HT.out).mono ?_
    rintro e w1 ⟨rfl, b1⟩
    replace hq := hq.of_block (b1.block _ hq.lt)
    replace hz := hz.of_block (b1.block _ hz.lt)
    replace b0 := bt b0 b1
    clear b1 HC HT p0 p1 p2 p3
    have p3 := (at_quad hq).sign
    have f3 := hq.frozen 3
    simp only at p3
    go_upto_region 6 with fail
    have hz2 : (w1.setCell ⟨w.heap.size, 3, none⟩ (.int .i64 Z)).rowIs (w.heap.size + 1) 40 4 (quad 0 0 0 0) := hz.setOther (a := ⟨w.heap.size, 3, none⟩) (by simp) _
    replace hq := quad_sign hq Z
    replace b0 := b0.setCell (p := ⟨w.heap.size, 3, none⟩) (Nat.le_refl _) (.int .i64 Z)
    clear p3 f3 hz
    generalize w1.setCell ⟨w.heap.size, 3, none⟩ (.int .i64 Z) = w2 at hq hz2 b0 ⊢
    obtain ⟨p0, p1, p2, p3⟩ := at_quad hq
    obtain ⟨q0, q1, q2, q3⟩ := at_quad hz2
    simp only at p0 p1 p2 p3 q0 q1 q2 q3
    have f0 := hz2.frozen 0
    have f1 := hz2.frozen 1
    have f2 := hz2.frozen 2
    have f3 := hz2.frozen 3
    have HQ : Hid (w2.rowIs (w.heap.size + 1) 40 4 (quad 0 0 0 0)) := hz2
    have HB : Hid (Below w.heap.size w w2) := b0
    clear hq hz2 b0
    go_wp2_with fail
    try simp only [Exit.inBlock, Exit.then]
    refine bodyPost_ret (ret_sign _ rfl (quad_set HQ.out s r t Z)) rfl ⟨?_, set_below HB.out (Nat.le_succ _) _ _ _ _⟩
    rw [HV.out, HE.out]
    rfl
  · have HC : Hid (∀ w1, Calls Tryz.prog 41 #[.agg #[.int .i64 s, .int .i64 r, .int .i64 t, .int .i64 0], .int .i64 key] w1 fun e w' => e = .returned (.tuple #[.int .i64 0, .iface 67 (.int .i64 1)]) ∧ Below w1.heap.size w1 w') := fun w1 => WalkHdText.signOf_no (Heads.blank ⟨s, r, t, g⟩) key w1 hk
    have HE : Hid (signE ⟨s, r, t, g⟩ key = 1) := if_neg hk
    have HV : Hid (signV ⟨s, r, t, g⟩ key = zero) := if_neg (by rw [HE.out]; decide)
    clear hk
    unfold hv
    simp only
    go_enter Tryz.func66, Tryz.ntmps66
    go_upto_region 2 with fail
    generalize (w.alloc (.cells #[.int .i64 s, .int .i64 r, .int .i64 t, .int .i64 0] 40)).alloc (.cells #[.int .i64 0, .int .i64 0, .int .i64 0, .int .i64 0] 40) = w0 at b0 hq hz HT ⊢
    obtain ⟨p0, p1, p2, p3⟩ := at_quad hq
    simp only at p0 p1 p2 p3
    go_wp2_with fail
    refine (HC.out _).mono ?_
    rintro e w1 ⟨rfl, b1⟩
    replace hz := hz.of_block (b1.block _ hz.lt)
    replace b0 := bt b0 b1
    clear b1 HC HT p0 p1 p2 p3 hq
    obtain ⟨q0, q1, q2, q3⟩ := at_quad hz
    simp only at q0 q1 q2 q3
    have f0 := hz.frozen 0
    have f1 := hz.frozen 1
    have f2 := hz.frozen 2
    have f3 := hz.frozen 3
    have HQ : Hid (w1.rowIs (w.heap.size + 1) 40 4 (quad 0 0 0 0)) := hz
    have HB : Hid (Below w.heap.size w w1) := b0
    clear hz b0
    go_wp2_with fail
    try simp only [Exit.inBlock, Exit.then]
    refine bodyPost_ret (ret_sign _ rfl (quad_set HQ.out 0 0 0 0)) rfl ⟨?_, set_below HB.out (Nat.le_succ _) _ _ _ _⟩
    rw [HV.out, HE.out]
    rfl

set_option maxHeartbeats 4000000 in
theorem verify_any (h : Head) (key : Int) (w : World) (hT : Tabs w) :
    Calls Tryz.prog 14 #[hv h, .int .i64 key] w fun e w' => e = .returned (errv (verifyE h key)) ∧ Below w.heap.size w w' := by
  have a42 := aggH
  have z42 := sizeH
  have b0 : Below w.heap.size w (w.alloc (.cells #[.int .i64 h.size, .int .i64 h.root, .int .i64 h.time, .int .i64 h.sign] 40)) := (Below.refl _ _).alloc (Nat.le_refl _) _
  have hA : At (w.alloc (.cells #[.int .i64 h.size, .int .i64 h.root, .int .i64 h.time, .int .i64 h.sign] 40)) w.heap.size h := At.new w _ _ _ _
  have HT : Hid (Tabs (w.alloc (.cells #[.int .i64 h.size, .int .i64 h.root, .int .i64 h.time, .int .i64 h.sign] 40))) := hT.below b0
  clear hT
  by_cases hk : isKey key = true ∧ ok h = true
  · have HC : Hid (∀ w1, Tabs w1 → Calls Tryz.prog 41 #[hv h, .int .i64 key] w1 fun e w' => e = .returned (.tuple #[.int .i64 (signOf h key), .nilIface]) ∧ Below w1.heap.size w1 w') := fun w1 h1 => WalkHdText.signOf_yes h key w1 h1 hk.1 hk.2
    have HE : Hid (verifyE h key = if h.sign = signOf h key then 0 else 9) := if_pos hk
    clear hk
    generalize verifyE h key = E at HE ⊢
    generalize signOf h key = Z at HC HE
    obtain ⟨s, r, t, g⟩ := h
    unfold hv at *
    simp only at b0 hA HC HT HE ⊢
    go_enter Tryz.func14, Tryz.ntmps14
    go_upto_region 1 with fail
    generalize w.alloc (.cells #[.int .i64 s, .int .i64 r, .int .i64 t, .int .i64 g] 40) = w0 at b0 hA HT ⊢
    obtain ⟨p0, p1, p2, p3⟩ := hA
    simp only at p0 p1 p2 p3
    go_wp2_with fail
    refine (HC.out _ HT.out).mono ?_
    rintro e w1 ⟨rfl, b1⟩
    have q3 := Lists.cell_below b1 p3
    have HB : Hid (Below w.heap.size w w1) := bt b0 b1
    clear b1 HC HT p0 p1 p2 p3 b0
    by_cases hz : g = Z
    · have hd : (Z != g) = false := by rw [hz]; simp
      have HX : Hid (E = 0) := by show E = 0; rw [HE.out, if_pos hz]
      clear hz HE
      go_wp2_with fail
      go_ret
      exact ⟨by rw [HX.out]; rfl, HB.out⟩
    · have hd : (Z != g) = true := by rw [bne_iff_ne]; exact fun q => hz q.symm
      have HX : Hid (E = 9) := by show E = 9; rw [HE.out, if_neg hz]
      clear hz HE
      go_wp2_with fail
      go_ret
      exact ⟨by rw [HX.out]; rfl, HB.out⟩
  · have HC : Hid (∀ w1, Calls Tryz.prog 41 #[hv h, .int .i64 key] w1 fun e w' => e = .returned (.tuple #[.int .i64 0, .iface 67 (.int .i64 1)]) ∧ Below w1.heap.size w1 w') := fun w1 => WalkHdText.signOf_no h key w1 hk
    have HE : Hid (verifyE h key = 1) := if_neg hk
    clear hk
    generalize verifyE h key = E at HE ⊢
    obtain ⟨s, r, t, g⟩ := h
    unfold hv at *
    simp only at b0 hA HC HT ⊢
    go_enter Tryz.func14, Tryz.ntmps14
    go_upto_region 1 with fail
    generalize w.alloc (.cells #[.int .i64 s, .int .i64 r, .int .i64 t, .int .i64 g] 40) = w0 at b0 hA HT ⊢
    obtain ⟨p0, p1, p2, p3⟩ := hA
    simp only at p0 p1 p2 p3
    go_wp2_with fail
    refine (HC.out _).mono ?_
    rintro e w1 ⟨rfl, b1⟩
    have HB : Hid (Below w.heap.size w w1) := bt b0 b1
    clear b1 HC HT p0 p1 p2 p3 b0
    go_wp2_with fail
    go_ret
    exact ⟨by rw [HE.out]; rfl, HB.out⟩

theorem line_print (h : Head) : WalkHdText.lineOf h (str (text h.sign)).data.toList = print h := rfl

set_option maxHeartbeats 4000000 in
theorem print_any (h : Head) (w : World) (hT : Tabs w) :
    Calls Tryz.prog 48 #[hv h] w fun e w' => e = .returned (.tuple #[.string (str (if headE h = 0 then print h else [])), errv (headE h)]) ∧ Below w.heap.size w w' := by
  have a42 := aggH
  have z42 := sizeH
  have b0 : Below w.heap.size w (w.alloc (.cells #[.int .i64 h.size, .int .i64 h.root, .int .i64 h.time, .int .i64 h.sign] 40)) := (Below.refl _ _).alloc (Nat.le_refl _) _
  have hA : At (w.alloc (.cells #[.int .i64 h.size, .int .i64 h.root, .int .i64 h.time, .int .i64 h.sign] 40)) w.heap.size h := At.new w _ _ _ _
  have HT : Hid (Tabs w) := hT
  clear hT
  have HC : Hid (∀ w1, Calls Tryz.prog 68 #[hv h] w1 fun e w' => e = .returned (errv (headE h)) ∧ Below w1.heap.size w1 w') := fun w1 => WalkHdOne.check_any h w1
  by_cases ho : ok h = true
  · have HP : Hid (∀ w1, Calls Tryz.prog 21 #[.int .i64 h.sign] w1 fun e w' => e = .returned (.tuple #[.string (str (text h.sign)), .nilIface]) ∧ Below w1.heap.size w1 w') := fun w1 => WalkHex.print_yes h.sign w1 (Heads.ok_iff.1 ho).2.2
    have HL : Hid (∀ w1, Tabs w1 → Calls Tryz.prog 69 #[hv h, .string (str (text h.sign))] w1 fun e w' => e = .returned (.tuple #[.string (str (print h)), .nilIface]) ∧ Below w1.heap.size w1 w') := fun w1 h1 => WalkHdText.line_any h _ w1 h1 (WalkHdText.ok_blank ho) (by rw [Nums.str_size, Nums.text_length]; decide)
    have HE : Hid (headE h = 0) := Heads.headE_zero.2 ho
    rw [HE.out, errv0] at HC
    rw [HE.out, if_pos rfl, errv0]
    clear ho HE
    generalize str (print h) = X at HL ⊢
    obtain ⟨s, r, t, g⟩ := h
    simp only at HP
    unfold hv at *
    simp only at b0 hA HC HL HP ⊢
    generalize str (text g) = D at HP HL
    go_enter Tryz.func48, Tryz.ntmps48
    go_upto_region 1 with fail
    generalize w.alloc (.cells #[.int .i64 s, .int .i64 r, .int .i64 t, .int .i64 g] 40) = w0 at b0 hA ⊢
    obtain ⟨p0, p1, p2, p3⟩ := hA
    simp only at p0 p1 p2 p3
    have hA : At w0 w.heap.size ⟨s, r, t, g⟩ := ⟨p0, p1, p2, p3⟩
    go_wp2_with fail
    refine (HC.out _).mono ?_
    rintro e w1 ⟨rfl, b1⟩
    replace hA := hA.below b1
    replace b0 := bt b0 b1
    clear b1 HC p0 p1 p2 p3
    obtain ⟨p0, p1, p2, p3⟩ := hA
    simp only at p0 p1 p2 p3
    have hA : At w1 w.heap.size ⟨s, r, t, g⟩ := ⟨p0, p1, p2, p3⟩
    go_wp2_with fail
    refine (HP.out _).mono ?_
    rintro e w2 ⟨rfl, b1⟩
    replace hA := hA.below b1
    replace b0 := bt b0 b1
    have HT2 : Hid (Tabs w2) := HT.out.below b0
    clear b1 HP p0 p1 p2 p3
    obtain ⟨p0, p1, p2, p3⟩ := hA
    simp only at p0 p1 p2 p3
    go_wp2_with fail
    refine (HL.out _ HT2.out).mono ?_
    rintro e w3 ⟨rfl, b1⟩
    have HB : Hid (Below w.heap.size w w3) := bt b0 b1
    clear b1 HL p0 p1 p2 p3 b0 HT HT2
    go_wp2_with fail
    go_ret2
    exact ⟨rfl, HB.out⟩
  · have HE : Hid (headE h = 1) := if_neg ho
    rw [WalkHdOne.bad ho] at HC
    rw [WalkHdOne.bad ho, HE.out, if_neg (by decide)]
    clear ho HE
    obtain ⟨s, r, t, g⟩ := h
    unfold hv at *
    simp only at b0 hA HC ⊢
    go_enter Tryz.func48, Tryz.ntmps48
    go_upto_region 1 with fail
    generalize w.alloc (.cells #[.int .i64 s, .int .i64 r, .int .i64 t, .int .i64 g] 40) = w0 at b0 hA ⊢
    obtain ⟨p0, p1, p2, p3⟩ := hA
    simp only at p0 p1 p2 p3
    go_wp2_with fail
    refine (HC.out _).mono ?_
    rintro e w1 ⟨rfl, b1⟩
    have HB : Hid (Below w.heap.size w w1) := bt b0 b1
    clear b1 HC p0 p1 p2 p3 b0 HT
    go_wp2_with fail
    go_ret2
    exact ⟨rfl, HB.out⟩

end Go.Proofs.YtlibjdkofajahaaGreatDoor.WalkHdSign
