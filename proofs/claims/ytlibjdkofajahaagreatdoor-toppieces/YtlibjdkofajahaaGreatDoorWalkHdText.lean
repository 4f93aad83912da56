/-
  The text of a head and its sign: the program's line, signOf, Sign, Verify and Print.
-/
import Derived.Test.YtlibjdkofajahaaGreatDoorWalkHdLib
import Derived.Test.YtlibjdkofajahaaGreatDoorWalkHdOne
import Derived.Test.YtlibjdkofajahaaGreatDoorWalkHex
import Derived.Test.YtlibjdkofajahaaGreatDoorHeadRows
import Derived.Deep.CutBlock
import Derived.Deep.RegionWith
import Derived.Deep.OwnRows
namespace Go.Proofs.YtlibjdkofajahaaGreatDoor.WalkHdText
open Go.RowKit
open Lists (bt)
open Errs (errv errv0 errv_pos)
open Heads (Head ok headE signV signE verifyE signOf isKey print zero said)
open HeadVals (hv aggH sizeH At)
open Nums (str text valid)
open Decimals (dec)
open WalkHdLib (Tabs)

/-- a line of four words -/
def lineOf (h : Head) (last : List UInt8) : List UInt8 := dec h.size.toNat ++ 32 :: (text h.root ++ 32 :: (dec h.time.toNat ++ 32 :: last))
theorem lineOf_length (h : Head) (last : List UInt8) (h1 : h.size ≤ 1000000) (h2 : h.time ≤ 1000000) : (lineOf h last).length ≤ 100 + last.length := by
  have d1 := Decimals.dec_length 8 h.size.toNat (by omega)
  have d2 := Decimals.dec_length 8 h.time.toNat (by omega)
  unfold lineOf
  simp only [List.length_append, List.length_cons, Nums.text_length]
  omega

set_option maxHeartbeats 4000000 in
theorem line_any (h : Head) (last : ByteArray) (w : World) (hT : Tabs w) (hk : ok (Heads.blank h) = true) (hl : last.size ≤ 100) :
    Calls Tryz.prog 69 #[hv h, .string last] w fun e w' => e = .returned (.tuple #[.string (str (lineOf h last.data.toList)), .nilIface]) ∧ Below w.heap.size w w' := by
  obtain ⟨s, r, t, g⟩ := h
  obtain ⟨⟨k1, k2, k3, k4⟩, k5, _⟩ := Heads.ok_iff.1 hk
  simp only [Heads.blank] at k1 k2 k3 k4 k5
  have b0 : Below w.heap.size w (w.alloc (.cells #[.int .i64 s, .int .i64 r, .int .i64 t, .int .i64 g] 40)) := (Below.refl _ _).alloc (Nat.le_refl _) _
  have hA : At (w.alloc (.cells #[.int .i64 s, .int .i64 r, .int .i64 t, .int .i64 g] 40)) w.heap.size ⟨s, r, t, g⟩ := At.new w s r t g
  have a42 := aggH
  have z42 := sizeH
  have d1 := Decimals.dec_length 8 s.toNat (by omega)
  have d2 := Decimals.dec_length 8 t.toNat (by omega)
  have HX : Hid ((str (dec s.toNat)).size + (str (text r)).size + (str (dec t.toNat)).size + last.size ≤ 1000) := by
    show _ ≤ _
    rw [Nums.str_size, Nums.str_size, Nums.str_size, Nums.text_length]
    omega
  have HE : Hid (lineOf ⟨s, r, t, g⟩ last.data.toList = (str (dec s.toNat)).data.toList ++ 32 :: ((str (text r)).data.toList ++ 32 :: ((str (dec t.toNat)).data.toList ++ 32 :: last.data.toList))) := rfl
  have cP := fun w1 => WalkHex.print_yes r w1 k5
  have HI : Hid (∀ w1, Tabs w1 → Calls Tryz.prog 70 #[.int .i64 s] w1 fun e w' => e = .returned (.string (str (dec s.toNat))) ∧ Below w1.heap.size w1 w') := fun w1 h1 => WalkHdLib.itoa_any s k1 (by omega) w1 h1
  have HJ : Hid (∀ w1, Tabs w1 → Calls Tryz.prog 70 #[.int .i64 t] w1 fun e w' => e = .returned (.string (str (dec t.toNat))) ∧ Below w1.heap.size w1 w') := fun w1 h1 => WalkHdLib.itoa_any t k3 k4 w1 h1
  generalize str (dec s.toNat) = D1 at HX HE HI
  generalize str (text r) = D2 at HX HE cP
  generalize str (dec t.toNat) = D3 at HX HE HJ
  unfold hv
  simp only
  clear k1 k2 k3 k4 k5 hk hl d1 d2
  go_enter Tryz.func69, Tryz.ntmps69
  go_upto_region 1 with fail
  generalize w.alloc (.cells #[.int .i64 s, .int .i64 r, .int .i64 t, .int .i64 g] 40) = w0 at b0 hA ⊢
  obtain ⟨p0, p1, p2, p3⟩ := hA
  simp only at p0 p1 p2 p3
  have hA : At w0 w.heap.size ⟨s, r, t, g⟩ := ⟨p0, p1, p2, p3⟩
  go_wp2_with fail
  refine (cP _).mono ?_
  rintro e w1 ⟨rfl, b1⟩
  replace hA := hA.below b1
  replace b0 := bt b0 b1
  have HT1 : Hid (Tabs w1) := hT.below b0
  clear cP b1 p0 p1 p2 p3 hT
  go_upto_region 4 with fail
  obtain ⟨p0, p1, p2, p3⟩ := hA
  simp only at p0 p1 p2 p3
  go_region_with (first | (go_at_call_of 70 s; refine (HI.out _ ?_).mono ?_; exact HT1.out.below (Below.refl _ w1).drew; rintro e w2 ⟨rfl, b2⟩; have b3 : Below w1.heap.size w1 w2 := (Below.refl _ w1).drew.trans b2; have q2 := Lists.cell_below b3 p2) | (go_at_call_of 70 t; refine (HJ.out _ ?_).mono ?_; exact HT1.out.below b3; rintro e w4 ⟨rfl, b4⟩))
  all_goals
    have b5 : Below w.heap.size w w4 := bt b0 (bt b3 b4)
    have b6 := b5.alloc b5.size (.cells #[.string D1, .string D2, .string D3, .string last] 9)
    have cJ := WalkHdLib.join_any D1 D2 D3 last w4.heap.size (w4.alloc (.cells #[.string D1, .string D2, .string D3, .string last] 9)) (by simp) (by simp) (by simp) (by simp) HX.out
    clear b0 b2 b3 b4 b5 q2 p0 p1 p2 p3 HI HJ HT1
    generalize w4.alloc (.cells #[.string D1, .string D2, .string D3, .string last] 9) = w5 at b6 cJ ⊢
    simp [Act.put]
    go_wp2_with fail
    refine cJ.mono ?_
    rintro e w7 ⟨rfl, b7⟩
    have HZ : Hid (Below w.heap.size w w7) := bt b6 b7
    clear b6 b7 cJ
    go_wp2_with fail
    go_ret2
    exact ⟨by rw [HE.out]; rfl, HZ.out⟩

theorem isKey_iff {key : Int} : isKey key = true ↔ 1 ≤ key ∧ key ≤ 1000000 := decide_eq_true_iff
theorem key_length {key : Int} (h : isKey key = true) : (str (dec key.toNat)).size ≤ 100 := by
  have := isKey_iff.1 h
  have d := Decimals.dec_length 8 key.toNat (by omega)
  rw [Nums.str_size]
  omega
theorem line_said (h : Head) (key : Int) : lineOf h (str (dec key.toNat)).data.toList = said h key := rfl
theorem ok_blank {h : Head} (hk : ok h = true) : ok (Heads.blank h) = true := by
  obtain ⟨q1, q2, q3⟩ := Heads.ok_iff.1 hk
  exact Heads.ok_iff.2 ⟨q1, q2, by show valid 0 = true; decide +kernel⟩

set_option maxHeartbeats 4000000 in
theorem signOf_yes (h : Head) (key : Int) (w : World) (hT : Tabs w) (hk : isKey key = true) (ho : ok h = true) :
    Calls Tryz.prog 41 #[hv h, .int .i64 key] w fun e w' => e = .returned (.tuple #[.int .i64 (signOf h key), .nilIface]) ∧ Below w.heap.size w w' := by
  have HC : Hid (∀ w1, Calls Tryz.prog 68 #[hv h] w1 fun e w' => e = .returned .nilIface ∧ Below w1.heap.size w1 w') := fun w1 => by
    have c := WalkHdOne.check_any h w1
    rw [Heads.headE_zero.2 ho, errv0] at c
    exact c
  have HI : Hid (∀ w1, Tabs w1 → Calls Tryz.prog 70 #[.int .i64 key] w1 fun e w' => e = .returned (.string (str (dec key.toNat))) ∧ Below w1.heap.size w1 w') := fun w1 h1 => WalkHdLib.itoa_any key (by have := isKey_iff.1 hk; omega) (isKey_iff.1 hk).2 w1 h1
  have HL : Hid (∀ w1, Tabs w1 → Calls Tryz.prog 69 #[hv h, .string (str (dec key.toNat))] w1 fun e w' => e = .returned (.tuple #[.string (str (said h key)), .nilIface]) ∧ Below w1.heap.size w1 w') := fun w1 h1 => line_any h _ w1 h1 (ok_blank ho) (key_length hk)
  have hsz : (str (said h key)).size ≤ maxLen := by
    obtain ⟨⟨_, q2, _, q4⟩, _, _⟩ := Heads.ok_iff.1 ho
    have := lineOf_length h (str (dec key.toNat)).data.toList (by omega) q4
    rw [line_said] at this
    have kl := key_length hk
    rw [Nums.str_size] at kl ⊢
    rw [Nums.str_data] at this
    have : (1000 : Nat) ≤ maxLen := by decide
    omega
  have HS : Hid (∀ w1, Calls Tryz.prog 39 #[.string (str (said h key))] w1 fun e w' => e = .returned (.int .i64 (signOf h key)) ∧ w' = w1) := fun w1 => WalkSum.sum_any (str (said h key)) w1 hsz
  have g1 := isKey_iff.1 hk
  obtain ⟨k1, k2⟩ := g1
  clear hk ho hsz
  generalize signOf h key = Z at HS ⊢
  generalize str (said h key) = X at HS HL
  generalize str (dec key.toNat) = D at HI HL
  obtain ⟨s, r, t, g⟩ := h
  unfold hv at *
  simp only at HC HL ⊢
  have b0 : Below w.heap.size w (w.alloc (.cells #[.int .i64 s, .int .i64 r, .int .i64 t, .int .i64 g] 40)) := (Below.refl _ _).alloc (Nat.le_refl _) _
  have hA : At (w.alloc (.cells #[.int .i64 s, .int .i64 r, .int .i64 t, .int .i64 g] 40)) w.heap.size ⟨s, r, t, g⟩ := At.new w s r t g
  have a42 := aggH
  have z42 := sizeH
  go_enter Tryz.func41, Tryz.ntmps41
  go_upto_region 1 with fail
  generalize w.alloc (.cells #[.int .i64 s, .int .i64 r, .int .i64 t, .int .i64 g] 40) = w0 at b0 hA ⊢
  obtain ⟨p0, p1, p2, p3⟩ := hA
  simp only at p0 p1 p2 p3
  have hA : At w0 w.heap.size ⟨s, r, t, g⟩ := ⟨p0, p1, p2, p3⟩
  go_wp2_with fail
  refine (HC.out _).mono ?_
  rintro e w1 ⟨rfl, b1⟩
  replace hA := hA.below b1
  replace b0 := bt b0 b1
  have HT1 : Hid (Tabs w1) := hT.below b0
  clear HC b1 p0 p1 p2 p3 hT k1 k2
  go_upto_region 6 with fail
  obtain ⟨p0, p1, p2, p3⟩ := hA
  simp only at p0 p1 p2 p3
  have HA : Hid (At w1 w.heap.size ⟨s, r, t, g⟩) := ⟨p0, p1, p2, p3⟩
  go_region_with (first | (go_at_call 70; refine (HI.out _ ?_).mono ?_; exact HT1.out.below (Below.refl _ w1).drew; rintro e w2 ⟨rfl, b2⟩; have b3 : Below w1.heap.size w1 w2 := (Below.refl _ w1).drew.trans b2; obtain ⟨q0, q1, q2, q3⟩ := HA.out.below b3; simp only at q0 q1 q2 q3) | (go_at_call 69; refine (HL.out _ ?_).mono ?_; exact HT1.out.below b3; rintro e w4 ⟨rfl, b4⟩))
  all_goals
    have b5 : Below w.heap.size w w4 := bt b0 (bt b3 b4)
    have HZ : Hid (Below w.heap.size w w4) := b5
    clear b0 b2 b3 b4 b5 q0 q1 q2 q3 p0 p1 p2 p3 HI HL HT1 HA
    simp [Act.put]
    go_wp2_with fail
    refine (HS.out _).mono ?_
    rintro e w7 ⟨rfl, rfl⟩
    go_wp2_with fail
    go_ret2
    exact ⟨rfl, HZ.out⟩

set_option maxHeartbeats 4000000 in
theorem signOf_no (h : Head) (key : Int) (w : World) (hk : ¬ (isKey key = true ∧ ok h = true)) :
    Calls Tryz.prog 41 #[hv h, .int .i64 key] w fun e w' => e = .returned (.tuple #[.int .i64 0, .iface 67 (.int .i64 1)]) ∧ Below w.heap.size w w' := by
  have HB : Hid (Below w.heap.size w (w.alloc (.cells #[.int .i64 h.size, .int .i64 h.root, .int .i64 h.time, .int .i64 h.sign] 40))) := (Below.refl _ _).alloc (Nat.le_refl _) _
  have a42 := aggH
  have z42 := sizeH
  by_cases h1 : key < 1
  · obtain ⟨s, r, t, g⟩ := h
    clear hk
    unfold hv
    simp only at HB ⊢
    go_enter Tryz.func41, Tryz.ntmps41
    go_wp2_with fail
    go_ret2
    exact ⟨rfl, HB.out⟩
  by_cases h2 : 1000000 < key
  · obtain ⟨s, r, t, g⟩ := h
    clear hk
    unfold hv
    simp only at HB ⊢
    go_enter Tryz.func41, Tryz.ntmps41
    go_wp2_with fail
    go_ret2
    exact ⟨rfl, HB.out⟩
  have ho : ¬ ok h = true := fun q => hk ⟨isKey_iff.2 ⟨by omega, by omega⟩, q⟩
  have HC : Hid (∀ w1, Calls Tryz.prog 68 #[hv h] w1 fun e w' => e = .returned (.iface 67 (.int .i64 1)) ∧ Below w1.heap.size w1 w') := fun w1 => by
    have c := WalkHdOne.check_any h w1
    rw [WalkHdOne.bad ho] at c
    exact c
  clear hk ho
  obtain ⟨s, r, t, g⟩ := h
  unfold hv at *
  simp only at HB HC ⊢
  go_enter Tryz.func41, Tryz.ntmps41
  go_wp2_with fail
  refine (HC.out _).mono ?_
  rintro e w1 ⟨rfl, b1⟩
  have HZ : Hid (Below w.heap.size w w1) := bt HB.out b1
  clear b1 HB HC
  go_wp2_with fail
  go_ret2
  exact ⟨rfl, HZ.out⟩

end Go.Proofs.YtlibjdkofajahaaGreatDoor.WalkHdText
