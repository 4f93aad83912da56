/-
  What the program's IsSum answers, for every number.
-/
import Derived.Test.YticadkggaanbjaaGreatDoorMirPlain
import Derived.Test.YticadkggaanbjaaGreatDoorRows
import Derived.WalkKit
import Derived.Test.YticadkggaanbjaaGreatDoorHeadRows
import Derived.Test.YticadkggaanbjaaGreatDoorErrs
import Derived.Deep.CutBlock
import Derived.Test.YticadkggaanbjaaGreatDoorMixRun
import Derived.Test.YticadkggaanbjaaGreatDoorWalkHdLib
import Derived.Deep.RegionWith
import Derived.Deep.OwnRows
namespace Go.Proofs.YticadkggaanbjaaGreatDoor.WalkIsSum
open Go.RowKit

theorem isSum_any (n : Int) (w : World) : Calls Tryz.prog 71 #[.int .i64 n] w fun e w' => e = .returned (.bool (Nums.valid n)) ∧ w' = w := by
  by_cases h0 : 0 ≤ n
  · by_cases h1 : n < 2147483647
    · have H : Hid (Nums.valid n = true) := Nums.valid_iff.2 ⟨h0, h1⟩
      go_enter Tryz.func71, Tryz.ntmps71
      go_wp2
      go_ret
      exact ⟨by rw [H.out]; rfl, rfl⟩
    · have H : Hid (Nums.valid n = false) := Nums.valid_no.2 fun q => h1 q.2
      go_enter Tryz.func71, Tryz.ntmps71
      go_wp2
      go_ret
      exact ⟨by rw [H.out]; rfl, rfl⟩
  · have H : Hid (Nums.valid n = false) := Nums.valid_no.2 fun q => h0 q.1
    go_enter Tryz.func71, Tryz.ntmps71
    go_wp2
    go_ret
    exact ⟨by rw [H.out]; rfl, rfl⟩

end Go.Proofs.YticadkggaanbjaaGreatDoor.WalkIsSum

/-
  What is wrong with a head, and which of two is the better: the program's Check and Better.
-/
namespace Go.Proofs.YticadkggaanbjaaGreatDoor.WalkHdOne
open Go.RowKit
open Lists (bt)
open Errs (errv errv0 errv_pos)
open Heads (Head ok headE betterV betterE more)
open HeadVals (hv aggH sizeH At)

theorem bad {h : Head} (hh : ¬ ok h = true) : errv (headE h) = .iface 99 (.int .i64 1) := by
  have : headE h = 1 := if_neg hh
  rw [this]
  rfl
theorem good {h : Head} (hh : ok h = true) : errv (headE h) = .nilIface := by
  rw [Heads.headE_zero.2 hh]
  rfl

set_option maxHeartbeats 2000000 in
theorem check_any (h : Head) (w : World) : Calls Tryz.prog 67 #[hv h] w fun e w' => e = .returned (errv (headE h)) ∧ Below w.heap.size w w' := by
  obtain ⟨s, r, t, g⟩ := h
  have HB : Hid (Below w.heap.size w (w.alloc (.cells #[.int .i64 s, .int .i64 r, .int .i64 t, .int .i64 g] 31))) := (Below.refl _ _).alloc (Nat.le_refl _) _
  have a42 := aggH
  have z42 := sizeH
  have c1 := fun w1 => WalkIsSum.isSum_any r w1
  have c2 := fun w1 => WalkIsSum.isSum_any g w1
  unfold hv
  by_cases h1 : s < 0
  · have H : Hid (¬ ok ⟨s, r, t, g⟩ = true) := fun q => by have := (Heads.ok_iff.1 q).1.1; simp only at this; omega
    go_enter Tryz.func67, Tryz.ntmps67
    go_wp2_with fail
    go_ret
    exact ⟨by rw [bad H.out]; rfl, HB.out⟩
  by_cases h2 : 200 < s
  · have H : Hid (¬ ok ⟨s, r, t, g⟩ = true) := fun q => by have := (Heads.ok_iff.1 q).1.2.1; simp only at this; omega
    go_enter Tryz.func67, Tryz.ntmps67
    go_wp2_with fail
    go_ret
    exact ⟨by rw [bad H.out]; rfl, HB.out⟩
  by_cases h3 : t < 0
  · have H : Hid (¬ ok ⟨s, r, t, g⟩ = true) := fun q => by have := (Heads.ok_iff.1 q).1.2.2.1; simp only at this; omega
    go_enter Tryz.func67, Tryz.ntmps67
    go_wp2_with fail
    go_ret
    exact ⟨by rw [bad H.out]; rfl, HB.out⟩
  by_cases h4 : 1000000 < t
  · have H : Hid (¬ ok ⟨s, r, t, g⟩ = true) := fun q => by have := (Heads.ok_iff.1 q).1.2.2.2; simp only at this; omega
    go_enter Tryz.func67, Tryz.ntmps67
    go_wp2_with fail
    go_ret
    exact ⟨by rw [bad H.out]; rfl, HB.out⟩
  have HO : Hid (ok ⟨s, r, t, g⟩ = (Nums.valid r && Nums.valid g)) := by
    show ok ⟨s, r, t, g⟩ = _
    unfold ok
    simp only
    rw [decide_eq_true (by omega), Bool.true_and]
  generalize Nums.valid r = V1 at c1 HO
  generalize Nums.valid g = V2 at c2 HO
  cases V1
  · have H : Hid (¬ ok ⟨s, r, t, g⟩ = true) := by show ¬ ok ⟨s, r, t, g⟩ = true; rw [HO.out]; simp
    go_enter Tryz.func67, Tryz.ntmps67
    go_wp2_with fail
    refine (c1 _).mono ?_
    rintro e w1 ⟨rfl, rfl⟩
    go_wp2_with fail
    go_ret
    exact ⟨by rw [bad H.out]; rfl, HB.out⟩
  cases V2
  · have H : Hid (¬ ok ⟨s, r, t, g⟩ = true) := by show ¬ ok ⟨s, r, t, g⟩ = true; rw [HO.out]; simp
    go_enter Tryz.func67, Tryz.ntmps67
    go_wp2_with fail
    refine (c1 _).mono ?_
    rintro e w1 ⟨rfl, rfl⟩
    go_wp2_with fail
    refine (c2 _).mono ?_
    rintro e w1 ⟨rfl, rfl⟩
    go_wp2_with fail
    go_ret
    exact ⟨by rw [bad H.out]; rfl, HB.out⟩
  · have H : Hid (ok ⟨s, r, t, g⟩ = true) := by rw [HO.out]; rfl
    go_enter Tryz.func67, Tryz.ntmps67
    go_wp2_with fail
    refine (c1 _).mono ?_
    rintro e w1 ⟨rfl, rfl⟩
    go_wp2_with fail
    refine (c2 _).mono ?_
    rintro e w1 ⟨rfl, rfl⟩
    go_wp2_with fail
    go_ret
    exact ⟨by rw [good H.out]; rfl, HB.out⟩

set_option maxHeartbeats 4000000 in
theorem better_any (a b : Head) (w : World) : Calls Tryz.prog 177 #[hv a, hv b] w fun e w' => e = .returned (.tuple #[.bool (betterV a b), errv (betterE a b)]) ∧ Below w.heap.size w w' := by
  obtain ⟨s, r, t, g⟩ := a
  obtain ⟨s2, r2, t2, g2⟩ := b
  have b0 : Below w.heap.size w ((w.alloc (.cells #[.int .i64 s, .int .i64 r, .int .i64 t, .int .i64 g] 31)).alloc (.cells #[.int .i64 s2, .int .i64 r2, .int .i64 t2, .int .i64 g2] 31)) := ((Below.refl _ _).alloc (Nat.le_refl _) _).alloc (by simp) _
  have hA : At ((w.alloc (.cells #[.int .i64 s, .int .i64 r, .int .i64 t, .int .i64 g] 31)).alloc (.cells #[.int .i64 s2, .int .i64 r2, .int .i64 t2, .int .i64 g2] 31)) w.heap.size ⟨s, r, t, g⟩ := (At.new w s r t g).alloc _
  have hC : At ((w.alloc (.cells #[.int .i64 s, .int .i64 r, .int .i64 t, .int .i64 g] 31)).alloc (.cells #[.int .i64 s2, .int .i64 r2, .int .i64 t2, .int .i64 g2] 31)) (w.heap.size + 1) ⟨s2, r2, t2, g2⟩ := by
    have h := At.new (w.alloc (.cells #[.int .i64 s, .int .i64 r, .int .i64 t, .int .i64 g] 31)) s2 r2 t2 g2
    simpa using h
  have a42 := aggH
  have z42 := sizeH
  have c1 := fun w1 => check_any ⟨s, r, t, g⟩ w1
  have c2 := fun w1 => check_any ⟨s2, r2, t2, g2⟩ w1
  have HE : Hid (betterE ⟨s, r, t, g⟩ ⟨s2, r2, t2, g2⟩ = if headE ⟨s, r, t, g⟩ = 0 then headE ⟨s2, r2, t2, g2⟩ else headE ⟨s, r, t, g⟩) := rfl
  have HV : Hid (betterV ⟨s, r, t, g⟩ ⟨s2, r2, t2, g2⟩ = (decide (betterE ⟨s, r, t, g⟩ ⟨s2, r2, t2, g2⟩ = 0) && decide (s2 < s ∨ (s = s2 ∧ t2 < t)))) := rfl
  generalize betterV ⟨s, r, t, g⟩ ⟨s2, r2, t2, g2⟩ = V at HV ⊢
  generalize betterE ⟨s, r, t, g⟩ ⟨s2, r2, t2, g2⟩ = E at HE HV ⊢
  generalize headE ⟨s, r, t, g⟩ = E1 at c1 HE
  generalize headE ⟨s2, r2, t2, g2⟩ = E2 at c2 HE
  unfold hv at *
  simp only at c1 c2
  go_enter Tryz.func177, Tryz.ntmps177
  go_upto_region 1 with fail
  generalize (w.alloc (.cells #[.int .i64 s, .int .i64 r, .int .i64 t, .int .i64 g] 31)).alloc (.cells #[.int .i64 s2, .int .i64 r2, .int .i64 t2, .int .i64 g2] 31) = w0 at b0 hA hC ⊢
  obtain ⟨p0, p1, p2, p3⟩ := hA
  simp only at p0 p1 p2 p3
  have hA : At w0 w.heap.size ⟨s, r, t, g⟩ := ⟨p0, p1, p2, p3⟩
  go_wp2_with fail
  refine (c1 _).mono ?_
  rintro e w1 ⟨rfl, b1⟩
  replace hA := hA.below b1
  replace hC := hC.below b1
  replace b0 := bt b0 b1
  clear c1 b1 p0 p1 p2 p3
  by_cases h1 : E1 = 0
  rotate_left
  · have HX : Hid (E = E1) := by show E = E1; rw [HE.out, if_neg h1]
    have HY : Hid (V = false) := by show V = false; rw [HV.out, HX.out, decide_eq_false h1]; rfl
    have HZ : Hid (Below w.heap.size w w1) := b0
    have HN : Hid (errv E = .iface 99 (.int .i64 E1)) := by show errv E = _; rw [HX.out, errv_pos _ h1]
    rw [errv_pos _ h1]
    clear h1 HE HV b0 HX
    go_wp2_with fail
    go_ret2
    exact ⟨by rw [HN.out, HY.out]; rfl, HZ.out⟩
  have HX : Hid (E = E2) := by show E = E2; rw [HE.out, if_pos h1]
  rw [h1, errv0]
  clear h1 HE
  obtain ⟨p0, p1, p2, p3⟩ := hC
  simp only at p0 p1 p2 p3
  have hC : At w1 (w.heap.size + 1) ⟨s2, r2, t2, g2⟩ := ⟨p0, p1, p2, p3⟩
  go_wp2_with fail
  refine (c2 _).mono ?_
  rintro e w2 ⟨rfl, b1⟩
  replace hA := hA.below b1
  replace hC := hC.below b1
  have HZ : Hid (Below w.heap.size w w2) := bt b0 b1
  clear c2 b1 p0 p1 p2 p3 b0
  by_cases h2 : E2 = 0
  rotate_left
  · have HY : Hid (V = false) := by show V = false; rw [HV.out, HX.out, decide_eq_false h2]; rfl
    have HN : Hid (errv E = .iface 99 (.int .i64 E2)) := by show errv E = _; rw [HX.out, errv_pos _ h2]
    rw [errv_pos _ h2]
    clear h2 HV HX hA hC
    go_wp2_with fail
    go_ret2
    exact ⟨by rw [HN.out, HY.out]; rfl, HZ.out⟩
  have HY : Hid (V = decide (s2 < s ∨ (s = s2 ∧ t2 < t))) := by show V = _; rw [HV.out, HX.out, decide_eq_true h2]; rfl
  have HN : Hid (errv E = .nilIface) := by show errv E = _; rw [HX.out, h2, errv0]
  rw [h2, errv0]
  clear h2 HX HV
  obtain ⟨p0, p1, p2, p3⟩ := hA
  obtain ⟨q0, q1, q2, q3⟩ := hC
  simp only at p0 p1 p2 p3 q0 q1 q2 q3
  by_cases g1 : s2 < s
  · have HW : Hid (V = true) := by show V = true; rw [HY.out]; exact decide_eq_true (.inl g1)
    clear HY
    go_wp2_with fail
    go_ret2
    exact ⟨by rw [HW.out, HN.out]; rfl, HZ.out⟩
  have hd1 : decide (s2 < s) = false := decide_eq_false g1
  by_cases g2 : s = s2
  rotate_left
  · have HW : Hid (V = false) := by show V = false; rw [HY.out]; exact decide_eq_false fun q => q.elim g1 fun q => g2 q.1
    have hd2 : (s == s2) = false := by rw [beq_eq_false_iff_ne]; exact g2
    clear HY
    go_wp2_with fail
    go_ret2
    exact ⟨by rw [HW.out, HN.out]; rfl, HZ.out⟩
  have hd2 : (s == s2) = true := by rw [g2]; exact beq_self_eq_true _
  by_cases g3 : t2 < t
  · have HW : Hid (V = true) := by show V = true; rw [HY.out]; exact decide_eq_true (.inr ⟨g2, g3⟩)
    clear HY g2
    go_wp2_with fail
    go_ret2
    exact ⟨by rw [HW.out, HN.out]; rfl, HZ.out⟩
  · have HW : Hid (V = false) := by show V = false; rw [HY.out]; exact decide_eq_false fun q => q.elim g1 fun q => g3 q.2
    have hd3 : decide (t2 < t) = false := decide_eq_false g3
    clear HY g2
    go_wp2_with fail
    go_ret2
    exact ⟨by rw [HW.out, HN.out]; rfl, HZ.out⟩

end Go.Proofs.YticadkggaanbjaaGreatDoor.WalkHdOne

/-
  What the program's Print and Parse return, for every number and every text.
-/
namespace Go.Proofs.YticadkggaanbjaaGreatDoor.WalkHex
open Go.RowKit

set_option maxHeartbeats 400000 in
theorem print_no (n : Int) (w : World) (h : Nums.valid n = false) :
    Calls Tryz.prog 38 #[.int .i64 n] w fun e w' => e = .returned (.tuple #[.string ⟨#[]⟩, .iface 99 (.int .i64 1)]) ∧ w' = w := by
  have hh : Hid (Nums.valid n = false) := h
  clear h
  go_enter Tryz.func38, Tryz.ntmps38
  go_wp2_with fail
  refine (WalkMix.isSum_no _ _ hh.out).mono ?_
  rintro e w1 ⟨rfl, rfl⟩
  go_wp2
  go_ret2
  exact ⟨rfl, rfl⟩

/-- the digit of place i -/
def dg (n i : Nat) : Value := .int .u8 ((Nums.digit (n / 16 ^ i % 16)).toNat : Int)
/-- the eight cells when the j lowest digits are written -/
def arr (n j : Nat) : Array Value := #[if 7 < j then dg n 7 else .int .u8 0, if 6 < j then dg n 6 else .int .u8 0, if 5 < j then dg n 5 else .int .u8 0, if 4 < j then dg n 4 else .int .u8 0, if 3 < j then dg n 3 else .int .u8 0, if 2 < j then dg n 2 else .int .u8 0, if 1 < j then dg n 1 else .int .u8 0, if 0 < j then dg n 0 else .int .u8 0]
theorem arr0 (n : Nat) : arr n 0 = #[.int .u8 0, .int .u8 0, .int .u8 0, .int .u8 0, .int .u8 0, .int .u8 0, .int .u8 0, .int .u8 0] := rfl
theorem arr1 (n : Nat) : arr n 1 = #[.int .u8 0, .int .u8 0, .int .u8 0, .int .u8 0, .int .u8 0, .int .u8 0, .int .u8 0, dg n 0] := rfl
theorem arr2 (n : Nat) : arr n 2 = #[.int .u8 0, .int .u8 0, .int .u8 0, .int .u8 0, .int .u8 0, .int .u8 0, dg n 1, dg n 0] := rfl
theorem arr3 (n : Nat) : arr n 3 = #[.int .u8 0, .int .u8 0, .int .u8 0, .int .u8 0, .int .u8 0, dg n 2, dg n 1, dg n 0] := rfl
theorem arr4 (n : Nat) : arr n 4 = #[.int .u8 0, .int .u8 0, .int .u8 0, .int .u8 0, dg n 3, dg n 2, dg n 1, dg n 0] := rfl
theorem arr5 (n : Nat) : arr n 5 = #[.int .u8 0, .int .u8 0, .int .u8 0, dg n 4, dg n 3, dg n 2, dg n 1, dg n 0] := rfl
theorem arr6 (n : Nat) : arr n 6 = #[.int .u8 0, .int .u8 0, dg n 5, dg n 4, dg n 3, dg n 2, dg n 1, dg n 0] := rfl
theorem arr7 (n : Nat) : arr n 7 = #[.int .u8 0, dg n 6, dg n 5, dg n 4, dg n 3, dg n 2, dg n 1, dg n 0] := rfl
theorem arr8 (n : Nat) : arr n 8 = #[dg n 7, dg n 6, dg n 5, dg n 4, dg n 3, dg n 2, dg n 1, dg n 0] := rfl

theorem add_at (g i : Nat) : (⟨g, 0, none⟩ : Addr).add i = ⟨g, i, none⟩ := by unfold Addr.add; split <;> simp_all
theorem at_congr (b : ByteArray) (i j : Nat) (h : i = j) (hi : i < b.size) (hj : j < b.size) : b[i] = b[j] := by subst h; rfl
theorem dig_at (M : Int) (hp : 0 ≤ M) (h : (M % 16).toNat < (ByteArray.mk #[48, 49, 50, 51, 52, 53, 54, 55, 56, 57, 97, 98, 99, 100, 101, 102]).size) :
    (ByteArray.mk #[48, 49, 50, 51, 52, 53, 54, 55, 56, 57, 97, 98, 99, 100, 101, 102])[(M % 16).toNat] = Nums.digit (M.toNat % 16) := by
  have e : (M % 16).toNat = M.toNat % 16 := by omega
  have hl : M.toNat % 16 < 16 := Nat.mod_lt _ (by decide)
  rw [at_congr _ _ _ e h hl]
  have : ∀ k : Fin 16, (ByteArray.mk #[48, 49, 50, 51, 52, 53, 54, 55, 56, 57, 97, 98, 99, 100, 101, 102])[k.val]'(k.isLt) = Nums.digit k.val := by decide +kernel
  exact this ⟨M.toNat % 16, hl⟩
theorem dig_val (N j : Nat) (M : Int) (hM : ((N / 16 ^ j : Nat) : Int) = M) (h : (M % 16).toNat < (ByteArray.mk #[48, 49, 50, 51, 52, 53, 54, 55, 56, 57, 97, 98, 99, 100, 101, 102]).size) :
    Value.int .u8 (((ByteArray.mk #[48, 49, 50, 51, 52, 53, 54, 55, 56, 57, 97, 98, 99, 100, 101, 102])[(M % 16).toNat].toNat : Nat) : Int) = dg N j := by
  rw [dig_at M (by rw [← hM]; exact Int.natCast_nonneg _) h, dg, ← hM, Int.toNat_natCast]
theorem next_div (N j : Nat) (M : Int) (hM : ((N / 16 ^ j : Nat) : Int) = M) : Value.int .i64 (M / 16) = .int .i64 ((N / 16 ^ (j + 1) : Nat) : Int) := by
  rw [Nat.pow_succ, ← Nat.div_div_eq_div_mul, ← hM]
  rfl
theorem cells_text (N : Nat) : (WalkMix.cells (Nums.hexOf 8 N)).toArray = #[dg N 7, dg N 6, dg N 5, dg N 4, dg N 3, dg N 2, dg N 1, dg N 0] := by
  simp only [Nums.hexOf, WalkMix.cells, dg, List.nil_append, List.cons_append, List.map_cons, List.map_nil, Nat.div_div_eq_div_mul, Nat.reduceMul, Nat.reducePow, Nat.div_one]

set_option maxHeartbeats 1000000 in
theorem print_yes (n : Int) (w : World) (h : Nums.valid n = true) :
    Calls Tryz.prog 38 #[.int .i64 n] w fun e w' => e = .returned (.tuple #[.string (Nums.str (Nums.text n)), .nilIface]) ∧ Below w.heap.size w w' := by
  have hh : Hid (Nums.valid n = true) := h
  clear h
  obtain ⟨N, HN⟩ : ∃ N : Nat, Hid (n.toNat = N) := ⟨_, rfl⟩
  have hst : Hid (n = ((N / 16 ^ 0 : Nat) : Int)) := by
    have h1 := HN.out
    have h2 := Nums.valid_iff.1 hh.out
    show n = ((N / 16 ^ 0 : Nat) : Int)
    rw [Nat.pow_zero, Nat.div_one]
    omega
  go_enter Tryz.func38, Tryz.ntmps38
  go_wp2_with fail
  refine (WalkMix.isSum_yes _ _ hh.out).mono ?_
  rintro e w1 ⟨rfl, rfl⟩
  go_wp2
  go_loopw [0, 5] (fun m i wr => ∃ j : Nat, j ≤ 8 ∧ m = .int .i64 ((N / 16 ^ j : Nat) : Int) ∧ i = .int .i64 (7 - (j : Int)) ∧ wr = w1.alloc (.cells (arr N j) 153)) (fun _ i _ => (intOf i + 1).toNat)
  case atStart => exact ⟨0, by omega, congrArg (Value.int .i64) hst.out, rfl, rfl⟩
  case round =>
    obtain ⟨j, hj, rfl, rfl, rfl⟩ := hrel
    by_cases hlt : j < 8
    · match j, hlt with
      | 0, _ =>
        rw [arr0]
        have hb : N / 16 ^ 0 ≤ N := Nat.div_le_self _ _
        generalize hM : ((N / 16 ^ 0 : Nat) : Int) = M
        have HM : Hid (((N / 16 ^ 0 : Nat) : Int) = M) := hM
        have hb0 : 0 ≤ M := by omega
        have hb1 : M < 2147483647 := by have h1 := HN.out; have h2 := Nums.valid_iff.1 hh.out; omega
        clear hM hb
        go_wp2
        go_roundw
        case rel => exact ⟨1, by omega, next_div N 0 M HM.out, rfl, congrArg (fun x => w1.alloc (.cells #[.int .u8 0, .int .u8 0, .int .u8 0, .int .u8 0, .int .u8 0, .int .u8 0, .int .u8 0, x] 153)) (dig_val N 0 M HM.out _)⟩
        case measure => simp [intOf]
      | 1, _ =>
        rw [arr1]
        have hb : N / 16 ^ 1 ≤ N := Nat.div_le_self _ _
        generalize hM : ((N / 16 ^ 1 : Nat) : Int) = M
        have HM : Hid (((N / 16 ^ 1 : Nat) : Int) = M) := hM
        have hb0 : 0 ≤ M := by omega
        have hb1 : M < 2147483647 := by have h1 := HN.out; have h2 := Nums.valid_iff.1 hh.out; omega
        clear hM hb
        go_wp2
        go_roundw
        case rel => exact ⟨2, by omega, next_div N 1 M HM.out, rfl, congrArg (fun x => w1.alloc (.cells #[.int .u8 0, .int .u8 0, .int .u8 0, .int .u8 0, .int .u8 0, .int .u8 0, x, dg N 0] 153)) (dig_val N 1 M HM.out _)⟩
        case measure => simp [intOf]
      | 2, _ =>
        rw [arr2]
        have hb : N / 16 ^ 2 ≤ N := Nat.div_le_self _ _
        generalize hM : ((N / 16 ^ 2 : Nat) : Int) = M
        have HM : Hid (((N / 16 ^ 2 : Nat) : Int) = M) := hM
        have hb0 : 0 ≤ M := by omega
        have hb1 : M < 2147483647 := by have h1 := HN.out; have h2 := Nums.valid_iff.1 hh.out; omega
        clear hM hb
        go_wp2
        go_roundw
        case rel => exact ⟨3, by omega, next_div N 2 M HM.out, rfl, congrArg (fun x => w1.alloc (.cells #[.int .u8 0, .int .u8 0, .int .u8 0, .int .u8 0, .int .u8 0, x, dg N 1, dg N 0] 153)) (dig_val N 2 M HM.out _)⟩
        case measure => simp [intOf]
      | 3, _ =>
        rw [arr3]
        have hb : N / 16 ^ 3 ≤ N := Nat.div_le_self _ _
        generalize hM : ((N / 16 ^ 3 : Nat) : Int) = M
        have HM : Hid (((N / 16 ^ 3 : Nat) : Int) = M) := hM
        have hb0 : 0 ≤ M := by omega
        have hb1 : M < 2147483647 := by have h1 := HN.out; have h2 := Nums.valid_iff.1 hh.out; omega
        clear hM hb
        go_wp2
        go_roundw
        case rel => exact ⟨4, by omega, next_div N 3 M HM.out, rfl, congrArg (fun x => w1.alloc (.cells #[.int .u8 0, .int .u8 0, .int .u8 0, .int .u8 0, x, dg N 2, dg N 1, dg N 0] 153)) (dig_val N 3 M HM.out _)⟩
        case measure => simp [intOf]
      | 4, _ =>
        rw [arr4]
        have hb : N / 16 ^ 4 ≤ N := Nat.div_le_self _ _
        generalize hM : ((N / 16 ^ 4 : Nat) : Int) = M
        have HM : Hid (((N / 16 ^ 4 : Nat) : Int) = M) := hM
        have hb0 : 0 ≤ M := by omega
        have hb1 : M < 2147483647 := by have h1 := HN.out; have h2 := Nums.valid_iff.1 hh.out; omega
        clear hM hb
        go_wp2
        go_roundw
        case rel => exact ⟨5, by omega, next_div N 4 M HM.out, rfl, congrArg (fun x => w1.alloc (.cells #[.int .u8 0, .int .u8 0, .int .u8 0, x, dg N 3, dg N 2, dg N 1, dg N 0] 153)) (dig_val N 4 M HM.out _)⟩
        case measure => simp [intOf]
      | 5, _ =>
        rw [arr5]
        have hb : N / 16 ^ 5 ≤ N := Nat.div_le_self _ _
        generalize hM : ((N / 16 ^ 5 : Nat) : Int) = M
        have HM : Hid (((N / 16 ^ 5 : Nat) : Int) = M) := hM
        have hb0 : 0 ≤ M := by omega
        have hb1 : M < 2147483647 := by have h1 := HN.out; have h2 := Nums.valid_iff.1 hh.out; omega
        clear hM hb
        go_wp2
        go_roundw
        case rel => exact ⟨6, by omega, next_div N 5 M HM.out, rfl, congrArg (fun x => w1.alloc (.cells #[.int .u8 0, .int .u8 0, x, dg N 4, dg N 3, dg N 2, dg N 1, dg N 0] 153)) (dig_val N 5 M HM.out _)⟩
        case measure => simp [intOf]
      | 6, _ =>
        rw [arr6]
        have hb : N / 16 ^ 6 ≤ N := Nat.div_le_self _ _
        generalize hM : ((N / 16 ^ 6 : Nat) : Int) = M
        have HM : Hid (((N / 16 ^ 6 : Nat) : Int) = M) := hM
        have hb0 : 0 ≤ M := by omega
        have hb1 : M < 2147483647 := by have h1 := HN.out; have h2 := Nums.valid_iff.1 hh.out; omega
        clear hM hb
        go_wp2
        go_roundw
        case rel => exact ⟨7, by omega, next_div N 6 M HM.out, rfl, congrArg (fun x => w1.alloc (.cells #[.int .u8 0, x, dg N 5, dg N 4, dg N 3, dg N 2, dg N 1, dg N 0] 153)) (dig_val N 6 M HM.out _)⟩
        case measure => simp [intOf]
      | 7, _ =>
        rw [arr7]
        have hb : N / 16 ^ 7 ≤ N := Nat.div_le_self _ _
        generalize hM : ((N / 16 ^ 7 : Nat) : Int) = M
        have HM : Hid (((N / 16 ^ 7 : Nat) : Int) = M) := hM
        have hb0 : 0 ≤ M := by omega
        have hb1 : M < 2147483647 := by have h1 := HN.out; have h2 := Nums.valid_iff.1 hh.out; omega
        clear hM hb
        go_wp2
        go_roundw
        case rel => exact ⟨8, by omega, next_div N 7 M HM.out, rfl, congrArg (fun x => w1.alloc (.cells #[x, dg N 6, dg N 5, dg N 4, dg N 3, dg N 2, dg N 1, dg N 0] 153)) (dig_val N 7 M HM.out _)⟩
        case measure => simp [intOf]
    · obtain rfl : j = 8 := by omega
      have kc := run_convert_bytes_back (P := Tryz.prog) (w1.alloc (.cells (arr N 8) 153)) 154 9 5 ⟨w1.heap.size, 0, none⟩ 8 (Nums.hexOf 8 N) Tryz.underlying154 Tryz.underlying5 Tryz.underlying9 (fun i hi => by
        rw [show arr N 8 = (WalkMix.cells (Nums.hexOf 8 N)).toArray from (cells_text N).symm]
        rw [add_at]
        simp [WalkMix.cells, hi])
      rw [Nums.hexOf_length] at kc
      rw [arr8] at kc ⊢
      have kd : (convert 154 9 (.slice (some ⟨w1.heap.size, 0, none⟩) 8 8)).run Tryz.prog (w1.alloc (.cells #[dg N 7, dg N 6, dg N 5, dg N 4, dg N 3, dg N 2, dg N 1, dg N 0] 153)) = .ok (.string (Nums.str (Nums.hexOf 8 N))) (w1.alloc (.cells #[dg N 7, dg N 6, dg N 5, dg N 4, dg N 3, dg N 2, dg N 1, dg N 0] 153)) := kc
      generalize hM : ((N / 16 ^ 8 : Nat) : Int) = M
      clear hM kc
      go_wp2
      go_ret2
      exact ⟨by rw [Nums.text, HN.out]; rfl, (Below.refl _ _).alloc (Nat.le_refl _) _⟩

theorem digits_str : (ByteArray.mk #[48, 49, 50, 51, 52, 53, 54, 55, 56, 57, 97, 98, 99, 100, 101, 102]).data.toList = Nums.digits := rfl

set_option maxHeartbeats 1000000 in
set_option maxRecDepth 100000 in
theorem slite_index (s : ByteArray) (c : Int) (w : World) :
    Calls Tryz.prog 154 #[.string s, .int .u8 c] w fun e w' => e = .returned (.int .i64 (Lib.indexByte s.data.toList c.toNat.toUInt8)) ∧ w' = w := by
  go_enter Tryz.func154, Tryz.ntmps154
  go_wp2
  rw [run_callFunc_extern Tryz.func175 (by kernel_rfl) (by kernel_rfl) (by kernel_rfl) (e := Extern.BytealgIndexByte.indexByte) (by kernel_rfl), Lib.run_indexByteString]
  simp only [Result.andThen]
  rw [Oper.upon_value]
  go_wp2
  go_ret
  exact ⟨rfl, rfl⟩

set_option maxHeartbeats 400000 in
theorem indexByte_any (s : ByteArray) (c : Int) (w : World) :
    Calls Tryz.prog 123 #[.string s, .int .u8 c] w fun e w' => e = .returned (.int .i64 (Lib.indexByte s.data.toList c.toNat.toUInt8)) ∧ w' = w := by
  go_enter Tryz.func123, Tryz.ntmps123
  go_wp2_with (go_at_call 154; refine (slite_index _ _ _).mono ?_; rintro e w' ⟨rfl, rfl⟩)
  go_ret
  exact ⟨rfl, rfl⟩

theorem index_digit (c : UInt8) (w : World) :
    Calls Tryz.prog 123 #[.string ⟨#[48, 49, 50, 51, 52, 53, 54, 55, 56, 57, 97, 98, 99, 100, 101, 102]⟩, .int .u8 (c.toNat : Int)] w fun e w' => e = .returned (.int .i64 (Nums.hexv c)) ∧ w' = w := by
  refine (indexByte_any _ _ _).mono ?_
  rintro e w' ⟨rfl, rfl⟩
  refine ⟨?_, rfl⟩
  rw [digits_str, Nums.hexv, Int.toNat_natCast]
  simp

set_option maxHeartbeats 1000000 in
/-- a text of another length -/
theorem parse_len (s : ByteArray) (w : World) (h : s.size ≠ 8) :
    Calls Tryz.prog 65 #[.string s] w fun e w' => e = .returned (.tuple #[.int .i64 0, .iface 99 (.int .i64 2)]) ∧ w' = w := by
  have hb : ((s.size : Int) != 8) = true := by rw [bne_iff_ne]; omega
  go_enter Tryz.func65, Tryz.ntmps65
  go_wp2
  go_ret2
  exact ⟨rfl, rfl⟩

theorem val_take (l : List UInt8) (k : Nat) (hk : k ≤ 8) (h : Nums.allHex (l.take k) = true) : 0 ≤ Nums.val (l.take k) ∧ Nums.val (l.take k) < 4294967296 := by
  have b := Nums.val_bd _ h
  have hl : (l.take k).length ≤ 8 := Nat.le_trans (List.length_take_le _ _) hk
  have hp : 16 ^ (l.take k).length ≤ 16 ^ 8 := Nat.pow_le_pow_right (by decide) hl
  exact ⟨b.1, by omega⟩
theorem not_all (s : ByteArray) (k : Nat) (hk : k < s.size) (h : Nums.hexv s[k] < 0) : Nums.allHex s.data.toList = false := by
  cases ha : Nums.allHex s.data.toList
  · rfl
  · have := List.all_eq_true.1 ha s[k] (List.getElem_mem (l := s.data.toList) (n := k) (by simpa using hk))
    simp at this
    omega

set_option maxHeartbeats 1000000 in
theorem parse_eight (s : ByteArray) (w : World) (h : s.size = 8) :
    Calls Tryz.prog 65 #[.string s] w fun e w' => (Nums.allHex s.data.toList = false → e = .returned (.tuple #[.int .i64 0, .iface 99 (.int .i64 2)])) ∧
      (Nums.allHex s.data.toList = true → Nums.valid (Nums.val s.data.toList) = false → e = .returned (.tuple #[.int .i64 0, .iface 99 (.int .i64 1)])) ∧
      (Nums.allHex s.data.toList = true → Nums.valid (Nums.val s.data.toList) = true → e = .returned (.tuple #[.int .i64 (Nums.val s.data.toList), .nilIface])) ∧ w' = w := by
  have hb : ((s.size : Int) != 8) = false := by rw [bne_eq_false_iff_eq]; omega
  have HS : Hid (s.size = 8) := h
  clear h
  go_enter Tryz.func65, Tryz.ntmps65
  go_wp2
  go_loop [4, 13] (fun n i => ∃ k : Nat, k ≤ 8 ∧ i = .int .i64 k ∧ n = .int .i64 (Nums.val (s.data.toList.take k)) ∧ Hid (Nums.allHex (s.data.toList.take k) = true)) (fun _ i => 8 - (intOf i).toNat)
  case atStart => exact ⟨0, Nat.zero_le _, rfl, rfl, rfl⟩
  case round =>
    obtain ⟨k, hk, rfl, rfl, HA⟩ := hrel
    obtain ⟨v0, v1⟩ := val_take _ _ hk HA.out
    by_cases hlt : k < 8
    · have hks : k < s.size := by have := HS.out; omega
      have HV : Hid (Nums.val (s.data.toList.take (k + 1)) = Nums.val (s.data.toList.take k) * 16 + Nums.hexv s[k]) := by
        rw [Sums.take_snoc s k hks]; exact Nums.val_snoc _ _
      have HB : Hid (Nums.allHex (s.data.toList.take (k + 1)) = (Nums.allHex (s.data.toList.take k) && decide (0 ≤ Nums.hexv s[k]))) := by
        rw [Sums.take_snoc s k hks]; exact Nums.allHex_snoc _ _
      have c1 := Nums.hexv_lt s[k]
      by_cases hc : 0 ≤ Nums.hexv s[k]
      · go_wp2_with fail
        refine (index_digit _ _).mono ?_
        rintro e w1 ⟨rfl, rfl⟩
        go_wp2
        go_round
        case rel => exact ⟨k + 1, by omega, by go_num, by rw [HV.out], by rw [HB.out, HA.out]; exact (by simpa using hc : (true && decide (0 ≤ Nums.hexv s[k])) = true)⟩
        case measure => simp [intOf]; omega
      · have c0 : Nums.hexv s[k] < 0 := by omega
        clear hc
        go_wp2_with fail
        refine (index_digit _ _).mono ?_
        rintro e w1 ⟨rfl, rfl⟩
        go_wp2
        go_ret2
        have hf : Nums.allHex s.data.toList = false := not_all s k hks c0
        exact ⟨fun _ => rfl, fun h => (by rw [hf] at h; cases h), fun h => (by rw [hf] at h; cases h), rfl⟩
    · obtain rfl : k = 8 := by omega
      have ht : s.data.toList.take 8 = s.data.toList := List.take_of_length_le (by have := HS.out; simp; omega)
      rw [ht] at v0 v1 HA ⊢
      clear ht
      have hn : ¬ (8 : Int) < (s.size : Int) := by have := HS.out; omega
      cases hv : Nums.valid (Nums.val s.data.toList)
      · have hv' : Hid (Nums.valid (Nums.val s.data.toList) = false) := hv
        clear hv
        go_wp2_with fail
        refine (WalkMix.isSum_no _ _ hv'.out).mono ?_
        rintro e w1 ⟨rfl, rfl⟩
        go_wp2
        go_ret2
        exact ⟨fun h => (by rw [HA.out] at h; cases h), fun _ _ => rfl, fun _ h => (by rw [hv'.out] at h; cases h), rfl⟩
      · have hv' : Hid (Nums.valid (Nums.val s.data.toList) = true) := hv
        clear hv
        go_wp2_with fail
        refine (WalkMix.isSum_yes _ _ hv'.out).mono ?_
        rintro e w1 ⟨rfl, rfl⟩
        go_wp2
        go_ret2
        exact ⟨fun h => (by rw [HA.out] at h; cases h), fun _ h => (by rw [hv'.out] at h; cases h), fun _ _ => rfl, rfl⟩

/-- Parse, told by what the text reads as -/
theorem parse_ok (s : ByteArray) (w : World) (k : Int) (h : Nums.read s.data.toList = (k, 0)) :
    Calls Tryz.prog 65 #[.string s] w fun e w' => e = .returned (.tuple #[.int .i64 k, .nilIface]) ∧ w' = w := by
  unfold Nums.read at h
  split at h
  · rename_i hl
    split at h
    · rename_i hv
      simp only [Prod.mk.injEq, and_true] at h
      subst h
      refine (parse_eight s w (by simpa using hl.1)).mono ?_
      rintro e w' ⟨_, _, h3, rfl⟩
      exact ⟨h3 hl.2 hv, rfl⟩
    · simp at h
  · simp at h
theorem parse_range (s : ByteArray) (w : World) (h : Nums.read s.data.toList = (0, 1)) :
    Calls Tryz.prog 65 #[.string s] w fun e w' => e = .returned (.tuple #[.int .i64 0, .iface 99 (.int .i64 1)]) ∧ w' = w := by
  unfold Nums.read at h
  split at h
  · rename_i hl
    split at h
    · simp at h
    · rename_i hv
      refine (parse_eight s w (by simpa using hl.1)).mono ?_
      rintro e w' ⟨_, h2, _, rfl⟩
      exact ⟨h2 hl.2 (by simpa using hv), rfl⟩
  · simp at h
theorem parse_syntax (s : ByteArray) (w : World) (h : Nums.read s.data.toList = (0, 2)) :
    Calls Tryz.prog 65 #[.string s] w fun e w' => e = .returned (.tuple #[.int .i64 0, .iface 99 (.int .i64 2)]) ∧ w' = w := by
  unfold Nums.read at h
  split at h
  · split at h <;> simp at h
  · rename_i hl
    by_cases h8 : s.size = 8
    · refine (parse_eight s w h8).mono ?_
      rintro e w' ⟨h1, _, _, rfl⟩
      refine ⟨h1 ?_, rfl⟩
      cases ha : Nums.allHex s.data.toList
      · rfl
      · exact absurd ⟨by simpa using h8, ha⟩ hl
    · exact parse_len s w h8

end Go.Proofs.YticadkggaanbjaaGreatDoor.WalkHex

/-
  The text of a head and its sign: the program's line, signOf, Sign, Verify and Print.
-/
namespace Go.Proofs.YticadkggaanbjaaGreatDoor.WalkHdText
open Go.RowKit
open Lists (bt)
open Errs (errv errv0 errv_pos)
open Heads (Head ok headE signV signE verifyE signOf isKey print zero said)
open HeadVals (hv aggH sizeH At)
open Nums (str text valid)
open Decimals (dec)
open WalkHdLib (Tabs)

/-- a line of four words -/
def lineOf (h : Head) (last : List UInt8) : List UInt8 := dec h.size.toNat ++ 32 :: (text h.root ++ 32 :: (dec h.time.toNat ++ 32 :: last))
theorem lineOf_length (h : Head) (last : List UInt8) (h1 : h.size ≤ 1000000) (h2 : h.time ≤ 1000000) : (lineOf h last).length ≤ 100 + last.length := by
  have d1 := Decimals.dec_length 8 h.size.toNat (by omega)
  have d2 := Decimals.dec_length 8 h.time.toNat (by omega)
  unfold lineOf
  simp only [List.length_append, List.length_cons, Nums.text_length]
  omega

set_option maxHeartbeats 4000000 in
theorem line_any (h : Head) (last : ByteArray) (w : World) (hT : Tabs w) (hk : ok (Heads.blank h) = true) (hl : last.size ≤ 100) :
    Calls Tryz.prog 111 #[hv h, .string last] w fun e w' => e = .returned (.tuple #[.string (str (lineOf h last.data.toList)), .nilIface]) ∧ Below w.heap.size w w' := by
  obtain ⟨s, r, t, g⟩ := h
  obtain ⟨⟨k1, k2, k3, k4⟩, k5, _⟩ := Heads.ok_iff.1 hk
  simp only [Heads.blank] at k1 k2 k3 k4 k5
  have b0 : Below w.heap.size w (w.alloc (.cells #[.int .i64 s, .int .i64 r, .int .i64 t, .int .i64 g] 31)) := (Below.refl _ _).alloc (Nat.le_refl _) _
  have hA : At (w.alloc (.cells #[.int .i64 s, .int .i64 r, .int .i64 t, .int .i64 g] 31)) w.heap.size ⟨s, r, t, g⟩ := At.new w s r t g
  have a42 := aggH
  have z42 := sizeH
  have d1 := Decimals.dec_length 8 s.toNat (by omega)
  have d2 := Decimals.dec_length 8 t.toNat (by omega)
  have HX : Hid ((str (dec s.toNat)).size + (str (text r)).size + (str (dec t.toNat)).size + last.size ≤ 1000) := by
    show _ ≤ _
    rw [Nums.str_size, Nums.str_size, Nums.str_size, Nums.text_length]
    omega
  have HE : Hid (lineOf ⟨s, r, t, g⟩ last.data.toList = (str (dec s.toNat)).data.toList ++ 32 :: ((str (text r)).data.toList ++ 32 :: ((str (dec t.toNat)).data.toList ++ 32 :: last.data.toList))) := rfl
  have cP := fun w1 => WalkHex.print_yes r w1 k5
  have HI : Hid (∀ w1, Tabs w1 → Calls Tryz.prog 112 #[.int .i64 s] w1 fun e w' => e = .returned (.string (str (dec s.toNat))) ∧ Below w1.heap.size w1 w') := fun w1 h1 => WalkHdLib.itoa_any s k1 (by omega) w1 h1
  have HJ : Hid (∀ w1, Tabs w1 → Calls Tryz.prog 112 #[.int .i64 t] w1 fun e w' => e = .returned (.string (str (dec t.toNat))) ∧ Below w1.heap.size w1 w') := fun w1 h1 => WalkHdLib.itoa_any t k3 k4 w1 h1
  generalize str (dec s.toNat) = D1 at HX HE HI
  generalize str (text r) = D2 at HX HE cP
  generalize str (dec t.toNat) = D3 at HX HE HJ
  unfold hv
  simp only
  clear k1 k2 k3 k4 k5 hk hl d1 d2
  go_enter Tryz.func111, Tryz.ntmps111
  go_upto_region 1 with fail
  generalize w.alloc (.cells #[.int .i64 s, .int .i64 r, .int .i64 t, .int .i64 g] 31) = w0 at b0 hA ⊢
  obtain ⟨p0, p1, p2, p3⟩ := hA
  simp only at p0 p1 p2 p3
  have hA : At w0 w.heap.size ⟨s, r, t, g⟩ := ⟨p0, p1, p2, p3⟩
  go_wp2_with fail
  refine (cP _).mono ?_
  rintro e w1 ⟨rfl, b1⟩
  replace hA := hA.below b1
  replace b0 := bt b0 b1
  have HT1 : Hid (Tabs w1) := hT.below b0
  clear cP b1 p0 p1 p2 p3 hT
  go_upto_region 4 with fail
  obtain ⟨p0, p1, p2, p3⟩ := hA
  simp only at p0 p1 p2 p3
  go_region_with (first | (go_at_call_of 112 s; refine (HI.out _ ?_).mono ?_; exact HT1.out.below (Below.refl _ w1).drew; rintro e w2 ⟨rfl, b2⟩; have b3 : Below w1.heap.size w1 w2 := (Below.refl _ w1).drew.trans b2; have q2 := Lists.cell_below b3 p2) | (go_at_call_of 112 t; refine (HJ.out _ ?_).mono ?_; exact HT1.out.below b3; rintro e w4 ⟨rfl, b4⟩))
  all_goals
    have b5 : Below w.heap.size w w4 := bt b0 (bt b3 b4)
    have b6 := b5.alloc b5.size (.cells #[.string D1, .string D2, .string D3, .string last] 9)
    have cJ := WalkHdLib.join_any D1 D2 D3 last w4.heap.size (w4.alloc (.cells #[.string D1, .string D2, .string D3, .string last] 9)) (by simp) (by simp) (by simp) (by simp) HX.out
    clear b0 b2 b3 b4 b5 q2 p0 p1 p2 p3 HI HJ HT1
    generalize w4.alloc (.cells #[.string D1, .string D2, .string D3, .string last] 9) = w5 at b6 cJ ⊢
    simp [Act.put]
    go_wp2_with fail
    refine cJ.mono ?_
    rintro e w7 ⟨rfl, b7⟩
    have HZ : Hid (Below w.heap.size w w7) := bt b6 b7
    clear b6 b7 cJ
    go_wp2_with fail
    go_ret2
    exact ⟨by rw [HE.out]; rfl, HZ.out⟩

theorem isKey_iff {key : Int} : isKey key = true ↔ 1 ≤ key ∧ key ≤ 1000000 := decide_eq_true_iff
theorem key_length {key : Int} (h : isKey key = true) : (str (dec key.toNat)).size ≤ 100 := by
  have := isKey_iff.1 h
  have d := Decimals.dec_length 8 key.toNat (by omega)
  rw [Nums.str_size]
  omega
theorem line_said (h : Head) (key : Int) : lineOf h (str (dec key.toNat)).data.toList = said h key := rfl
theorem ok_blank {h : Head} (hk : ok h = true) : ok (Heads.blank h) = true := by
  obtain ⟨q1, q2, q3⟩ := Heads.ok_iff.1 hk
  exact Heads.ok_iff.2 ⟨q1, q2, by show valid 0 = true; decide +kernel⟩

set_option maxHeartbeats 4000000 in
theorem signOf_yes (h : Head) (key : Int) (w : World) (hT : Tabs w) (hk : isKey key = true) (ho : ok h = true) :
    Calls Tryz.prog 68 #[hv h, .int .i64 key] w fun e w' => e = .returned (.tuple #[.int .i64 (signOf h key), .nilIface]) ∧ Below w.heap.size w w' := by
  have HC : Hid (∀ w1, Calls Tryz.prog 67 #[hv h] w1 fun e w' => e = .returned .nilIface ∧ Below w1.heap.size w1 w') := fun w1 => by
    have c := WalkHdOne.check_any h w1
    rw [Heads.headE_zero.2 ho, errv0] at c
    exact c
  have HI : Hid (∀ w1, Tabs w1 → Calls Tryz.prog 112 #[.int .i64 key] w1 fun e w' => e = .returned (.string (str (dec key.toNat))) ∧ Below w1.heap.size w1 w') := fun w1 h1 => WalkHdLib.itoa_any key (by have := isKey_iff.1 hk; omega) (isKey_iff.1 hk).2 w1 h1
  have HL : Hid (∀ w1, Tabs w1 → Calls Tryz.prog 111 #[hv h, .string (str (dec key.toNat))] w1 fun e w' => e = .returned (.tuple #[.string (str (said h key)), .nilIface]) ∧ Below w1.heap.size w1 w') := fun w1 h1 => line_any h _ w1 h1 (ok_blank ho) (key_length hk)
  have hsz : (str (said h key)).size ≤ maxLen := by
    obtain ⟨⟨_, q2, _, q4⟩, _, _⟩ := Heads.ok_iff.1 ho
    have := lineOf_length h (str (dec key.toNat)).data.toList (by omega) q4
    rw [line_said] at this
    have kl := key_length hk
    rw [Nums.str_size] at kl ⊢
    rw [Nums.str_data] at this
    have : (1000 : Nat) ≤ maxLen := by decide
    omega
  have HS : Hid (∀ w1, Calls Tryz.prog 98 #[.string (str (said h key))] w1 fun e w' => e = .returned (.int .i64 (signOf h key)) ∧ w' = w1) := fun w1 => WalkSum.sum_any (str (said h key)) w1 hsz
  have g1 := isKey_iff.1 hk
  obtain ⟨k1, k2⟩ := g1
  clear hk ho hsz
  generalize signOf h key = Z at HS ⊢
  generalize str (said h key) = X at HS HL
  generalize str (dec key.toNat) = D at HI HL
  obtain ⟨s, r, t, g⟩ := h
  unfold hv at *
  simp only at HC HL ⊢
  have b0 : Below w.heap.size w (w.alloc (.cells #[.int .i64 s, .int .i64 r, .int .i64 t, .int .i64 g] 31)) := (Below.refl _ _).alloc (Nat.le_refl _) _
  have hA : At (w.alloc (.cells #[.int .i64 s, .int .i64 r, .int .i64 t, .int .i64 g] 31)) w.heap.size ⟨s, r, t, g⟩ := At.new w s r t g
  have a42 := aggH
  have z42 := sizeH
  go_enter Tryz.func68, Tryz.ntmps68
  go_upto_region 1 with fail
  generalize w.alloc (.cells #[.int .i64 s, .int .i64 r, .int .i64 t, .int .i64 g] 31) = w0 at b0 hA ⊢
  obtain ⟨p0, p1, p2, p3⟩ := hA
  simp only at p0 p1 p2 p3
  have hA : At w0 w.heap.size ⟨s, r, t, g⟩ := ⟨p0, p1, p2, p3⟩
  go_wp2_with fail
  refine (HC.out _).mono ?_
  rintro e w1 ⟨rfl, b1⟩
  replace hA := hA.below b1
  replace b0 := bt b0 b1
  have HT1 : Hid (Tabs w1) := hT.below b0
  clear HC b1 p0 p1 p2 p3 hT k1 k2
  go_upto_region 6 with fail
  obtain ⟨p0, p1, p2, p3⟩ := hA
  simp only at p0 p1 p2 p3
  have HA : Hid (At w1 w.heap.size ⟨s, r, t, g⟩) := ⟨p0, p1, p2, p3⟩
  go_region_with (first | (go_at_call 112; refine (HI.out _ ?_).mono ?_; exact HT1.out.below (Below.refl _ w1).drew; rintro e w2 ⟨rfl, b2⟩; have b3 : Below w1.heap.size w1 w2 := (Below.refl _ w1).drew.trans b2; obtain ⟨q0, q1, q2, q3⟩ := HA.out.below b3; simp only at q0 q1 q2 q3) | (go_at_call 111; refine (HL.out _ ?_).mono ?_; exact HT1.out.below b3; rintro e w4 ⟨rfl, b4⟩))
  all_goals
    have b5 : Below w.heap.size w w4 := bt b0 (bt b3 b4)
    have HZ : Hid (Below w.heap.size w w4) := b5
    clear b0 b2 b3 b4 b5 q0 q1 q2 q3 p0 p1 p2 p3 HI HL HT1 HA
    simp [Act.put]
    go_wp2_with fail
    refine (HS.out _).mono ?_
    rintro e w7 ⟨rfl, rfl⟩
    go_wp2_with fail
    go_ret2
    exact ⟨rfl, HZ.out⟩

set_option maxHeartbeats 4000000 in
theorem signOf_no (h : Head) (key : Int) (w : World) (hk : ¬ (isKey key = true ∧ ok h = true)) :
    Calls Tryz.prog 68 #[hv h, .int .i64 key] w fun e w' => e = .returned (.tuple #[.int .i64 0, .iface 99 (.int .i64 1)]) ∧ Below w.heap.size w w' := by
  have HB : Hid (Below w.heap.size w (w.alloc (.cells #[.int .i64 h.size, .int .i64 h.root, .int .i64 h.time, .int .i64 h.sign] 31))) := (Below.refl _ _).alloc (Nat.le_refl _) _
  have a42 := aggH
  have z42 := sizeH
  by_cases h1 : key < 1
  · obtain ⟨s, r, t, g⟩ := h
    clear hk
    unfold hv
    simp only at HB ⊢
    go_enter Tryz.func68, Tryz.ntmps68
    go_wp2_with fail
    go_ret2
    exact ⟨rfl, HB.out⟩
  by_cases h2 : 1000000 < key
  · obtain ⟨s, r, t, g⟩ := h
    clear hk
    unfold hv
    simp only at HB ⊢
    go_enter Tryz.func68, Tryz.ntmps68
    go_wp2_with fail
    go_ret2
    exact ⟨rfl, HB.out⟩
  have ho : ¬ ok h = true := fun q => hk ⟨isKey_iff.2 ⟨by omega, by omega⟩, q⟩
  have HC : Hid (∀ w1, Calls Tryz.prog 67 #[hv h] w1 fun e w' => e = .returned (.iface 99 (.int .i64 1)) ∧ Below w1.heap.size w1 w') := fun w1 => by
    have c := WalkHdOne.check_any h w1
    rw [WalkHdOne.bad ho] at c
    exact c
  clear hk ho
  obtain ⟨s, r, t, g⟩ := h
  unfold hv at *
  simp only at HB HC ⊢
  go_enter Tryz.func68, Tryz.ntmps68
  go_wp2_with fail
  refine (HC.out _).mono ?_
  rintro e w1 ⟨rfl, b1⟩
  have HZ : Hid (Below w.heap.size w w1) := bt HB.out b1
  clear b1 HB HC
  go_wp2_with fail
  go_ret2
  exact ⟨rfl, HZ.out⟩

end Go.Proofs.YticadkggaanbjaaGreatDoor.WalkHdText

/-
  A head signed, looked at, and as text: the program's Sign, Verify and Print.
-/
namespace Go.Proofs.YticadkggaanbjaaGreatDoor.WalkHdSign
open Go.RowKit
open Lists (bt)
open Errs (errv errv0 errv_pos)
open Heads (Head ok headE signV signE verifyE signOf isKey print zero said)
open HeadVals (hv aggH sizeH At)
open Nums (str text valid)
open Decimals (dec)
open WalkHdLib (Tabs)
open WalkReadRef (quad quad_new quad_set set_below)

theorem ret_sign {w : World} {g : Nat} {a b c d : Int} (tmps : Array Value) (hp : tmps.getD 4 undef = .pointer (some ⟨g, 0, none⟩)) (h : w.rowIs g 31 4 (quad a b c d)) :
    (results Tryz.f80 tmps).run Tryz.prog w = .ok (.tuple #[hv ⟨a, b, c, d⟩, tmps.getD 5 undef]) w := by
  have hl := run_loadVar_mid (P := Tryz.prog) w g 0 31 [.int .i64 a, .int .i64 b, .int .i64 c, .int .i64 d] _ (fun j v hv => by
    match j, hv with
    | 0, hv => simp at hv; subst hv; simpa [quad] using h.cell (i := 0) (by omega)
    | 1, hv => simp at hv; subst hv; simpa [quad] using h.cell (i := 1) (by omega)
    | 2, hv => simp at hv; subst hv; simpa [quad] using h.cell (i := 2) (by omega)
    | 3, hv => simp at hv; subst hv; simpa [quad] using h.cell (i := 3) (by omega)) Tryz.underlying31 rfl (by kernel_rfl)
  rw [results_cell_tmp rfl, hp]
  simp [asAddr, hl, Result.andThen, hv]

/-- two heads' blocks, the one laid behind the other -/
theorem two_quads (w : World) (a b c d : Int) : ((w.alloc (.cells #[.int .i64 a, .int .i64 b, .int .i64 c, .int .i64 d] 31)).alloc (.cells #[.int .i64 0, .int .i64 0, .int .i64 0, .int .i64 0] 31)).rowIs w.heap.size 31 4 (quad a b c d) ∧ ((w.alloc (.cells #[.int .i64 a, .int .i64 b, .int .i64 c, .int .i64 d] 31)).alloc (.cells #[.int .i64 0, .int .i64 0, .int .i64 0, .int .i64 0] 31)).rowIs (w.heap.size + 1) 31 4 (quad 0 0 0 0) := by
  refine ⟨(quad_new w a b c d).alloc _, ?_⟩
  have h := quad_new (w.alloc (.cells #[.int .i64 a, .int .i64 b, .int .i64 c, .int .i64 d] 31)) 0 0 0 0
  simpa using h
theorem at_quad {w : World} {g : Nat} {a b c d : Int} (h : w.rowIs g 31 4 (quad a b c d)) : At w g ⟨a, b, c, d⟩ := ⟨by simpa [quad] using h.cell (i := 0) (by omega), by simpa [quad] using h.cell (i := 1) (by omega), by simpa [quad] using h.cell (i := 2) (by omega), by simpa [quad] using h.cell (i := 3) (by omega)⟩
theorem quad_sign {w : World} {g : Nat} {a b c d : Int} (h : w.rowIs g 31 4 (quad a b c d)) (x : Int) : (w.setCell ⟨g, 3, none⟩ (.int .i64 x)).rowIs g 31 4 (quad a b c x) :=
  (h.set 3 _).congr fun j hj => by match j, hj with | 0, _ | 1, _ | 2, _ | 3, _ => rfl | j + 4, h => omega

set_option maxHeartbeats 4000000 in
theorem sign_any (h : Head) (key : Int) (w : World) (hT : Tabs w) :
    Calls Tryz.prog 80 #[hv h, .int .i64 key] w fun e w' => e = .returned (.tuple #[hv (signV h key), errv (signE h key)]) ∧ Below w.heap.size w w' := by
  have a42 := aggH
  have z42 := sizeH
  obtain ⟨s, r, t, g⟩ := h
  have b0 : Below w.heap.size w ((w.alloc (.cells #[.int .i64 s, .int .i64 r, .int .i64 t, .int .i64 0] 31)).alloc (.cells #[.int .i64 0, .int .i64 0, .int .i64 0, .int .i64 0] 31)) := ((Below.refl _ _).alloc (Nat.le_refl _) _).alloc (by simp) _
  obtain ⟨hq, hz⟩ := two_quads w s r t 0
  have HT : Hid (Tabs ((w.alloc (.cells #[.int .i64 s, .int .i64 r, .int .i64 t, .int .i64 0] 31)).alloc (.cells #[.int .i64 0, .int .i64 0, .int .i64 0, .int .i64 0] 31))) := hT.below b0
  clear hT
  by_cases hk : isKey key = true ∧ ok (Heads.blank ⟨s, r, t, g⟩) = true
  · have HC : Hid (∀ w1, Tabs w1 → Calls Tryz.prog 68 #[.agg #[.int .i64 s, .int .i64 r, .int .i64 t, .int .i64 0], .int .i64 key] w1 fun e w' => e = .returned (.tuple #[.int .i64 (signOf ⟨s, r, t, g⟩ key), .nilIface]) ∧ Below w1.heap.size w1 w') := fun w1 h1 => WalkHdText.signOf_yes (Heads.blank ⟨s, r, t, g⟩) key w1 h1 hk.1 hk.2
    have HE : Hid (signE ⟨s, r, t, g⟩ key = 0) := if_pos hk
    have HV : Hid (signV ⟨s, r, t, g⟩ key = ⟨s, r, t, signOf ⟨s, r, t, g⟩ key⟩) := if_pos HE.out
    clear hk
    generalize signOf ⟨s, r, t, g⟩ key = Z at HC HV
    unfold hv
    simp only
    go_enter Tryz.func80, Tryz.ntmps80
    go_upto_region 2 with fail
    generalize (w.alloc (.cells #[.int .i64 s, .int .i64 r, .int .i64 t, .int .i64 0] 31)).alloc (.cells #[.int .i64 0, .int .i64 0, .int .i64 0, .int .i64 0] 31) = w0 at b0 hq hz HT ⊢
    obtain ⟨p0, p1, p2, p3⟩ := at_quad hq
    simp only at p0 p1 p2 p3
    go_wp2_with fail
    refine (HC.out _ HT.out).mono ?_
    rintro e w1 ⟨rfl, b1⟩
    replace hq := hq.of_block (b1.block _ hq.lt)
    replace hz := hz.of_block (b1.block _ hz.lt)
    replace b0 := bt b0 b1
    clear b1 HC HT p0 p1 p2 p3
    have p3 := (at_quad hq).sign
    have f3 := hq.frozen 3
    simp only at p3
    go_upto_region 6 with fail
    have hz2 : (w1.setCell ⟨w.heap.size, 3, none⟩ (.int .i64 Z)).rowIs (w.heap.size + 1) 31 4 (quad 0 0 0 0) := hz.setOther (a := ⟨w.heap.size, 3, none⟩) (by simp) _
    replace hq := quad_sign hq Z
    replace b0 := b0.setCell (p := ⟨w.heap.size, 3, none⟩) (Nat.le_refl _) (.int .i64 Z)
    clear p3 f3 hz
    generalize w1.setCell ⟨w.heap.size, 3, none⟩ (.int .i64 Z) = w2 at hq hz2 b0 ⊢
    obtain ⟨p0, p1, p2, p3⟩ := at_quad hq
    obtain ⟨q0, q1, q2, q3⟩ := at_quad hz2
    simp only at p0 p1 p2 p3 q0 q1 q2 q3
    have f0 := hz2.frozen 0
    have f1 := hz2.frozen 1
    have f2 := hz2.frozen 2
    have f3 := hz2.frozen 3
    have HQ : Hid (w2.rowIs (w.heap.size + 1) 31 4 (quad 0 0 0 0)) := hz2
    have HB : Hid (Below w.heap.size w w2) := b0
    clear hq hz2 b0
    go_wp2_with fail
    try simp only [Exit.inBlock, Exit.then]
    refine bodyPost_ret (ret_sign _ rfl (quad_set HQ.out s r t Z)) rfl ⟨?_, set_below HB.out (Nat.le_succ _) _ _ _ _⟩
    rw [HV.out, HE.out]
    rfl
  · have HC : Hid (∀ w1, Calls Tryz.prog 68 #[.agg #[.int .i64 s, .int .i64 r, .int .i64 t, .int .i64 0], .int .i64 key] w1 fun e w' => e = .returned (.tuple #[.int .i64 0, .iface 99 (.int .i64 1)]) ∧ Below w1.heap.size w1 w') := fun w1 => WalkHdText.signOf_no (Heads.blank ⟨s, r, t, g⟩) key w1 hk
    have HE : Hid (signE ⟨s, r, t, g⟩ key = 1) := if_neg hk
    have HV : Hid (signV ⟨s, r, t, g⟩ key = zero) := if_neg (by rw [HE.out]; decide)
    clear hk
    unfold hv
    simp only
    go_enter Tryz.func80, Tryz.ntmps80
    go_upto_region 2 with fail
    generalize (w.alloc (.cells #[.int .i64 s, .int .i64 r, .int .i64 t, .int .i64 0] 31)).alloc (.cells #[.int .i64 0, .int .i64 0, .int .i64 0, .int .i64 0] 31) = w0 at b0 hq hz HT ⊢
    obtain ⟨p0, p1, p2, p3⟩ := at_quad hq
    simp only at p0 p1 p2 p3
    go_wp2_with fail
    refine (HC.out _).mono ?_
    rintro e w1 ⟨rfl, b1⟩
    replace hz := hz.of_block (b1.block _ hz.lt)
    replace b0 := bt b0 b1
    clear b1 HC HT p0 p1 p2 p3 hq
    obtain ⟨q0, q1, q2, q3⟩ := at_quad hz
    simp only at q0 q1 q2 q3
    have f0 := hz.frozen 0
    have f1 := hz.frozen 1
    have f2 := hz.frozen 2
    have f3 := hz.frozen 3
    have HQ : Hid (w1.rowIs (w.heap.size + 1) 31 4 (quad 0 0 0 0)) := hz
    have HB : Hid (Below w.heap.size w w1) := b0
    clear hz b0
    go_wp2_with fail
    try simp only [Exit.inBlock, Exit.then]
    refine bodyPost_ret (ret_sign _ rfl (quad_set HQ.out 0 0 0 0)) rfl ⟨?_, set_below HB.out (Nat.le_succ _) _ _ _ _⟩
    rw [HV.out, HE.out]
    rfl

set_option maxHeartbeats 4000000 in
theorem verify_any (h : Head) (key : Int) (w : World) (hT : Tabs w) :
    Calls Tryz.prog 13 #[hv h, .int .i64 key] w fun e w' => e = .returned (errv (verifyE h key)) ∧ Below w.heap.size w w' := by
  have a42 := aggH
  have z42 := sizeH
  have b0 : Below w.heap.size w (w.alloc (.cells #[.int .i64 h.size, .int .i64 h.root, .int .i64 h.time, .int .i64 h.sign] 31)) := (Below.refl _ _).alloc (Nat.le_refl _) _
  have hA : At (w.alloc (.cells #[.int .i64 h.size, .int .i64 h.root, .int .i64 h.time, .int .i64 h.sign] 31)) w.heap.size h := At.new w _ _ _ _
  have HT : Hid (Tabs (w.alloc (.cells #[.int .i64 h.size, .int .i64 h.root, .int .i64 h.time, .int .i64 h.sign] 31))) := hT.below b0
  clear hT
  by_cases hk : isKey key = true ∧ ok h = true
  · have HC : Hid (∀ w1, Tabs w1 → Calls Tryz.prog 68 #[hv h, .int .i64 key] w1 fun e w' => e = .returned (.tuple #[.int .i64 (signOf h key), .nilIface]) ∧ Below w1.heap.size w1 w') := fun w1 h1 => WalkHdText.signOf_yes h key w1 h1 hk.1 hk.2
    have HE : Hid (verifyE h key = if h.sign = signOf h key then 0 else 9) := if_pos hk
    clear hk
    generalize verifyE h key = E at HE ⊢
    generalize signOf h key = Z at HC HE
    obtain ⟨s, r, t, g⟩ := h
    unfold hv at *
    simp only at b0 hA HC HT HE ⊢
    go_enter Tryz.func13, Tryz.ntmps13
    go_upto_region 1 with fail
    generalize w.alloc (.cells #[.int .i64 s, .int .i64 r, .int .i64 t, .int .i64 g] 31) = w0 at b0 hA HT ⊢
    obtain ⟨p0, p1, p2, p3⟩ := hA
    simp only at p0 p1 p2 p3
    go_wp2_with fail
    refine (HC.out _ HT.out).mono ?_
    rintro e w1 ⟨rfl, b1⟩
    have q3 := Lists.cell_below b1 p3
    have HB : Hid (Below w.heap.size w w1) := bt b0 b1
    clear b1 HC HT p0 p1 p2 p3 b0
    by_cases hz : g = Z
    · have hd : (Z != g) = false := by rw [hz]; simp
      have HX : Hid (E = 0) := by show E = 0; rw [HE.out, if_pos hz]
      clear hz HE
      go_wp2_with fail
      go_ret
      exact ⟨by rw [HX.out]; rfl, HB.out⟩
    · have hd : (Z != g) = true := by rw [bne_iff_ne]; exact fun q => hz q.symm
      have HX : Hid (E = 9) := by show E = 9; rw [HE.out, if_neg hz]
      clear hz HE
      go_wp2_with fail
      go_ret
      exact ⟨by rw [HX.out]; rfl, HB.out⟩
  · have HC : Hid (∀ w1, Calls Tryz.prog 68 #[hv h, .int .i64 key] w1 fun e w' => e = .returned (.tuple #[.int .i64 0, .iface 99 (.int .i64 1)]) ∧ Below w1.heap.size w1 w') := fun w1 => WalkHdText.signOf_no h key w1 hk
    have HE : Hid (verifyE h key = 1) := if_neg hk
    clear hk
    generalize verifyE h key = E at HE ⊢
    obtain ⟨s, r, t, g⟩ := h
    unfold hv at *
    simp only at b0 hA HC HT ⊢
    go_enter Tryz.func13, Tryz.ntmps13
    go_upto_region 1 with fail
    generalize w.alloc (.cells #[.int .i64 s, .int .i64 r, .int .i64 t, .int .i64 g] 31) = w0 at b0 hA HT ⊢
    obtain ⟨p0, p1, p2, p3⟩ := hA
    simp only at p0 p1 p2 p3
    go_wp2_with fail
    refine (HC.out _).mono ?_
    rintro e w1 ⟨rfl, b1⟩
    have HB : Hid (Below w.heap.size w w1) := bt b0 b1
    clear b1 HC HT p0 p1 p2 p3 b0
    go_wp2_with fail
    go_ret
    exact ⟨by rw [HE.out]; rfl, HB.out⟩

theorem line_print (h : Head) : WalkHdText.lineOf h (str (text h.sign)).data.toList = print h := rfl

set_option maxHeartbeats 4000000 in
theorem print_any (h : Head) (w : World) (hT : Tabs w) :
    Calls Tryz.prog 51 #[hv h] w fun e w' => e = .returned (.tuple #[.string (str (if headE h = 0 then print h else [])), errv (headE h)]) ∧ Below w.heap.size w w' := by
  have a42 := aggH
  have z42 := sizeH
  have b0 : Below w.heap.size w (w.alloc (.cells #[.int .i64 h.size, .int .i64 h.root, .int .i64 h.time, .int .i64 h.sign] 31)) := (Below.refl _ _).alloc (Nat.le_refl _) _
  have hA : At (w.alloc (.cells #[.int .i64 h.size, .int .i64 h.root, .int .i64 h.time, .int .i64 h.sign] 31)) w.heap.size h := At.new w _ _ _ _
  have HT : Hid (Tabs w) := hT
  clear hT
  have HC : Hid (∀ w1, Calls Tryz.prog 67 #[hv h] w1 fun e w' => e = .returned (errv (headE h)) ∧ Below w1.heap.size w1 w') := fun w1 => WalkHdOne.check_any h w1
  by_cases ho : ok h = true
  · have HP : Hid (∀ w1, Calls Tryz.prog 38 #[.int .i64 h.sign] w1 fun e w' => e = .returned (.tuple #[.string (str (text h.sign)), .nilIface]) ∧ Below w1.heap.size w1 w') := fun w1 => WalkHex.print_yes h.sign w1 (Heads.ok_iff.1 ho).2.2
    have HL : Hid (∀ w1, Tabs w1 → Calls Tryz.prog 111 #[hv h, .string (str (text h.sign))] w1 fun e w' => e = .returned (.tuple #[.string (str (print h)), .nilIface]) ∧ Below w1.heap.size w1 w') := fun w1 h1 => WalkHdText.line_any h _ w1 h1 (WalkHdText.ok_blank ho) (by rw [Nums.str_size, Nums.text_length]; decide)
    have HE : Hid (headE h = 0) := Heads.headE_zero.2 ho
    rw [HE.out, errv0] at HC
    rw [HE.out, if_pos rfl, errv0]
    clear ho HE
    generalize str (print h) = X at HL ⊢
    obtain ⟨s, r, t, g⟩ := h
    simp only at HP
    unfold hv at *
    simp only at b0 hA HC HL HP ⊢
    generalize str (text g) = D at HP HL
    go_enter Tryz.func51, Tryz.ntmps51
    go_upto_region 1 with fail
    generalize w.alloc (.cells #[.int .i64 s, .int .i64 r, .int .i64 t, .int .i64 g] 31) = w0 at b0 hA ⊢
    obtain ⟨p0, p1, p2, p3⟩ := hA
    simp only at p0 p1 p2 p3
    have hA : At w0 w.heap.size ⟨s, r, t, g⟩ := ⟨p0, p1, p2, p3⟩
    go_wp2_with fail
    refine (HC.out _).mono ?_
    rintro e w1 ⟨rfl, b1⟩
    replace hA := hA.below b1
    replace b0 := bt b0 b1
    clear b1 HC p0 p1 p2 p3
    obtain ⟨p0, p1, p2, p3⟩ := hA
    simp only at p0 p1 p2 p3
    have hA : At w1 w.heap.size ⟨s, r, t, g⟩ := ⟨p0, p1, p2, p3⟩
    go_wp2_with fail
    refine (HP.out _).mono ?_
    rintro e w2 ⟨rfl, b1⟩
    replace hA := hA.below b1
    replace b0 := bt b0 b1
    have HT2 : Hid (Tabs w2) := HT.out.below b0
    clear b1 HP p0 p1 p2 p3
    obtain ⟨p0, p1, p2, p3⟩ := hA
    simp only at p0 p1 p2 p3
    go_wp2_with fail
    refine (HL.out _ HT2.out).mono ?_
    rintro e w3 ⟨rfl, b1⟩
    have HB : Hid (Below w.heap.size w w3) := bt b0 b1
    clear b1 HL p0 p1 p2 p3 b0 HT HT2
    go_wp2_with fail
    go_ret2
    exact ⟨rfl, HB.out⟩
  · have HE : Hid (headE h = 1) := if_neg ho
    rw [WalkHdOne.bad ho] at HC
    rw [WalkHdOne.bad ho, HE.out, if_neg (by decide)]
    clear ho HE
    obtain ⟨s, r, t, g⟩ := h
    unfold hv at *
    simp only at b0 hA HC ⊢
    go_enter Tryz.func51, Tryz.ntmps51
    go_upto_region 1 with fail
    generalize w.alloc (.cells #[.int .i64 s, .int .i64 r, .int .i64 t, .int .i64 g] 31) = w0 at b0 hA ⊢
    obtain ⟨p0, p1, p2, p3⟩ := hA
    simp only at p0 p1 p2 p3
    go_wp2_with fail
    refine (HC.out _).mono ?_
    rintro e w1 ⟨rfl, b1⟩
    have HB : Hid (Below w.heap.size w w1) := bt b0 b1
    clear b1 HC p0 p1 p2 p3 b0 HT
    go_wp2_with fail
    go_ret2
    exact ⟨rfl, HB.out⟩

end Go.Proofs.YticadkggaanbjaaGreatDoor.WalkHdSign

