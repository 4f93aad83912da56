/-
  What the program's sumBelow and rootFrom return: the sums of the tree of keys, from the map of the leafs and from a proof.
-/
import Derived.Test.YtekahahaknamfaiDoorWalkKyBits
namespace Go.Proofs.YtekahahaknamfaiDoor.WalkKyTree
open Go.RowKit
open Lists (bt Row ints)
open Stores (Pair keyE)
open WalkMix (cells)
open Ways (up1 upL node)
open KeyTrees
open KeyBits
open WalkKyMap
open WalkKyPlace (load_arr store_arr)

theorem below_leaf (l : List Pair) (b : Nat) (p : Nat) (w : World) (hp : p < 256) (hu : Used w b l) : Calls Tryd.prog 37 #[.map (some b), pv (bitsT p), .int .i64 8] w fun e w' => e = .returned (.int .i64 (place l p)) ∧ Below w.heap.size w w' := by
  have hl := bitsT_length p
  have A1 : Arr (w.alloc (.cells (cells (bitsT p)).toArray 80)) w.heap.size (bitsT p) := arr_new w hl
  have B1 : Below w.heap.size w (w.alloc (.cells (cells (bitsT p)).toArray 80)) := (Below.refl _ _).alloc (Nat.le_refl _) _
  obtain ⟨c, lk, hc⟩ := used_look (hu.below B1 hu.lt) hp
  have HA1 : Hid (Arr (w.alloc (.cells (cells (bitsT p)).toArray 80)) w.heap.size (bitsT p)) := A1
  show Calls Tryd.prog 37 #[.map (some b), .agg (cells (bitsT p)).toArray, .int .i64 8] w _
  go_enter Tryd.func37, Tryd.ntmps37
  go_upto_region 1 with fail
  generalize w.alloc (.cells (cells (bitsT p)).toArray 80) = w1 at A1 B1 lk HA1
  have HB1 : Hid (Below w.heap.size w w1) := B1
  clear A1 B1 hu
  cases ht : taken l p with
  | true =>
    have HC : Hid (c = place l p) := hc ht
    rw [ht] at lk
    clear hc ht
    go_wp2_with (refine load_arr rfl (.tmp 4) rfl _ rfl _ HA1.out ?_)
    go_ret
    exact ⟨by rw [HC.out]; rfl, HB1.out⟩
  | false =>
    have HC : Hid (nothing = place l p) := (place_none (taken_no ht)).symm
    rw [ht] at lk
    clear hc ht
    go_wp2_with (refine load_arr rfl (.tmp 4) rfl _ rfl _ HA1.out ?_)
    refine (WalkKyBits.free_any _).mono ?_
    rintro e w2 ⟨rfl, rfl⟩
    clear lk
    go_wp2_with fail
    go_ret
    exact ⟨by rw [← HC.out]; rfl, HB1.out⟩

set_option maxHeartbeats 1000000 in
theorem below_step (l : List Pair) (b j : Nat) (bs : List UInt8) (w : World) (L1 L2 L : Int) (hj : j < 8) (hl : bs.length = 8) (hu : Used w b l)
    (HI1 : Hid (∀ w1, Used w1 b l → Calls Tryd.prog 37 #[.map (some b), pv (bs.set j 48), .int .i64 ((j : Int) + 1)] w1 fun e w' => e = .returned (.int .i64 L1) ∧ Below w1.heap.size w1 w'))
    (HI2 : Hid (∀ w1, Used w1 b l → Calls Tryd.prog 37 #[.map (some b), pv (bs.set j 49), .int .i64 ((j : Int) + 1)] w1 fun e w' => e = .returned (.int .i64 L2) ∧ Below w1.heap.size w1 w'))
    (HE : Hid (L = Sums.sum (Nums.nodeBytes L1 L2))) (HV1 : Hid (Nums.valid L1 = true)) (HV2 : Hid (Nums.valid L2 = true)) :
    Calls Tryd.prog 37 #[.map (some b), pv bs, .int .i64 (j : Int)] w fun e w' => e = .returned (.int .i64 L) ∧ Below w.heap.size w w' := by
  have A1 : Arr (w.alloc (.cells (cells bs).toArray 80)) w.heap.size bs := arr_new w hl
  have B1 : Below w.heap.size w (w.alloc (.cells (cells bs).toArray 80)) := (Below.refl _ _).alloc (Nat.le_refl _) _
  have HU : Hid (Used w b l) := hu
  have c1 := A1.cell (i := j) (List.getElem?_eq_getElem (by omega))
  have f1 := A1.frozen j
  have i1 : (j : Int) < 8 := by omega
  have e8 : ((j : Int) == 8) = false := by simp; omega
  have HA2 : Hid (Arr ((w.alloc (.cells (cells bs).toArray 80)).setCell ⟨w.heap.size, j, none⟩ (.int .u8 48)) w.heap.size (bs.set j 48)) := A1.set j 48
  have HB2 : Hid (Below w.heap.size w ((w.alloc (.cells (cells bs).toArray 80)).setCell ⟨w.heap.size, j, none⟩ (.int .u8 48))) := B1.setCell (Nat.le_refl _) _
  generalize bs[j] = c0 at c1
  show Calls Tryd.prog 37 #[.map (some b), .agg (cells bs).toArray, .int .i64 (j : Int)] w _
  clear hl hu hj A1 B1
  go_enter Tryd.func37, Tryd.ntmps37
  go_upto_region 1 with fail
  generalize w.alloc (.cells (cells bs).toArray 80) = w1 at c1 f1 HA2 HB2
  go_wp2_with (refine load_arr rfl (.tmp 4) rfl _ rfl _ HA2.out ?_)
  generalize w1.setCell ⟨w.heap.size, j, none⟩ (.int .u8 48) = w2 at HA2 HB2
  clear c1 f1
  refine (HI1.out _ (HU.out.below HB2.out HU.out.lt)).mono ?_
  rintro e w3 ⟨rfl, b3⟩
  have HB3 : Hid (Below w.heap.size w w3) := bt HB2.out b3
  have A3 := HA2.out.below b3 HA2.out.lt
  obtain ⟨c0, hc0⟩ : ∃ c0, (bs.set j 48)[j]? = some c0 := ⟨_, List.getElem?_eq_getElem (by have := HA2.out.2; omega)⟩
  have c3 := A3.cell hc0
  have f3 := A3.frozen j
  have HA4 : Hid (Arr (w3.setCell ⟨w.heap.size, j, none⟩ (.int .u8 49)) w.heap.size (bs.set j 49)) := by
    have := A3.set j 49
    rw [List.set_set] at this
    exact this
  have HB4 : Hid (Below w.heap.size w (w3.setCell ⟨w.heap.size, j, none⟩ (.int .u8 49))) := HB3.out.setCell (Nat.le_refl _) _
  clear HI1 HA2 HB2 b3 hc0 A3 HB3
  go_wp2_with (refine load_arr rfl (.tmp 4) rfl _ rfl _ HA4.out ?_)
  generalize w3.setCell ⟨w.heap.size, j, none⟩ (.int .u8 49) = w4 at HA4 HB4
  clear c3 f3 HA4
  refine (HI2.out _ (HU.out.below HB4.out HU.out.lt)).mono ?_
  rintro e w5 ⟨rfl, b5⟩
  have HB5 : Hid (Below w.heap.size w w5) := bt HB4.out b5
  clear HI2 b5 HB4
  go_wp2_with fail
  refine (WalkMix.node_yes L1 L2 _ HV1.out HV2.out).mono ?_
  rintro e w6 ⟨rfl, b6⟩
  have HB6 : Hid (Below w.heap.size w w6) := bt HB5.out b6
  clear HB5 b6
  go_wp2_with fail
  go_ret
  exact ⟨by rw [HE.out]; rfl, HB6.out⟩

theorem level_next (f : Nat → Int) (d p : Nat) : level f (d + 1) p = Sums.sum (Nums.nodeBytes (level f d (2 * p)) (level f d (2 * p + 1))) := rfl
theorem below_any (l : List Pair) (b : Nat) : ∀ (d j p : Nat) (bs : List UInt8) (w : World), j + d = 8 → bs.length = 8 → bs.take j = bitsF j p → p < 2 ^ j → Used w b l → Calls Tryd.prog 37 #[.map (some b), pv bs, .int .i64 (j : Int)] w fun e w' => e = .returned (.int .i64 (level (place l) d p)) ∧ Below w.heap.size w w' := by
  intro d
  induction d with
  | zero =>
    intro j p bs w hj hl ht hp hu
    obtain rfl : j = 8 := hj
    rw [List.take_of_length_le (by omega)] at ht
    rw [ht]
    exact below_leaf l b p w hp hu
  | succ d ih =>
    intro j p bs w hj hl ht hp hu
    have hj8 : j < 8 := by omega
    refine below_step l b j bs w (level (place l) d (2 * p)) (level (place l) d (2 * p + 1)) _ hj8 hl hu (fun w1 u => ?_) (fun w1 u => ?_) (level_next _ _ _) (level_valid (place_valid l) _ _) (level_valid (place_valid l) _ _)
    · exact ih (j + 1) (2 * p) (bs.set j 48) w1 (by omega) (by rw [List.length_set]; exact hl) (by rw [take_set (by omega), ht, bits_low]) (by rw [Nat.pow_succ]; omega) u
    · exact ih (j + 1) (2 * p + 1) (bs.set j 49) w1 (by omega) (by rw [List.length_set]; exact hl) (by rw [take_set (by omega), ht, bits_high]) (by rw [Nat.pow_succ]; omega) u

set_option maxHeartbeats 1000000 in
theorem from_any (n : Nat) (s : Int) (p : List Int) (a : Option Addr) (m cap : Nat) (w : World) (hr : Row w a m cap (ints p)) (hm : m = 8) (hv : ∀ x ∈ p, Nums.valid x = true) (hs : Nums.valid s = true) :
    Calls Tryd.prog 47 #[pv (bitsT n), .int .i64 s, .slice a m cap] w fun e w' => e = .returned (.int .i64 (upL s p (turns n))) ∧ Below w.heap.size w w' := by
  subst hm
  have hln : p.length = 8 := by rw [← hr.1, Lists.ints_length]
  have A1 : Arr (w.alloc (.cells (cells (bitsT n)).toArray 80)) w.heap.size (bitsT n) := arr_new w (bitsT_length n)
  have B1 : Below w.heap.size w (w.alloc (.cells (cells (bitsT n)).toArray 80)) := (Below.refl _ _).alloc (Nat.le_refl _) _
  have HR : Hid (Row w a 8 cap (ints p)) := hr
  have HV : Hid (∀ x ∈ p, Nums.valid x = true) := hv
  have HS : Hid (Nums.valid s = true) := hs
  clear hr hv hs
  show Calls Tryd.prog 47 #[.agg (cells (bitsT n)).toArray, .int .i64 s, .slice a 8 cap] w _
  go_enter Tryd.func47, Tryd.ntmps47
  go_upto_region 1 with fail
  generalize w.alloc (.cells (cells (bitsT n)).toArray 80) = w1 at A1 B1
  have HA : Hid (Arr w1 w.heap.size (bitsT n)) := A1
  have HB1 : Hid (Below w.heap.size w w1) := B1
  clear A1 B1
  go_wp2_with fail
  go_loopw [1, 11] (fun t i wr => ∃ j : Nat, j ≤ 8 ∧ t = .int .i64 (upL s (p.take j) (turnsF j n)) ∧ i = .int .i64 (j : Int) ∧ Hid (Below w1.heap.size w1 wr)) (fun _ i _ => 8 - (intOf i).toNat)
  case atStart => exact ⟨0, by omega, rfl, rfl, Below.refl _ _⟩
  case round =>
    obtain ⟨j, hj, rfl, rfl, HB⟩ := hrel
    by_cases hjl : j < 8
    · have i1 : (j : Int) < 8 := by omega
      have HU : Hid (upL s (p.take (j + 1)) (turnsF (j + 1) n) = up1 (upL s (p.take j) (turnsF j n)) (p.getD j 0) (decide (n / 2 ^ j % 2 = 1))) := up_next (by omega)
      obtain ⟨b0, off0, rfl, hc⟩ := ((HR.out.below HB1.out).below HB.out).2.2 (by omega)
      have c0 := hc j _ (Lists.ints_at (by omega))
      have HY : Hid (Nums.valid (p.getD j 0) = true) := HV.out _ (by rw [List.getD_eq_getElem?_getD, List.getElem?_eq_getElem (by omega)]; exact List.getElem_mem _)
      have HX : Hid (Nums.valid (upL s (p.take j) (turnsF j n)) = true) := Ways.upL_valid _ _ _ HS.out
      obtain ⟨m, hm⟩ : ∃ m : Nat, m = 7 - j := ⟨_, rfl⟩
      have hm2 : (7 : Int) - (j : Int) = (m : Int) := by omega
      have hm3 : IntKind.i64.wrap (m : Int) = (m : Int) := by rw [IntKind.wrap_i64]; omega
      have hm4 : (m : Int) < 8 := by omega
      have c3 := (HA.out.below HB.out HA.out.lt).cell (bits_at (n := n) (i := m) (by omega))
      rw [hm, show 7 - (7 - j) = j by omega, ← hm] at c3
      generalize upL s (p.take j) (turnsF j n) = X at HU HX
      generalize p.getD j 0 = Y at HU HY c0
      clear hc
      cases hd : decide (n / 2 ^ j % 2 = 1) with
      | false =>
        rw [hd] at HU c3
        have HE : Hid (upL s (p.take (j + 1)) (turnsF (j + 1) n) = Sums.sum (Nums.nodeBytes X Y)) := HU.out
        have c4 : _ = some (Value.int .u8 48) := c3
        clear hd HU c3 hm
        go_wp2_with fail
        refine (WalkMix.node_yes X Y _ HX.out HY.out).mono ?_
        rintro e w2 ⟨rfl, b2⟩
        have HB2 : Hid (Below w1.heap.size w1 w2) := bt HB.out b2
        clear b2 c0 c4
        go_wp2_with fail
        go_roundw
        case rel => exact ⟨j + 1, by omega, by rw [HE.out], by go_num, HB2⟩
        case measure => simp [intOf]; omega
      | true =>
        rw [hd] at HU c3
        have HE : Hid (upL s (p.take (j + 1)) (turnsF (j + 1) n) = Sums.sum (Nums.nodeBytes Y X)) := HU.out
        have c4 : _ = some (Value.int .u8 49) := c3
        clear hd HU c3 hm
        go_wp2_with fail
        refine (WalkMix.node_yes Y X _ HY.out HX.out).mono ?_
        rintro e w2 ⟨rfl, b2⟩
        have HB2 : Hid (Below w1.heap.size w1 w2) := bt HB.out b2
        clear b2 c0 c4
        go_wp2_with fail
        go_roundw
        case rel => exact ⟨j + 1, by omega, by rw [HE.out], by go_num, HB2⟩
        case measure => simp [intOf]; omega
    · obtain rfl : j = 8 := by omega
      have HF : Hid (upL s (p.take 8) (turnsF 8 n) = upL s p (turns n)) := by show _ = _; rw [List.take_of_length_le (by omega)]; rfl
      generalize upL s (p.take 8) (turnsF 8 n) = X at HF
      go_wp2_with fail
      go_ret
      exact ⟨by rw [← HF.out]; rfl, bt HB1.out HB.out⟩

end Go.Proofs.YtekahahaknamfaiDoor.WalkKyTree
