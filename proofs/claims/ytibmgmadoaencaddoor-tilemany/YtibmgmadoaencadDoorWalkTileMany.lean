/-
  The walk of TileMany: the tiles of the lowest level have as many sums as there are leafs, of each next one a quarter.
-/
import Derived.Test.YtibmgmadoaencadDoorWalkTileAll
import Derived.Test.YtibmgmadoaencadDoorWalkTold
import Derived.Test.YtibmgmadoaencadDoorWalkTilesSame
import Derived.Deep.CutBlock
import Derived.StillTail
namespace Go.Proofs.YtibmgmadoaencadDoor.WalkTileMany
open Go.RowKit
open Lists (Row ints bt)
open WalkTold (Laid)
open Errs (errv errv0 errv_pos)
open Wides (Wide)
open TileRows (cells)
open WalkTilesSame (aggT sizeT)

theorem size_of {n : Int} (h : ¬ (n < 0 ∨ 200 < n)) : ∃ m : Nat, n = m ∧ m ≤ 200 := by
  obtain ⟨m, rfl⟩ := Int.eq_ofNat_of_zero_le (show 0 ≤ n by omega)
  exact ⟨m, rfl, by omega⟩

set_option maxHeartbeats 4000000 in
set_option maxRecDepth 100000 in
theorem walk (n : Int) (_ : (Lit.int .i64 n).wf = true) (w : World) (hL : Laid w) :
    Calls Tryd.prog 3 #[.int .i64 n] w fun e w' => e = .returned (.bool true) ∧ Below w.heap.size w w' := by
  have HL : Hid (Laid w) := hL
  clear hL
  have cA := WalkTileAll.all_any n w
  by_cases hb : n < 0 ∨ 200 < n
  · rw [show Tiles.sizeE n = 1 from if_pos hb, errv_pos 1 (by decide)] at cA
    have cE : ∀ w1, Laid w1 → Calls Tryd.prog 8 #[.iface 76 (.int .i64 1), .int .i64 1] w1 fun r w' => r = .returned (.bool true) ∧ Below w1.heap.size w1 w' := fun w1 h => WalkTold.error_is 1 1 w1 h
    by_cases h0 : n < 0
    · go_enter Tryd.func3, Tryd.ntmps3
      go_wp2_with fail
      refine cA.mono ?_
      rintro e w1 ⟨v, rfl, ho, b1⟩
      have c2 := cE w1 (HL.out.below b1)
      clear cA cE ho
      go_wp2_with fail
      refine c2.mono ?_
      rintro e w2 ⟨rfl, b2⟩
      clear c2
      go_wp2_with fail
      go_ret
      exact ⟨rfl, bt b1 b2⟩
    have h1 : 200 < n := by omega
    clear hb
    · go_enter Tryd.func3, Tryd.ntmps3
      go_wp2_with fail
      refine cA.mono ?_
      rintro e w1 ⟨v, rfl, ho, b1⟩
      have c2 := cE w1 (HL.out.below b1)
      clear cA cE ho
      go_wp2_with fail
      refine c2.mono ?_
      rintro e w2 ⟨rfl, b2⟩
      clear c2
      go_wp2_with fail
      go_ret
      exact ⟨rfl, bt b1 b2⟩
  · obtain ⟨m, rfl, hm⟩ := size_of hb
    rw [show Tiles.sizeE (m : Int) = 0 from if_neg hb, show Tiles.allL (m : Int) = Tiles.tiles m from if_neg hb, errv0] at cA
    have q0 : ¬ (m : Int) < 0 := by omega
    have q1 : ¬ (200 : Int) < (m : Int) := by omega
    have HM : Hid (∀ t ∈ Tiles.tiles m, t.1 ≤ 3 ∧ t.2.1 ≤ 49 ∧ 1 ≤ t.2.2 ∧ t.2.2 ≤ 4) := Tiles.tiles_le hm
    have HW : Hid (∀ lev, lev < 4 → Tiles.wide lev (Tiles.tiles m) = m / 4 ^ lev) := fun lev h => Tiles.wide_tiles m lev h
    have hlen := Tiles.upto_length m 4 (by omega) hm
    change (Tiles.tiles m).length ≤ 200 at hlen
    generalize Tiles.tiles m = l at cA HM HW hlen
    clear hb
    go_enter Tryd.func3, Tryd.ntmps3
    go_wp2_with fail
    refine cA.mono ?_
    rintro e w1 ⟨v, rfl, ho, b1⟩
    obtain ⟨a, c, rfl, hwide⟩ := Wides.owns_wide ho
    have HB : Hid (Below w.heap.size w w1) := b1
    have HR : Hid (Wide 3 w1 a l.length c (cells l)) := hwide
    clear cA ho b1 hwide
    go_wp2_with fail
    go_loopw [6] (fun i wr => ∃ k : Nat, k ≤ l.length ∧ i = .int .i64 (k : Int) ∧ Below w1.heap.size w1 wr ∧ wr.rowIs w1.heap.size 28 4 (fun j => .int .i64 (Tiles.wide j (l.take k) : Int))) (fun i _ => l.length - (intOf i).toNat)
    case atStart => exact ⟨0, Nat.zero_le _, rfl, (Below.refl _ _).alloc (Nat.le_refl _) _, World.rowIs_alloc _ _ _ _ (fun i hi => by match i, hi with | 0, _ | 1, _ | 2, _ | 3, _ => rfl | i + 4, h => simp at h; omega)⟩
    case round =>
      obtain ⟨k, hk, rfl, hb, hrow⟩ := hrel
      by_cases hlt : k < l.length
      · have i1 : (k : Int) < (l.length : Int) := by omega
        obtain ⟨b1, off1, rfl, _⟩ := (HR.out.below hb).2.2 (by omega)
        obtain ⟨p0, p1, p2⟩ := TileRows.at_three (HR.out.below hb) k hlt
        have HT : Hid (l.take (k + 1) = l.take k ++ [l[k]]) := List.take_succ_eq_append_getElem hlt
        have ht := HM.out l[k] (List.getElem_mem hlt)
        generalize l[k] = t at p0 p1 p2 HT ht
        obtain ⟨x, y, z⟩ := t
        simp only at p0 p1 p2 ht
        have a24 := aggT
        have z24 := sizeT
        obtain ⟨t1, t2, t3, t4⟩ := ht
        have t5 : ¬ (3 : Int) < (x : Int) := by omega
        have t6 : ¬ (z : Int) < 1 := by omega
        have t7 : ¬ (4 : Int) < (z : Int) := by omega
        have t8 : ¬ (x : Int) < 0 := by omega
        have HX : Hid (∀ j, j < 4 → Tiles.wide j (l.take (k + 1)) = if j = x then Tiles.wide j (l.take k) + z else Tiles.wide j (l.take k)) := fun j hj => by
          rw [HT.out, Tiles.wide_append]
          simp only [Tiles.wide]
          by_cases h : x = j
          · rw [if_pos h, if_pos h.symm]; omega
          · rw [if_neg h, if_neg (fun g => h g.symm)]; omega
        have hwl : Tiles.wide x (l.take k) ≤ 1000 := by
          have h1 := Tiles.wide_append x (l.take k) (l.drop k)
          rw [List.take_append_drop, HW.out x (by omega)] at h1
          have : m / 4 ^ x ≤ m := Nat.div_le_self _ _
          omega
        go_wp2_with fail
        have bb : Below w1.heap.size w1 (wr.alloc (.cells #[.int .i64 (x : Int), .int .i64 (y : Int), .int .i64 (z : Int)] 30)) := hb.alloc hb.size _
        have rr : (wr.alloc (.cells #[.int .i64 (x : Int), .int .i64 (y : Int), .int .i64 (z : Int)] 30)).rowIs w1.heap.size 28 4 (fun j => .int .i64 (Tiles.wide j (l.take k) : Int)) := hrow.alloc _
        have n0 : (wr.alloc (.cells #[.int .i64 (x : Int), .int .i64 (y : Int), .int .i64 (z : Int)] 30)).cell? ⟨wr.heap.size, 0, none⟩ = some (.int .i64 (x : Int)) := by simp
        have n2 : (wr.alloc (.cells #[.int .i64 (x : Int), .int .i64 (y : Int), .int .i64 (z : Int)] 30)).cell? ⟨wr.heap.size, 2, none⟩ = some (.int .i64 (z : Int)) := by simp
        generalize wr.alloc (.cells #[.int .i64 (x : Int), .int .i64 (y : Int), .int .i64 (z : Int)] 30) = w2 at bb rr n0 n2 ⊢
        have m0 := rr.cell (i := x) (by omega)
        have mf := rr.frozen x
        have HR2 : Hid (w2.rowIs w1.heap.size 28 4 (fun j => .int .i64 (Tiles.wide j (l.take k) : Int))) := rr
        have HB2 : Hid (Below w1.heap.size w1 w2) := bb
        clear rr bb hrow hb p0 p1 p2
        have t9 : (x : Int) < 4 := by omega
        have t10 : x < 4 := by omega
        have t11 : ¬ (x : Int) < 0 := by omega
        generalize hX : Tiles.wide x (l.take k) = X at m0 hwl
        have HXX : Hid (Tiles.wide x (l.take k) = X) := hX
        clear hX
        refine wp_region_still_tail 10 (by kernel_rfl) (by kernel_rfl) ?_
        rw [show ({ w2 with drawn := w2.drawn + 1 } : World) = w2.drew from rfl]
        simp only [List.take_succ_cons, List.take_zero, List.drop_succ_cons, List.drop_zero]
        repeat still_step
        refine wpStill_nil ?_
        go_wp2_with fail
        go_roundw
        case rel =>
          refine ⟨k + 1, by omega, by go_num, (HB2.out.setCell (Nat.le_refl _) _).drew, ?_⟩
          refine World.rowIs.drew ((HR2.out.set x _).congr fun j hj => ?_)
          rw [HX.out j hj]
          by_cases h : j = x
          · subst h
            rw [if_pos rfl, if_pos rfl]
            rw [HXX.out]
            simp
          · rw [if_neg h, if_neg h]
        case measure => simp [intOf]; omega
      · have i1 : ¬ (k : Int) < (l.length : Int) := by omega
        obtain rfl : k = l.length := by omega
        rw [List.take_length] at hrow
        have m0 := hrow.cell (i := 0) (by omega)
        have m1 := hrow.cell (i := 1) (by omega)
        have m2 := hrow.cell (i := 2) (by omega)
        have m3 := hrow.cell (i := 3) (by omega)
        rw [HW.out 0 (by omega)] at m0
        rw [HW.out 1 (by omega)] at m1
        rw [HW.out 2 (by omega)] at m2
        rw [HW.out 3 (by omega)] at m3
        simp only [Nat.reducePow, Nat.div_one] at m0 m1 m2 m3
        have HB2 : Hid (Below w1.heap.size w1 wr) := hb
        have HD4 : Hid (((m / 4 : Nat) : Int) = (m : Int) / 4) := by show _ = _; omega
        have HD16 : Hid (((m / 16 : Nat) : Int) = (m : Int) / 16) := by show _ = _; omega
        have HD64 : Hid (((m / 64 : Nat) : Int) = (m : Int) / 64) := by show _ = _; omega
        rw [HD4.out] at m1
        rw [HD16.out] at m2
        rw [HD64.out] at m3
        clear hrow hb
        go_wp2_with fail
        go_ret
        exact ⟨rfl, bt HB.out HB2.out⟩

end Go.Proofs.YtibmgmadoaencadDoor.WalkTileMany
