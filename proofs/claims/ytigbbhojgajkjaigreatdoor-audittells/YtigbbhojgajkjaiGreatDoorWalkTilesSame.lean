/-
  What witsame.Tiles returns on two lists that hold the same tiles.
-/
import Derived.Test.YtigbbhojgajkjaiGreatDoorTilePlain
import Derived.Test.YtigbbhojgajkjaiGreatDoorRows
import Derived.WalkKit
import Derived.BigQuiet
import Derived.Deep.QuietTactic
namespace Go.Proofs.YtigbbhojgajkjaiGreatDoor.WalkTilesSame
open Go.RowKit
open Wides (Wide)
open Tiles (Tile)
open TileRows (cells)

theorem below_drewN {B : Nat} {a w : World} (h : Below B a w) (n : Nat) : Below B a (w.drewN n) := ⟨h.os, h.tape, h.output, h.size, h.block⟩

theorem aggT (w : World) : (isAgg 39).run Tryz.prog w = .ok true w := by kernel_rfl
theorem sizeT (w : World) : (sizeOf 39).run Tryz.prog w = .ok 3 w := by kernel_rfl

set_option maxHeartbeats 1000000 in
theorem tiles_same (l : List Tile) (a b : Option Addr) (n cap cap' : Nat) (w : World) (hr : Wide 3 w a n cap (cells l)) (hs : Wide 3 w b n cap' (cells l)) (hn : n ≤ 1000000) :
    Calls Tryz.prog 17 #[.slice a n cap, .slice b n cap'] w fun e w' => e = .returned (.bool true) ∧ Below w.heap.size w w' := by
  have hln := TileRows.len_of hr
  have HR : Hid (Wide 3 w a n cap (cells l)) := hr
  have HS : Hid (Wide 3 w b n cap' (cells l)) := hs
  clear hr hs
  go_enter Tryz.func17, Tryz.ntmps17
  go_wp2_with fail
  go_loopw [5] (fun i wr => ∃ j : Nat, j ≤ n ∧ i = .int .i64 j ∧ Below w.heap.size w wr) (fun i _ => n - (intOf i).toNat)
  case atStart => exact ⟨0, Nat.zero_le _, rfl, Below.refl _ _⟩
  case round =>
    obtain ⟨j, hj, rfl, hb⟩ := hrel
    by_cases hlt : j < n
    · obtain ⟨b1, off1, rfl, hc1⟩ := (HR.out.below hb).2.2 (by omega)
      obtain ⟨b2, off2, rfl, hc2⟩ := (HS.out.below hb).2.2 (by omega)
      obtain ⟨p0, p1, p2⟩ := TileRows.at_three (HR.out.below hb) j (by omega)
      obtain ⟨q0, q1, q2⟩ := TileRows.at_three (HS.out.below hb) j (by omega)
      clear hc1 hc2
      generalize l[j] = t at p0 p1 p2 q0 q1 q2
      obtain ⟨x, y, z⟩ := t
      have i1 : (j : Int) < (n : Int) := by omega
      have a24 := aggT
      have z24 := sizeT
      simp only at p0 p1 p2 q0 q1 q2
      go_wp2_with fail
      go_quiet (fail)
      go_wp2_with fail
      go_roundw
      case rel => exact ⟨j + 1, by omega, by go_num, below_drewN hb _⟩
      case measure => simp [intOf]; omega
    · go_wp2_with fail
      go_ret
      exact ⟨rfl, hb⟩

end Go.Proofs.YtigbbhojgajkjaiGreatDoor.WalkTilesSame
