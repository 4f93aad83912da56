/-
  What the program's tile.All returns, for every argument.
-/
import Derived.Test.YticadkggaanbjaaGreatDoorTilePlain
import Derived.Test.YticadkggaanbjaaGreatDoorErrs
import Derived.Deep.DeepMust
import Derived.Deep.CutBlock
import Derived.Deep.OwnRows
namespace Go.Proofs.YticadkggaanbjaaGreatDoor.WalkTileAll
open Go.RowKit
open Lists (Row ints bt)
open Keeps (Kept owns_kept owns_row owns_base)
open Wides (Wide)
open Tiles (Tile row upto tiles)
open TileRows (cells cells_append)
open Errs (errv errv0 errv_pos)

theorem infoT : (Tryz.prog.info? 67).map (fun i => (i.zero, i.size, i.bytes)) = some (some (.agg #[.int .i64 0, .int .i64 0, .int .i64 0]), 3, 24) := by kernel_rfl

theorem cell_three_new (w : World) (x y z : Value) (t : TypeId) : ∀ j u, [x, y, z][j]? = some u → (w.alloc (.cells #[x, y, z] t)).cell? ((⟨w.heap.size, 0, none⟩ : Addr).add j) = some u := by
  intro j u hj
  match j, hj with
  | 0, hj => simp at hj; subst hj; simp [Addr.add]
  | 1, hj => simp at hj; subst hj; simp [Addr.add]
  | 2, hj => simp at hj; subst hj; simp [Addr.add]

theorem all_bad (n : Int) (w : World) (h : n < 0 ∨ 200 < n) :
    Calls Tryz.prog 91 #[.int .i64 n] w fun e w' => e = .returned (.tuple #[.slice none 0 0, errv 1]) ∧ Below w.heap.size w w' := by
  by_cases h0 : n < 0
  · clear h
    go_enter Tryz.func91, Tryz.ntmps91
    go_wp2_with fail
    go_ret2
    exact ⟨rfl, Below.refl _ _⟩
  · have h1 : 200 < n := by omega
    clear h
    go_enter Tryz.func91, Tryz.ntmps91
    go_wp2_with fail
    go_ret2
    exact ⟨rfl, Below.refl _ _⟩

set_option maxHeartbeats 4000000 in
set_option maxRecDepth 100000 in
theorem all_yes (n : Nat) (w : World) (hn : n ≤ 200) :
    Calls Tryz.prog 91 #[.int .i64 (n : Int)] w fun e w' => ∃ v, e = .returned (.tuple #[v, .nilIface]) ∧ w'.ownsRow w.heap.size 67 3 v (tiles n).length (cells (tiles n)) ∧ Below w.heap.size w w' := by
  obtain ⟨i0, hi, hz0, hz1, hz2⟩ := info_parts infoT
  go_enter Tryz.func91, Tryz.ntmps91
  go_wp2_with fail
  go_loopw [4, 5, 6] (fun v c m wr => ∃ L : Nat, L ≤ 4 ∧ c = .int .i64 (L : Int) ∧ m = .int .i64 ((n / 4 ^ L : Nat) : Int) ∧ wr.ownsRow w.heap.size 67 3 v (upto n L).length (cells (upto n L)) ∧ Below w.heap.size w wr) (fun _ _ m _ => (intOf m).toNat)
  case atStart => exact ⟨0, by omega, rfl, by simp, World.ownsRow_nil _ _ _ _, Below.refl _ _⟩
  case round =>
    obtain ⟨L, hL, rfl, rfl, hown, hb⟩ := hrel
    have HO : Hid (wr.ownsRow w.heap.size 67 3 u4 (upto n L).length (cells (upto n L))) := hown
    have HB : Hid (Below w.heap.size w wr) := hb
    have hul := Tiles.upto_length n L hL hn
    clear hown hb
    have HD : Hid (upto n (L + 1) = upto n L ++ row L (n / 4 ^ L)) := rfl
    have HE : Hid (n / 4 ^ L = 0 → upto n L = tiles n) := fun h => TilesRoot.tiles_end n L hL h
    have HN : Hid (n / 4 ^ (L + 1) = n / 4 ^ L / 4) := TilesRoot.next_level n L
    have hm : n / 4 ^ L ≤ 200 := Nat.le_trans (Nat.div_le_self _ _) hn
    have hL4 : 0 < n / 4 ^ L → L < 4 := fun h => by
      rcases Nat.lt_or_ge L 4 with h4 | h4
      · exact h4
      · obtain rfl : L = 4 := by omega
        rw [Nat.div_eq_of_lt (by omega)] at h
        omega
    generalize n / 4 ^ L = M at HD HE HN hm hL4 ⊢
    by_cases h0 : 0 < M
    · have i1 : (M : Int) > 0 := by omega
      have hlt := hL4 h0
      clear HE hL4
      go_wp2_with fail
      go_loopw [4, 7] (fun v f wr => ∃ k : Nat, k ≤ (M + 3) / 4 ∧ f = .int .i64 ((4 * k : Nat) : Int) ∧ wr.ownsRow w.heap.size 67 3 v (upto n L ++ (row L M).take k).length (cells (upto n L ++ (row L M).take k)) ∧ Below w.heap.size w wr) (fun _ f _ => M + 4 - (intOf f).toNat)
      case atStart => exact ⟨0, by omega, rfl, by simpa using HO.out, HB.out⟩
      case round =>
        obtain ⟨k, hk, rfl, hown, hb⟩ := hrel
        have HO2 : Hid (wr.ownsRow w.heap.size 67 3 u4 (upto n L ++ (row L M).take k).length (cells (upto n L ++ (row L M).take k))) := hown
        have HB2 : Hid (Below w.heap.size w wr) := hb
        have hl2 : (upto n L ++ (row L M).take k).length ≤ 300 := by
          rw [List.length_append, List.length_take, Tiles.row_length]
          omega
        clear hown hb HO HB
        by_cases h4 : 4 * k < M
        · have i3 : ((4 * k : Nat) : Int) < (M : Int) := by omega
          have HT : Hid ((row L M).take (k + 1) = (row L M).take k ++ [(L, k, min 4 (M - 4 * k))]) := Tiles.row_take L M k h4
          have q1 : ((4 * k : Nat) : Int) / 4 = (k : Int) := by omega
          go_upto_region 10 with fail
          go_wp2_with (at_builtin; go_must (refine wpList_append_own _ rfl (.tmp 27) (.tmp 36) 88 rfl w.heap.size 67 i0 (.agg #[.int .i64 0, .int .i64 0, .int .i64 0]) 3 24 Tryz.underlying88 hi hz0 hz1 hz2 rfl (by decide) _ _ _ rfl (HO2.out.alloc _) ⟨_, 0, none⟩ 1 1 [.int .i64 (L : Int), .int .i64 (k : Int), .int .i64 (if (M : Int) - 4 * (k : Int) < 4 then (M : Int) - 4 * (k : Int) else 4)] rfl rfl (cell_three_new _ _ _ _ _) (fun u hu => by simp at hu; rcases hu with rfl | rfl | rfl <;> rfl) (by unfold maxLen; omega) (by omega) (by have := HB2.out.size; simp; omega) ?_); intro v1 wn o1 g1 z1; clear z1)
          have HBN : Hid (Below w.heap.size w wn) := (HB2.out.alloc HB2.out.size _).grown g1 (by have := HB2.out.size; simp; omega) (fun k hk => (HO2.out.lt k hk).1)
          have HON : Hid (wn.ownsRow w.heap.size 67 3 v1 (upto n L ++ (row L M).take (k + 1)).length (cells (upto n L ++ (row L M).take (k + 1)))) := by
            rw [HT.out, ← List.append_assoc, cells_append]
            rw [show (upto n L ++ List.take k (row L M) ++ [((L, k, min 4 (M - 4 * k)) : Tile)] : List Tile).length = (upto n L ++ List.take k (row L M)).length + 1 by simp; omega]
            rw [show (if (M : Int) - 4 * (k : Int) < 4 then (M : Int) - 4 * (k : Int) else 4) = ((min 4 (M - 4 * k) : Nat) : Int) by split <;> omega] at o1
            exact o1
          clear g1 o1 HO2 HB2
          go_round
          case rel => exact ⟨k + 1, by omega, by go_num, HON.out, HBN.out⟩
          case measure => simp [intOf]; omega
        · have i3 : ¬ ((4 * k : Nat) : Int) < (M : Int) := by omega
          have HF : Hid (wr.ownsRow w.heap.size 67 3 u4 (upto n (L + 1)).length (cells (upto n (L + 1)))) := by
            have h := HO2.out
            rw [Tiles.row_all L M k (by omega), ← HD.out] at h
            exact h
          clear HO2
          go_wp2_with fail
          go_round
          case rel => exact ⟨L + 1, by omega, by go_num, by rw [HN.out]; go_num, HF.out, HB2.out⟩
          case measure => simp [intOf]; omega
    · have i1 : ¬ (M : Int) > 0 := by omega
      have hE := HE.out (by omega)
      rw [hE] at HO
      clear HD HN hL4 HE hE
      go_wp2_with fail
      go_ret2
      exact ⟨_, rfl, HO.out, HB.out⟩
theorem all_any (n : Int) (w : World) :
    Calls Tryz.prog 91 #[.int .i64 n] w fun e w' => ∃ v, e = .returned (.tuple #[v, errv (Tiles.sizeE n)]) ∧ w'.ownsRow w.heap.size 67 3 v (Tiles.allL n).length (cells (Tiles.allL n)) ∧ Below w.heap.size w w' := by
  unfold Tiles.sizeE Tiles.allL
  by_cases h : n < 0 ∨ 200 < n
  · rw [if_pos h, if_pos h]
    refine (all_bad n w h).mono ?_
    rintro e w' ⟨rfl, b⟩
    exact ⟨_, rfl, World.ownsRow_nil _ _ _ _, b⟩
  · rw [if_neg h, if_neg h]
    obtain ⟨m, rfl⟩ := Int.eq_ofNat_of_zero_le (show 0 ≤ n by omega)
    rw [Int.toNat_natCast]
    exact all_yes m w (by omega)

end Go.Proofs.YticadkggaanbjaaGreatDoor.WalkTileAll
