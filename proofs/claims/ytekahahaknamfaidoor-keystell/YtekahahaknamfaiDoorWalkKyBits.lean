/-
  What the program's beside, leafOf, freeLeaf and Bits return, for every key.
-/
import Derived.Test.YtekahahaknamfaiDoorWalkKyPlace
namespace Go.Proofs.YtekahahaknamfaiDoor.WalkKyBits
open Go.RowKit
open Nums (str)
open Lists (bt)
open Stores (Pair keyE)
open Errs (errv errv0 errv_pos)
open WalkMix (cells)
open KeyTrees
open KeyBits
open WalkKyMap
open WalkKyPlace (placeL z8 load_arr store_arr)

theorem free_any (w : World) : Calls Tryd.prog 45 #[] w fun e w' => e = .returned (.int .i64 nothing) ∧ w' = w := by
  have cL : Calls Tryd.prog 29 #[.string ⟨#[]⟩] w fun e w' => e = .returned (.int .i64 nothing) ∧ w' = w := WalkSum.leaf_any ⟨#[]⟩ w (by decide)
  generalize nothing = S at cL
  go_enter Tryd.func45, Tryd.ntmps45
  go_wp2_with fail
  refine cL.mono ?_
  rintro e w1 ⟨rfl, rfl⟩
  clear cL
  go_wp2_with fail
  go_ret
  exact ⟨rfl, rfl⟩

theorem placed_data (k v : ByteArray) : (0 : UInt8) :: (k ++ (⟨#[0]⟩ : ByteArray) ++ v).data.toList = 0 :: (k.data.toList ++ 0 :: v.data.toList) := by
  simp [ByteArray.data_append]
theorem leaf_any (k v : ByteArray) (w : World) (hk : k.size ≤ 1000) (hv : v.size ≤ 1000) : Calls Tryd.prog 46 #[.string k, .string v] w fun e w' => e = .returned (.int .i64 (placed k v)) ∧ w' = w := by
  have hs : (k ++ (⟨#[0]⟩ : ByteArray) ++ v).size = k.size + 1 + v.size := by simp [ByteArray.size_append]; rfl
  have cL := WalkSum.leaf_any (k ++ (⟨#[0]⟩ : ByteArray) ++ v) w (by unfold maxLen; omega)
  rw [placed_data] at cL
  have n1 : ¬ 9223372036854775807 < k.size + 1 := by omega
  have n2 : ¬ 9223372036854775807 < (k ++ (⟨#[0]⟩ : ByteArray)).size + v.size := by rw [ByteArray.size_append]; show ¬ _ < k.size + 1 + v.size; omega
  have HP : Hid (placed k v = Sums.sum (0 :: (k.data.toList ++ 0 :: v.data.toList))) := rfl
  clear hs
  go_enter Tryd.func46, Tryd.ntmps46
  go_wp2_with fail
  refine cL.mono ?_
  rintro e w1 ⟨rfl, rfl⟩
  clear cL
  go_wp2_with fail
  go_ret
  exact ⟨by rw [HP.out]; rfl, rfl⟩

/-- the other letter -/
theorem flip_letter (t : Bool) : ((letter t).toNat : Int) = if t then 49 else 48 := by cases t <;> rfl

theorem ret_beside {w : World} {g : Nat} {bs : List UInt8} (tmps : Array Value) (hp : tmps.getD 4 undef = .pointer (some ⟨g, 0, none⟩)) (h : Arr w g bs) :
    (results Tryd.f40 tmps).run Tryd.prog w = .ok (pv bs) w :=
  results_cell_row rfl tmps w g _ (cells bs).toArray (0, 0) _ hp h.1 Tryd.underlying80 rfl (by rw [List.size_toArray, cells_length, h.2]; exact size8)

set_option maxHeartbeats 1000000 in
theorem beside_any (bs : List UInt8) (j : Nat) (t : Bool) (w : World) (hl : bs.length = 8) (hj : j < 8) (ht : bs[j]? = some (letter t)) : Calls Tryd.prog 40 #[pv bs, .int .i64 (j : Int)] w fun e w' => e = .returned (pv (bs.set j (letter (!t)))) ∧ Below w.heap.size w w' := by
  have hl2 : (bs.set j (letter (!t))).length = 8 := by rw [List.length_set]; exact hl
  have HL : Hid (bs.length = 8) := hl
  have HT : Hid (bs[j]? = some (letter t)) := ht
  clear hl ht
  show Calls Tryd.prog 40 #[.agg (cells bs).toArray, .int .i64 (j : Int)] w _
  go_enter Tryd.func40, Tryd.ntmps40
  go_upto_region 1 with fail
  have A2 : Arr ((w.alloc (.cells (cells bs).toArray 80)).alloc (.cells z8 80)) w.heap.size bs := ⟨heap_alloc2_old _ _ _, HL.out⟩
  have A4 : Arr ((w.alloc (.cells (cells bs).toArray 80)).alloc (.cells z8 80)) (w.heap.size + 1) (List.replicate 8 0) := ⟨heap_alloc2_new _ _ _, rfl⟩
  have B1 : Below w.heap.size w ((w.alloc (.cells (cells bs).toArray 80)).alloc (.cells z8 80)) := ((Below.refl _ _).alloc (Nat.le_refl _) _).alloc (by simp) _
  generalize (w.alloc (.cells (cells bs).toArray 80)).alloc (.cells z8 80) = w1 at A2 A4 B1
  have c2 := A2.cell HT.out
  have f2 := A2.frozen j
  have A5 := A2.set j (letter (!t))
  have A6 : Arr (w1.setCell ⟨w.heap.size, j, none⟩ (.int .u8 ((letter (!t)).toNat : Int))) (w.heap.size + 1) (List.replicate 8 0) := ⟨by rw [← A4.1]; simp [World.setCell, Array.getElem?_modify], rfl⟩
  have B5 : Below w.heap.size w (w1.setCell ⟨w.heap.size, j, none⟩ (.int .u8 ((letter (!t)).toNat : Int))) := B1.setCell (Nat.le_refl _) _
  have HL2 : Hid ((bs.set j (letter (!t))).length = 8) := hl2
  clear A2 A4 B1 hl2
  cases t with
  | false =>
    have c3 : w1.cell? ⟨w.heap.size, j, none⟩ = some (.int .u8 48) := c2
    have HA5 : Hid (Arr (w1.setCell ⟨w.heap.size, j, none⟩ (.int .u8 49)) w.heap.size (bs.set j 49)) := A5
    have HA6 : Hid (Arr (w1.setCell ⟨w.heap.size, j, none⟩ (.int .u8 49)) (w.heap.size + 1) (List.replicate 8 0)) := A6
    have HB5 : Hid (Below w.heap.size w (w1.setCell ⟨w.heap.size, j, none⟩ (.int .u8 49))) := B5
    clear c2 A5 A6 B5
    go_wp2_with (first | (refine load_arr rfl (.tmp 2) rfl _ rfl _ HA5.out ?_) | (refine store_arr rfl (.tmp 4) (.tmp 10) rfl _ rfl _ rfl HA6.out HL2.out ?_; intro w2 A7 g7; have HA7 : Hid (Arr w2 (w.heap.size + 1) (bs.set j 49)) := A7; have HB2 : Hid (Below w.heap.size w w2) := HB5.out.grown g7 (by have := HB5.out.size; simp at this ⊢; omega) (fun k hk => by cases hk; exact Nat.le_succ _); clear A7 g7))
    refine bodyPost_ret (ret_beside _ rfl HA7.out) rfl ⟨rfl, HB2.out⟩
  | true =>
    have c3 : w1.cell? ⟨w.heap.size, j, none⟩ = some (.int .u8 49) := c2
    have HA5 : Hid (Arr (w1.setCell ⟨w.heap.size, j, none⟩ (.int .u8 48)) w.heap.size (bs.set j 48)) := A5
    have HA6 : Hid (Arr (w1.setCell ⟨w.heap.size, j, none⟩ (.int .u8 48)) (w.heap.size + 1) (List.replicate 8 0)) := A6
    have HB5 : Hid (Below w.heap.size w (w1.setCell ⟨w.heap.size, j, none⟩ (.int .u8 48))) := B5
    clear c2 A5 A6 B5
    go_wp2_with (first | (refine load_arr rfl (.tmp 2) rfl _ rfl _ HA5.out ?_) | (refine store_arr rfl (.tmp 4) (.tmp 10) rfl _ rfl _ rfl HA6.out HL2.out ?_; intro w2 A7 g7; have HA7 : Hid (Arr w2 (w.heap.size + 1) (bs.set j 48)) := A7; have HB2 : Hid (Below w.heap.size w w2) := HB5.out.grown g7 (by have := HB5.out.size; simp at this ⊢; omega) (fun k hk => by cases hk; exact Nat.le_succ _); clear A7 g7))
    refine bodyPost_ret (ret_beside _ rfl HA7.out) rfl ⟨rfl, HB2.out⟩

theorem conv_arr {w : World} {g : Nat} {bs : List UInt8} (h : Arr w g bs) : (convert 85 9 (.slice (some ⟨g, 0, none⟩) 8 8)).run Tryd.prog w = .ok (.string (str bs)) w := by
  have k := run_convert_bytes_back (P := Tryd.prog) w 85 9 5 ⟨g, 0, none⟩ 8 bs Tryd.underlying85 Tryd.underlying5 Tryd.underlying9 (fun i hi => by
    rw [show (⟨g, 0, none⟩ : Addr).add i = ⟨g, i, none⟩ by simp [Addr.add]; omega]
    exact h.cell (List.getElem?_eq_getElem hi))
  rw [h.2] at k
  exact k

set_option maxHeartbeats 1000000 in
theorem bits_any (k : ByteArray) (w : World) (hk : k.size ≤ maxLen) : Calls Tryd.prog 19 #[.string k] w fun e w' => e = .returned (.tuple #[.string (str (bitsV k)), errv (keyE k)]) ∧ Below w.heap.size w w' := by
  have cP := WalkKyPlace.place_any k w hk
  by_cases hK : keyE k = 0
  · have HV : Hid (bitsV k = bitsT (spot k)) := if_pos hK
    have hp : placeL k = bitsT (spot k) := if_pos hK
    rw [hp, hK, errv0] at cP
    have hL := bitsT_length (spot k)
    rw [hK, errv0]
    generalize bitsT (spot k) = bs at HV cP hL
    have HL : Hid (bs.length = 8) := hL
    clear hp hK hL
    go_enter Tryd.func19, Tryd.ntmps19
    go_wp2_with fail
    refine cP.mono ?_
    rintro e w1 ⟨rfl, b1⟩
    clear cP
    have HZ : Hid (Arr (w1.alloc (.cells z8 80)) w1.heap.size (List.replicate 8 0)) := (show Arr _ _ _ from ⟨heap_alloc_new w1 _, rfl⟩)
    have HB1 : Hid (Below w.heap.size w w1) := b1
    clear b1
    go_wp2_with (first | (refine store_arr rfl (.tmp 4) (.tmp 9) rfl _ rfl _ rfl HZ.out HL.out ?_; intro w2 A2 g2; have HB2 : Hid (Below w.heap.size w w2) := (HB1.out.alloc HB1.out.size _).grown g2 (by have := HB1.out.size; simp; omega) (fun k hk => by cases hk; exact HB1.out.size); have cv := conv_arr A2; clear A2 g2))
    go_ret2
    exact ⟨by rw [HV.out]; rfl, HB2.out⟩
  · have HV : Hid (bitsV k = []) := if_neg hK
    have hp : placeL k = List.replicate 8 0 := if_neg hK
    rw [hp, errv_pos _ hK] at cP
    rw [errv_pos _ hK]
    generalize ((keyE k : Nat) : Int) = E at cP
    clear hp hK
    go_enter Tryd.func19, Tryd.ntmps19
    go_wp2_with fail
    refine cP.mono ?_
    rintro e w1 ⟨rfl, b1⟩
    clear cP
    have HZ : Hid (Arr (w1.alloc (.cells z8 80)) w1.heap.size (List.replicate 8 0)) := (show Arr _ _ _ from ⟨heap_alloc_new w1 _, rfl⟩)
    have HB1 : Hid (Below w.heap.size w w1) := b1
    clear b1
    go_wp2_with (first | (refine store_arr rfl (.tmp 4) (.tmp 9) rfl _ rfl _ rfl HZ.out rfl ?_; intro w2 A2 g2; have HB2 : Hid (Below w.heap.size w w2) := (HB1.out.alloc HB1.out.size _).grown g2 (by have := HB1.out.size; simp; omega) (fun k hk => by cases hk; exact HB1.out.size); clear A2 g2))
    go_ret2
    exact ⟨by rw [HV.out]; rfl, HB2.out⟩

end Go.Proofs.YtekahahaknamfaiDoor.WalkKyBits
