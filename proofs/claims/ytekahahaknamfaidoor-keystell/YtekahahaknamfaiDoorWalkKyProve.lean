/-
  What the program's Root and Prove return, for all pairs and every key.
-/
import Derived.Test.YtekahahaknamfaiDoorWalkKyLeafs
import Derived.Test.YtekahahaknamfaiDoorKeeps
namespace Go.Proofs.YtekahahaknamfaiDoor.WalkKyProve
open Go.RowKit
open Lists (bt Row ints)
open Wides (Wide)
open Stores (Pair keyE lt)
open PairRows (cells)
open Errs (errv errv0 errv_pos)
open KeyTrees
open KeyBits
open WalkKyMap
open WalkKyPlace (placeL z8 load_arr store_arr)

theorem infoI : (Tryd.prog.info? 3).map (fun i => (i.zero, i.size, i.bytes)) = some (some (.int .i64 0), 1, 8) := by kernel_rfl

set_option maxHeartbeats 1000000 in
theorem root_any (l : List Pair) (a : Option Addr) (n cap : Nat) (w : World) (hr : Wide 3 w a n cap (cells l)) (hz : ∀ e ∈ l, e.key.size ≤ maxLen ∧ e.val.size ≤ maxLen) : Calls Tryd.prog 12 #[.slice a n cap] w fun e w' => e = .returned (.tuple #[.int .i64 (rootV l), errv (pairsE l)]) ∧ Below w.heap.size w w' := by
  have cL := WalkKyLeafs.leafs_any l a n cap w hr hz
  clear hr hz
  go_enter Tryd.func12, Tryd.ntmps12
  go_wp2_with fail
  refine cL.mono ?_
  rintro e w1 ⟨⟨hE, rfl⟩ | ⟨hE, b, rfl, hu, hb⟩, b1⟩
  · have HV : Hid (rootV l = 0) := if_neg hE
    have HE : Hid (errv (pairsE l) = .iface 66 (.int .i64 (pairsE l : Int))) := errv_pos _ hE
    rw [errv_pos _ hE]
    clear cL hE
    generalize ((pairsE l : Nat) : Int) = E at HE
    go_wp2_with fail
    go_ret2
    exact ⟨by rw [HV.out, HE.out]; rfl, b1⟩
  · have cB : Calls Tryd.prog 37 #[.map (some b), .agg z8, .int .i64 0] w1 fun e w' => e = .returned (.int .i64 (level (place l) 8 0)) ∧ Below w1.heap.size w1 w' := WalkKyTree.below_any l b 8 0 0 (List.replicate 8 0) w1 rfl rfl rfl (by decide) hu
    have HV : Hid (rootV l = level (place l) 8 0) := if_pos hE
    have HE : Hid (pairsE l = 0) := hE
    generalize level (place l) 8 0 = R at cB HV
    clear cL hE hu
    go_wp2_with fail
    refine cB.mono ?_
    rintro e w2 ⟨rfl, b2⟩
    have HB2 : Hid (Below w.heap.size w w2) := bt b1 b2
    clear cB b1 b2
    go_wp2_with fail
    go_ret2
    exact ⟨by rw [HV.out, HE.out]; rfl, HB2.out⟩

theorem bes_next (f : Nat → Int) {j : Nat} (N : Nat) (h : j < 8) : (ints (besF f j 0 N ++ List.replicate (8 - j) 0)).set j (.int .i64 (level f j (sib (N / 2 ^ j)))) = ints (besF f (j + 1) 0 N ++ List.replicate (8 - (j + 1)) 0) := by
  have hl : (besF f j 0 N).length = j := besF_length _ _ _ _
  unfold ints
  rw [besF_snoc, ← List.map_set, List.set_append_right _ _ (by omega), hl, Nat.sub_self, show 8 - j = (8 - (j + 1)) + 1 by omega, List.replicate_succ, List.set_cons_zero, Nat.zero_add]
  simp

theorem bes_zero (f : Nat → Int) {j : Nat} (N : Nat) (h : j < 8) : (ints (besF f j 0 N ++ List.replicate (8 - j) 0))[j]? = some (.int .i64 0) := by
  have hl : (besF f j 0 N).length = j := besF_length _ _ _ _
  unfold ints
  rw [List.getElem?_map, List.getElem?_append_right (by omega), hl, Nat.sub_self, show 8 - j = (8 - (j + 1)) + 1 by omega, List.replicate_succ]
  rfl

set_option maxHeartbeats 2000000 in
set_option maxRecDepth 100000 in
theorem prove_any (l : List Pair) (a : Option Addr) (n cap : Nat) (k : ByteArray) (w : World) (hr : Wide 3 w a n cap (cells l)) (hz : ∀ e ∈ l, e.key.size ≤ maxLen ∧ e.val.size ≤ maxLen) (hk : k.size ≤ maxLen) : Calls Tryd.prog 16 #[.slice a n cap, .string k] w fun e w' => ∃ v, e = .returned (.tuple #[v, errv (proveE l k)]) ∧ w'.ownsRow w.heap.size 3 1 v (proveL l k).length (ints (proveL l k)) ∧ Below w.heap.size w w' := by
  have cL := WalkKyLeafs.leafs_any l a n cap w hr hz
  clear hr hz
  go_enter Tryd.func16, Tryd.ntmps16
  go_wp2_with fail
  refine cL.mono ?_
  rintro e w1 ⟨⟨hE, rfl⟩ | ⟨hE, b, rfl, hu, hb⟩, b1⟩
  · have HE : Hid (proveE l k = pairsE l) := if_pos hE
    have HL : Hid (proveL l k = []) := if_neg (by rw [HE.out]; exact hE)
    have HV : Hid (pairsE l ≠ 0) := hE
    rw [errv_pos _ hE]
    clear cL hE
    generalize hQ : ((pairsE l : Nat) : Int) = E
    have HQ : Hid (((pairsE l : Nat) : Int) = E) := hQ
    clear hQ
    go_wp2_with fail
    go_ret2
    exact ⟨_, by rw [HE.out, errv_pos _ HV.out, HQ.out]; rfl, by rw [HL.out]; exact World.ownsRow_nil _ _ _ _, b1⟩
  · have HE : Hid (proveE l k = keyE k) := if_neg (fun h => h hE)
    have cP := WalkKyPlace.place_any k w1 hk
    have HU : Hid (Used w1 b l) := hu
    have HB1 : Hid (Below w.heap.size w w1) := b1
    clear cL hu b1 hE
    by_cases hK : keyE k = 0
    · have HL : Hid (proveL l k = beside (place l) (spot k)) := if_pos (by rw [HE.out]; exact hK)
      rw [show placeL k = bitsT (spot k) from if_pos hK, hK, errv0] at cP
      have HE2 : Hid (proveE l k = 0) := by rw [HE.out]; exact hK
      have hN := spot_lt k
      have HLn : Hid ((bitsT (spot k)).length = 8) := bitsT_length _
      generalize spot k = N at cP HLn hN HL
      clear hK HE
      go_wp2_with fail
      refine cP.mono ?_
      rintro e w2 ⟨rfl, b2⟩
      have HB2 : Hid (Below w.heap.size w w2) := bt HB1.out b2
      have HU2 : Hid (Used w2 b l) := HU.out.below b2 HU.out.lt
      have HZ : Hid (Arr (w2.alloc (.cells z8 80)) w2.heap.size (List.replicate 8 0)) := (show Arr _ _ _ from ⟨heap_alloc_new w2 _, rfl⟩)
      clear cP b2 HB1 HU
      go_upto_region 7 with (first | (refine store_arr rfl (.tmp 8) (.tmp 23) rfl _ rfl _ rfl HZ.out HLn.out ?_; intro w3 A3 g3; have HB3 : Hid (Below w.heap.size w w3) := (HB2.out.alloc HB2.out.size _).grown g3 (by have := HB2.out.size; simp; omega) (fun k hk => by cases hk; exact HB2.out.size); have HU3 : Hid (Used w3 b l) := WalkKyLeafs.Used.grown (HU2.out.below ((Below.refl _ w2).alloc (Nat.le_refl _) _) HU2.out.lt) g3 (Nat.ne_of_lt HU2.out.lt); have HA3 : Hid (Arr w3 w2.heap.size (bitsT N)) := A3; clear A3 g3))
      obtain ⟨i0, hi, hz0, hz1, hz2⟩ := info_parts infoI
      obtain ⟨w4, hmk, o4, g4⟩ := run_make_full (P := Tryd.prog) w3 w.heap.size 30 3 i0 (.int .i64 0) 1 Tryd.underlying30 hi hz0 hz1 .i64 .i64 8 (by rw [hz2]; omega) (by unfold maxLen; omega) HB3.out.size
      have hmk' : (Instr.makeSlice 30 (.int .i64 8) (.int .i64 8)).run Tryd.prog w3 = .ok (.slice (some ⟨w3.heap.size, 0, none⟩) 8 8) w4 := hmk
      have HO4 : Hid (w4.ownsRow w.heap.size 3 1 (.slice (some ⟨w3.heap.size, 0, none⟩) 8 8) 8 (ints (besF (place l) 0 0 N ++ List.replicate (8 - 0) 0))) := by
        have e : ints (besF (place l) 0 0 N ++ List.replicate (8 - 0) 0) = (madeCells (Value.int .i64 0).cells (8 * 1)).toList := by
          show _ = (madeCells #[.int .i64 0] 8).toList
          rw [toList_madeCells_one]
          rfl
        show World.ownsRow _ _ _ _ _ _ _
        rw [e]
        exact o4
      have HB4 : Hid (Below w.heap.size w w4) := HB3.out.grown g4 HB3.out.size (fun k hk => by cases hk)
      have q4 : Below w3.heap.size w3 w4 := (Below.refl _ _).grown g4 (Nat.le_refl _) (fun k hk => by cases hk)
      have HA4 : Hid (Arr w4 w2.heap.size (bitsT N)) := HA3.out.below q4 HA3.out.lt
      have HU4 : Hid (Used w4 b l) := HU3.out.below q4 HU3.out.lt
      have HG1 : Hid (w2.heap.size ≠ w3.heap.size) := Nat.ne_of_lt HA3.out.lt
      have HG2 : Hid (b ≠ w3.heap.size) := Nat.ne_of_lt HU3.out.lt
      have HG3 : Hid (w.heap.size ≤ w3.heap.size) := HB3.out.size
      clear hmk o4 g4 q4 HB2 HB3 HU2 HU3 HA3 HZ hi hz0 hz1 hz2
      generalize w3.heap.size = g at hmk' HO4 HG1 HG2 HG3
      generalize w2.heap.size = ga at HA4 HG1
      go_wp2_with fail
      clear hmk'
      go_loopw [31] (fun i wr => ∃ j : Nat, j ≤ 8 ∧ i = .int .i64 (j : Int) ∧ Hid (wr.ownsRow w.heap.size 3 1 (.slice (some ⟨g, 0, none⟩) 8 8) 8 (ints (besF (place l) j 0 N ++ List.replicate (8 - j) 0))) ∧ Hid (Used wr b l) ∧ Hid (Arr wr ga (bitsT N)) ∧ Hid (Below w.heap.size w wr)) (fun i _ => 8 - (intOf i).toNat)
      case atStart => exact ⟨0, by omega, rfl, HO4, HU4, HA4, HB4⟩
      case round =>
        clear HO4 HU4 HA4 HB4
        obtain ⟨j, hj, rfl, HO, HU, HA, HB⟩ := hrel
        by_cases hlt : j < 8
        · have i1 : (j : Int) < 8 := by omega
          obtain ⟨m, hm⟩ : ∃ m : Nat, m = 7 - j := ⟨_, rfl⟩
          have hm2 : (7 : Int) - (j : Int) = (m : Int) := by omega
          have hm3 : IntKind.i64.wrap (m : Int) = (m : Int) := by rw [IntKind.wrap_i64]; omega
          have hm4 : (m : Int) < 8 := by omega
          have HSd : Hid (∀ w', Calls Tryd.prog 40 #[pv (bitsT N), .int .i64 (m : Int)] w' fun e w2 => e = .returned (pv ((bitsT N).set m (letter (!decide (N / 2 ^ j % 2 = 1))))) ∧ Below w'.heap.size w' w2) := fun w' => WalkKyBits.beside_any (bitsT N) m (decide (N / 2 ^ j % 2 = 1)) w' HLn.out (by omega) (by rw [bits_at (by omega), hm, show 7 - (7 - j) = j by omega])
          have HSb : Hid (∀ w', Used w' b l → Calls Tryd.prog 37 #[.map (some b), pv ((bitsT N).set m (letter (!decide (N / 2 ^ j % 2 = 1)))), .int .i64 ((m : Int) + 1)] w' fun e w2 => e = .returned (.int .i64 (level (place l) j (sib (N / 2 ^ j)))) ∧ Below w'.heap.size w' w2) := fun w' u => WalkKyTree.below_any l b j (m + 1) (sib (N / 2 ^ j)) _ w' (by omega) (by rw [List.length_set]; exact HLn.out) (by rw [hm, show 7 - j + 1 = 8 - j by omega]; exact bits_beside N hlt) (by rw [hm, show 7 - j + 1 = 8 - j by omega]; exact sib_lt hN hlt) u
          have HX : Hid ((ints (besF (place l) j 0 N ++ List.replicate (8 - j) 0)).set j (.int .i64 (level (place l) j (sib (N / 2 ^ j)))) = ints (besF (place l) (j + 1) 0 N ++ List.replicate (8 - (j + 1)) 0)) := bes_next (place l) N hlt
          have HC : Hid ((ints (besF (place l) j 0 N ++ List.replicate (8 - j) 0))[j]? = some (.int .i64 0)) := bes_zero (place l) N hlt
          generalize (bitsT N).set m (letter (!decide (N / 2 ^ j % 2 = 1))) = bx at HSd HSb
          generalize level (place l) j (sib (N / 2 ^ j)) = X at HSb HX
          generalize ints (besF (place l) j 0 N ++ List.replicate (8 - j) 0) = xs at HO HX HC
          clear hm
          go_wp2_with (refine load_arr rfl (.tmp 8) rfl _ rfl _ HA.out ?_)
          refine (HSd.out _).mono ?_
          rintro e w5 ⟨rfl, b5⟩
          have HU5 : Hid (Used w5 b l) := HU.out.below b5 HU.out.lt
          have HA5 : Hid (Arr w5 ga (bitsT N)) := HA.out.below b5 HA.out.lt
          have HB5 : Hid (Below w.heap.size w w5) := bt HB.out b5
          have HO5 : Hid (w5.ownsRow w.heap.size 3 1 (.slice (some ⟨g, 0, none⟩) 8 8) 8 xs) := Keeps.owns_kept HO.out (Keeps.Kept.of_below (fun _ => False) b5) fun _ _ q => q
          clear b5 HU HA HB HO HSd
          go_wp2_with fail
          refine (HSb.out _ HU5.out).mono ?_
          rintro e w6 ⟨rfl, b6⟩
          have HU6 : Hid (Used w6 b l) := HU5.out.below b6 HU5.out.lt
          have HA6 : Hid (Arr w6 ga (bitsT N)) := HA5.out.below b6 HA5.out.lt
          have HB6 : Hid (Below w.heap.size w w6) := bt HB5.out b6
          have HO6 : Hid (w6.ownsRow w.heap.size 3 1 (.slice (some ⟨g, 0, none⟩) 8 8) 8 xs) := Keeps.owns_kept HO5.out (Keeps.Kept.of_below (fun _ => False) b6) fun _ _ q => q
          clear b6 HU5 HA5 HB5 HO5 HSb
          have c6 : w6.cell? ⟨g, j, none⟩ = some (.int .i64 0) := (HO6.out.cellAt j (by omega)).trans HC.out
          have f6 : w6.frozen? ⟨g, j, none⟩ = false := HO6.out.frozenAt j
          have HON : Hid ((w6.setCell ⟨g, j, none⟩ (.int .i64 X)).ownsRow w.heap.size 3 1 (.slice (some ⟨g, 0, none⟩) 8 8) 8 (ints (besF (place l) (j + 1) 0 N ++ List.replicate (8 - (j + 1)) 0))) := by
            show World.ownsRow _ _ _ _ _ _ _
            rw [← HX.out]
            exact Keeps.owns_set HO6.out j _
          have HUN : Hid (Used (w6.setCell ⟨g, j, none⟩ (.int .i64 X)) b l) := HU6.out.block (Below.heap_setCell _ _ _ _ HG2.out)
          have HAN : Hid (Arr (w6.setCell ⟨g, j, none⟩ (.int .i64 X)) ga (bitsT N)) := HA6.out.apart HG1.out _ _
          have HBN : Hid (Below w.heap.size w (w6.setCell ⟨g, j, none⟩ (.int .i64 X))) := HB6.out.setCell HG3.out _
          clear HO6 HU6 HA6 HB6
          go_wp2_with fail
          go_roundw
          case rel => exact ⟨j + 1, by omega, by go_num, HON, HUN, HAN, HBN⟩
          case measure => simp [intOf]; omega
        · obtain rfl : j = 8 := by omega
          go_wp2_with fail
          go_ret2
          refine ⟨_, by rw [HE2.out]; rfl, ?_, HB.out⟩
          rw [HL.out, beside_length]
          have h := HO.out
          rw [show besF (place l) 8 0 N ++ List.replicate (8 - 8) 0 = beside (place l) N from List.append_nil _] at h
          exact h
    · have HL : Hid (proveL l k = []) := if_neg (by rw [HE.out]; exact hK)
      rw [show placeL k = List.replicate 8 0 from if_neg hK, errv_pos _ hK] at cP
      have HE2 : Hid (errv (proveE l k) = .iface 66 (.int .i64 (keyE k : Int))) := by rw [HE.out]; exact errv_pos _ hK
      generalize ((keyE k : Nat) : Int) = E at cP HE2
      clear hK HE
      go_wp2_with fail
      refine cP.mono ?_
      rintro e w2 ⟨rfl, b2⟩
      have HB2 : Hid (Below w.heap.size w w2) := bt HB1.out b2
      have HZ : Hid (Arr (w2.alloc (.cells z8 80)) w2.heap.size (List.replicate 8 0)) := (show Arr _ _ _ from ⟨heap_alloc_new w2 _, rfl⟩)
      clear cP b2 HB1 HU
      go_wp2_with (first | (refine store_arr rfl (.tmp 8) (.tmp 23) rfl _ rfl _ rfl HZ.out rfl ?_; intro w3 A3 g3; have HB3 : Hid (Below w.heap.size w w3) := (HB2.out.alloc HB2.out.size _).grown g3 (by have := HB2.out.size; simp; omega) (fun k hk => by cases hk; exact HB2.out.size); clear A3 g3))
      go_ret2
      exact ⟨_, by rw [HE2.out]; rfl, by rw [HL.out]; exact World.ownsRow_nil _ _ _ _, HB3.out⟩

end Go.Proofs.YtekahahaknamfaiDoor.WalkKyProve
