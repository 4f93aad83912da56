/-
  The walk of PeaksFull: two hundred leafs and no more; as many parts as the number has bits that are 1.
-/
import Derived.Test.YtibmgmadoaencabDoorWalkPeakSt
import Derived.Test.YtibmgmadoaencabDoorWalkPeakRef
import Derived.Test.YtibmgmadoaencabDoorWalkTold
namespace Go.Proofs.YtibmgmadoaencabDoor.WalkPeaksFull
open Go.RowKit
open Lists (Row ints bt)
open Keeps (Kept owns_row)
open WalkPeaks (Pk foot)
open WalkPeakSt (St append_any st_below parts_le)
open WalkBits (Tab)
open WalkTold (Laid)

/-- the numbers below k -/
def nums (k : Nat) : List Int := (List.range k).map Int.ofNat
theorem nums_length (k : Nat) : (nums k).length = k := by simp [nums]
theorem nums_succ (k : Nat) : nums (k + 1) = nums k ++ [(k : Int)] := by simp [nums, List.range_succ]
theorem nums_valid (k : Nat) (h : k ≤ 200) : ∀ x ∈ nums k, Nums.valid x = true := by
  intro x hx
  obtain ⟨i, hi, rfl⟩ := List.mem_map.1 hx
  have := List.mem_range.1 hi
  exact Nums.valid_iff.2 ⟨by simp, by simp; omega⟩

set_option maxHeartbeats 1000000 in
set_option maxRecDepth 100000 in
theorem walk (n : Int) (_ : (Lit.int .i64 n).wf = true) (w : World) (hL : Laid w) (hT : Tab w) :
    Calls Tryd.prog 5 #[.int .i64 n] w fun e w' => e = .returned (.bool true) ∧ Below w.heap.size w w' := by
  by_cases h0 : n < 0
  · go_enter Tryd.func5, Tryd.ntmps5
    go_wp2_with fail
    go_ret
    exact ⟨rfl, Below.refl _ _⟩
  by_cases h1 : 210 < n
  · go_enter Tryd.func5, Tryd.ntmps5
    go_wp2_with fail
    go_ret
    exact ⟨rfl, Below.refl _ _⟩
  obtain ⟨N, rfl⟩ := Int.eq_ofNat_of_zero_le (show 0 ≤ n by omega)
  have HL : Hid (Laid w) := hL
  have HT : Hid (Tab w) := hT
  have cE0 : ∀ w1, Laid w1 → Calls Tryd.prog 9 #[.nilIface, .int .i64 4] w1 fun r w' => r = .returned (.bool false) ∧ Below w1.heap.size w1 w' := fun w1 h => WalkTold.error_is 0 4 w1 h
  have cE4 : ∀ w1, Laid w1 → Calls Tryd.prog 9 #[.iface 54 (.int .i64 4), .int .i64 4] w1 fun r w' => r = .returned (.bool true) ∧ Below w1.heap.size w1 w' := fun w1 h => WalkTold.error_is 4 4 w1 h
  clear hL hT
  go_enter Tryd.func5, Tryd.ntmps5
  go_wp2_with fail
  refine (WalkPeaks.new_any w).mono ?_
  rintro e w1 ⟨rfl, p1, b1⟩
  have HS : Hid (St w.heap.size w w.heap.size w1 (nums 0) (.slice none 0 0)) := ⟨p1, by simp [nums], by simp [nums], b1, b1.size⟩
  clear p1 b1
  go_wp2_with fail
  go_loopw [4] (fun i wr => ∃ (j : Nat) (v : Value), j ≤ N ∧ i = .int .i64 j ∧ St w.heap.size w w.heap.size wr (nums (min j 200)) v) (fun i _ => N - (intOf i).toNat)
  case atStart => exact ⟨0, _, Nat.zero_le _, rfl, HS.out⟩
  case round =>
    obtain ⟨j, v, hj, rfl, hs⟩ := hrel
    have HJ : Hid (St w.heap.size w w.heap.size wr (nums (min j 200)) v) := hs
    clear hs HS
    by_cases hlt : j < N
    · have i1 : (j : Int) < (N : Int) := by omega
      by_cases h2 : j < 200
      · have i2 : (j : Int) < 200 := by omega
        have i3 : ¬ (200 : Int) ≤ (j : Int) := by omega
        have hm : min j 200 = j := by omega
        have cA := append_any (x := (j : Int)) HJ.out (by rw [nums_length]; omega) (Nums.valid_iff.2 ⟨by omega, by omega⟩) HT.out (Nat.le_refl _)
        go_wp2_with fail
        refine cA.mono ?_
        rintro e w2 ⟨rfl, v2, s2, k2, f2⟩
        have c := cE0 w2 (HL.out.below s2.below)
        have H2 : Hid (St w.heap.size w w.heap.size w2 (nums (min j 200) ++ [(j : Int)]) v2) := s2
        clear cA s2 k2 f2 HJ
        go_wp2_with fail
        refine c.mono ?_
        rintro e w3 ⟨rfl, b3⟩
        have H3 : Hid (St w.heap.size w w.heap.size w3 (nums (min (j + 1) 200)) v2) := by
          have h := st_below H2.out b3
          rw [hm, ← nums_succ] at h
          rw [show min (j + 1) 200 = j + 1 by omega]
          exact h
        clear c b3 H2
        go_wp2_with fail
        go_roundw
        case rel => exact ⟨j + 1, v2, by omega, by go_num, H3.out⟩
        case measure => simp [intOf]; omega
      · have i2 : ¬ (j : Int) < 200 := by omega
        have i3 : (200 : Int) ≤ (j : Int) := by omega
        have cA := WalkAppend.append_full wr w.heap.size w.heap.size _ v _ (j : Int) HJ.out.pk (by rw [nums_length]; omega) (Nums.valid_iff.2 ⟨by omega, by omega⟩)
        have c := cE4 wr (HL.out.below HJ.out.below)
        go_wp2_with fail
        refine cA.mono ?_
        rintro e w2 ⟨rfl, rfl⟩
        rw [WalkCheck.errv_pos 4 (by decide)]
        go_wp2_with fail
        refine c.mono ?_
        rintro e w3 ⟨rfl, b3⟩
        have H3 : Hid (St w.heap.size w w.heap.size w3 (nums (min (j + 1) 200)) v) := by
          have h := st_below HJ.out b3
          rw [show min j 200 = min (j + 1) 200 by omega] at h
          exact h
        clear c b3 HJ cA
        go_wp2_with fail
        go_roundw
        case rel => exact ⟨j + 1, v, by omega, by go_num, H3.out⟩
        case measure => simp [intOf]; omega
    · obtain rfl : j = N := by omega
      have i1 : ¬ (j : Int) < (j : Int) := by omega
      have cS := WalkPeaks.size_any wr _ _ _ v _ HJ.out.pk
      have cP := WalkPeaks.parts_any wr _ _ _ v _ HJ.out.pk (by have := parts_le _ HJ.out.len; omega)
      have cO := fun w => WalkPeakRef.ones_any (nums (min j 200)).length w HJ.out.len
      have pl := Peaks.parts_len _ HJ.out.len
      have HB : Hid (Below w.heap.size w wr) := HJ.out.below
      have hn : (nums (min j 200)).length = min j 200 := nums_length _
      generalize (nums (min j 200)).length = s at cS cO pl hn
      rw [pl] at cP
      generalize Peaks.parts (nums (min j 200)) = ps at cP
      generalize Peaks.ones s = k at cP cO
      clear HJ pl
      have hkk : ((k : Int) == (k : Int)) = true := by simp
      by_cases h2 : j ≤ 200
      · have hq : ((s : Int) == (j : Int)) = true := by rw [beq_iff_eq]; omega
        clear hn
        go_wp2_with fail
        refine cS.mono ?_
        rintro e w2 ⟨rfl, rfl⟩
        go_wp2_with fail
        refine cP.mono ?_
        rintro e w3 ⟨u, rfl, o3, b3⟩
        have HB3 : Hid (Below w.heap.size w w3) := bt HB.out b3
        obtain ⟨a3, c3, rfl, z1, z2⟩ := owns_row o3
        clear o3 z1 z2 b3 cP cS
        go_wp2_with fail
        refine (cO _).mono ?_
        rintro e w4 ⟨rfl, rfl⟩
        go_wp2_with fail
        go_ret
        exact ⟨rfl, HB3.out⟩
      · have hq : ((s : Int) == (j : Int)) = false := by rw [beq_eq_false_iff_ne]; omega
        have hq2 : ((s : Int) == 200) = true := by rw [beq_iff_eq]; omega
        have i2 : (200 : Int) < (j : Int) := by omega
        clear hn
        go_wp2_with fail
        refine cS.mono ?_
        rintro e w2 ⟨rfl, rfl⟩
        go_wp2_with fail
        refine cP.mono ?_
        rintro e w3 ⟨u, rfl, o3, b3⟩
        have HB3 : Hid (Below w.heap.size w w3) := bt HB.out b3
        obtain ⟨a3, c3, rfl, z1, z2⟩ := owns_row o3
        clear o3 z1 z2 b3 cP cS
        go_wp2_with fail
        refine (cO _).mono ?_
        rintro e w4 ⟨rfl, rfl⟩
        go_wp2_with fail
        go_ret
        exact ⟨rfl, HB3.out⟩

end Go.Proofs.YtibmgmadoaencabDoor.WalkPeaksFull
