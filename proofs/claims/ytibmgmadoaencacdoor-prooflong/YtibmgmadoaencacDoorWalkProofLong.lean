/-
  The walk of ProofLong: a proof in a tree of two to the k leafs has k sums.
-/
import Derived.Test.YtibmgmadoaencacDoorWalkSteps
import Derived.Test.YtibmgmadoaencacDoorWalkTold
namespace Go.Proofs.YtibmgmadoaencacDoor.WalkProofLong
open Go.RowKit
open WalkTold (Laid)
open WalkSteps (inside)

theorem pow_le {k : Nat} (h : k ≤ 7) : 2 ^ k ≤ 128 := Nat.le_trans (Nat.pow_le_pow_right (by decide) h) (by decide)

set_option maxHeartbeats 1000000 in
theorem walk (K : Int) (_ : (Lit.int .i64 K).wf = true) (I : Int) (_ : (Lit.int .i64 I).wf = true) (w : World) (hL : Laid w) :
    Calls Tryd.prog 3 #[.int .i64 K, .int .i64 I] w fun e w' => e = .returned (.bool true) ∧ Below w.heap.size w w' := by
  have HL : Hid (Laid w) := hL
  clear hL
  by_cases h0 : K < 0
  · go_enter Tryd.func3, Tryd.ntmps3
    go_wp2_with fail
    go_ret
    exact ⟨rfl, Below.refl _ _⟩
  by_cases h1 : 7 < K
  · go_enter Tryd.func3, Tryd.ntmps3
    go_wp2_with fail
    go_ret
    exact ⟨rfl, Below.refl _ _⟩
  obtain ⟨k, rfl⟩ := Int.eq_ofNat_of_zero_le (show 0 ≤ K by omega)
  have hk : k ≤ 7 := by omega
  go_enter Tryd.func3, Tryd.ntmps3
  go_wp2_with fail
  go_loop [5, 6] (fun n j => ∃ c m : Nat, c ≤ k ∧ n = .int .i64 (m : Int) ∧ m ≤ 128 ∧ Hid (m = 2 ^ c) ∧ j = .int .i64 (c : Int)) (fun _ j => k - (intOf j).toNat)
  case atStart => exact ⟨0, 1, by omega, rfl, by omega, rfl, rfl⟩
  case round =>
    obtain ⟨c, m, hc, rfl, hm, HM, rfl⟩ := hrel
    by_cases hlt : c < k
    · have i1 : (c : Int) < (k : Int) := by omega
      have HN : Hid (2 * m = 2 ^ (c + 1)) := by show _ = _; rw [HM.out, Nat.pow_succ, Nat.mul_comm]
      have m2 : 2 * m ≤ 128 := by rw [HN.out]; exact pow_le (by omega)
      go_wp2_with fail
      go_round
      case rel => exact ⟨c + 1, 2 * m, by omega, by go_num, m2, HN, by go_num⟩
      case measure => simp [intOf]; omega
    · obtain rfl : c = k := by omega
      have i1 : ¬ (c : Int) < (c : Int) := by omega
      by_cases hi : inside I m 200 = true
      · obtain ⟨i, m', rfl, hm', him, _⟩ := WalkSteps.inside_of hi
        obtain rfl : m = m' := by omega
        have hs : Ways.steps i m = c := by rw [HM.out]; exact Climbs.steps_pow c i (by rw [← HM.out]; exact him)
        have cS := WalkSteps.steps_yes i m i m w rfl rfl him (by omega)
        rw [hs] at cS
        have i2 : ¬ (i : Int) < 0 := by omega
        have i3 : ¬ (m : Int) ≤ (i : Int) := by omega
        have i4 : ((c : Int) == (c : Int)) = true := by simp
        clear hs hi
        go_wp2_with fail
        refine cS.mono ?_
        rintro e w1 ⟨rfl, b1⟩
        clear cS
        go_wp2_with fail
        go_ret
        exact ⟨rfl, b1⟩
      · have hi' : inside I m 200 = false := by simpa using hi
        have cS := WalkSteps.steps_no I m w hi'
        have cE : Calls Tryd.prog 9 #[.iface 53 (.int .i64 1), .int .i64 1] w fun r w' => r = .returned (.bool true) ∧ Below w.heap.size w w' := WalkTold.error_is 1 1 w HL.out
        by_cases j0 : I < 0
        · clear hi hi'
          go_wp2_with fail
          refine cS.mono ?_
          rintro e w1 ⟨rfl, rfl⟩
          clear cS
          go_wp2_with fail
          refine cE.mono ?_
          rintro e w2 ⟨rfl, b2⟩
          clear cE
          go_wp2_with fail
          go_ret
          exact ⟨rfl, b2⟩
        · have j1 : (m : Int) ≤ I := by
            rcases Int.lt_or_le I m with h | h
            · exact absurd (decide_eq_true (p := 0 ≤ I ∧ I < m ∧ (m : Int) ≤ 200) ⟨by omega, h, by omega⟩) hi
            · exact h
          clear hi hi'
          go_wp2_with fail
          refine cS.mono ?_
          rintro e w1 ⟨rfl, rfl⟩
          clear cS
          go_wp2_with fail
          refine cE.mono ?_
          rintro e w2 ⟨rfl, b2⟩
          clear cE
          go_wp2_with fail
          go_ret
          exact ⟨rfl, b2⟩

end Go.Proofs.YtibmgmadoaencacDoor.WalkProofLong
