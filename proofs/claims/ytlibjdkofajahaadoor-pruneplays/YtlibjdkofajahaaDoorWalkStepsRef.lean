/-
  What the document's own answers (package witref1) return on how long a proof is: Half and Steps.
-/
import Derived.Test.YtlibjdkofajahaaDoorClimbs
import Derived.Test.YtlibjdkofajahaaDoorLists
import Derived.Test.YtlibjdkofajahaaDoorRows
import Derived.WalkKit
namespace Go.Proofs.YtlibjdkofajahaaDoor.WalkStepsRef
open Go.RowKit
open Trees (half half_lt half_pos)

theorem half_any (n : Nat) (w : World) (h0 : 2 ≤ n) (h1 : n ≤ 1000000) :
    Calls Tryd.prog 31 #[.int .i64 (n : Int)] w fun e w' => e = .returned (.int .i64 (Trees.half n : Nat)) ∧ w' = w := by
  go_enter Tryd.func31, Tryd.ntmps31
  go_wp2_with fail
  go_loop [3] (fun i => ∃ k : Nat, i = .int .i64 (k : Int) ∧ k < n ∧ 1 ≤ k ∧ Hid (∃ j : Nat, k = 2 ^ j)) (fun i => n - (intOf i).toNat)
  case atStart => exact ⟨1, rfl, by omega, by omega, 0, rfl⟩
  case round =>
    obtain ⟨k, rfl, hk, hk1, HP⟩ := hrel
    by_cases hlt : 2 * k < n
    · have i1 : 2 * (k : Int) < (n : Int) := by omega
      go_wp2_with fail
      go_round
      case rel =>
        refine ⟨2 * k, by go_num, hlt, by omega, ?_⟩
        obtain ⟨j, hj⟩ := HP.out
        exact ⟨j + 1, by rw [Nat.pow_succ, hj, Nat.mul_comm]⟩
      case measure => simp [intOf]; omega
    · have i1 : ¬ 2 * (k : Int) < (n : Int) := by omega
      have HH : Hid (Trees.half n = k) := by
        obtain ⟨j, hj⟩ := HP.out
        rw [hj]
        exact Trees.half_unique n j h0 (by omega) (by omega)
      go_wp2_with fail
      go_ret
      exact ⟨by rw [HH.out]; rfl, rfl⟩

theorem half_int (N : Int) (n : Nat) (w : World) (hN : N = n) (h0 : 2 ≤ n) (h1 : n ≤ 1000000) :
    Calls Tryd.prog 31 #[.int .i64 N] w fun e w' => e = .returned (.int .i64 (half n : Nat)) ∧ w' = w := by
  subst hN; exact half_any n w h0 h1

set_option maxHeartbeats 1000000 in
set_option maxRecDepth 100000 in
theorem steps_any : ∀ (f i n : Nat) (I N : Int) (w : World), I = i → N = n → n < f → i < n → n ≤ 1000000 →
    Calls Tryd.prog 17 #[.int .i64 I, .int .i64 N] w fun e w' => e = .returned (.int .i64 (Ways.steps i n : Nat)) ∧ w' = w
  | 0, _, _, _, _, _, _, _, h, _, _ => by omega
  | f + 1, i, n, I, N, w, hI, hN, hf, hi, hn => by
    by_cases h1 : n = 1
    · rw [Ways.steps_one i n (by omega)]
      have i1 : (N == 1) = true := by rw [beq_iff_eq]; omega
      clear hI hN
      go_enter Tryd.func17, Tryd.ntmps17
      go_wp2_with fail
      go_ret
      exact ⟨rfl, rfl⟩
    · have h2 : 2 ≤ n := by omega
      have a := half_lt n h2
      have b := half_pos n
      have i1 : (N == 1) = false := by rw [beq_eq_false_iff_ne]; omega
      have cH := fun w => half_int N n w hN h2 hn
      by_cases hk : i < half n
      · have e := Ways.steps_left i n h2 hk
        have l := Ways.steps_le _ i (half n) (Nat.le_refl _)
        have cS := fun w => steps_any f i (half n) I (half n : Nat) w hI rfl (by omega) hk (by omega)
        have HE : Hid (Ways.steps i n = Ways.steps i (half n) + 1) := e
        have i2 : I < (half n : Nat) := by omega
        have l2 : Ways.steps i (half n) ≤ 1000000 := by omega
        generalize half n = k at *
        generalize Ways.steps i k = s at *
        clear e l hI hN
        go_enter Tryd.func17, Tryd.ntmps17
        go_wp2_with fail
        refine (cH _).mono ?_
        rintro e w1 ⟨rfl, rfl⟩
        go_wp2_with fail
        refine (cS _).mono ?_
        rintro e w2 ⟨rfl, rfl⟩
        go_wp2_with fail
        go_ret
        exact ⟨by rw [HE.out]; go_num, rfl⟩
      · have e := Ways.steps_right i n h2 hk
        have l := Ways.steps_le _ (i - half n) (n - half n) (Nat.le_refl _)
        have cS := fun w => steps_any f (i - half n) (n - half n) (I - (half n : Nat)) (N - (half n : Nat)) w (by omega) (by omega) (by omega) (by omega) (by omega)
        have HE : Hid (Ways.steps i n = Ways.steps (i - half n) (n - half n) + 1) := e
        have i2 : ¬ I < (half n : Nat) := by omega
        have i3 : I < N := by omega
        have i4 : N ≤ 1000000 := by omega
        have l2 : Ways.steps (i - half n) (n - half n) ≤ 1000000 := by omega
        generalize half n = k at *
        generalize Ways.steps (i - k) (n - k) = s at *
        clear e l hI hN
        go_enter Tryd.func17, Tryd.ntmps17
        go_wp2_with fail
        refine (cH _).mono ?_
        rintro e w1 ⟨rfl, rfl⟩
        go_wp2_with fail
        refine (cS _).mono ?_
        rintro e w2 ⟨rfl, rfl⟩
        go_wp2_with fail
        go_ret
        exact ⟨by rw [HE.out]; go_num, rfl⟩
theorem steps_le (i n : Nat) (I N : Int) (w : World) (hI : I = i) (hN : N = n) (hi : i < n) (hn : n ≤ 1000000) :
    Calls Tryd.prog 17 #[.int .i64 I, .int .i64 N] w fun e w' => e = .returned (.int .i64 (Ways.steps i n : Nat)) ∧ w' = w :=
  steps_any (n + 1) i n I N w hI hN (Nat.lt_succ_self _) hi hn

end Go.Proofs.YtlibjdkofajahaaDoor.WalkStepsRef
