/-
  The walk of WalStops: it stops at the step that was told; then all is refused, till it crashes; then all goes on.
-/
import Derived.Test.YtofaegcljcpceafGreatDoorWalkWalAt
import Derived.Test.YtofaegcljcpceafGreatDoorWalSteps
import Derived.Test.YtofaegcljcpceafGreatDoorWalkTold
import Derived.Deep.CutBlock
namespace Go.Proofs.YtofaegcljcpceafGreatDoor.WalkWalStops
open Go.RowKit
open WalkTold (Laid)
open Errs (errv errv0 errv_pos)
open Wals
open WalSteps (St pa p0 pb)
open WalkWalAt (At)
open Lsms (newE getLV getLE)

theorem size_two {x : Lsms.Lsm} (h : WalSteps.Two x) : x.size ≤ 10000 := by
  rcases h with rfl | rfl <;> decide +kernel
theorem size_last {x : Wal} {a s : Nat} (h : St x a s) (keep : Int) {n t : Nat} : (syncW (putW (crashW x keep) [pb] n t)).cur.size ≤ 10000 := by
  have ok := ok_crash h.ok keep
  have tw : WalSteps.Two (crashW x keep).cur := h.two _ (List.mem_filter.1 (WalSteps.cur_mem ok)).1
  have e := WalSteps.crash_cur h keep (n := n) (t := t)
  rw [e]
  rcases tw with q | q <;> rw [q] <;> decide +kernel

theorem bad_at {w0 w : World} {b : Nat} {x : Wal} {a s : Nat} (hS : St x a s) (h : At w0 b x w) (hs : x.hist.length ≤ 400) :
    Calls Tryz.prog 28 #[.pointer (some ⟨b, 0, none⟩), .slice (some ⟨w.heap.size, 0, none⟩) 1 1] (w.alloc (.cells #[.string ⟨#[]⟩, .string ⟨#[120]⟩, .bool false] 44)) fun e w' => e = .returned (errv (if a < s then 6 else 2)) ∧ At w0 b x w' := by
  refine (WalkWalAt.put_one h hs p0 (by decide) (by decide)).mono ?_
  rintro e w' ⟨rfl, n, t, _, h2⟩
  obtain ⟨q1, q2⟩ := WalSteps.st_bad hS n t
  rw [q2] at h2
  rw [q1]
  exact ⟨rfl, h2⟩
theorem good_at {w0 w : World} {b : Nat} {x : Wal} {a s : Nat} (hS : St x a s) (h : At w0 b x w) (hs : x.hist.length ≤ 400) :
    Calls Tryz.prog 28 #[.pointer (some ⟨b, 0, none⟩), .slice (some ⟨w.heap.size, 0, none⟩) 1 1] (w.alloc (.cells #[.string ⟨#[97]⟩, .string ⟨#[120]⟩, .bool false] 44)) fun e w' => e = .returned (errv (if s < a then 0 else 6)) ∧ ∃ y, St y a (s + 1) ∧ y.hist.length ≤ x.hist.length + 1 ∧ At w0 b y w' := by
  refine (WalkWalAt.put_one h hs pa (by decide) (by decide)).mono ?_
  rintro e w' ⟨rfl, n, t, hn, h2⟩
  obtain ⟨q1, q2⟩ := WalSteps.st_put hS (t := t) hn
  rw [q1]
  exact ⟨rfl, _, q2, few_put x [pa] n t, h2⟩
theorem last_at {w0 w : World} {b : Nat} {x : Wal} (h : At w0 b x w) (hs : x.hist.length ≤ 400) :
    Calls Tryz.prog 28 #[.pointer (some ⟨b, 0, none⟩), .slice (some ⟨w.heap.size, 0, none⟩) 1 1] (w.alloc (.cells #[.string ⟨#[98]⟩, .string ⟨#[121]⟩, .bool false] 44)) fun e w' => e = .returned (errv (putWE x [pb])) ∧ ∃ n t, 2 ≤ n ∧ At w0 b (putW x [pb] n t) w' := WalkWalAt.put_one h hs pb (by decide) (by decide)

set_option maxHeartbeats 16000000 in
set_option maxRecDepth 100000 in
theorem walk (after : Int) (_ : (Lit.int .i64 after).wf = true) (many : Int) (_ : (Lit.int .i64 many).wf = true) (keep : Int) (_ : (Lit.int .i64 keep).wf = true) (w : World) (hL : Laid w) :
    Calls Tryz.prog 5 #[.int .i64 after, .int .i64 many, .int .i64 keep] w fun e w' => e = .returned (.bool true) ∧ Below w.heap.size w w' := by
  have HErr : Hid (∀ (b : Nat) (x : Wal) (e : Nat) (m : Int) (w1 : World), At w b x w1 → Calls Tryz.prog 13 #[errv e, .int .i64 m] w1 fun r w' => r = .returned (.bool ((e : Int) == m)) ∧ At w b x w') := fun b x e m w1 h =>
    (WalkTold.error_is e m w1 (hL.below h.2)).mono fun r w' ⟨h1, h2⟩ => ⟨h1, h.below h2⟩
  clear hL
  have hE9 : newE 9 = 0 := by decide
  have cN := WalkWalAt.new_any 9 w w.heap.size (Nat.le_refl _)
  rw [hE9, errv0] at cN
  go_enter Tryz.func5, Tryz.ntmps5
  go_wp2_with fail
  refine cN.mono ?_
  rintro e w1 ⟨v, rfl, hv, b1⟩
  obtain ⟨b, F, rfl, hwa, _⟩ := by first | exact hv rfl | exact hv trivial
  have HA : Hid (At w b (newW 9) w1) := ⟨⟨F, hwa⟩, b1⟩
  clear hv hwa cN
  by_cases h1 : after < 0
  · clear HErr HA
    go_wp2_with fail
    go_ret
    exact ⟨rfl, b1⟩
  by_cases h2 : 20 < after
  · clear HErr HA
    go_wp2_with fail
    go_ret
    exact ⟨rfl, b1⟩
  by_cases h3 : many < 0
  · clear HErr HA
    go_wp2_with fail
    go_ret
    exact ⟨rfl, b1⟩
  by_cases h4 : 20 < many
  · clear HErr HA
    go_wp2_with fail
    go_ret
    exact ⟨rfl, b1⟩
  obtain ⟨A, rfl⟩ := Int.eq_ofNat_of_zero_le (Int.not_lt.1 h1)
  obtain ⟨M, rfl⟩ := Int.eq_ofNat_of_zero_le (Int.not_lt.1 h3)
  have hA : A ≤ 20 := by omega
  have hM : M ≤ 20 := by omega
  clear b1
  go_wp2_with fail
  refine (WalkWalAt.fail_at HA.out _ (by omega)).mono ?_
  rintro e w2 ⟨rfl, at2⟩
  have HI : Hid (∃ x, St x A 0 ∧ x.hist.length ≤ 1 ∧ At w b x w2) := ⟨_, WalSteps.st_new A, Nat.le_refl _, at2⟩
  clear HA at2
  go_wp2_with fail
  go_loopw [9, 10] (fun st i wr => ∃ k : Nat, k ≤ M ∧ st = .int .i64 (k : Int) ∧ i = .int .i64 (k : Int) ∧ Hid (∃ x, St x A k ∧ x.hist.length ≤ k + 1 ∧ At w b x wr)) (fun _ i _ => M - (intOf i).toNat)
  case atStart => exact ⟨0, Nat.zero_le _, rfl, rfl, HI⟩
  case round =>
    obtain ⟨k, hk, rfl, rfl, HX⟩ := hrel
    clear HI
    by_cases hlt : k < M
    · have j1 : (k : Int) < (M : Int) := by omega
      obtain ⟨x, hS, hl, hat⟩ := HX.out
      clear HX
      by_cases c1 : k < A
      · have e1 : ¬ A < k := by omega
        have e2 : (k : Int) < (A : Int) := by omega
        have e3 : ¬ (A : Int) < (k : Int) := by omega
        have e4 : (k : Int) ≤ (A : Int) := by omega
        have e5 : ((k : Int) == (A : Int)) = false := by rw [beq_eq_false_iff_ne]; omega
        have cB := bad_at hS hat (by omega)
        rw [if_neg e1] at cB
        go_wp2_with fail
        refine cB.mono ?_
        rintro e w3 ⟨rfl, at3⟩
        have cG := good_at hS at3 (by omega)
        rw [if_pos c1] at cG
        clear cB hat
        go_wp2_with fail
        refine cG.mono ?_
        rintro e w4 ⟨rfl, y, hS4, hl4, at4⟩
        clear cG at3
        have HY : Hid (St y A (k + 1) ∧ y.hist.length ≤ k + 1 + 1) := ⟨hS4, by omega⟩
        clear hS4 hl4 hS hl
        go_wp2_with fail
        refine (HErr.out b y 2 6 _ at4).mono ?_
        rintro e w5 ⟨rfl, at5⟩
        clear at4
        go_wp2_with fail
        refine (HErr.out b y 2 2 _ at5).mono ?_
        rintro e w6 ⟨rfl, at6⟩
        clear at5
        go_wp2_with fail
        refine (HErr.out b y 0 6 _ at6).mono ?_
        rintro e w7 ⟨rfl, at7⟩
        clear at6
        rw [errv0]
        have HZ : Hid (∃ x, St x A (k + 1) ∧ x.hist.length ≤ k + 1 + 1 ∧ At w b x w7) := ⟨y, HY.out.1, HY.out.2, at7⟩
        clear HY at7
        go_wp2_with fail
        go_roundw
        case rel => exact ⟨k + 1, by omega, by go_num, by go_num, HZ⟩
        case measure => simp [intOf]; omega
      by_cases c2 : k = A
      · have e1 : ¬ A < k := by omega
        have e2 : ¬ (k : Int) < (A : Int) := by omega
        have e3 : ¬ (A : Int) < (k : Int) := by omega
        have e4 : (k : Int) ≤ (A : Int) := by omega
        have e5 : ((k : Int) == (A : Int)) = true := by rw [beq_iff_eq]; omega
        have cB := bad_at hS hat (by omega)
        rw [if_neg e1] at cB
        go_wp2_with fail
        refine cB.mono ?_
        rintro e w3 ⟨rfl, at3⟩
        have cG := good_at hS at3 (by omega)
        rw [if_neg c1] at cG
        clear cB hat
        go_wp2_with fail
        refine cG.mono ?_
        rintro e w4 ⟨rfl, y, hS4, hl4, at4⟩
        clear cG at3
        have HY : Hid (St y A (k + 1) ∧ y.hist.length ≤ k + 1 + 1) := ⟨hS4, by omega⟩
        clear hS4 hl4 hS hl
        go_wp2_with fail
        refine (HErr.out b y 2 6 _ at4).mono ?_
        rintro e w5 ⟨rfl, at5⟩
        clear at4
        go_wp2_with fail
        refine (HErr.out b y 2 2 _ at5).mono ?_
        rintro e w6 ⟨rfl, at6⟩
        clear at5
        go_wp2_with fail
        refine (HErr.out b y 6 6 _ at6).mono ?_
        rintro e w7 ⟨rfl, at7⟩
        clear at6
        rw [errv_pos 6 (by decide)]
        have HZ : Hid (∃ x, St x A (k + 1) ∧ x.hist.length ≤ k + 1 + 1 ∧ At w b x w7) := ⟨y, HY.out.1, HY.out.2, at7⟩
        clear HY at7
        go_wp2_with fail
        go_roundw
        case rel => exact ⟨k + 1, by omega, by go_num, by go_num, HZ⟩
        case measure => simp [intOf]; omega
      · have e1 : A < k := by omega
        have e2 : ¬ (k : Int) < (A : Int) := by omega
        have e3 : (A : Int) < (k : Int) := by omega
        have e4 : ¬ (k : Int) ≤ (A : Int) := by omega
        have e5 : ((k : Int) == (A : Int)) = false := by rw [beq_eq_false_iff_ne]; omega
        have cB := bad_at hS hat (by omega)
        rw [if_pos e1] at cB
        go_wp2_with fail
        refine cB.mono ?_
        rintro e w3 ⟨rfl, at3⟩
        have cG := good_at hS at3 (by omega)
        rw [if_neg c1] at cG
        clear cB hat
        go_wp2_with fail
        refine cG.mono ?_
        rintro e w4 ⟨rfl, y, hS4, hl4, at4⟩
        clear cG at3
        have HY : Hid (St y A (k + 1) ∧ y.hist.length ≤ k + 1 + 1) := ⟨hS4, by omega⟩
        clear hS4 hl4 hS hl
        go_wp2_with fail
        refine (HErr.out b y 6 6 _ at4).mono ?_
        rintro e w5 ⟨rfl, at5⟩
        clear at4
        go_wp2_with fail
        refine (HErr.out b y 6 2 _ at5).mono ?_
        rintro e w6 ⟨rfl, at6⟩
        clear at5
        go_wp2_with fail
        refine (HErr.out b y 6 6 _ at6).mono ?_
        rintro e w7 ⟨rfl, at7⟩
        clear at6
        rw [errv_pos 6 (by decide)]
        have HZ : Hid (∃ x, St x A (k + 1) ∧ x.hist.length ≤ k + 1 + 1 ∧ At w b x w7) := ⟨y, HY.out.1, HY.out.2, at7⟩
        clear HY at7
        go_wp2_with fail
        go_roundw
        case rel => exact ⟨k + 1, by omega, by go_num, by go_num, HZ⟩
        case measure => simp [intOf]; omega
    · have j1 : ¬ (k : Int) < (M : Int) := by omega
      obtain rfl : k = M := by omega
      clear hlt hk
      go_wp2_with fail
      go_loopw [9] (fun st wr => ∃ j : Nat, k ≤ j ∧ j ≤ 21 ∧ st = .int .i64 (j : Int) ∧ Hid (∃ x, St x A j ∧ x.hist.length ≤ 21 ∧ At w b x wr)) (fun st _ => 22 - (intOf st).toNat)
      case atStart => exact ⟨k, Nat.le_refl _, by omega, rfl, by obtain ⟨x, q1, q2, q3⟩ := HX.out; exact ⟨x, q1, by omega, q3⟩⟩
      case round =>
        obtain ⟨j, hj1, hj2, rfl, HJ⟩ := hrel
        clear HX
        by_cases hja : j ≤ A
        · have i1 : (j : Int) ≤ (A : Int) := by omega
          obtain ⟨x, hS, hl, hat⟩ := HJ.out
          obtain ⟨q1, q2⟩ := WalSteps.st_sync hS
          have cS := WalkWalAt.sync_at hat
          rw [q1] at cS
          have HY : Hid (St (syncW x) A (j + 1) ∧ (syncW x).hist.length ≤ 21) := ⟨q2, by rw [few_sync]; exact hl⟩
          clear hat hS q1 q2 HJ hl
          generalize syncW x = y at cS HY
          by_cases c1 : j < A
          · have e5 : ((j : Int) == (A : Int)) = false := by rw [beq_eq_false_iff_ne]; omega
            rw [if_pos c1, errv0] at cS
            go_wp2_with fail
            refine cS.mono ?_
            rintro e w3 ⟨rfl, at3⟩
            have HZ : Hid (∃ x, St x A (j + 1) ∧ x.hist.length ≤ 21 ∧ At w b x w3) := ⟨y, HY.out.1, HY.out.2, at3⟩
            clear cS at3 HY
            go_wp2_with fail
            go_roundw
            case rel => exact ⟨j + 1, by omega, by omega, by go_num, HZ⟩
            case measure => simp [intOf]; omega
          · have e5 : ((j : Int) == (A : Int)) = true := by rw [beq_iff_eq]; omega
            rw [if_neg c1, errv_pos 6 (by decide)] at cS
            go_wp2_with fail
            refine cS.mono ?_
            rintro e w3 ⟨rfl, at3⟩
            have HZ : Hid (∃ x, St x A (j + 1) ∧ x.hist.length ≤ 21 ∧ At w b x w3) := ⟨y, HY.out.1, HY.out.2, at3⟩
            clear cS at3 HY
            go_wp2_with fail
            go_roundw
            case rel => exact ⟨j + 1, by omega, by omega, by go_num, HZ⟩
            case measure => simp [intOf]; omega
        · have i1 : ¬ (j : Int) ≤ (A : Int) := by omega
          obtain ⟨x, hS, hl, hat⟩ := HJ.out
          have hjA : A < j := by omega
          obtain ⟨s1, s2, s3, s4⟩ := WalSteps.st_stop hS hjA [pb] 0 0
          have cS := WalkWalAt.sync_at hat
          rw [s1, s2] at cS
          clear hat HJ
          go_wp2_with fail
          refine cS.mono ?_
          rintro e w3 ⟨rfl, at3⟩
          clear cS
          have cL := last_at at3 (by omega)
          rw [s3] at cL
          go_wp2_with fail
          refine cL.mono ?_
          rintro e w4 ⟨rfl, n, t, _, at4⟩
          rw [(WalSteps.st_stop hS hjA [pb] n t).2.2.2] at at4
          clear cL at3 s1 s2 s3 s4
          go_wp2_with fail
          refine (HErr.out b x 6 6 _ at4).mono ?_
          rintro e w5 ⟨rfl, at5⟩
          clear at4
          go_wp2_with fail
          refine (HErr.out b x 6 6 _ at5).mono ?_
          rintro e w6 ⟨rfl, at6⟩
          clear at5 HErr
          go_wp2_with fail
          refine (WalkWalAt.crash_at at6 (by omega) keep).mono ?_
          rintro e w7 ⟨rfl, at7⟩
          clear at6
          have hl7 := few_crash x keep
          have cP := last_at at7 (by omega)
          rw [(WalSteps.st_crash hS keep (n := 0) (t := 0)).1, errv0] at cP
          go_wp2_with fail
          refine cP.mono ?_
          rintro e w8 ⟨rfl, n, t, _, at8⟩
          obtain ⟨_, t2, t3, t4⟩ := WalSteps.st_crash hS keep (n := n) (t := t)
          have hsz := size_last hS keep (n := n) (t := t)
          have cY := WalkWalAt.sync_at at8
          rw [t2, errv0] at cY
          clear cP at7 at8 t2 hl7
          go_wp2_with fail
          refine cY.mono ?_
          rintro e w9 ⟨rfl, at9⟩
          clear cY
          go_wp2_with fail
          refine (WalkWalAt.lsm_at at9).mono ?_
          rintro e wa ⟨b2, F2, rfl, hls, ata⟩
          have cG := WalkLs.get_any hls hsz ⟨#[98]⟩
          rw [t3, t4, errv0] at cG
          have HB : Hid (Below w.heap.size w wa) := ata.2
          clear at9 ata hls hsz t3 t4 hS hl
          go_wp2_with fail
          refine cG.mono ?_
          rintro e wb ⟨rfl, bb⟩
          have HZ : Hid (Below w.heap.size w wb) := Lists.bt HB.out bb
          clear cG bb HB
          go_wp2_with fail
          go_ret
          exact ⟨rfl, HZ.out⟩

end Go.Proofs.YtofaegcljcpceafGreatDoor.WalkWalStops
