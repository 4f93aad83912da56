/-
  The walk of WalWhole: a batch of which one pair is refused does nothing; else all of it is done.
-/
import Derived.Test.YtofaegcljcpceafGreatDoorWalkWalAt
import Derived.Test.YtofaegcljcpceafGreatDoorWalOnes
import Derived.Test.YtofaegcljcpceafGreatDoorWalkLetters
import Derived.Test.YtofaegcljcpceafGreatDoorWalkTold
import Derived.Deep.DeepMust
import Derived.Deep.CutBlock
namespace Go.Proofs.YtofaegcljcpceafGreatDoor.WalkWalWhole
open Go.RowKit
open Lists (bt)
open Keeps (Kept owns_row)
open WalkTold (Laid)
open Errs (errv errv0 errv_pos)
open Wides (Wide owns_wide)
open PairRows (cells cells_append)
open Wals
open WalOnes (W item nul)
open WalkWalAt (At)
open WalkWa (Wa)
open LsmLetters (one vee X0)
open Letters (ltr)
open Lsms (newE)

theorem infoP : (Tryz.prog.info? 44).map (fun i => (i.zero, i.size, i.bytes)) = some (some (.agg #[.string ⟨#[]⟩, .string ⟨#[]⟩, .bool false]), 3, 40) := by kernel_rfl
theorem cell_three_new (w : World) (x y z : Value) (t : TypeId) : ∀ j u, [x, y, z][j]? = some u → (w.alloc (.cells #[x, y, z] t)).cell? ((⟨w.heap.size, 0, none⟩ : Addr).add j) = some u := by
  intro j u hj
  match j, hj with
  | 0, hj => simp at hj; subst hj; simp [Addr.add]
  | 1, hj => simp at hj; subst hj; simp [Addr.add]
  | 2, hj => simp at hj; subst hj; simp [Addr.add]
theorem cell_three_two (w : World) (o : Obj) (x y z : Value) (t : TypeId) : ∀ j u, [x, y, z][j]? = some u → ((w.alloc o).alloc (.cells #[x, y, z] t)).cell? ((⟨w.heap.size + 1, 0, none⟩ : Addr).add j) = some u := by
  have h := cell_three_new (w.alloc o) x y z t
  simpa using h
/-- one pair more, laid by two new blocks -/
theorem two_below {w1 w2 : World} (h : Below w1.heap.size w1 w2) (o p : Obj) : Below w1.heap.size w1 ((w2.alloc o).alloc p) := (h.alloc h.size o).alloc (by have := h.size; simp; omega) p

set_option maxHeartbeats 16000000 in
set_option maxRecDepth 100000 in
theorem walk (n : Int) (_ : (Lit.int .i64 n).wf = true) (bad : Int) (_ : (Lit.int .i64 bad).wf = true) (w : World) (hL : Laid w) :
    Calls Tryz.prog 6 #[.int .i64 n, .int .i64 bad] w fun e w' => e = .returned (.bool true) ∧ Below w.heap.size w w' := by
  obtain ⟨i0, hi, hz0, hz1, hz2⟩ := info_parts infoP
  have HErr : Hid (∀ (b : Nat) (x : Wal) (e : Nat) (m : Int) (w1 : World), At w b x w1 → Calls Tryz.prog 13 #[errv e, .int .i64 m] w1 fun r w' => r = .returned (.bool ((e : Int) == m)) ∧ At w b x w') := fun b x e m w1 h =>
    (WalkTold.error_is e m w1 (hL.below h.2)).mono fun r w' ⟨h1, h2⟩ => ⟨h1, h.below h2⟩
  clear hL
  have hE9 : newE 50 = 0 := by decide
  have cN := WalkWalAt.new_any 50 w w.heap.size (Nat.le_refl _)
  rw [hE9, errv0] at cN
  go_enter Tryz.func6, Tryz.ntmps6
  go_wp2_with fail
  refine cN.mono ?_
  rintro e w1 ⟨v, rfl, hv, b1⟩
  obtain ⟨b, F, rfl, hwa, _⟩ := by first | exact hv rfl | exact hv trivial
  have HA : Hid (Wa w1 w.heap.size b F (newW 50)) := hwa
  have HB1 : Hid (Below w.heap.size w w1) := b1
  clear hv hwa cN b1
  by_cases h1 : n < 0
  · clear HErr HA
    go_wp2_with fail
    go_ret
    exact ⟨rfl, HB1.out⟩
  by_cases h2 : 25 < n
  · clear HErr HA
    go_wp2_with fail
    go_ret
    exact ⟨rfl, HB1.out⟩
  obtain ⟨N, rfl⟩ := Int.eq_ofNat_of_zero_le (Int.not_lt.1 h1)
  have hN : N ≤ 25 := by omega
  go_wp2_with fail
  go_loopw [7, 8] (fun v i wr => ∃ k : Nat, k ≤ N ∧ i = .int .i64 (k : Int) ∧ Hid (wr.ownsRow w1.heap.size 44 3 v (W bad k).length (cells (W bad k))) ∧ Hid (Below w1.heap.size w1 wr)) (fun _ i _ => N - (intOf i).toNat)
  case atStart => exact ⟨0, Nat.zero_le _, rfl, World.ownsRow_nil _ _ _ _, Below.refl _ _⟩
  case round =>
    obtain ⟨k, hk, rfl, HO, HBn⟩ := hrel
    have hlW := WalOnes.W_length bad k
    by_cases hlt : k < N
    · have j1 : (k : Int) < (N : Int) := by omega
      have HS : Hid (W bad (k + 1) = W bad k ++ [item bad k]) := WalOnes.W_succ bad k
      go_wp2_with fail
      refine (WalkLetters.letters_any k _ (by omega)).mono ?_
      rintro e w2 ⟨rfl, b2⟩
      have HO2 : Hid (w2.ownsRow w1.heap.size 44 3 _ (W bad k).length (cells (W bad k))) := Keeps.owns_kept HO.out (Kept.of_below (fun _ => False) b2) fun _ _ q => q
      have HB2 : Hid (Below w1.heap.size w1 w2) := bt HBn.out b2
      clear b2 HO HBn
      by_cases hb : (k : Int) = bad
      · have hd : ((k : Int) == bad) = true := by rw [beq_iff_eq]; exact hb
        have HI : Hid (item bad k = ⟨⟨#[]⟩, ⟨#[118]⟩, false⟩) := if_pos hb
        clear hb
        go_wp2_with (at_builtin; go_must (refine wpList_append_own _ rfl (.tmp 39) (.tmp 41) 34 rfl w1.heap.size 44 i0 (.agg #[.string ⟨#[]⟩, .string ⟨#[]⟩, .bool false]) 3 40 Tryz.underlying34 hi hz0 hz1 hz2 rfl (by decide) _ _ _ rfl ((HO2.out.alloc _).alloc _) ⟨_, 0, none⟩ 1 1 [.string ⟨#[]⟩, .string ⟨#[118]⟩, .bool false] rfl rfl (cell_three_two _ _ _ _ _ _) (fun u hu => by simp at hu; rcases hu with rfl | rfl | rfl <;> rfl) (by unfold maxLen; omega) (by omega) (by have := HB2.out.size; simp; omega) ?_); intro v1 wn o1 g1 z1; clear z1)
        have HBN : Hid (Below w1.heap.size w1 wn) := (two_below HB2.out _ _).grown g1 (by have := HB2.out.size; simp; omega) (fun k hk => (HO2.out.lt k hk).1)
        have HON : Hid (wn.ownsRow w1.heap.size 44 3 v1 (W bad (k + 1)).length (cells (W bad (k + 1)))) := by
          rw [HS.out, HI.out, cells_append, List.length_append]
          exact o1
        clear g1 o1 HO2 HB2
        go_roundw
        case rel => exact ⟨k + 1, by omega, by go_num, HON, HBN⟩
        case measure => simp [intOf]; omega
      · have hd : ((k : Int) == bad) = false := by rw [beq_eq_false_iff_ne]; exact hb
        have HI : Hid (item bad k = ⟨ltr k, ⟨#[118]⟩, false⟩) := if_neg hb
        clear hb
        go_wp2_with (at_builtin; go_must (refine wpList_append_own _ rfl (.tmp 39) (.tmp 41) 34 rfl w1.heap.size 44 i0 (.agg #[.string ⟨#[]⟩, .string ⟨#[]⟩, .bool false]) 3 40 Tryz.underlying34 hi hz0 hz1 hz2 rfl (by decide) _ _ _ rfl ((HO2.out.alloc _).alloc _) ⟨_, 0, none⟩ 1 1 [.string (ltr k), .string ⟨#[118]⟩, .bool false] rfl rfl (cell_three_two _ _ _ _ _ _) (fun u hu => by simp at hu; rcases hu with rfl | rfl | rfl <;> rfl) (by unfold maxLen; omega) (by omega) (by have := HB2.out.size; simp; omega) ?_); intro v1 wn o1 g1 z1; clear z1)
        have HBN : Hid (Below w1.heap.size w1 wn) := (two_below HB2.out _ _).grown g1 (by have := HB2.out.size; simp; omega) (fun k hk => (HO2.out.lt k hk).1)
        have HON : Hid (wn.ownsRow w1.heap.size 44 3 v1 (W bad (k + 1)).length (cells (W bad (k + 1)))) := by
          rw [HS.out, HI.out, cells_append, List.length_append]
          exact o1
        clear g1 o1 HO2 HB2
        go_roundw
        case rel => exact ⟨k + 1, by omega, by go_num, HON, HBN⟩
        case measure => simp [intOf]; omega
    · have j1 : ¬ (k : Int) < (N : Int) := by omega
      obtain rfl : k = N := by omega
      clear hlt hk
      -- the batch
      obtain ⟨aL, cL, rfl, rL⟩ := owns_wide HO.out
      have wa := HA.out.kept (Kept.of_below (fun _ => False) HBn.out) fun _ _ q => q
      have bW : Below w.heap.size w _ := bt HB1.out HBn.out
      have cP := WalkWa.put_any wa (by decide) (W bad k) aL (W bad k).length cL rL (fun e he => by have := WalOnes.W_size bad k e he; unfold maxLen; omega) (fun p _ hp hf => by
        subst hp
        have h1 := (HA.out.foot _ hf).2
        have h2 := HO.out.lt p.block rfl
        omega)
      rw [WalOnes.put_err] at cP
      obtain ⟨E, HE⟩ : ∃ E : Nat, Hid (batchE (X0 50) (W bad k) = E) := ⟨_, rfl⟩
      rw [HE.out] at cP
      rw [hlW] at cP ⊢
      go_wp2_with fail
      refine cP.mono ?_
      rintro e w2 ⟨rfl, ⟨n, t, F2, _, _, _, wa2, _⟩, k2⟩
      have HA2 : Hid (At w b (putW (newW 50) (W bad k) n t) w2) := At.next wa bW wa2 k2
      clear cP wa wa2 k2 bW rL HA HB1 HBn HO
      by_cases c1 : 20 < k
      · have e4 : E = 4 := by rw [← HE.out]; exact WalOnes.many bad c1 _
        subst e4
        rw [WalOnes.put_bad (by rw [HE.out]; decide)] at HA2
        have i1 : (20 : Int) < (k : Int) := by omega
        clear c1 HE
        go_wp2_with fail
        refine (WalkWalAt.lsm_at HA2.out).mono ?_
        rintro e w3 ⟨b2, F3, rfl, hls, at3⟩
        have cA := WalkLs.all_any hls (by rw [WalOnes.none_size.1]; decide)
        clear hls HA2
        go_wp2_with fail
        refine cA.mono ?_
        rintro e w4 ⟨v4, rfl, o4, b4⟩
        obtain ⟨a4, c4, rfl, _⟩ := owns_wide o4
        have at4 := at3.below b4
        rw [WalOnes.none_size.2.1]
        clear cA o4 b4 at3
        go_wp2_with fail
        refine (HErr.out b (newW 50) 4 4 _ at4).mono ?_
        rintro e w5 ⟨rfl, at5⟩
        have HZ : Hid (Below w.heap.size w w5) := at5.2
        clear at4 at5 HErr
        go_wp2_with fail
        go_ret
        exact ⟨rfl, HZ.out⟩
      have i1 : ¬ (20 : Int) < (k : Int) := by omega
      by_cases c2 : 0 ≤ bad ∧ bad < k
      · have e4 : E = 2 := by rw [← HE.out]; exact WalOnes.refused c2 (by omega)
        subst e4
        rw [WalOnes.put_bad (by rw [HE.out]; decide)] at HA2
        obtain ⟨i2, i3⟩ := c2
        clear c1 HE
        go_wp2_with fail
        refine (WalkWalAt.lsm_at HA2.out).mono ?_
        rintro e w3 ⟨b2, F3, rfl, hls, at3⟩
        have cA := WalkLs.all_any hls (by rw [WalOnes.none_size.1]; decide)
        clear hls HA2
        go_wp2_with fail
        refine cA.mono ?_
        rintro e w4 ⟨v4, rfl, o4, b4⟩
        obtain ⟨a4, c4, rfl, _⟩ := owns_wide o4
        have at4 := at3.below b4
        rw [WalOnes.none_size.2.1]
        clear cA o4 b4 at3
        go_wp2_with fail
        refine (HErr.out b (newW 50) 2 2 _ at4).mono ?_
        rintro e w5 ⟨rfl, at5⟩
        have cB := WalkWalAt.bytes_at at5
        rw [WalOnes.none_size.2.2] at cB
        clear at4 at5 HErr
        go_wp2_with fail
        refine cB.mono ?_
        rintro e w6 ⟨rfl, at6⟩
        have HZ : Hid (Below w.heap.size w w6) := at6.2
        clear at6 cB
        go_wp2_with fail
        go_ret
        exact ⟨rfl, HZ.out⟩
      · obtain ⟨g1, g2⟩ := WalOnes.fine c2 (by omega)
        have e4 : E = 0 := by rw [← HE.out]; exact g1
        subst e4
        rw [errv0]
        have hc := WalOnes.put_cur HE.out n t
        have hsz := WalOnes.fine_size c2 (show k ≤ 20 by omega)
        rw [← hc] at g2 hsz
        obtain ⟨z, HW⟩ : ∃ z : Wal, Hid (putW (newW 50) (W bad k) n t = z) := ⟨_, rfl⟩
        rw [HW.out] at HA2 g2 hsz
        have hb : decide (0 ≤ bad) = false ∨ (decide (0 ≤ bad) = true ∧ decide (bad < (k : Int)) = false) := by
          by_cases q : 0 ≤ bad
          · exact .inr ⟨decide_eq_true q, decide_eq_false fun r => c2 ⟨q, r⟩⟩
          · exact .inl (decide_eq_false q)
        have HG : Hid (z.cur.all.length = k) := g2
        clear c1 c2 HE g1 g2 hc HErr HW
        go_wp2_with fail
        refine (WalkWalAt.lsm_at HA2.out).mono ?_
        rintro e w3 ⟨b2, F3, rfl, hls, at3⟩
        have cA := WalkLs.all_any hls hsz
        clear hls HA2
        go_wp2_with fail
        refine cA.mono ?_
        rintro e w4 ⟨v4, rfl, o4, b4⟩
        obtain ⟨a4, c4, rfl, _⟩ := owns_wide o4
        have at4 := at3.below b4
        rw [HG.out]
        clear cA o4 b4 at3
        have HZ : Hid (Below w.heap.size w w4) := at4.2
        clear at4
        rcases hb with q | ⟨q, q2⟩
        · have q1 : ¬ 0 ≤ bad := of_decide_eq_false q
          clear q
          go_wp2_with fail
          go_ret
          exact ⟨rfl, HZ.out⟩
        · have q1 : 0 ≤ bad := of_decide_eq_true q
          have q3 : ¬ bad < (k : Int) := of_decide_eq_false q2
          clear q q2
          go_wp2_with fail
          go_ret
          exact ⟨rfl, HZ.out⟩

end Go.Proofs.YtofaegcljcpceafGreatDoor.WalkWalWhole
