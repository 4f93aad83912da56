/-
  The walk of ForkOlder: of a log of so many entries each head goes with each later one, and none proves that it lies.
-/
import Derived.Test.YthaibjidfgmdmahDoorWalkFo
import Derived.Test.YthaibjidfgmdmahDoorForkOnes
import Derived.Test.YthaibjidfgmdmahDoorSomes
import Derived.Test.YthaibjidfgmdmahDoorWalkSome
import Derived.Test.YthaibjidfgmdmahDoorWalkSe
import Derived.Test.YthaibjidfgmdmahDoorWalkGrowMake
import Derived.Deep.CutBlock
namespace Go.Proofs.YthaibjidfgmdmahDoor.WalkForkOlder
open Go.RowKit
open Lists (Row ints bt)
open Keeps (owns_row)
open Errs (errv errv0)
open Wides (Wide)
open Heads (Head)
open HeadVals (hv aggH sizeH At)
open EntRows (cells)
open Entries (entsE leafsOf)
open Answers (logE logH)
open Somes (some_)
open ForkOnes (proofOf)

theorem log_some {n : Nat} {t : Int} (h : n ≤ 60) (h0 : 0 ≤ t) (h1 : t ≤ 1000000) : logE (some_ n) 7 t = 0 := Serves.log_zero (Somes.some_ok (by omega)) (by decide) h0 h1
theorem proof_nil (l : List Entries.Entry) (n : Nat) (h : ¬ (1 ≤ n ∧ n < l.length)) : proofOf l n = [] := if_neg h

set_option maxHeartbeats 8000000 in
set_option maxRecDepth 100000 in
theorem walk (n : Int) (_ : (Lit.int .i64 n).wf = true) (m : Int) (_ : (Lit.int .i64 m).wf = true) (w : World) (hL : WalkTold.Laid w) (hK : WalkHdLib.Tabs w) :
    Calls Tryd.prog 6 #[.int .i64 n, .int .i64 m] w fun e w' => e = .returned (.bool true) ∧ Below w.heap.size w w' := by
  by_cases h0 : n < 0
  · clear hK hL
    go_enter Tryd.func6, Tryd.ntmps6
    go_wp2_with fail
    go_ret
    exact ⟨rfl, Below.refl _ _⟩
  by_cases h1 : m < n
  · clear hK hL
    go_enter Tryd.func6, Tryd.ntmps6
    go_wp2_with fail
    go_ret
    exact ⟨rfl, Below.refl _ _⟩
  by_cases h2 : m > 60
  · clear hK hL
    go_enter Tryd.func6, Tryd.ntmps6
    go_wp2_with fail
    go_ret
    exact ⟨rfl, Below.refl _ _⟩
  obtain ⟨N, rfl⟩ := Int.eq_ofNat_of_zero_le (show 0 ≤ n by omega)
  obtain ⟨M, rfl⟩ := Int.eq_ofNat_of_zero_le (show 0 ≤ m by omega)
  have hNM : N ≤ M := by omega
  have hM : M ≤ 60 := by omega
  have HT : Hid (∀ w', Below w.heap.size w w' → WalkHdLib.Tabs w') := fun w' b => hK.below b
  have HLd : Hid (∀ w', Below w.heap.size w w' → WalkTold.Laid w') := fun w' b => hL.below b
  have hlM : (some_ M).length = M := Somes.some_length M
  have HZ : Hid (∀ k : Nat, k ≤ 60 → ∀ e ∈ some_ k, e.2.size ≤ maxLen) := fun k hk e he => by
    have := (Entries.ent_ok ((Entries.ents_ok (Somes.some_ok (n := k) (by omega))).2 e he)).2.2
    unfold maxLen
    omega
  have HSm : Hid (∀ k : Nat, k ≤ 60 → ∀ w', Calls Tryd.prog 8 #[.int .i64 (k : Int)] w' fun e w'' => ∃ v, e = .returned v ∧ w''.ownsRow w'.heap.size 64 2 v k (cells (some_ k)) ∧ Below w'.heap.size w' w'') := fun k hk w' => WalkSome.some_any k (by omega) w'
  have HN60 : Hid (N ≤ 60) := Nat.le_trans hNM hM
  have HEa : Hid (logE (some_ N) 7 0 = 0) := log_some HN60.out (by decide) (by decide)
  have HEb : Hid (logE (some_ M) 7 1 = 0) := log_some hM (by decide) (by decide)
  obtain ⟨A, HA⟩ : ∃ A, Hid (logH (some_ N) 7 0 = A) := ⟨_, rfl⟩
  obtain ⟨B, HB⟩ : ∃ B, Hid (logH (some_ M) 7 1 = B) := ⟨_, rfl⟩
  have HTO : Hid (Forks.bothE A B 7 = 0 ∧ Forks.checkE A B 7 (proofOf (some_ M) N) = 0 ∧ Forks.checkV A B 7 (proofOf (some_ M) N) = true ∧ Forks.provesV A B 7 = false) := by
    show Forks.bothE A B 7 = 0 ∧ Forks.checkE A B 7 (proofOf (some_ M) N) = 0 ∧ Forks.checkV A B 7 (proofOf (some_ M) N) = true ∧ Forks.provesV A B 7 = false
    rw [← HA.out, ← HB.out]
    exact ForkOnes.together_of (Somes.some_take hNM) (Nat.le_trans hNM (Nat.le_of_eq hlM.symm)) HEa.out HEb.out
  have HHa : Hid (∀ a c w', Below w.heap.size w w' → Wide 2 w' a N c (cells (some_ N)) → Calls Tryd.prog 9 #[.slice a N c, .int .i64 7, .int .i64 0] w' fun e w'' => e = .returned (.tuple #[hv A, .nilIface]) ∧ Below w'.heap.size w' w'') := fun a c w' b r => by
    have h := WalkSe.head_any (some_ N) a N c 7 0 w' r (HZ.out N HN60.out) (HT.out w' b)
    rw [HEa.out, errv0, HA.out] at h
    exact h
  have HHb : Hid (∀ a c w', Below w.heap.size w w' → Wide 2 w' a M c (cells (some_ M)) → Calls Tryd.prog 9 #[.slice a M c, .int .i64 7, .int .i64 1] w' fun e w'' => e = .returned (.tuple #[hv B, .nilIface]) ∧ Below w'.heap.size w' w'') := fun a c w' b r => by
    have h := WalkSe.head_any (some_ M) a M c 7 1 w' r (HZ.out M hM) (HT.out w' b)
    rw [HEb.out, errv0, HB.out] at h
    exact h
  have hfM := (Answers.log_ok HEb.out).1
  have hLf : Entries.leafsV (some_ M) = leafsOf (some_ M) := if_pos hfM
  have hLl : (leafsOf (some_ M)).length = M := by rw [Serves.leafs_len, hlM]
  have HLf : Hid (∀ a c w', Wide 2 w' a M c (cells (some_ M)) → Calls Tryd.prog 20 #[.slice a M c] w' fun e w'' => ∃ v, e = .returned (.tuple #[v, .nilIface]) ∧ w''.ownsRow w'.heap.size 3 1 v M (ints (leafsOf (some_ M))) ∧ Below w'.heap.size w' w'') := fun a c w' r => by
    have h := WalkEnt.leafs_any (some_ M) a M c w' r (HZ.out M hM)
    rw [hLf, hLl, hfM, errv0] at h
    exact h
  obtain ⟨PP, HPP⟩ : ∃ PP, Hid (proofOf (some_ M) N = PP) := ⟨_, rfl⟩
  rw [HPP.out] at HTO
  have HPr : Hid (∀ w', Below w.heap.size w w' → Calls Tryd.prog 14 #[hv A, hv B, .int .i64 7] w' fun e w'' => e = .returned (.tuple #[.bool false, .nilIface]) ∧ Below w'.heap.size w' w'') := fun w' b => by
    have h := WalkFo.proves_any A B 7 w' (HT.out w' b)
    rw [HTO.out.1, HTO.out.2.2.2, errv0] at h
    exact h
  have HCh : Hid (∀ x c w', Below w.heap.size w w' → Row w' x PP.length c (ints PP) → Calls Tryd.prog 17 #[hv A, hv B, .int .i64 7, .slice x PP.length c] w' fun e w'' => e = .returned (.tuple #[.bool true, .nilIface]) ∧ Below w'.heap.size w' w'') := fun x c w' b r => by
    have hpl : PP.length ≤ 201 := by
      rw [← HPP.out]
      unfold ForkOnes.proofOf
      split
      · exact GrowsE.gmakeL_len _ _ _
      · simp
    have h := WalkFo.check_any A B 7 PP x _ c w' r (by omega) (HLd.out w' b) (HT.out w' b)
    rw [HTO.out.2.1, HTO.out.2.2.1, errv0] at h
    exact h
  have HMk : Hid (1 ≤ N → N < M → ∀ a c w', Row w' a M c (ints (leafsOf (some_ M))) → Calls Tryd.prog 22 #[.slice a M c, .int .i64 (N : Int), .int .i64 (M : Int)] w' fun e w'' => ∃ v, e = .returned (.tuple #[v, .nilIface]) ∧ w''.ownsRow w'.heap.size 3 1 v PP.length (ints PP) ∧ Below w'.heap.size w' w'') := fun g1 g2 a c w' r => by
    have h := WalkGrowMake.make_any (leafsOf (some_ M)) a M c N M w' r
    have e1 : GrowsE.gmakeL (leafsOf (some_ M)) (N : Int) (M : Int) = PP := by
      rw [← HPP.out]
      unfold ForkOnes.proofOf
      rw [if_pos (by rw [hlM]; exact ⟨g1, g2⟩), hlM]
    have e2 := (ForkOnes.made_ok hfM g1 (by rw [hlM]; omega)).1
    rw [hlM] at e2
    rw [e1, e2] at h
    exact h
  have HPn : Hid (¬ (1 ≤ N ∧ N < M) → PP = []) := fun h => by rw [← HPP.out]; exact proof_nil _ _ (by rw [hlM]; exact h)
  obtain ⟨A0, A1, A2, A3⟩ := A
  obtain ⟨B0, B1, B2, B3⟩ := B
  unfold hv at HHa HHb HPr HCh
  simp only at HHa HHb HPr HCh
  have aH := aggH
  have zH := sizeH
  have i0 : ¬ (N : Int) < 0 := h0
  have i1 : ¬ (M : Int) < (N : Int) := h1
  have i2 : ¬ (M : Int) > 60 := h2
  clear hL HLd hK HEa HEb hlM HTO HZ hfM hLf hLl HA HB HPP h0 h1 h2 HT
  go_enter Tryd.func6, Tryd.ntmps6
  go_wp2_with fail
  refine (HSm.out M hM _).mono ?_
  rintro e w1 ⟨v1, rfl, o1, b1⟩
  obtain ⟨a1, c1, rfl, r1⟩ := Wides.owns_wide o1
  have HB1 : Hid (Below w.heap.size w w1) := b1
  have cL := HLf.out a1 c1 w1 r1
  clear o1 r1 b1
  go_wp2_with fail
  refine cL.mono ?_
  rintro e w2 ⟨v2, rfl, o2, b2⟩
  obtain ⟨a2, c2, rfl, r2, -⟩ := owns_row o2
  have HB2 : Hid (Below w.heap.size w w2) := bt HB1.out b2
  have HR2 : Hid (∀ w', Below w2.heap.size w2 w' → Row w' a2 M c2 (ints (leafsOf (some_ M)))) := fun w' b => r2.below b
  clear cL o2 b2 r2 HB1 HLf
  go_wp2_with fail
  refine (HSm.out N HN60.out _).mono ?_
  rintro e w3 ⟨v3, rfl, o3, b3⟩
  obtain ⟨a3, c3, rfl, r3⟩ := Wides.owns_wide o3
  have HB3 : Hid (Below w.heap.size w w3) := bt HB2.out b3
  have HC3 : Hid (Below w2.heap.size w2 w3) := b3
  have cA := HHa.out a3 c3 w3 HB3.out r3
  clear o3 b3 r3
  go_wp2_with fail
  refine cA.mono ?_
  rintro e w4 ⟨rfl, b4⟩
  go_upto_region 7 with fail
  have bA : Below w4.heap.size w4 (w4.alloc (.cells #[.int .i64 A0, .int .i64 A1, .int .i64 A2, .int .i64 A3] 30)) := (Below.refl _ _).alloc (Nat.le_refl _) _
  have HB4 : Hid (Below w.heap.size w (w4.alloc (.cells #[.int .i64 A0, .int .i64 A1, .int .i64 A2, .int .i64 A3] 30))) := bt (bt HB3.out b4) bA
  have HC4 : Hid (Below w2.heap.size w2 (w4.alloc (.cells #[.int .i64 A0, .int .i64 A1, .int .i64 A2, .int .i64 A3] 30))) := bt (bt HC3.out b4) bA
  have HAt : Hid (At (w4.alloc (.cells #[.int .i64 A0, .int .i64 A1, .int .i64 A2, .int .i64 A3] 30)) w4.heap.size ⟨A0, A1, A2, A3⟩) := At.new w4 A0 A1 A2 A3
  clear b4 bA cA HB3 HC3 HHa
  generalize w4.alloc (.cells #[.int .i64 A0, .int .i64 A1, .int .i64 A2, .int .i64 A3] 30) = w5 at HB4 HC4 HAt ⊢
  generalize w4.heap.size = g at HAt ⊢
  go_wp2_with fail
  refine (HSm.out M hM _).mono ?_
  rintro e w6 ⟨v6, rfl, o6, b6⟩
  obtain ⟨a6, c6, rfl, r6⟩ := Wides.owns_wide o6
  have HB6 : Hid (Below w.heap.size w w6) := bt HB4.out b6
  have HC6 : Hid (Below w2.heap.size w2 w6) := bt HC4.out b6
  have HA6 : Hid (At w6 g ⟨A0, A1, A2, A3⟩) := HAt.out.below b6
  have cB := HHb.out a6 c6 w6 HB6.out r6
  clear o6 b6 r6 HB4 HC4 HAt HSm
  go_wp2_with fail
  refine cB.mono ?_
  rintro e w7 ⟨rfl, b7⟩
  go_upto_region 8 with fail
  have bB : Below w7.heap.size w7 (w7.alloc (.cells #[.int .i64 B0, .int .i64 B1, .int .i64 B2, .int .i64 B3] 30)) := (Below.refl _ _).alloc (Nat.le_refl _) _
  have HB7 : Hid (Below w.heap.size w (w7.alloc (.cells #[.int .i64 B0, .int .i64 B1, .int .i64 B2, .int .i64 B3] 30))) := bt (bt HB6.out b7) bB
  have HC7 : Hid (Below w2.heap.size w2 (w7.alloc (.cells #[.int .i64 B0, .int .i64 B1, .int .i64 B2, .int .i64 B3] 30))) := bt (bt HC6.out b7) bB
  have HA7 : Hid (At (w7.alloc (.cells #[.int .i64 B0, .int .i64 B1, .int .i64 B2, .int .i64 B3] 30)) g ⟨A0, A1, A2, A3⟩) := (HA6.out.below b7).below bB
  have HD7 : Hid (At (w7.alloc (.cells #[.int .i64 B0, .int .i64 B1, .int .i64 B2, .int .i64 B3] 30)) w7.heap.size ⟨B0, B1, B2, B3⟩) := At.new w7 B0 B1 B2 B3
  clear b7 bB cB HB6 HC6 HA6 HHb
  generalize w7.alloc (.cells #[.int .i64 B0, .int .i64 B1, .int .i64 B2, .int .i64 B3] 30) = w8 at HB7 HC7 HA7 HD7 ⊢
  generalize w7.heap.size = k at HD7 ⊢
  go_upto_region 9 with fail
  go_cut [53] from 47 to 52 (fun v we => v = .bool (decide (1 ≤ N ∧ N < M)) ∧ we = w8)
  case first => as_aux_lemma =>
    by_cases g1 : 1 ≤ N
    · have j1 : (N : Int) ≥ 1 := by omega
      by_cases g2 : N < M
      · have j2 : (N : Int) < (M : Int) := by omega
        go_wp2_with fail
        go_meet
        case rel => exact ⟨by rw [decide_eq_true ⟨g1, g2⟩], rfl⟩
      · have j2 : ¬ (N : Int) < (M : Int) := by omega
        go_wp2_with fail
        go_meet
        case rel => exact ⟨by rw [decide_eq_false fun q => g2 q.2], rfl⟩
    · have j1 : ¬ (N : Int) ≥ 1 := by omega
      go_wp2_with fail
      go_meet
      case rel => exact ⟨by rw [decide_eq_false fun q => g1 q.1], rfl⟩
  obtain ⟨rfl, rfl⟩ := hcut
  go_upto_if 53 with fail
  go_cut [6, 11] from 53 to 60 (fun v6 v11 we => v6 = .nilIface ∧ ∃ x c, v11 = .slice x PP.length c ∧ Hid (Row we x PP.length c (ints PP)) ∧ Hid (Below w.heap.size w we) ∧ Hid (At we g ⟨A0, A1, A2, A3⟩) ∧ Hid (At we k ⟨B0, B1, B2, B3⟩))
  case first => as_aux_lemma =>
    by_cases g : 1 ≤ N ∧ N < M
    · rw [decide_eq_true g]
      have cM := HMk.out g.1 g.2 a2 c2 _ (HR2.out _ HC7.out)
      go_wp2_with fail
      refine cM.mono ?_
      rintro e w9 ⟨v9, rfl, o9, b9⟩
      obtain ⟨a9, c9, rfl, r9, -⟩ := owns_row o9
      have HR9 : Hid (Row w9 a9 PP.length c9 (ints PP)) := r9
      have HB9 : Hid (Below w.heap.size w w9) := bt HB7.out b9
      have HA9 : Hid (At w9 _ ⟨A0, A1, A2, A3⟩) := HA7.out.below b9
      have HD9 : Hid (At w9 k ⟨B0, B1, B2, B3⟩) := HD7.out.below b9
      clear cM o9 b9 r9
      go_wp2_with fail
      go_meet
      case rel => exact ⟨rfl, a9, c9, rfl, HR9, HB9, HA9, HD9⟩
    · rw [decide_eq_false g]
      have HE : Hid (PP = []) := HPn.out g
      go_wp2_with fail
      go_meet
      case rel => exact ⟨rfl, none, 0, by rw [HE.out]; rfl, by rw [HE.out]; exact Lists.Row.nil _ _ _, HB7, HA7, HD7⟩
  obtain ⟨rfl, x, c, rfl, HRp, HBx, HAx, HDx⟩ := hcut
  clear HB7 HC7 HA7 HD7 HR2 HMk HPn HB2
  obtain ⟨p0, p1, p2, p3⟩ := HAx.out
  obtain ⟨q0, q1, q2, q3⟩ := HDx.out
  simp only at p0 p1 p2 p3 q0 q1 q2 q3
  have cC := HCh.out x c _ HBx.out HRp.out
  go_wp2_with fail
  refine cC.mono ?_
  rintro e wa ⟨rfl, ba⟩
  have HBa : Hid (Below w.heap.size w wa) := bt HBx.out ba
  have HAa : Hid (At wa g ⟨A0, A1, A2, A3⟩) := HAx.out.below ba
  have HDa : Hid (At wa k ⟨B0, B1, B2, B3⟩) := HDx.out.below ba
  clear cC ba p0 p1 p2 p3 q0 q1 q2 q3 HRp HBx HAx HDx HCh
  obtain ⟨p0, p1, p2, p3⟩ := HAa.out
  obtain ⟨q0, q1, q2, q3⟩ := HDa.out
  simp only at p0 p1 p2 p3 q0 q1 q2 q3
  have cP := HPr.out _ HBa.out
  go_wp2_with fail
  refine cP.mono ?_
  rintro e wb ⟨rfl, bb⟩
  have HBb : Hid (Below w.heap.size w wb) := bt HBa.out bb
  clear cP bb p0 p1 p2 p3 q0 q1 q2 q3
  go_wp2_with fail
  go_ret
  exact ⟨rfl, HBb.out⟩

end Go.Proofs.YthaibjidfgmdmahDoor.WalkForkOlder
