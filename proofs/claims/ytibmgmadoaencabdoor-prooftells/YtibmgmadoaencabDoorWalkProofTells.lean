/-
  The walk of ProofTells: the proof of any leaf of any tree, how long it is, and which proofs are some, are the document's.
-/
import Derived.Test.YtibmgmadoaencabDoorWalkProofCheck
import Derived.Test.YtibmgmadoaencabDoorWalkMake
import Derived.Test.YtibmgmadoaencabDoorWalkWayRef
import Derived.Test.YtibmgmadoaencabDoorWalkInts
import Derived.Test.YtibmgmadoaencabDoorWalkTold
import Derived.Deep.CutBlock
namespace Go.Proofs.YtibmgmadoaencabDoor.WalkProofTells
open Go.RowKit
open Lists (Row ints bt)
open Keeps (Kept owns_kept owns_row)
open WalkTold (Laid)
open WalkCheck (errv errv0 errv_pos)
open WalkSteps (inside)
open WalkMake (makeE makeL make_of)
open WalkProofCheck (checkE upE)

theorem error_same (e : Nat) (w : World) (hg : Laid w) : Calls Tryd.prog 9 #[errv e, .int .i64 (e : Int)] w fun r w' => r = .returned (.bool true) ∧ Below w.heap.size w w' := by
  have h := WalkTold.error_is e (e : Int) w hg
  rw [beq_self_eq_true] at h
  exact h

theorem leafs_ok {l : List Int} {n : Nat} (hln : l.length = n) (h : Trees.leafsE l = 0) : n ≤ 200 ∧ ∀ x ∈ l, Nums.valid x = true := by
  unfold Trees.leafsE at h
  rw [hln] at h
  split at h
  · cases h
  · split at h
    · exact ⟨by omega, Trees.allOk_mem (by assumption)⟩
    · cases h

theorem inside_no {I N m : Int} (h : inside I N m = false) : I < 0 ∨ (¬ I < 0 ∧ N ≤ I) ∨ (¬ I < 0 ∧ ¬ N ≤ I ∧ m < N) := by
  have := of_decide_eq_false h
  omega

/-- what the proof's length is, where there is one -/
def stepsV (I N : Int) : Nat := if inside I N 200 = true then Ways.steps I.toNat N.toNat else 0
def stepsE (I N : Int) : Nat := if inside I N 200 = true then 0 else 1

theorem steps_both (I N : Int) (w : World) : Calls Tryd.prog 26 #[.int .i64 I, .int .i64 N] w fun e w' => e = .returned (.tuple #[.int .i64 (stepsV I N : Nat), errv (stepsE I N)]) ∧ Below w.heap.size w w' := by
  cases h : inside I N 200
  · rw [show stepsV I N = 0 by unfold stepsV; rw [h]; rfl, show stepsE I N = 1 by unfold stepsE; rw [h]; rfl]
    refine (WalkSteps.steps_no I N w h).mono ?_
    rintro e w' ⟨rfl, rfl⟩
    exact ⟨rfl, Below.refl _ _⟩
  · obtain ⟨i, n, hI, hN, hi, hn⟩ := WalkSteps.inside_of h
    rw [show stepsV I N = Ways.steps i n by unfold stepsV; rw [if_pos h, hI, hN, Int.toNat_natCast, Int.toNat_natCast], show stepsE I N = 0 by unfold stepsE; rw [if_pos h], errv0]
    exact WalkSteps.steps_yes i n I N w hI hN hi (by omega)
theorem makeE_eq (l : List Int) (I N : Int) : makeE l I N = if (decide (Trees.leafsE l = 0) && !inside I N l.length) = true then 1 else Trees.leafsE l := by
  unfold makeE
  by_cases h : Trees.leafsE l = 0
  · rw [if_pos h, decide_eq_true h]
    cases hi : inside I N l.length
    · rfl
    · exact h.symm
  · rw [if_neg h, decide_eq_false h]
    rfl
theorem all_long (l : List Int) (a : Option Addr) (n cap : Nat) (w : World) (hn : n ≤ 17592186043904) (hr : Row w a n cap (ints l)) :
    Calls Tryd.prog 18 #[.slice a n cap] w fun e w' => e = .returned (.bool (Trees.allOk l)) ∧ w' = w := by
  have hln : l.length = n := by rw [← hr.1, Lists.ints_length]
  have HR : Hid (Row w a n cap (ints l)) := hr
  clear hr
  go_enter Tryd.func18, Tryd.ntmps18
  go_wp2_with fail
  go_loop [3] (fun i => ∃ k : Nat, k ≤ n ∧ i = .int .i64 k ∧ Hid (Trees.allOk (l.take k) = true)) (fun i => n - (intOf i).toNat)
  case atStart => exact ⟨0, Nat.zero_le _, rfl, rfl⟩
  case round =>
    obtain ⟨k, hk, rfl, HA⟩ := hrel
    by_cases hlt : k < n
    · obtain ⟨b, off, rfl, hc⟩ := HR.out.2.2 (by omega)
      have hcell := hc k _ (Lists.ints_at (by omega))
      clear hc
      have i1 : (k : Int) < (n : Int) := by omega
      have HS : Hid (Trees.allOk (l.take (k + 1)) = (Trees.allOk (l.take k) && Nums.valid (l.getD k 0))) := Trees.allOk_snoc l k (by omega)
      have HN : Hid (Nums.valid (l.getD k 0) = false → Trees.allOk l = false) := Trees.allOk_no l k (by omega)
      generalize l.getD k 0 = x at hcell HS HN
      cases hx : Nums.valid x
      · have hx' : Hid (Nums.valid x = false) := hx
        clear hx
        go_wp2_with (go_at_call 8; refine (WalkRef.valid_any _ _).mono ?_; rintro e w' ⟨rfl, rfl⟩; rw [hx'.out])
        go_ret
        exact ⟨by rw [HN.out hx'.out]; rfl, rfl⟩
      · have hx' : Hid (Nums.valid x = true) := hx
        clear hx
        go_wp2_with (go_at_call 8; refine (WalkRef.valid_any _ _).mono ?_; rintro e w' ⟨rfl, rfl⟩; rw [hx'.out])
        go_round
        case rel => exact ⟨k + 1, by omega, by go_num, (show Trees.allOk (l.take (k + 1)) = true by rw [HS.out, HA.out, hx'.out]; rfl)⟩
        case measure => simp [intOf]; omega
    · have i1 : ¬ (k : Int) < (n : Int) := by omega
      have HT : Hid (Trees.allOk l = true) := by have h := HA.out; rw [List.take_of_length_le (by omega)] at h; exact h
      go_wp2_with fail
      go_ret
      exact ⟨by rw [HT.out]; rfl, rfl⟩

set_option maxHeartbeats 16000000 in
set_option maxRecDepth 100000 in
theorem walk (a : Option Addr) (n cap : Nat) (l : List Int) (_hz : l.length * 8 ≤ 140737488351232) (_ : ∀ x ∈ l, (Lit.int .i64 x).wf = true)
    (I : Int) (_ : (Lit.int .i64 I).wf = true) (N : Int) (_ : (Lit.int .i64 N).wf = true) (root : Int) (_ : (Lit.int .i64 root).wf = true) (sum : Int) (_ : (Lit.int .i64 sum).wf = true)
    (a5 : Option Addr) (n5 cap5 : Nat) (p : List Int) (hz5 : p.length * 8 ≤ 140737488351232) (_ : ∀ x ∈ p, (Lit.int .i64 x).wf = true)
    (w : World) (hr : Row w a n cap (ints l)) (hr5 : Row w a5 n5 cap5 (ints p)) (hL : Laid w) :
    Calls Tryd.prog 6 #[.slice a n cap, .int .i64 I, .int .i64 N, .int .i64 root, .int .i64 sum, .slice a5 n5 cap5] w fun e w' => e = .returned (.bool true) ∧ Below w.heap.size w w' := by
  have hln : l.length = n := by rw [← hr.1, Lists.ints_length]
  have hlp : p.length = n5 := by rw [← hr5.1, Lists.ints_length]
  have HR : Hid (Row w a n cap (ints l)) := hr
  have HP : Hid (Row w a5 n5 cap5 (ints p)) := hr5
  have HL : Hid (Laid w) := hL
  have HN5 : Hid (n5 ≤ 17592186043904) := by show n5 ≤ 17592186043904; omega
  clear hr hr5 hL _hz hz5
  have cErr := fun (e : Nat) (w1 : World) (b : Below w.heap.size w w1) => error_same e w1 (HL.out.below b)
  go_enter Tryd.func6, Tryd.ntmps6
  go_wp2_with fail
  refine (WalkTreeRef.leafs_any l a n cap _ HR.out).mono ?_
  rintro e w ⟨rfl, rfl⟩
  obtain ⟨E, HE⟩ : ∃ E : Nat, Hid (Trees.leafsE l = E) := ⟨_, rfl⟩
  rw [HE.out]
  -- what is wrong with what is asked for
  go_upto_region 2 with fail
  go_cut [44] from 28 to 44 (fun v wc => v = .bool (decide (E = 0) && !inside I N n) ∧ Below w.heap.size w wc)
  case first => as_aux_lemma =>
    by_cases h0 : E = 0
    · have hd : (((E : Nat) : Int) == 0) = true := by rw [h0]; rfl
      have HD : Hid (decide (E = 0) = true) := decide_eq_true h0
      clear h0
      cases hin : inside I N n
      · have HI : Hid (inside I N n = false) := hin
        have hex := inside_no hin
        clear hin
        rcases hex with h1 | ⟨h1, h2⟩ | ⟨h1, h2, h3⟩
        all_goals
          go_wp2_with fail
          go_meet
          case rel => exact ⟨by rw [HD.out, HI.out]; rfl, Below.refl _ _⟩
      · have HI : Hid (inside I N n = true) := hin
        have hy := of_decide_eq_true hin
        have h1 : ¬ I < 0 := by omega
        have h2 : ¬ N ≤ I := by omega
        have h3 : ¬ (n : Int) < N := by omega
        clear hin hy
        go_wp2_with fail
        go_meet
        case rel => exact ⟨by rw [HD.out, HI.out]; rfl, Below.refl _ _⟩
    · have hd : (((E : Nat) : Int) == 0) = false := by rw [beq_eq_false_iff_ne]; omega
      have HD : Hid (decide (E = 0) = false) := decide_eq_false h0
      clear h0
      go_wp2_with fail
      go_meet
      case rel => exact ⟨by rw [HD.out]; rfl, Below.refl _ _⟩
  obtain ⟨rfl, bc⟩ := hcut
  obtain ⟨F, HF⟩ : ∃ F : Nat, Hid (makeE l I N = F) := ⟨_, rfl⟩
  have HFE : Hid (F = if (decide (E = 0) && !inside I N n) = true then 1 else E) := by
    show _ = _
    rw [← HF.out, makeE_eq, HE.out, hln]
  obtain ⟨B, HB⟩ : ∃ B : Bool, Hid ((decide (E = 0) && !inside I N n) = B) := ⟨_, rfl⟩
  rw [HB.out]
  go_upto_if 44 with fail
  go_cut [13] from 44 to 44 (fun v wx => v = .int .i64 (F : Nat) ∧ Below w.heap.size w wx)
  case first => as_aux_lemma =>
    cases B
    · have HV : Hid (F = E) := by have h := HFE.out; rw [HB.out] at h; exact h
      go_wp2_with fail
      go_meet
      case rel => exact ⟨by rw [HV.out], bc⟩
    · have HV : Hid (F = 1) := by have h := HFE.out; rw [HB.out] at h; exact h
      go_wp2_with fail
      go_meet
      case rel => exact ⟨by rw [HV.out]; rfl, bc⟩
  obtain ⟨rfl, bd⟩ := hcut
  clear bc HFE HB
  -- the document's proof
  go_upto_if 46 with fail
  go_cut [14] from 45 to 51 (fun v wx => (∃ a1 c1, v = .slice a1 (makeL l I N).length c1 ∧ Row wx a1 (makeL l I N).length c1 (ints (makeL l I N))) ∧ Below w.heap.size w wx)
  case first => as_aux_lemma =>
    by_cases h0 : F = 0
    · have hd : (((F : Nat) : Int) == 0) = true := by rw [h0]; rfl
      have hm0 : makeE l I N = 0 := by rw [HF.out]; exact h0
      obtain ⟨q1, q2⟩ := make_of hm0
      have HML : Hid (makeL l I N = Ways.way (l.take N.toNat) I.toNat) := if_pos hm0
      rw [hln] at q2
      obtain ⟨n2, hv⟩ := leafs_ok hln q1
      obtain ⟨i, m, hI, hN, hi, hm⟩ := WalkSteps.inside_of q2
      have hmn : m ≤ n := by omega
      have r1 : Row wc a m cap (ints (l.take m)) := by rw [Lists.ints_take]; exact (HR.out.below bd).take m hmn
      have cW := WalkWayRef.way_le (l.take m) i I a m cap wc hI hi (by omega) r1 (fun x hx => hv x (List.mem_of_mem_take hx))
      have h4 : 0 ≤ N := by omega
      have h5 : N ≤ (cap : Int) := by have := HR.out.2.1; omega
      have h6 : N.toNat = m := by omega
      have h7 : I.toNat = i := by omega
      rw [h6, h7] at HML
      have HMN : Hid (N = m) := hN
      clear h0 hm0 q1 q2 hv hI r1 hm h7 hN
      generalize Ways.way (l.take m) i = q at cW HML
      go_wp2_with fail
      refine cW.mono ?_
      rintro e w1 ⟨v1, rfl, o1, b1⟩
      obtain ⟨a1, c1, rfl, r1, z1⟩ := owns_row o1
      have HR1 : Hid (Row w1 a1 q.length c1 (ints q)) := r1
      clear o1 r1 z1 cW
      go_wp2_with fail
      go_meet
      case rel => exact ⟨⟨a1, c1, by rw [HML.out], by rw [HML.out]; exact HR1.out⟩, bt bd b1⟩
    · have hd : (((F : Nat) : Int) == 0) = false := by rw [beq_eq_false_iff_ne]; omega
      have HML : Hid (makeL l I N = []) := if_neg (by rw [HF.out]; exact h0)
      clear h0
      go_wp2_with fail
      go_meet
      case rel => exact ⟨⟨none, 0, by rw [HML.out]; rfl, by rw [HML.out]; exact Row.nil _ _ _⟩, bd⟩
  obtain ⟨⟨a1, c1, rfl, r1⟩, be⟩ := hcut
  have HR1 : Hid (Row wc a1 (makeL l I N).length c1 (ints (makeL l I N))) := r1
  have HML : Hid ((makeL l I N).length ≤ 200) := WalkMake.makeL_len l I N
  clear bd r1
  go_wp2_with fail
  refine (WalkMake.make_any l a n cap I N _ (HR.out.below be)).mono ?_
  rintro e w2 ⟨v2, rfl, o2, b2⟩
  obtain ⟨a2, c2, rfl, r2, z2⟩ := owns_row o2
  have HR2 : Hid (Row w2 a2 (makeL l I N).length c2 (ints (makeL l I N))) := r2
  clear o2 r2 z2
  rw [HF.out]
  go_wp2_with fail
  refine (cErr F _ (bt be b2)).mono ?_
  rintro e w3 ⟨rfl, b3⟩
  have cI := WalkInts.ints_any (makeL l I N) (makeL l I N) a2 a1 _ _ c2 c1 w3 (HR2.out.below b3) ((HR1.out.below b2).below b3) (by have := HML.out; omega)
  rw [decide_eq_true rfl] at cI
  generalize (makeL l I N).length = ML at cI HR1 HR2 HML
  go_wp2_with fail
  refine cI.mono ?_
  rintro e w4 ⟨rfl, b4⟩
  have bf : Below w.heap.size w w4 := bt (bt (bt be b2) b3) b4
  clear cI HR1 HR2 b2 b3 b4 be
  -- how long it is
  go_upto_region 12 with fail
  go_cut [75] from 65 to 75 (fun v wx => v = .bool (!inside I N 200) ∧ Below w.heap.size w wx)
  case first => as_aux_lemma =>
    cases hin : inside I N 200
    · have HI : Hid (inside I N 200 = false) := hin
      have hex := inside_no hin
      clear hin
      rcases hex with h1 | ⟨h1, h2⟩ | ⟨h1, h2, h3⟩
      all_goals
        go_wp2_with fail
        go_meet
        case rel => exact ⟨by first | rfl | (rw [HI.out]; rfl), bf⟩
    · have HI : Hid (inside I N 200 = true) := hin
      have hy := of_decide_eq_true hin
      have h1 : ¬ I < 0 := by omega
      have h2 : ¬ N ≤ I := by omega
      have h3 : ¬ (200 : Int) < N := by omega
      clear hin hy
      go_wp2_with fail
      go_meet
      case rel => exact ⟨by first | rfl | (rw [HI.out]; rfl), bf⟩
  obtain ⟨rfl, bg⟩ := hcut
  clear bf
  obtain ⟨G, HG⟩ : ∃ G : Bool, Hid (inside I N 200 = G) := ⟨_, rfl⟩
  rw [HG.out]
  go_upto_if 75 with fail
  go_cut [13, 19] from 76 to 78 (fun e s wx => e = .int .i64 (stepsE I N : Nat) ∧ s = .int .i64 (stepsV I N : Nat) ∧ Below w.heap.size w wx)
  case first => as_aux_lemma =>
    cases G
    · have HS : Hid (stepsE I N = 1 ∧ stepsV I N = 0) := by
        show _ ∧ _
        unfold stepsE stepsV
        rw [HG.out]
        exact ⟨rfl, rfl⟩
      go_wp2_with fail
      go_meet
      case rel => exact ⟨by rw [HS.out.1]; rfl, by rw [HS.out.2]; rfl, bg⟩
    · obtain ⟨i, m, hI, hN, hi, hm⟩ := WalkSteps.inside_of HG.out
      have HS : Hid (stepsE I N = 0 ∧ stepsV I N = Ways.steps i m) := by
        show _ ∧ _
        unfold stepsE stepsV
        rw [if_pos HG.out, if_pos HG.out, hI, hN, Int.toNat_natCast, Int.toNat_natCast]
        exact ⟨rfl, rfl⟩
      have cS := fun w => WalkStepsRef.steps_le i m I N w hI hN hi (by omega)
      generalize Ways.steps i m = k at cS HS
      clear hI hN hm
      go_wp2_with fail
      refine (cS _).mono ?_
      rintro e w5 ⟨rfl, rfl⟩
      go_wp2_with fail
      go_meet
      case rel => exact ⟨by rw [HS.out.1]; rfl, by rw [HS.out.2], bg⟩
  obtain ⟨rfl, rfl, bh⟩ := hcut
  clear bg
  obtain ⟨SV, HSV⟩ : ∃ SV : Nat, Hid (stepsV I N = SV) := ⟨_, rfl⟩
  obtain ⟨SE, HSE⟩ : ∃ SE : Nat, Hid (stepsE I N = SE) := ⟨_, rfl⟩
  rw [HSV.out, HSE.out]
  go_wp2_with fail
  refine (steps_both I N _).mono ?_
  rintro e w6 ⟨rfl, b6⟩
  rw [HSV.out, HSE.out]
  replace bh := bt bh b6
  clear b6
  go_wp2_with fail
  refine (cErr SE _ bh).mono ?_
  rintro e w7 ⟨rfl, b7⟩
  replace bh := bt bh b7
  clear b7
  go_wp2_with fail
  refine (WalkRef.valid_any _ _).mono ?_
  rintro e w8 ⟨rfl, rfl⟩
  go_wp2_with fail
  refine (WalkRef.valid_any _ _).mono ?_
  rintro e w8 ⟨rfl, rfl⟩
  go_wp2_with fail
  refine (all_long p a5 n5 cap5 _ HN5.out (HP.out.below bh)).mono ?_
  rintro e w8 ⟨rfl, rfl⟩
  obtain ⟨V1, HV1⟩ : ∃ V1 : Bool, Hid (Nums.valid root = V1) := ⟨_, rfl⟩
  obtain ⟨V2, HV2⟩ : ∃ V2 : Bool, Hid (Nums.valid sum = V2) := ⟨_, rfl⟩
  obtain ⟨V3, HV3⟩ : ∃ V3 : Bool, Hid (Trees.allOk p = V3) := ⟨_, rfl⟩
  rw [HV1.out, HV2.out, HV3.out]
  -- which fault comes first
  go_upto_region 20 with fail
  go_cut [107] from 94 to 107 (fun v wx => v = .bool (decide (SE = 0) && !(V1 && V2 && V3)) ∧ Below w.heap.size w wx)
  case first => as_aux_lemma =>
    by_cases h0 : SE = 0
    · have hd : (((SE : Nat) : Int) == 0) = true := by rw [h0]; rfl
      have HD : Hid (decide (SE = 0) = true) := decide_eq_true h0
      clear h0
      cases V1
      · go_wp2_with fail
        go_meet
        case rel => exact ⟨by rw [HD.out]; rfl, bh⟩
      cases V2
      · go_wp2_with fail
        go_meet
        case rel => exact ⟨by rw [HD.out]; rfl, bh⟩
      cases V3
      all_goals
        go_wp2_with fail
        go_meet
        case rel => exact ⟨by rw [HD.out]; rfl, bh⟩
    · have hd : (((SE : Nat) : Int) == 0) = false := by rw [beq_eq_false_iff_ne]; omega
      have HD : Hid (decide (SE = 0) = false) := decide_eq_false h0
      clear h0
      go_wp2_with fail
      go_meet
      case rel => exact ⟨by rw [HD.out]; rfl, bh⟩
  obtain ⟨rfl, bi⟩ := hcut
  clear bh
  obtain ⟨X, HX⟩ : ∃ X : Bool, Hid ((decide (SE = 0) && !(V1 && V2 && V3)) = X) := ⟨_, rfl⟩
  rw [HX.out]
  go_upto_if 107 with fail
  go_cut [13] from 108 to 126 (fun v wx => v = .int .i64 (checkE root N I sum p : Nat) ∧ Below w.heap.size w wx)
  case first => as_aux_lemma =>
    cases G
    · have HS : Hid (SE = 1) := by
        have h := HSE.out
        unfold stepsE at h
        rw [HG.out] at h
        exact h.symm
      have hd : (((SE : Nat) : Int) == 0) = false := by rw [beq_eq_false_iff_ne]; have := HS.out; omega
      have HC : Hid (checkE root N I sum p = 1) := by
        show _ = _
        unfold checkE
        rw [HG.out]; rfl
      obtain rfl : X = false := by
        have h := HX.out
        rw [decide_eq_false (by have := HS.out; omega)] at h
        exact h.symm
      go_wp2_with fail
      go_meet
      case rel => exact ⟨by rw [HC.out, HS.out], bi⟩
    · have HS : Hid (SE = 0) := by
        have h := HSE.out
        unfold stepsE at h
        rw [HG.out] at h
        exact h.symm
      have hd : (((SE : Nat) : Int) == 0) = true := by rw [HS.out]; rfl
      by_cases hv : V1 = true ∧ V2 = true ∧ V3 = true
      · have HVV : Hid (Nums.valid root = true ∧ Nums.valid sum = true ∧ Trees.allOk p = true) := ⟨by rw [HV1.out]; exact hv.1, by rw [HV2.out]; exact hv.2.1, by rw [HV3.out]; exact hv.2.2⟩
        obtain rfl : X = false := by
          have h := HX.out
          rw [hv.1, hv.2.1, hv.2.2] at h
          rw [← h]; simp
        obtain ⟨i, m, hI, hN, hi, hm⟩ := WalkSteps.inside_of HG.out
        have HC : Hid (checkE root N I sum p = if p.length = Ways.steps i m then upE root m i sum p else 3) := by
          show _ = _
          unfold checkE
          rw [if_pos HG.out, if_pos HVV.out, hI, hN, Int.toNat_natCast, Int.toNat_natCast]
        have HSS : Hid (SV = Ways.steps i m) := by
          show _ = _
          rw [← HSV.out]
          unfold stepsV
          rw [if_pos HG.out, hI, hN, Int.toNat_natCast, Int.toNat_natCast]
        clear hv
        by_cases hl : p.length = Ways.steps i m
        · have hq : ((n5 : Int) != ((SV : Nat) : Int)) = false := by rw [HSS.out, ← hl, hlp]; simp
          have cU := WalkWayRef.up_le p i m I N sum a5 n5 cap5 wc hI hN hi (by omega) (by omega) (HP.out.below bi) (Trees.allOk_mem HVV.out.2.2) HVV.out.2.1
          by_cases he : Ways.upL sum p (Ways.turns i m) = root
          · have HC2 : Hid (checkE root N I sum p = SE) := by
              show _ = _
              rw [HC.out, if_pos hl, show upE root m i sum p = 0 from if_pos he, HS.out]
            rw [he] at cU
            have hx : (root != root) = false := by simp
            clear hI hN hi hm hl he HC HSS HVV
            go_wp2_with fail
            refine cU.mono ?_
            rintro e w9 ⟨rfl, b9⟩
            clear cU
            go_wp2_with fail
            go_meet
            case rel => exact ⟨by rw [HC2.out], bt bi b9⟩
          · have HC2 : Hid (checkE root N I sum p = 8) := by
              show _ = _
              rw [HC.out, if_pos hl, show upE root m i sum p = 8 from if_neg he]
            have hx : (Ways.upL sum p (Ways.turns i m) != root) = true := by rw [bne_iff_ne]; exact he
            generalize Ways.upL sum p (Ways.turns i m) = U at cU hx
            clear hI hN hi hm hl he HC HSS HVV
            go_wp2_with fail
            refine cU.mono ?_
            rintro e w9 ⟨rfl, b9⟩
            clear cU
            go_wp2_with fail
            go_meet
            case rel => exact ⟨by rw [HC2.out]; rfl, bt bi b9⟩
        · have hq : ((n5 : Int) != ((SV : Nat) : Int)) = true := by rw [bne_iff_ne]; have := HSS.out; omega
          have HC2 : Hid (checkE root N I sum p = 3) := by
            show _ = _
            rw [HC.out, if_neg hl]
          clear hI hN hi hm hl HC HSS HVV
          go_wp2_with fail
          go_meet
          case rel => exact ⟨by rw [HC2.out]; rfl, bi⟩
      · have HC : Hid (checkE root N I sum p = 1) := by
          show _ = _
          unfold checkE
          rw [if_pos HG.out, if_neg (by rw [HV1.out, HV2.out, HV3.out]; exact hv)]
        obtain rfl : X = true := by
          have h := HX.out
          rw [decide_eq_true HS.out] at h
          rw [← h]
          revert hv
          cases V1 <;> cases V2 <;> cases V3 <;> simp
        clear hv
        go_wp2_with fail
        go_meet
        case rel => exact ⟨by rw [HC.out]; rfl, bi⟩
  obtain ⟨rfl, bj⟩ := hcut
  clear bi
  obtain ⟨C, HC⟩ : ∃ C : Nat, Hid (checkE root N I sum p = C) := ⟨_, rfl⟩
  rw [HC.out]
  have hss : (((SV : Nat) : Int) == ((SV : Nat) : Int)) = true := by simp
  go_wp2_with fail
  refine (WalkProofCheck.check_any root N I sum p a5 n5 cap5 _ (HP.out.below bj) HN5.out).mono ?_
  rintro e w10 ⟨rfl, b10⟩
  rw [HC.out]
  go_wp2_with fail
  refine (cErr C _ (bt bj b10)).mono ?_
  rintro e w11 ⟨rfl, b11⟩
  go_wp2_with fail
  go_ret
  exact ⟨rfl, bt (bt bj b10) b11⟩

end Go.Proofs.YtibmgmadoaencabDoor.WalkProofTells
