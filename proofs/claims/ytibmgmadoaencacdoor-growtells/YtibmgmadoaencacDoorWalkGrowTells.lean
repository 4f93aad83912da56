/-
  The walk of GrowTells: the proof that any tree has but grown, and which proofs are some, are the document's.
-/
import Derived.Test.YtibmgmadoaencacDoorWalkGrow
import Derived.Test.YtibmgmadoaencacDoorWalkGrowRef
import Derived.Test.YtibmgmadoaencacDoorWalkInts
import Derived.Test.YtibmgmadoaencacDoorWalkTold
import Derived.Deep.CutBlock
namespace Go.Proofs.YtibmgmadoaencacDoor.WalkGrowTells
open Go.RowKit
open Lists (Row ints bt)
open Keeps (Kept owns_kept owns_row)
open WalkTold (Laid)
open WalkCheck (errv errv0 errv_pos)
open GrowsE (inGrow inGrow_of inGrow_no gmakeE gmakeL gmake_of gmakeE_eq growE leafs_ok)

theorem error_same (e : Nat) (w : World) (hg : Laid w) : Calls Tryd.prog 9 #[errv e, .int .i64 (e : Int)] w fun r w' => r = .returned (.bool true) ∧ Below w.heap.size w w' := by
  have h := WalkTold.error_is e (e : Int) w hg
  rw [beq_self_eq_true] at h
  exact h

set_option maxHeartbeats 16000000 in
set_option maxRecDepth 100000 in
theorem walk (a : Option Addr) (n cap : Nat) (l : List Int) (_hz : l.length * 8 ≤ 140737488351232) (_ : ∀ x ∈ l, (Lit.int .i64 x).wf = true)
    (O : Int) (_ : (Lit.int .i64 O).wf = true) (N : Int) (_ : (Lit.int .i64 N).wf = true) (ra : Int) (_ : (Lit.int .i64 ra).wf = true) (rb : Int) (_ : (Lit.int .i64 rb).wf = true)
    (a5 : Option Addr) (n5 cap5 : Nat) (p : List Int) (hz5 : p.length * 8 ≤ 140737488351232) (_ : ∀ x ∈ p, (Lit.int .i64 x).wf = true)
    (w : World) (hr : Row w a n cap (ints l)) (hr5 : Row w a5 n5 cap5 (ints p)) (hL : Laid w) :
    Calls Tryd.prog 4 #[.slice a n cap, .int .i64 O, .int .i64 N, .int .i64 ra, .int .i64 rb, .slice a5 n5 cap5] w fun e w' => e = .returned (.bool true) ∧ Below w.heap.size w w' := by
  have hln : l.length = n := by rw [← hr.1, Lists.ints_length]
  have hlp : p.length = n5 := by rw [← hr5.1, Lists.ints_length]
  have HR : Hid (Row w a n cap (ints l)) := hr
  have HP : Hid (Row w a5 n5 cap5 (ints p)) := hr5
  have HL : Hid (Laid w) := hL
  have HN5 : Hid (n5 ≤ 17592186043904) := by show n5 ≤ 17592186043904; omega
  clear hr hr5 hL _hz hz5 hlp
  have cErr := fun (e : Nat) (w1 : World) (b : Below w.heap.size w w1) => error_same e w1 (HL.out.below b)
  go_enter Tryd.func4, Tryd.ntmps4
  go_wp2_with fail
  refine (WalkTreeRef.leafs_any l a n cap _ HR.out).mono ?_
  rintro e w ⟨rfl, rfl⟩
  obtain ⟨E, HE⟩ : ∃ E : Nat, Hid (Trees.leafsE l = E) := ⟨_, rfl⟩
  rw [HE.out]
  -- what is wrong with what is asked for
  go_upto_region 2 with fail
  go_cut [38] from 22 to 38 (fun v wc => v = .bool (decide (E = 0) && !inGrow O N n) ∧ Below w.heap.size w wc)
  case first => as_aux_lemma =>
    by_cases h0 : E = 0
    · have hd : (((E : Nat) : Int) == 0) = true := by rw [h0]; rfl
      have HD : Hid (decide (E = 0) = true) := decide_eq_true h0
      clear h0
      cases hin : inGrow O N n
      · have HI : Hid (inGrow O N n = false) := hin
        have hex := inGrow_no hin
        clear hin
        rcases hex with h1 | ⟨h1, h2⟩ | ⟨h1, h2, h3⟩
        all_goals
          go_wp2_with fail
          go_meet
          case rel => exact ⟨by rw [HD.out, HI.out]; rfl, Below.refl _ _⟩
      · have HI : Hid (inGrow O N n = true) := hin
        have hy := of_decide_eq_true hin
        have h1 : ¬ O < 1 := by omega
        have h2 : ¬ N < O := by omega
        have h3 : ¬ (n : Int) < N := by omega
        clear hin hy
        go_wp2_with fail
        go_meet
        case rel => exact ⟨by rw [HD.out, HI.out]; rfl, Below.refl _ _⟩
    · have hd : (((E : Nat) : Int) == 0) = false := by rw [beq_eq_false_iff_ne]; omega
      have HD : Hid (decide (E = 0) = false) := decide_eq_false h0
      clear h0
      go_wp2_with fail
      go_meet
      case rel => exact ⟨by rw [HD.out]; rfl, Below.refl _ _⟩
  obtain ⟨rfl, bc⟩ := hcut
  obtain ⟨F, HF⟩ : ∃ F : Nat, Hid (gmakeE l O N = F) := ⟨_, rfl⟩
  have HFE : Hid (F = if (decide (E = 0) && !inGrow O N n) = true then 1 else E) := by
    show _ = _
    rw [← HF.out, gmakeE_eq, HE.out, hln]
  obtain ⟨B, HB⟩ : ∃ B : Bool, Hid ((decide (E = 0) && !inGrow O N n) = B) := ⟨_, rfl⟩
  rw [HB.out]
  go_upto_if 38 with fail
  go_cut [13] from 38 to 38 (fun v wx => v = .int .i64 (F : Nat) ∧ Below w.heap.size w wx)
  case first => as_aux_lemma =>
    cases B
    · have HV : Hid (F = E) := by have h := HFE.out; rw [HB.out] at h; exact h
      go_wp2_with fail
      go_meet
      case rel => exact ⟨by rw [HV.out], bc⟩
    · have HV : Hid (F = 1) := by have h := HFE.out; rw [HB.out] at h; exact h
      go_wp2_with fail
      go_meet
      case rel => exact ⟨by rw [HV.out]; rfl, bc⟩
  obtain ⟨rfl, bd⟩ := hcut
  clear bc HFE HB
  -- the document's proof
  go_upto_if 40 with fail
  go_cut [14] from 39 to 45 (fun v wx => (∃ a1 c1, v = .slice a1 (gmakeL l O N).length c1 ∧ Row wx a1 (gmakeL l O N).length c1 (ints (gmakeL l O N))) ∧ Below w.heap.size w wx)
  case first => as_aux_lemma =>
    by_cases h0 : F = 0
    · have hd : (((F : Nat) : Int) == 0) = true := by rw [h0]; rfl
      have hm0 : gmakeE l O N = 0 := by rw [HF.out]; exact h0
      obtain ⟨q1, q2⟩ := gmake_of hm0
      have HML : Hid (gmakeL l O N = Grows.grow (l.take N.toNat) O.toNat true) := if_pos hm0
      rw [hln] at q2
      obtain ⟨n2, hv⟩ := leafs_ok hln q1
      obtain ⟨o, m, hO, hN, h1, ho, hm⟩ := inGrow_of q2
      have hmn : m ≤ n := by omega
      have r1 : Row wc a m cap (ints (l.take m)) := by rw [Lists.ints_take]; exact (HR.out.below bd).take m hmn
      have cW := WalkGrowRef.grow_any (m + 1) (l.take m) o O true a m cap wc hO (Nat.lt_succ_self _) h1 ho (by omega) r1 (fun x hx => hv x (List.mem_of_mem_take hx))
      have h4 : 0 ≤ N := by omega
      have h5 : N ≤ (cap : Int) := by have := HR.out.2.1; omega
      have h6 : N.toNat = m := by omega
      have h7 : O.toNat = o := by omega
      rw [h6, h7] at HML
      have HMN : Hid (N = m) := hN
      clear h0 hm0 q1 q2 hv hO r1 hm h7 hN
      generalize Grows.grow (l.take m) o true = q at cW HML
      go_wp2_with fail
      refine cW.mono ?_
      rintro e w1 ⟨v1, rfl, o1, b1⟩
      obtain ⟨a1, c1, rfl, r1, z1⟩ := owns_row o1
      have HR1 : Hid (Row w1 a1 q.length c1 (ints q)) := r1
      clear o1 r1 z1 cW
      go_wp2_with fail
      go_meet
      case rel => exact ⟨⟨a1, c1, by rw [HML.out], by rw [HML.out]; exact HR1.out⟩, bt bd b1⟩
    · have hd : (((F : Nat) : Int) == 0) = false := by rw [beq_eq_false_iff_ne]; omega
      have HML : Hid (gmakeL l O N = []) := if_neg (by rw [HF.out]; exact h0)
      clear h0
      go_wp2_with fail
      go_meet
      case rel => exact ⟨⟨none, 0, by rw [HML.out]; rfl, by rw [HML.out]; exact Row.nil _ _ _⟩, bd⟩
  obtain ⟨⟨a1, c1, rfl, r1⟩, be⟩ := hcut
  have HR1 : Hid (Row wc a1 (gmakeL l O N).length c1 (ints (gmakeL l O N))) := r1
  have HML : Hid ((gmakeL l O N).length ≤ 201) := GrowsE.gmakeL_len l O N
  clear bd r1
  go_wp2_with fail
  refine (WalkGrow.make_any l a n cap O N _ (HR.out.below be)).mono ?_
  rintro e w2 ⟨v2, rfl, o2, b2⟩
  obtain ⟨a2, c2, rfl, r2, z2⟩ := owns_row o2
  have HR2 : Hid (Row w2 a2 (gmakeL l O N).length c2 (ints (gmakeL l O N))) := r2
  clear o2 r2 z2
  rw [HF.out]
  go_wp2_with fail
  refine (cErr F _ (bt be b2)).mono ?_
  rintro e w3 ⟨rfl, b3⟩
  have cI := WalkInts.ints_any (gmakeL l O N) (gmakeL l O N) a2 a1 _ _ c2 c1 w3 (HR2.out.below b3) ((HR1.out.below b2).below b3) (by have := HML.out; omega)
  rw [decide_eq_true rfl] at cI
  generalize (gmakeL l O N).length = ML at cI HR1 HR2 HML
  go_wp2_with fail
  refine cI.mono ?_
  rintro e w4 ⟨rfl, b4⟩
  have bf : Below w.heap.size w w4 := bt (bt (bt be b2) b3) b4
  clear cI HR1 HR2 b2 b3 b4 be
  -- which proofs are some
  obtain ⟨C, HC⟩ : ∃ C : Nat, Hid (growE ra O rb N p = C) := ⟨_, rfl⟩
  go_wp2_with fail
  refine (WalkGrow.check_any ra O rb N p a5 n5 cap5 _ (HP.out.below bf) HN5.out).mono ?_
  rintro e w10 ⟨rfl, b10⟩
  rw [HC.out]
  go_wp2_with fail
  refine (WalkGrowRef.growCheck_any ra O rb N p a5 n5 cap5 _ (HP.out.below (bt bf b10)) HN5.out).mono ?_
  rintro e w11 ⟨rfl, b11⟩
  rw [HC.out]
  go_wp2_with fail
  refine (cErr C _ (bt (bt bf b10) b11)).mono ?_
  rintro e w12 ⟨rfl, b12⟩
  go_wp2_with fail
  go_ret
  exact ⟨rfl, bt (bt (bt bf b10) b11) b12⟩

end Go.Proofs.YtibmgmadoaencacDoor.WalkGrowTells
