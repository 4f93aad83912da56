/-
  The walk of BatchTells: the proof of any leafs of any tree at once, how long it is, and which proofs are some, against the document's own answers.
-/
import Derived.Test.YtndhbimgicnhkaaDoorWalkBa
import Derived.Test.YtndhbimgicnhkaaDoorWalkUpRef
import Derived.Test.YtndhbimgicnhkaaDoorWalkPartsRef
import Derived.Test.YtndhbimgicnhkaaDoorWalkTreeRef
import Derived.Test.YtndhbimgicnhkaaDoorWalkAllRef
import Derived.Test.YtndhbimgicnhkaaDoorWalkInts
import Derived.Test.YtndhbimgicnhkaaDoorWalkTold
import Derived.Test.YtndhbimgicnhkaaDoorErrs
import Derived.Deep.CutBlock
namespace Go.Proofs.YtndhbimgicnhkaaDoor.WalkBatchTells
open Go.RowKit
open Lists (Row ints bt)
open Keeps (owns_row)
open Errs (errv errv0 errv_pos)
open WalkTold (Laid)
open Batches BatchSets BatchFaults

/-- what is told, as it lies -/
def Lies (q : List Int) (w : World) (v : Value) : Prop := ∃ x c, v = .slice x q.length c ∧ Row w x q.length c (ints q)
theorem Lies.below {q : List Int} {w w' : World} {v : Value} (h : Lies q w v) (b : Below w.heap.size w w') : Lies q w' v := by
  obtain ⟨x, c, h1, h2⟩ := h
  exact ⟨x, c, h1, h2.below b⟩
theorem make_le (l a : List Int) : (makeL l a).length ≤ 1000000 := by
  unfold makeL
  split
  · rename_i h
    obtain ⟨h1, _, h3⟩ := makeE_ok h
    rw [several_length _ _ _ _ h3]
    have := long_le a 0 l.length h3
    unfold Trees.leafsE at h1
    split at h1
    · contradiction
    · omega
  · exact Nat.zero_le _

set_option maxHeartbeats 8000000 in
set_option maxRecDepth 100000 in
theorem walk (a : Option Addr) (n cap : Nat) (l : List Int) (_ : l.length * 8 ≤ 140737488351232) (_ : ∀ x ∈ l, (Lit.int .i64 x).wf = true) (a2 : Option Addr) (n2 cap2 : Nat) (ats : List Int) (hz2 : ats.length * 8 ≤ 140737488351232) (_ : ∀ x ∈ ats, (Lit.int .i64 x).wf = true)
    (root : Int) (_ : (Lit.int .i64 root).wf = true) (size : Int) (_ : (Lit.int .i64 size).wf = true) (a3 : Option Addr) (n3 cap3 : Nat) (s : List Int) (hz3 : s.length * 8 ≤ 140737488351232) (_ : ∀ x ∈ s, (Lit.int .i64 x).wf = true) (a4 : Option Addr) (n4 cap4 : Nat) (p : List Int) (hz4 : p.length * 8 ≤ 140737488351232) (_ : ∀ x ∈ p, (Lit.int .i64 x).wf = true)
    (w : World) (hr : Row w a n cap (ints l)) (hr2 : Row w a2 n2 cap2 (ints ats)) (hr3 : Row w a3 n3 cap3 (ints s)) (hr4 : Row w a4 n4 cap4 (ints p)) (hL : Laid w) :
    Calls Tryd.prog 3 #[.slice a n cap, .slice a2 n2 cap2, .int .i64 root, .int .i64 size, .slice a3 n3 cap3, .slice a4 n4 cap4] w fun e w' => e = .returned (.bool true) ∧ Below w.heap.size w w' := by
  have hln : l.length = n := by rw [← hr.1, Lists.ints_length]
  have hln2 : ats.length = n2 := by rw [← hr2.1, Lists.ints_length]
  have hln3 : s.length = n3 := by rw [← hr3.1, Lists.ints_length]
  have hln4 : p.length = n4 := by rw [← hr4.1, Lists.ints_length]
  have hn2 : n2 ≤ 17592186043904 := by omega
  have hn3 : n3 ≤ 17592186043904 := by omega
  have hn4 : n4 ≤ 17592186043904 := by omega
  have HR : Hid (∀ w', Below w.heap.size w w' → Row w' a n cap (ints l)) := fun w' b => hr.below b
  have HR2 : Hid (∀ w', Below w.heap.size w w' → Row w' a2 n2 cap2 (ints ats)) := fun w' b => hr2.below b
  have HR3 : Hid (∀ w', Below w.heap.size w w' → Row w' a3 n3 cap3 (ints s)) := fun w' b => hr3.below b
  have HR4 : Hid (∀ w', Below w.heap.size w w' → Row w' a4 n4 cap4 (ints p)) := fun w' b => hr4.below b
  have cLf := WalkTreeRef.leafs_any l a n cap w hr
  have HPn : Hid (∀ (z : Int) w', Below w.heap.size w w' → Calls Tryd.prog 5 #[.int .i64 z, .slice a2 n2 cap2] w' fun e w'' => e = .returned (.int .i64 (placesE z ats : Nat)) ∧ Below w'.heap.size w' w'') := fun z w' b => WalkPartsRef.places_any z ats a2 n2 cap2 w' (hr2.below b)
  have HMk : Hid (∀ w', Below w.heap.size w w' → Calls Tryd.prog 7 #[.slice a n cap, .slice a2 n2 cap2] w' fun e w'' => ∃ v, e = .returned (.tuple #[v, errv (makeE l ats)]) ∧ Lies (makeL l ats) w'' v ∧ Below w'.heap.size w' w'') := fun w' b => by
    refine (WalkBa.make_any l a n cap ats a2 n2 cap2 w' (hr.below b) (hr2.below b) hn2).mono ?_
    rintro e w'' ⟨v, rfl, o, b'⟩
    obtain ⟨x', c', rfl, r', _⟩ := owns_row o
    exact ⟨_, rfl, ⟨x', c', rfl, r'⟩, b'⟩
  have HLg : Hid (∀ w', Below w.heap.size w w' → Calls Tryd.prog 11 #[.int .i64 size, .slice a2 n2 cap2] w' fun e w'' => e = .returned (.tuple #[.int .i64 (longV size ats : Nat), errv (longE size ats)]) ∧ Below w'.heap.size w' w'') := fun w' b => WalkBa.long_any size ats a2 n2 cap2 w' (hr2.below b) hn2
  have HCk : Hid (∀ w', Below w.heap.size w w' → Calls Tryd.prog 15 #[.int .i64 root, .int .i64 size, .slice a2 n2 cap2, .slice a3 n3 cap3, .slice a4 n4 cap4] w' fun e w'' => e = .returned (errv (checkE root size ats s p)) ∧ Below w'.heap.size w' w'') := fun w' b => WalkBa.check_any root size ats a2 n2 cap2 s a3 n3 cap3 p a4 n4 cap4 w' (hr2.below b) (hr3.below b) (hr4.below b) hn2 hn3 hn4
  have HEr : Hid (∀ (e : Nat) w', Below w.heap.size w w' → Calls Tryd.prog 8 #[errv e, .int .i64 (e : Int)] w' fun r w'' => r = .returned (.bool true) ∧ Below w'.heap.size w' w'') := fun e w' b => by
    have h := WalkTold.error_is e (e : Int) w' (hL.below b)
    rw [show ((e : Int) == (e : Int)) = true by simp] at h
    exact h
  have HA3 : Hid (∀ w', Below w.heap.size w w' → Calls Tryd.prog 13 #[.slice a3 n3 cap3] w' fun e w'' => e = .returned (.bool (Trees.allOk s)) ∧ w'' = w') := fun w' b => WalkAllRef.all_long s a3 n3 cap3 w' hn3 (hr3.below b)
  have HA4 : Hid (∀ w', Below w.heap.size w w' → Calls Tryd.prog 13 #[.slice a4 n4 cap4] w' fun e w'' => e = .returned (.bool (Trees.allOk p)) ∧ w'' = w') := fun w' b => WalkAllRef.all_long p a4 n4 cap4 w' hn4 (hr4.below b)
  clear hr hr2 hr3 hr4 hL
  obtain ⟨F, HF⟩ : ∃ F, Hid (Trees.leafsE l = F) := ⟨_, rfl⟩
  obtain ⟨E1, HE1⟩ : ∃ E1, Hid ((if F ≠ 0 then F else placesE (n : Int) ats) = E1) := ⟨_, rfl⟩
  obtain ⟨E0, HE0⟩ : ∃ E0, Hid (makeE l ats = E0) := ⟨_, rfl⟩
  obtain ⟨LE, HLE⟩ : ∃ LE, Hid (longE size ats = LE) := ⟨_, rfl⟩
  obtain ⟨LV, HLV⟩ : ∃ LV, Hid (longV size ats = LV) := ⟨_, rfl⟩
  obtain ⟨C, HC⟩ : ∃ C, Hid (checkE root size ats s p = C) := ⟨_, rfl⟩
  have H0 : Hid (((E1 = 0 ∧ n = 0) → E0 = 3) ∧ (¬ (E1 = 0 ∧ n = 0) → E0 = E1)) := by
    rw [← HE0.out, ← HE1.out, ← HF.out, ← hln]
    unfold makeE
    by_cases q1 : Trees.leafsE l ≠ 0
    · rw [if_pos q1, if_pos q1]
      exact ⟨fun z => absurd z.1 q1, fun _ => rfl⟩
    · rw [if_neg q1, if_neg q1]
      by_cases q2 : placesE (l.length : Int) ats ≠ 0
      · rw [if_pos q2]
        exact ⟨fun z => absurd z.1 q2, fun _ => rfl⟩
      · rw [if_neg q2]
        by_cases q3 : l.length = 0
        · rw [if_pos q3]
          exact ⟨fun _ => rfl, fun z => absurd ⟨Decidable.not_not.1 q2, q3⟩ z⟩
        · rw [if_neg q3]
          exact ⟨fun z => absurd z.2 q3, fun _ => (Decidable.not_not.1 q2).symm⟩
  obtain ⟨V0, HV0⟩ : ∃ V0, Hid (errv E0 = V0) := ⟨_, rfl⟩
  obtain ⟨VL, HVL⟩ : ∃ VL, Hid (errv LE = VL) := ⟨_, rfl⟩
  obtain ⟨VC, HVC⟩ : ∃ VC, Hid (errv C = VC) := ⟨_, rfl⟩
  have h0 := HEr.out E0
  have h1 := HEr.out LE
  have h2 := HEr.out C
  rw [HF.out] at cLf
  rw [HE0.out, HV0.out] at HMk
  rw [HLE.out, HVL.out, HLV.out] at HLg
  rw [HC.out, HVC.out] at HCk
  rw [HV0.out] at h0
  rw [HVL.out] at h1
  rw [HVC.out] at h2
  have HEr0 : Hid (∀ w', Below w.heap.size w w' → Calls Tryd.prog 8 #[V0, .int .i64 (E0 : Int)] w' fun r w'' => r = .returned (.bool true) ∧ Below w'.heap.size w' w'') := h0
  have HErL : Hid (∀ w', Below w.heap.size w w' → Calls Tryd.prog 8 #[VL, .int .i64 (LE : Int)] w' fun r w'' => r = .returned (.bool true) ∧ Below w'.heap.size w' w'') := h1
  have HErC : Hid (∀ w', Below w.heap.size w w' → Calls Tryd.prog 8 #[VC, .int .i64 (C : Int)] w' fun r w'' => r = .returned (.bool true) ∧ Below w'.heap.size w' w'') := h2
  clear h0 h1 h2 HEr
  go_enter Tryd.func3, Tryd.ntmps3
  go_wp2_with fail
  refine cLf.mono ?_
  rintro e w1 ⟨rfl, rfl⟩
  clear cLf
  go_upto_if 32 with fail
  go_cut [13] from 32 to 36 (fun v we => v = .int .i64 (E1 : Int) ∧ Hid (Below w1.heap.size w1 we))
  case first => as_aux_lemma =>
    by_cases q : F = 0
    · have e0 : ((F : Int) == 0) = true := by simp; omega
      have cP := HPn.out (n : Int) w1 (Below.refl _ _)
      have HE : Hid (placesE (n : Int) ats = E1) := by show _ = _; rw [← HE1.out, if_neg (fun z => z q)]
      rw [HE.out] at cP
      clear q
      go_wp2_with fail
      refine cP.mono ?_
      rintro e w2 ⟨rfl, b2⟩
      have HB2 : Hid (Below w1.heap.size w1 w2) := b2
      clear cP b2
      go_wp2_with fail
      go_meet
      case rel => exact ⟨rfl, HB2⟩
    · have e0 : ((F : Int) == 0) = false := by simp; omega
      have HE : Hid (F = E1) := by show _ = _; rw [← HE1.out, if_pos q]
      clear q
      go_wp2_with fail
      go_meet
      case rel => exact ⟨by rw [HE.out], Below.refl _ _⟩
  obtain ⟨rfl, HB2⟩ := hcut
  rename World => w2
  obtain ⟨D, HD⟩ : ∃ D, Hid (decide (E1 = 0 ∧ n = 0) = D) := ⟨_, rfl⟩
  go_upto_region 4 with fail
  go_cut [43] from 37 to 42 (fun v we => v = .bool D ∧ w2 = we)
  case first => as_aux_lemma =>
    by_cases q : E1 = 0
    · have e0 : ((E1 : Int) == 0) = true := by simp; omega
      by_cases q2 : n = 0
      · have e1 : ((n : Int) == 0) = true := by rw [q2]; rfl
        have HE : Hid (D = true) := by rw [← HD.out]; exact decide_eq_true ⟨q, q2⟩
        clear q q2
        go_wp2_with fail
        go_meet
        case rel => exact ⟨by rw [HE.out], rfl⟩
      · have e1 : ((n : Int) == 0) = false := by simp; omega
        have HE : Hid (D = false) := by rw [← HD.out]; exact decide_eq_false fun z => q2 z.2
        clear q q2
        go_wp2_with fail
        go_meet
        case rel => exact ⟨by rw [HE.out], rfl⟩
    · have e0 : ((E1 : Int) == 0) = false := by simp; omega
      have HE : Hid (D = false) := by rw [← HD.out]; exact decide_eq_false fun z => q z.1
      clear q
      go_wp2_with fail
      go_meet
      case rel => exact ⟨by rw [HE.out], rfl⟩
  obtain ⟨rfl, rfl⟩ := hcut
  go_upto_if 43 with fail
  go_cut [13] from 43 to 43 (fun v we => v = .int .i64 (E0 : Int) ∧ w2 = we)
  case first => as_aux_lemma =>
    cases D with
    | true =>
      have HE : Hid (E0 = 3) := H0.out.1 (of_decide_eq_true HD.out)
      go_wp2_with fail
      go_meet
      case rel => exact ⟨by rw [HE.out]; rfl, rfl⟩
    | false =>
      have HE : Hid (E0 = E1) := H0.out.2 (of_decide_eq_false HD.out)
      go_wp2_with fail
      go_meet
      case rel => exact ⟨by rw [HE.out], rfl⟩
  obtain ⟨rfl, rfl⟩ := hcut
  go_upto_if 45 with fail
  go_cut [14] from 45 to 50 (fun v we => Hid (Lies (makeL l ats) we v) ∧ Hid (Below w2.heap.size w2 we))
  case first => as_aux_lemma =>
    by_cases q : E0 = 0
    · have e0 : ((E0 : Int) == 0) = true := by simp; omega
      have hm0 : makeE l ats = 0 := by rw [HE0.out]; exact q
      obtain ⟨k1, k2, k3⟩ := makeE_ok hm0
      obtain ⟨q1, q2, q3⟩ := placesE_ok k2
      have hl200 : l.length ≤ 200 ∧ ∀ x ∈ l, Nums.valid x = true := by
        unfold Trees.leafsE at k1
        split at k1
        · contradiction
        split at k1
        · rename_i u v
          exact ⟨by omega, List.all_eq_true.1 v⟩
        · contradiction
      have cS := WalkPartsRef.several_any n l ats 0 n 0 (n : Int) a2 n2 cap2 a n cap w2 rfl rfl (Nat.le_refl _) (by omega) (by omega) (by omega) (HR2.out _ HB2.out) (by omega) (HR.out _ HB2.out) hl200.2
      have HPl : Hid (makeL l ats = several l ats 0 n) := by show _ = _; rw [show makeL l ats = several l ats 0 l.length from if_pos hm0, hln]
      rw [← HPl.out] at cS
      clear q hm0 k1 k2 k3 q1 q2 q3 hl200
      go_wp2_with fail
      refine cS.mono ?_
      rintro e w3 ⟨v3, rfl, o3, b3⟩
      have HS : Hid (Lies (makeL l ats) w3 v3) := by
        obtain ⟨x3, c3, rfl, r3, _⟩ := owns_row o3
        exact ⟨x3, c3, rfl, r3⟩
      have HB3 : Hid (Below w2.heap.size w2 w3) := b3
      clear cS o3 b3
      go_wp2_with fail
      go_meet
      case rel => exact ⟨HS, HB3⟩
    · have e0 : ((E0 : Int) == 0) = false := by simp; omega
      have HS : Hid (Lies (makeL l ats) w2 (.slice none 0 0)) := by
        show Lies _ _ _
        unfold Lies
        rw [show makeL l ats = [] from if_neg (by rw [HE0.out]; exact q)]
        exact ⟨none, 0, rfl, Row.nil _ _ _⟩
      clear q
      go_wp2_with fail
      go_meet
      case rel => exact ⟨HS, Below.refl _ _⟩
  obtain ⟨HS, HB3⟩ := hcut
  rename World => w3
  have HBw : Hid (Below w1.heap.size w1 w3) := bt HB2.out HB3.out
  clear HB2 HB3
  go_wp2_with fail
  refine (HMk.out _ HBw.out).mono ?_
  rintro e w4 ⟨v4, rfl, hs4, b4⟩
  have HB4 : Hid (Below w1.heap.size w1 w4) := bt HBw.out b4
  have HS4 : Hid (Lies (makeL l ats) w4 v4) := hs4
  have HT4 : Hid (Lies (makeL l ats) w4 u14) := HS.out.below b4
  clear hs4 b4 HS HBw HMk
  go_wp2_with fail
  refine (HEr0.out _ HB4.out).mono ?_
  rintro e w5 ⟨rfl, b5⟩
  have HB5 : Hid (Below w1.heap.size w1 w5) := bt HB4.out b5
  obtain ⟨x5, c5, rfl, r5⟩ := HS4.out.below b5
  obtain ⟨x6, c6, rfl, r6⟩ := HT4.out.below b5
  have cI := WalkInts.ints_any _ _ x5 x6 _ _ c5 c6 w5 r5 r6 (make_le l ats)
  rw [decide_eq_true (rfl : makeL l ats = makeL l ats)] at cI
  clear b5 HS4 HT4 HB4 HEr0 r5 r6
  generalize (makeL l ats).length = ml at cI ⊢
  go_wp2_with fail
  refine cI.mono ?_
  rintro e w6 ⟨rfl, b6⟩
  have HB6 : Hid (Below w1.heap.size w1 w6) := bt HB5.out b6
  clear cI b6 HB5
  obtain ⟨O, HO⟩ : ∃ O, Hid (decide (size < 1 ∨ 200 < size) = O) := ⟨_, rfl⟩
  go_upto_region 13 with fail
  go_cut [68] from 63 to 67 (fun v we => v = .bool O ∧ w6 = we)
  case first => as_aux_lemma =>
    by_cases q : size < 1
    · have HE : Hid (O = true) := by rw [← HO.out]; exact decide_eq_true (.inl q)
      go_wp2_with fail
      go_meet
      case rel => exact ⟨by rw [HE.out], rfl⟩
    · by_cases q2 : 200 < size
      · have HE : Hid (O = true) := by rw [← HO.out]; exact decide_eq_true (.inr q2)
        go_wp2_with fail
        go_meet
        case rel => exact ⟨by rw [HE.out], rfl⟩
      · have HE : Hid (O = false) := by rw [← HO.out]; exact decide_eq_false (by omega)
        go_wp2_with fail
        go_meet
        case rel => exact ⟨by rw [HE.out], rfl⟩
  obtain ⟨rfl, rfl⟩ := hcut
  go_upto_if 68 with fail
  go_cut [13] from 68 to 71 (fun v we => v = .int .i64 (LE : Int) ∧ Hid (Below w6.heap.size w6 we))
  case first => as_aux_lemma =>
    cases O with
    | true =>
      have HE : Hid (LE = 1) := by rw [← HLE.out]; exact if_pos (of_decide_eq_true HO.out)
      go_wp2_with fail
      go_meet
      case rel => exact ⟨by rw [HE.out]; rfl, Below.refl _ _⟩
    | false =>
      have HE : Hid (placesE size ats = LE) := by rw [← HLE.out]; exact (if_neg (of_decide_eq_false HO.out)).symm
      have cP := HPn.out size w6 HB6.out
      rw [HE.out] at cP
      go_wp2_with fail
      refine cP.mono ?_
      rintro e w7 ⟨rfl, b7⟩
      have HB7 : Hid (Below w6.heap.size w6 w7) := b7
      clear cP b7
      go_wp2_with fail
      go_meet
      case rel => exact ⟨rfl, HB7⟩
  obtain ⟨rfl, HB7'⟩ := hcut
  rename World => w7
  have HB7 : Hid (Below w1.heap.size w1 w7) := bt HB6.out HB7'.out
  clear HB6 HB7' HPn
  go_upto_if 73 with fail
  go_cut [19] from 73 to 76 (fun v we => v = .int .i64 (LV : Int) ∧ w7 = we)
  case first => as_aux_lemma =>
    by_cases q : LE = 0
    · have e0 : ((LE : Int) == 0) = true := by simp; omega
      obtain ⟨k1, k2, k3⟩ := longE_ok (by rw [HLE.out]; exact q : longE size ats = 0)
      obtain ⟨q1, _, _⟩ := placesE_ok k3
      have cG := WalkPartsRef.long_any size.toNat ats 0 size.toNat 0 size a2 n2 cap2 w7 rfl (by omega) (Nat.le_refl _) (by omega) (by omega) (HR2.out _ HB7.out) (by omega)
      have HE : Hid (long ats 0 size.toNat = LV) := by rw [← HLV.out]; exact (if_pos (by rw [HLE.out]; exact q)).symm
      rw [HE.out] at cG
      clear q k1 k2 k3 q1
      go_wp2_with fail
      refine cG.mono ?_
      rintro e w8 ⟨rfl, rfl⟩
      go_wp2_with fail
      go_meet
      case rel => exact ⟨rfl, rfl⟩
    · have e0 : ((LE : Int) == 0) = false := by simp; omega
      have HE : Hid (LV = 0) := by rw [← HLV.out]; exact if_neg (by rw [HLE.out]; exact q)
      clear q
      go_wp2_with fail
      go_meet
      case rel => exact ⟨by rw [HE.out]; rfl, rfl⟩
  obtain ⟨rfl, rfl⟩ := hcut
  go_wp2_with fail
  refine (HLg.out _ HB7.out).mono ?_
  rintro e w8 ⟨rfl, b8⟩
  have HB8 : Hid (Below w1.heap.size w1 w8) := bt HB7.out b8
  clear b8 HB7 HLg
  go_wp2_with fail
  refine (HErL.out _ HB8.out).mono ?_
  rintro e w9 ⟨rfl, b9⟩
  have HB9 : Hid (Below w1.heap.size w1 w9) := bt HB8.out b9
  clear b9 HB8 HErL
  go_wp2_with fail
  refine (WalkRef.valid_any root _).mono ?_
  rintro e w10 ⟨rfl, rfl⟩
  go_wp2_with fail
  refine (HA3.out _ HB9.out).mono ?_
  rintro e w11 ⟨rfl, rfl⟩
  go_wp2_with fail
  refine (HA4.out _ HB9.out).mono ?_
  rintro e w12 ⟨rfl, rfl⟩
  obtain ⟨B1, HB1'⟩ : ∃ B1, Hid (Nums.valid root = B1) := ⟨_, rfl⟩
  obtain ⟨B2, HB2'⟩ : ∃ B2, Hid (Trees.allOk s = B2) := ⟨_, rfl⟩
  obtain ⟨B3, HB3'⟩ : ∃ B3, Hid (Trees.allOk p = B3) := ⟨_, rfl⟩
  rw [HB1'.out, HB2'.out, HB3'.out]
  clear HA3 HA4
  have K1 : Hid (LE ≠ 0 → C = LE) := fun h => by
    rw [← HC.out, ← HLE.out]
    exact if_pos (by rw [HLE.out]; exact h)
  have K2 : Hid (LE = 0 → (B1 && B2 && B3) = false → C = 1) := fun h h2 => by
    rw [← HC.out]
    unfold checkE
    rw [if_neg (by rw [HLE.out]; exact fun z => z h), if_pos (by rw [HB1'.out, HB2'.out, HB3'.out]; exact h2)]
  have K3 : Hid (LE = 0 → (B1 && B2 && B3) = true → (n3 ≠ n2 ∨ n4 ≠ LV) → C = 3) := fun h h2 h3 => by
    rw [← HC.out]
    unfold checkE
    rw [if_neg (by rw [HLE.out]; exact fun z => z h), if_neg (by rw [HB1'.out, HB2'.out, HB3'.out, h2]; decide), if_pos (by rw [hln3, hln2, hln4, HLV.out]; exact h3)]
  have K4 : Hid (LE = 0 → (B1 && B2 && B3) = true → ¬ (n3 ≠ n2 ∨ n4 ≠ LV) → C = if up ats 0 size.toNat s p = root then 0 else 8) := fun h h2 h3 => by
    rw [← HC.out]
    unfold checkE
    rw [if_neg (by rw [HLE.out]; exact fun z => z h), if_neg (by rw [HB1'.out, HB2'.out, HB3'.out, h2]; decide), if_neg (by rw [hln3, hln2, hln4, HLV.out]; exact h3)]
    by_cases q : up ats 0 size.toNat s p = root
    · rw [if_neg (fun z => z q), if_pos q]
    · rw [if_pos q, if_neg q]
  have HUp : Hid (LE = 0 → B2 = true → B3 = true → n3 = n2 → n4 = LV → ∀ w', Below w1.heap.size w1 w' → Calls Tryd.prog 14 #[.slice a2 n2 cap2, .int .i64 0, .int .i64 size, .slice a3 n3 cap3, .slice a4 n4 cap4] w' fun e w'' => ∃ v v2, e = .returned (.tuple #[.int .i64 (up ats 0 size.toNat s p), v, v2]) ∧ Below w'.heap.size w' w'') := fun h g2 g3 h3 h4 w' b => by
    obtain ⟨k1, k2, k3⟩ := longE_ok (by rw [HLE.out]; exact h : longE size ats = 0)
    obtain ⟨q1, q2, q3⟩ := placesE_ok k3
    have hLV : long ats 0 size.toNat = LV := by rw [← HLV.out]; exact (if_pos (by rw [HLE.out]; exact h)).symm
    have hmany : many ats 0 size.toNat = n2 := by rw [many_all q3 (by omega) (fun x hx => by have := q2 x hx; omega), hln2]
    have hlv := long_le ats 0 size.toNat (by omega)
    refine (WalkUpRef.upward_any size.toNat ats 0 size.toNat 0 size a2 n2 cap2 s a3 n3 cap3 p a4 n4 cap4 w' rfl (by omega) (Nat.le_refl _) (by omega) (by omega) (HR2.out w' b) (by omega) (HR3.out w' b) (HR4.out w' b) (by omega) (by omega) (by omega) (by omega) (List.all_eq_true.1 (by rw [← HB2'.out] at g2; exact g2)) (List.all_eq_true.1 (by rw [← HB3'.out] at g3; exact g3))).mono ?_
    rintro e w'' ⟨xs, cs, xp, cp, rfl, _, _, b'⟩
    exact ⟨_, _, rfl, b'⟩
  obtain ⟨D2, HD2⟩ : ∃ D2, Hid (decide (LE = 0 ∧ (B1 && B2 && B3) = false) = D2) := ⟨_, rfl⟩
  go_upto_region 24 with fail
  go_cut [105] from 92 to 104 (fun v we => v = .bool D2 ∧ w12 = we)
  case first => as_aux_lemma =>
    by_cases q : LE = 0
    · have e0 : ((LE : Int) == 0) = true := by simp; omega
      cases B1 with
      | false =>
        have HE : Hid (D2 = true) := by rw [← HD2.out]; exact decide_eq_true ⟨q, rfl⟩
        clear q K1 K2 K3 K4
        go_wp2_with fail
        go_meet
        case rel => exact ⟨by rw [HE.out], rfl⟩
      | true =>
        cases B2 with
        | false =>
          have HE : Hid (D2 = true) := by rw [← HD2.out]; exact decide_eq_true ⟨q, rfl⟩
          clear q K1 K2 K3 K4
          go_wp2_with fail
          go_meet
          case rel => exact ⟨by rw [HE.out], rfl⟩
        | true =>
          cases B3 with
          | false =>
            have HE : Hid (D2 = true) := by rw [← HD2.out]; exact decide_eq_true ⟨q, rfl⟩
            clear q K1 K2 K3 K4
            go_wp2_with fail
            go_meet
            case rel => exact ⟨by rw [HE.out], rfl⟩
          | true =>
            have HE : Hid (D2 = false) := by rw [← HD2.out]; exact decide_eq_false fun z => Bool.noConfusion z.2
            clear q K1 K2 K3 K4
            go_wp2_with fail
            go_meet
            case rel => exact ⟨by rw [HE.out], rfl⟩
    · have e0 : ((LE : Int) == 0) = false := by simp; omega
      have HE : Hid (D2 = false) := by rw [← HD2.out]; exact decide_eq_false fun z => q z.1
      clear q K1 K2 K3 K4
      go_wp2_with fail
      go_meet
      case rel => exact ⟨by rw [HE.out], rfl⟩
  obtain ⟨rfl, rfl⟩ := hcut
  go_upto_if 105 with fail
  go_cut [13] from 105 to 134 (fun v we => v = .int .i64 (C : Int) ∧ Hid (Below w12.heap.size w12 we))
  case first => as_aux_lemma =>
    cases D2 with
    | true =>
      have hd := of_decide_eq_true HD2.out
      have HE : Hid (C = 1) := K2.out hd.1 hd.2
      clear hd K1 K2 K3 K4
      go_wp2_with fail
      go_meet
      case rel => exact ⟨by rw [HE.out]; rfl, Below.refl _ _⟩
    | false =>
      have hd := of_decide_eq_false HD2.out
      by_cases q : LE = 0
      rotate_left
      · have e0 : ((LE : Int) == 0) = false := by simp; omega
        have HE : Hid (LE = C) := (K1.out q).symm
        clear hd K1 K2 K3 K4 q
        go_wp2_with fail
        go_meet
        case rel => exact ⟨by rw [HE.out], Below.refl _ _⟩
      have e0 : ((LE : Int) == 0) = true := by simp; omega
      have hW : (B1 && B2 && B3) = true := by
        cases h : (B1 && B2 && B3)
        · exact absurd ⟨q, h⟩ hd
        · rfl
      by_cases q3 : n3 = n2
      rotate_left
      · have e3 : ((n3 : Int) != (n2 : Int)) = true := by rw [bne_iff_ne]; omega
        have HE : Hid (C = 3) := K3.out q hW (.inl q3)
        clear hd K1 K2 K3 K4 q q3 hW
        go_wp2_with fail
        go_meet
        case rel => exact ⟨by rw [HE.out]; rfl, Below.refl _ _⟩
      have e3 : ((n3 : Int) != (n2 : Int)) = false := by rw [q3]; simp
      by_cases q4 : n4 = LV
      rotate_left
      · have e4 : ((n4 : Int) != (LV : Int)) = true := by rw [bne_iff_ne]; omega
        have HE : Hid (C = 3) := K3.out q hW (.inr q4)
        clear hd K1 K2 K3 K4 q q3 q4 hW
        go_wp2_with fail
        go_meet
        case rel => exact ⟨by rw [HE.out]; rfl, Below.refl _ _⟩
      have e4 : ((n4 : Int) != (LV : Int)) = false := by rw [q4]; simp
      have HE : Hid (C = if up ats 0 size.toNat s p = root then 0 else 8) := K4.out q hW (by
        rintro (z | z)
        · exact z q3
        · exact z q4)
      rw [Bool.and_eq_true, Bool.and_eq_true] at hW
      have cU := HUp.out q hW.1.2 hW.2 q3 q4 w12 HB9.out
      have HL0 : Hid (LE = 0) := q
      generalize up ats 0 size.toNat s p = U at HE cU
      clear hd K1 K2 K3 K4 q q3 q4 hW
      go_wp2_with fail
      refine cU.mono ?_
      rintro e w13 ⟨v13, v14, rfl, b13⟩
      have HB13 : Hid (Below w12.heap.size w12 w13) := b13
      clear cU b13
      by_cases hU : U = root
      · have eU : (U != root) = false := by simpa using hU
        rw [if_pos hU] at HE
        clear hU
        go_wp2_with fail
        go_meet
        case rel => exact ⟨by rw [HE.out, HL0.out], HB13⟩
      · have eU : (U != root) = true := by simpa using hU
        rw [if_neg hU] at HE
        clear hU
        go_wp2_with fail
        go_meet
        case rel => exact ⟨by rw [HE.out]; rfl, HB13⟩
  obtain ⟨rfl, HBc⟩ := hcut
  rename World => w14
  have HB14 : Hid (Below w1.heap.size w1 w14) := bt HB9.out HBc.out
  clear HB9 HBc HUp K1 K2 K3 K4
  go_wp2_with fail
  refine (HCk.out _ HB14.out).mono ?_
  rintro e w15 ⟨rfl, b15⟩
  have HB15 : Hid (Below w1.heap.size w1 w15) := bt HB14.out b15
  clear b15 HB14 HCk
  go_wp2_with fail
  refine (HErC.out _ HB15.out).mono ?_
  rintro e w16 ⟨rfl, b16⟩
  have HB16 : Hid (Below w1.heap.size w1 w16) := bt HB15.out b16
  have e5 : ((LV : Int) == (LV : Int)) = true := by simp
  clear b16 HB15 HErC
  go_wp2_with fail
  go_ret
  exact ⟨rfl, HB16.out⟩

end Go.Proofs.YtndhbimgicnhkaaDoor.WalkBatchTells
