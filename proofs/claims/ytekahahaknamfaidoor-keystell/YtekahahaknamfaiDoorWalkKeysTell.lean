/-
  The walk of KeysTell: the root of any pairs, the place of any key, its proof, and which proofs are some, against the document's own answers.
-/
import Derived.Test.YtekahahaknamfaiDoorWalkKy
import Derived.Test.YtekahahaknamfaiDoorKeyOnes
import Derived.Test.YtekahahaknamfaiDoorWalkRowsRef
import Derived.Test.YtekahahaknamfaiDoorWalkSpotRef
import Derived.Test.YtekahahaknamfaiDoorWalkStoreRef
import Derived.Test.YtekahahaknamfaiDoorWalkAllRef
import Derived.Test.YtekahahaknamfaiDoorWalkInts
import Derived.Test.YtekahahaknamfaiDoorWalkTold
import Derived.Test.YtekahahaknamfaiDoorErrs
import Derived.Deep.CutBlock
namespace Go.Proofs.YtekahahaknamfaiDoor.WalkKeysTell
open Go.RowKit
open Nums (str)
open Lists (Row ints bt)
open Keeps (owns_row)
open Wides (Wide)
open Stores (Pair keyE)
open PairRows (cells)
open IntRows (Rowss)
open Errs (errv errv0 errv_pos)
open WalkTold (Laid)
open KeyTrees
open KeyOnes (key_yes empty_yes empty_no)

/-- the rows that Rows told, if there are some -/
def Rowed (l : List Pair) (w : World) (v : Value) : Prop := pairsE l = 0 → ∃ a c, v = .slice a 9 c ∧ Rowss w a 9 c (rowsL (place l) 9)
theorem Rowed.below {l : List Pair} {w w' : World} {v : Value} (h : Rowed l w v) (b : Below w.heap.size w w') : Rowed l w' v := fun h0 => by
  obtain ⟨a, c, h1, h2⟩ := h h0
  exact ⟨a, c, h1, h2.below b⟩
theorem rows_told (l : List Pair) (a : Option Addr) (n cap : Nat) (w : World) (hr : Wide 3 w a n cap (cells l)) (hz : ∀ e ∈ l, e.key.size ≤ maxLen ∧ e.val.size ≤ maxLen) : Calls Tryd.prog 11 #[.slice a n cap] w fun e w' => ∃ v, e = .returned (.tuple #[v, .int .i64 (pairsE l : Nat)]) ∧ Rowed l w' v ∧ Below w.heap.size w w' := by
  refine (WalkRowsRef.rows_any l a n cap w hr hz).mono ?_
  rintro e w' ⟨v, vs, rfl, hrs, b⟩
  refine ⟨v, rfl, fun h0 => ?_, b⟩
  rw [if_pos h0] at hrs
  obtain ⟨a', c', h1, h2⟩ := hrs.rows
  rw [rowsL_length] at h1 h2
  exact ⟨a', c', h1, h2⟩
/-- the sum of the highest level -/
theorem top_cell {l : List Pair} {w : World} {a : Option Addr} {c : Nat} (h : Rowss w a 9 c (rowsL (place l) 9)) : ∃ b off b1 off1 c1, a = some ⟨b, off, none⟩ ∧ w.cell? ⟨b, off + 8, none⟩ = some (.slice (some ⟨b1, off1, none⟩) 1 c1) ∧ w.cell? ⟨b1, off1, none⟩ = some (.int .i64 (rootK l)) := by
  obtain ⟨b, off, rfl, hc⟩ := h.2.2 (by decide)
  obtain ⟨a1, c1, p1, r1⟩ := hc 8 _ (rowsL_at (place l) (k := 9) (j := 8) (by decide))
  rw [rowL_length] at p1 r1
  obtain ⟨b1, off1, rfl, hc1⟩ := r1.2.2 (by decide)
  have q := hc1 0 _ (Lists.ints_at (by rw [rowL_length]; decide))
  rw [rowL_at (place l) (by decide)] at q
  exact ⟨b, off, b1, off1, c1, rfl, p1, q⟩
/-- the sums beside the way, as they lie -/
def Sums8 (l : List Pair) (k : ByteArray) (w : World) (v : Value) : Prop := ∃ a c, v = .slice a (proveL l k).length c ∧ Row w a (proveL l k).length c (ints (proveL l k))
theorem Sums8.below {l : List Pair} {k : ByteArray} {w w' : World} {v : Value} (h : Sums8 l k w v) (b : Below w.heap.size w w') : Sums8 l k w' v := by
  obtain ⟨a, c, h1, h2⟩ := h
  exact ⟨a, c, h1, h2.below b⟩

set_option maxHeartbeats 8000000 in
set_option maxRecDepth 100000 in
theorem walk (a : Option Addr) (n cap : Nat) (l : List Pair) (_ : l.length * 40 ≤ 140737488351232) (hw : ∀ e ∈ l, e.key.size ≤ maxLen ∧ e.val.size ≤ maxLen) (key : ByteArray) (hk : key.size ≤ 140737488351232) (root : Int) (_ : (Lit.int .i64 root).wf = true) (value : ByteArray) (hv : value.size ≤ 140737488351232) (there : Bool)
    (a2 : Option Addr) (n2 cap2 : Nat) (p : List Int) (hz2 : p.length * 8 ≤ 140737488351232) (_ : ∀ x ∈ p, (Lit.int .i64 x).wf = true) (w : World) (hr : Wide 3 w a n cap (cells l)) (hr2 : Row w a2 n2 cap2 (ints p)) (hL : Laid w) :
    Calls Tryd.prog 4 #[.slice a n cap, .string key, .int .i64 root, .string value, .bool there, .slice a2 n2 cap2] w fun e w' => e = .returned (.bool true) ∧ Below w.heap.size w w' := by
  have hln2 : p.length = n2 := by rw [← hr2.1, Lists.ints_length]
  have hn2 : n2 ≤ 17592186043904 := by omega
  have HM : Hid (key.size ≤ maxLen ∧ value.size ≤ maxLen) := ⟨by unfold maxLen; omega, by unfold maxLen; omega⟩
  have cRw := rows_told l a n cap w hr hw
  have HRt : Hid (∀ w', Below w.heap.size w w' → Calls Tryd.prog 12 #[.slice a n cap] w' fun e w'' => e = .returned (.tuple #[.int .i64 (rootV l), errv (pairsE l)]) ∧ Below w'.heap.size w' w'') := fun w' b => WalkKy.root_any l a n cap w' (hr.below b) hw
  have HPr : Hid (∀ w', Below w.heap.size w w' → Calls Tryd.prog 16 #[.slice a n cap, .string key] w' fun e w'' => ∃ v, e = .returned (.tuple #[v, errv (proveE l key)]) ∧ Sums8 l key w'' v ∧ Below w'.heap.size w' w'') := fun w' b => by
    refine (WalkKy.prove_any l a n cap key w' (hr.below b) hw HM.out.1).mono ?_
    rintro e w'' ⟨v, rfl, o, b'⟩
    obtain ⟨a', c', rfl, r', _⟩ := owns_row o
    exact ⟨_, rfl, ⟨a', c', rfl, r'⟩, b'⟩
  have HBi : Hid (∀ w', Calls Tryd.prog 19 #[.string key] w' fun e w'' => e = .returned (.tuple #[.string (str (bitsV key)), errv (keyE key)]) ∧ Below w'.heap.size w' w'') := fun w' => WalkKy.bits_any key w' HM.out.1
  have HBr : Hid (∀ w', Calls Tryd.prog 18 #[.string key] w' fun e w'' => e = .returned (.string (str (bitsT (spot key)))) ∧ w'' = w') := fun w' => WalkSpotRef.bits_any key w' HM.out.1
  have HCk : Hid (∀ w', Below w.heap.size w w' → Calls Tryd.prog 25 #[.int .i64 root, .string key, .string value, .bool there, .slice a2 n2 cap2] w' fun e w'' => e = .returned (errv (checkE root key value there p)) ∧ Below w'.heap.size w' w'') := fun w' b => WalkKy.check_any root key value there p a2 n2 cap2 w' HM.out.1 HM.out.2 (hr2.below b) hn2
  have HEr : Hid (∀ (e : Nat) w', Below w.heap.size w w' → Calls Tryd.prog 13 #[errv e, .int .i64 (e : Int)] w' fun r w'' => r = .returned (.bool true) ∧ Below w'.heap.size w' w'') := fun e w' b => by
    have h := WalkTold.error_is e (e : Int) w' (hL.below b)
    rw [show ((e : Int) == (e : Int)) = true by simp] at h
    exact h
  have HAl : Hid (∀ w', Below w.heap.size w w' → Calls Tryd.prog 21 #[.slice a2 n2 cap2] w' fun e w'' => e = .returned (.bool (Trees.allOk p)) ∧ w'' = w') := fun w' b => WalkAllRef.all_long p a2 n2 cap2 w' hn2 (hr2.below b)
  have HR2 : Hid (∀ w', Below w.heap.size w w' → Row w' a2 n2 cap2 (ints p)) := fun w' b => hr2.below b
  clear hr hw hr2 hL
  obtain ⟨E0, HE0⟩ : ∃ E0, Hid (pairsE l = E0) := ⟨_, rfl⟩
  obtain ⟨F, HF⟩ : ∃ F, Hid (keyE key = F) := ⟨_, rfl⟩
  obtain ⟨E1, HE1⟩ : ∃ E1, Hid (proveE l key = E1) := ⟨_, rfl⟩
  obtain ⟨C, HC⟩ : ∃ C, Hid (checkE root key value there p = C) := ⟨_, rfl⟩
  obtain ⟨RV, HRV⟩ : ∃ RV, Hid (rootV l = RV) := ⟨_, rfl⟩
  obtain ⟨SB, HSB⟩ : ∃ SB, Hid (str (bitsV key) = SB) := ⟨_, rfl⟩
  have H1 : Hid ((E0 ≠ 0 → E1 = E0 ∧ RV = 0) ∧ (E0 = 0 → E1 = F ∧ RV = rootK l)) := by
    rw [← HE0.out, ← HE1.out, ← HF.out, ← HRV.out]
    exact ⟨fun h => ⟨if_pos h, if_neg h⟩, fun h => ⟨if_neg (fun z => z h), if_pos h⟩⟩
  have HKa : Hid (∀ w', Calls Tryd.prog 14 #[.string key] w' fun e w'' => e = .returned (.int .i64 (F : Nat)) ∧ w'' = w') := by rw [← HF.out]; exact fun w' => WalkStoreRef.key_any key w'
  have hEr0 := HEr.out E0
  have hEr1 := HEr.out E1
  have hErF := HEr.out F
  have hErC := HEr.out C
  rw [HE0.out, HRV.out] at HRt
  rw [HE1.out] at HPr
  rw [HF.out, HSB.out] at HBi
  rw [HC.out] at HCk
  rw [HE0.out] at cRw
  obtain ⟨V0, HV0⟩ : ∃ V0, Hid (errv E0 = V0) := ⟨_, rfl⟩
  obtain ⟨V1, HV1⟩ : ∃ V1, Hid (errv E1 = V1) := ⟨_, rfl⟩
  obtain ⟨VF, HVF⟩ : ∃ VF, Hid (errv F = VF) := ⟨_, rfl⟩
  obtain ⟨VC, HVC⟩ : ∃ VC, Hid (errv C = VC) := ⟨_, rfl⟩
  rw [HV0.out] at HRt hEr0
  rw [HV1.out] at HPr hEr1
  rw [HVF.out] at HBi hErF
  rw [HVC.out] at HCk hErC
  have HEr0 : Hid (∀ w', Below w.heap.size w w' → Calls Tryd.prog 13 #[V0, .int .i64 (E0 : Int)] w' fun r w'' => r = .returned (.bool true) ∧ Below w'.heap.size w' w'') := hEr0
  have HEr1 : Hid (∀ w', Below w.heap.size w w' → Calls Tryd.prog 13 #[V1, .int .i64 (E1 : Int)] w' fun r w'' => r = .returned (.bool true) ∧ Below w'.heap.size w' w'') := hEr1
  have HErF : Hid (∀ w', Below w.heap.size w w' → Calls Tryd.prog 13 #[VF, .int .i64 (F : Int)] w' fun r w'' => r = .returned (.bool true) ∧ Below w'.heap.size w' w'') := hErF
  have HErC : Hid (∀ w', Below w.heap.size w w' → Calls Tryd.prog 13 #[VC, .int .i64 (C : Int)] w' fun r w'' => r = .returned (.bool true) ∧ Below w'.heap.size w' w'') := hErC
  clear hEr0 hEr1 hErF hErC HEr
  go_enter Tryd.func4, Tryd.ntmps4
  go_wp2_with fail
  refine cRw.mono ?_
  rintro e w1 ⟨rv, rfl, hrd, b1⟩
  have HRd : Hid (Rowed l w1 rv) := hrd
  have HB1 : Hid (Below w.heap.size w w1) := b1
  clear cRw hrd b1
  go_upto_if 37 with fail
  go_cut [15] from 37 to 42 (fun v we => v = .int .i64 RV ∧ w1 = we)
  case first => as_aux_lemma =>
    by_cases h0 : E0 = 0
    · have e0 : ((E0 : Int) == 0) = true := by simp; omega
      obtain ⟨ar, cr, rfl, hrow⟩ := HRd.out (by rw [HE0.out]; exact h0)
      obtain ⟨b, off, b', off', c', rfl, p1, p2⟩ := top_cell hrow
      have HE : Hid (RV = rootK l) := (H1.out.2 h0).2
      generalize rootK l = RK at p2 HE
      clear h0 hrow
      go_wp2_with fail
      go_meet
      case rel => exact ⟨by rw [HE.out], rfl⟩
    · have e0 : ((E0 : Int) == 0) = false := by simp; omega
      have HE : Hid (RV = 0) := (H1.out.1 h0).2
      clear h0
      go_wp2_with fail
      go_meet
      case rel => exact ⟨by rw [HE.out], rfl⟩
  obtain ⟨rfl, rfl⟩ := hcut
  go_wp2_with fail
  refine (HRt.out _ HB1.out).mono ?_
  rintro e w2 ⟨rfl, b2⟩
  have HB2 : Hid (Below w.heap.size w w2) := bt HB1.out b2
  have HRd2 : Hid (Rowed l w2 rv) := HRd.out.below b2
  clear b2 HRd HB1 HRt
  go_wp2_with fail
  refine (HEr0.out _ HB2.out).mono ?_
  rintro e w3 ⟨rfl, b3⟩
  have HB3 : Hid (Below w.heap.size w w3) := bt HB2.out b3
  have HRd3 : Hid (Rowed l w3 rv) := HRd2.out.below b3
  clear b3 HRd2 HB2 HEr0
  go_wp2_with fail
  refine (HKa.out _).mono ?_
  rintro e w4 ⟨rfl, rfl⟩
  go_upto_if 54 with fail
  go_cut [14] from 54 to 55 (fun v we => v = .int .i64 (E1 : Int) ∧ w4 = we)
  case first => as_aux_lemma =>
    by_cases h0 : E0 = 0
    · have e0 : ((E0 : Int) == 0) = true := by simp; omega
      have HE : Hid (E1 = F) := (H1.out.2 h0).1
      clear h0
      go_wp2_with fail
      go_meet
      case rel => exact ⟨by rw [HE.out], rfl⟩
    · have e0 : ((E0 : Int) == 0) = false := by simp; omega
      have HE : Hid (E1 = E0) := (H1.out.1 h0).1
      clear h0
      go_wp2_with fail
      go_meet
      case rel => exact ⟨by rw [HE.out], rfl⟩
  obtain ⟨rfl, rfl⟩ := hcut
  go_upto_if 57 with fail
  go_cut [20] from 57 to 60 (fun v we => Hid (Sums8 l key we v) ∧ Hid (Below w4.heap.size w4 we))
  case first => as_aux_lemma =>
    by_cases h0 : E1 = 0
    · have e0 : ((E1 : Int) == 0) = true := by simp; omega
      have hp0 : pairsE l = 0 := by
        rw [HE0.out]
        by_cases q : E0 = 0
        · exact q
        · rw [(H1.out.1 q).1] at h0
          exact h0
      obtain ⟨ar, cr, rfl, hrow⟩ := HRd3.out hp0
      have cB := WalkSpotRef.beside_any (place l) key ar cr w4 HM.out.1 hrow
      have HPl : Hid (proveL l key = beside (place l) (spot key)) := if_pos (by rw [HE1.out]; exact h0)
      clear h0 hp0 hrow
      go_wp2_with fail
      refine cB.mono ?_
      rintro e w5 ⟨v5, rfl, o5, b5⟩
      have HS : Hid (Sums8 l key w5 v5) := by
        obtain ⟨a5, c5, rfl, r5, _⟩ := owns_row o5
        show Sums8 _ _ _ _
        unfold Sums8
        rw [HPl.out, beside_length]
        exact ⟨a5, c5, rfl, r5⟩
      have HB5 : Hid (Below w4.heap.size w4 w5) := b5
      clear cB o5 b5
      go_wp2_with fail
      go_meet
      case rel => exact ⟨HS, HB5⟩
    · have e0 : ((E1 : Int) == 0) = false := by simp; omega
      have HS : Hid (Sums8 l key w4 (.slice none 0 0)) := by
        show Sums8 _ _ _ _
        unfold Sums8
        rw [show proveL l key = [] from if_neg (by rw [HE1.out]; exact h0)]
        exact ⟨none, 0, rfl, Row.nil _ _ _⟩
      clear h0
      go_wp2_with fail
      go_meet
      case rel => exact ⟨HS, Below.refl _ _⟩
  obtain ⟨HS, HB5⟩ := hcut
  have HB6 : Hid (Below w.heap.size w wc) := bt HB3.out HB5.out
  clear HB3 HB5 HRd3
  go_wp2_with fail
  refine (HPr.out _ HB6.out).mono ?_
  rintro e w7 ⟨v7, rfl, hs7, b7⟩
  have HB7 : Hid (Below w.heap.size w w7) := bt HB6.out b7
  have HS7 : Hid (Sums8 l key w7 v7) := hs7
  have HT7 : Hid (Sums8 l key w7 u20) := HS.out.below b7
  clear b7 hs7 HS HB6 HPr
  go_wp2_with fail
  refine (HEr1.out _ HB7.out).mono ?_
  rintro e w8 ⟨rfl, b8⟩
  have HB8 : Hid (Below w.heap.size w w8) := bt HB7.out b8
  obtain ⟨x7, c7, rfl, r7⟩ := HS7.out.below b8
  obtain ⟨x8, c8, rfl, r8⟩ := HT7.out.below b8
  have cI := WalkInts.ints_any _ _ x7 x8 _ _ c7 c8 w8 r7 r8 (by
    unfold proveL
    split
    · rw [beside_length]; decide
    · exact Nat.zero_le _)
  rw [decide_eq_true (rfl : proveL l key = proveL l key)] at cI
  clear b8 HS7 HT7 HB7 HEr1 r7 r8
  generalize (proveL l key).length = pl at cI ⊢
  go_wp2_with fail
  refine cI.mono ?_
  rintro e w9 ⟨rfl, b9⟩
  have HB9 : Hid (Below w.heap.size w w9) := bt HB8.out b9
  clear cI b9 HB8
  go_upto_if 74 with fail
  go_cut [24] from 74 to 76 (fun v we => v = .string SB ∧ w9 = we)
  case first => as_aux_lemma =>
    by_cases h0 : F = 0
    · have e0 : ((F : Int) == 0) = true := by simp; omega
      have HE : Hid (str (bitsT (spot key)) = SB) := by
        show _ = _
        rw [← HSB.out, show bitsV key = bitsT (spot key) from if_pos (by rw [HF.out]; exact h0)]
      have cB := HBr.out w9
      rw [HE.out] at cB
      clear h0
      go_wp2_with fail
      refine cB.mono ?_
      rintro e w10 ⟨rfl, rfl⟩
      go_wp2_with fail
      go_meet
      case rel => exact ⟨rfl, rfl⟩
    · have e0 : ((F : Int) == 0) = false := by simp; omega
      have HE : Hid (SB = ⟨#[]⟩) := by
        show _ = _
        rw [← HSB.out, show bitsV key = [] from if_neg (by rw [HF.out]; exact h0)]
        rfl
      clear h0
      go_wp2_with fail
      go_meet
      case rel => exact ⟨by rw [HE.out], rfl⟩
  obtain ⟨rfl, rfl⟩ := hcut
  go_wp2_with fail
  refine (HBi.out _).mono ?_
  rintro e w10 ⟨rfl, b10⟩
  have HB10 : Hid (Below w.heap.size w w10) := bt HB9.out b10
  clear b10 HB9 HBi HBr
  go_wp2_with fail
  refine (HErF.out _ HB10.out).mono ?_
  rintro e w11 ⟨rfl, b11⟩
  have HB11 : Hid (Below w.heap.size w w11) := bt HB10.out b11
  clear b11 HB10 HErF
  go_wp2_with fail
  refine (WalkRef.valid_any root _).mono ?_
  rintro e w12 ⟨rfl, rfl⟩
  go_wp2_with fail
  refine (HAl.out _ HB11.out).mono ?_
  rintro e w13 ⟨rfl, rfl⟩
  obtain ⟨V, HV⟩ : ∃ V, Hid (Nums.valid root = V) := ⟨_, rfl⟩
  obtain ⟨A, HA⟩ : ∃ A, Hid (Trees.allOk p = A) := ⟨_, rfl⟩
  rw [HV.out, HA.out]
  clear HAl
  have K1 : Hid (V = false → C = 1) := fun h => by
    rw [← HC.out]
    exact if_pos (by rw [HV.out]; exact h)
  have K2 : Hid (V = true → F ≠ 0 → C = F) := fun h h2 => by
    rw [← HC.out, ← HF.out]
    unfold checkE
    rw [if_neg (by rw [HV.out, h]; decide), if_pos (by rw [HF.out]; exact h2)]
  have K3 : Hid (V = true → F = 0 → 200 < value.size → C = 4) := fun h h2 h3 => by
    rw [← HC.out]
    unfold checkE
    rw [if_neg (by rw [HV.out, h]; decide), if_neg (by rw [HF.out]; exact fun z => z h2), if_pos h3]
  have K4 : Hid (V = true → F = 0 → ¬ 200 < value.size → (n2 ≠ 8 ∨ (there = false ∧ value.size ≠ 0)) → C = 3) := fun h h2 h3 h4 => by
    rw [← HC.out]
    unfold checkE
    rw [if_neg (by rw [HV.out, h]; decide), if_neg (by rw [HF.out]; exact fun z => z h2), if_neg h3, if_pos (by rw [hln2]; exact h4)]
  have K5 : Hid (V = true → F = 0 → ¬ 200 < value.size → ¬ (n2 ≠ 8 ∨ (there = false ∧ value.size ≠ 0)) → A = false → C = 1) := fun h h2 h3 h4 h5 => by
    rw [← HC.out]
    unfold checkE
    rw [if_neg (by rw [HV.out, h]; decide), if_neg (by rw [HF.out]; exact fun z => z h2), if_neg h3, if_neg (by rw [hln2]; exact h4), if_pos (by rw [HA.out]; exact h5)]
  have K6 : Hid (V = true → F = 0 → ¬ 200 < value.size → ¬ (n2 ≠ 8 ∨ (there = false ∧ value.size ≠ 0)) → A = true → C = if Ways.upL (stands key value there) p (turns (spot key)) = root then 0 else 8) := fun h h2 h3 h4 h5 => by
    rw [← HC.out]
    refine check_is (by rw [HV.out]; exact h) (by rw [HF.out]; exact h2) (by omega) (by rw [hln2]; exact Decidable.not_not.1 fun q => h4 (.inl q)) (fun q => Decidable.not_not.1 fun q2 => h4 (.inr ⟨q, q2⟩)) (by rw [HA.out]; exact h5)
  have HPv : Hid (A = true → ∀ x ∈ p, Nums.valid x = true) := fun h => List.all_eq_true.1 (by rw [← HA.out] at h; exact h)
  have HKs : Hid (F = 0 → key.size ≤ 1000) := fun h => by have := (key_yes (by rw [HF.out]; exact h)).2; show _ ≤ _; omega
  go_upto_if 91 with fail
  go_cut [14] from 91 to 132 (fun v we => v = .int .i64 (C : Int) ∧ Hid (Below w13.heap.size w13 we))
  case first => as_aux_lemma =>
    cases V with
    | false =>
      have HE := K1.out rfl
      clear K1 K2 K3 K4 K5 K6
      go_wp2_with fail
      go_meet
      case rel => exact ⟨by rw [HE]; rfl, Below.refl _ _⟩
    | true =>
      by_cases hF : F = 0
      rotate_left
      · have HE : Hid (F = C) := (K2.out rfl hF).symm
        have e0 : ((F : Int) == 0) = false := by simp; omega
        clear K1 K2 K3 K4 K5 K6 hF
        go_wp2_with fail
        go_meet
        case rel => exact ⟨by rw [HE.out], Below.refl _ _⟩
      have e0 : ((F : Int) == 0) = true := by simp; omega
      by_cases h200 : 200 < value.size
      · have HE := K3.out rfl hF h200
        have i0 : (200 : Int) < (value.size : Int) := by omega
        clear K1 K2 K3 K4 K5 K6 hF h200
        go_wp2_with fail
        go_meet
        case rel => exact ⟨by rw [HE]; rfl, Below.refl _ _⟩
      have i0 : ¬ (200 : Int) < (value.size : Int) := by omega
      by_cases h8 : n2 = 8
      rotate_left
      · have HE := K4.out rfl hF h200 (.inl h8)
        have i8 : ((n2 : Int) != 8) = true := by rw [bne_iff_ne]; omega
        clear K1 K2 K3 K4 K5 K6 hF h200 h8
        go_wp2_with fail
        go_meet
        case rel => exact ⟨by rw [HE]; rfl, Below.refl _ _⟩
      have i8 : ((n2 : Int) != 8) = false := by rw [h8]; rfl
      by_cases hT : there = false ∧ value.size ≠ 0
      · have HE := K4.out rfl hF h200 (.inr hT)
        obtain ⟨rfl, hs⟩ := hT
        have e1 := empty_no hs
        clear K1 K2 K3 K4 K5 K6 hF h200 h8 hs
        go_wp2_with fail
        go_meet
        case rel => exact ⟨by rw [HE]; rfl, Below.refl _ _⟩
      have hno : ¬ (n2 ≠ 8 ∨ (there = false ∧ value.size ≠ 0)) := by
        rintro (q | q)
        · exact q h8
        · exact hT q
      cases A with
      | false =>
        have HE := K5.out rfl hF h200 hno rfl
        cases there with
        | false =>
          have e1 := empty_yes (Decidable.not_not.1 fun q => hT ⟨rfl, q⟩)
          clear K1 K2 K3 K4 K5 K6 hF h200 h8 hT hno
          go_wp2_with fail
          go_meet
          case rel => exact ⟨by rw [HE]; rfl, Below.refl _ _⟩
        | true =>
          clear K1 K2 K3 K4 K5 K6 hF h200 h8 hT hno
          go_wp2_with fail
          go_meet
          case rel => exact ⟨by rw [HE]; rfl, Below.refl _ _⟩
      | true =>
        have HE : Hid (C = if Ways.upL (stands key value there) p (turns (spot key)) = root then 0 else 8) := K6.out rfl hF h200 hno rfl
        have HVp : Hid (∀ x ∈ p, Nums.valid x = true) := HPv.out rfl
        have HKz : Hid (key.size ≤ 1000 ∧ value.size ≤ 1000) := ⟨HKs.out hF, by omega⟩
        have cL := WalkRef.leaf_any ⟨#[]⟩ w13 (by decide)
        rw [show Sums.sum (0 :: (⟨#[]⟩ : ByteArray).data.toList) = nothing from rfl] at cL
        have HKr : Hid (∀ s w', Nums.valid s = true → Below w13.heap.size w13 w' → Calls Tryd.prog 24 #[.string key, .int .i64 s, .slice a2 n2 cap2] w' fun e w'' => e = .returned (.int .i64 (Ways.upL s p (turns (spot key)))) ∧ Below w'.heap.size w' w'') := fun s w' hs b => WalkSpotRef.keyRoot_any key s p a2 n2 cap2 w' HM.out.1 (HR2.out w' (bt HB11.out b)) h8 HVp.out hs
        have HF0 : Hid (F = 0) := hF
        have HNv : Hid (Nums.valid nothing = true ∧ Nums.valid (placed key value) = true) := ⟨nothing_valid, placed_valid _ _⟩
        obtain ⟨NO, HNO⟩ : ∃ NO, Hid (nothing = NO) := ⟨_, rfl⟩
        rw [HNO.out] at cL HNv
        cases there with
        | false =>
          have e1 := empty_yes (Decidable.not_not.1 fun q => hT ⟨rfl, q⟩)
          rw [show stands key value false = nothing from rfl, HNO.out] at HE
          have cK := fun w' b => HKr.out NO w' HNv.out.1 b
          generalize Ways.upL NO p (turns (spot key)) = U at HE cK
          clear K1 K2 K3 K4 K5 K6 hF h200 hT hno h8
          go_wp2_with fail
          refine cL.mono ?_
          rintro e w14 ⟨rfl, b14⟩
          have HB14 : Hid (Below w13.heap.size w13 w14) := b14
          clear cL b14
          go_wp2_with fail
          refine (cK _ HB14.out).mono ?_
          rintro e w15 ⟨rfl, b15⟩
          have HB15 : Hid (Below w13.heap.size w13 w15) := bt HB14.out b15
          clear cK b15 HB14
          by_cases hU : U = root
          · have eU : (U != root) = false := by simpa using hU
            rw [if_pos hU] at HE
            clear hU
            go_wp2_with fail
            go_meet
            case rel => exact ⟨by rw [HE.out, HF0.out], HB15⟩
          · have eU : (U != root) = true := by simpa using hU
            rw [if_neg hU] at HE
            clear hU
            go_wp2_with fail
            go_meet
            case rel => exact ⟨by rw [HE.out]; rfl, HB15⟩
        | true =>
          rw [show stands key value true = placed key value from rfl] at HE
          have cP := fun w' => WalkSpotRef.placed_any key value w' HKz.out.1 HKz.out.2
          have cK := fun w' b => HKr.out (placed key value) w' HNv.out.2 b
          generalize Ways.upL (placed key value) p (turns (spot key)) = U at HE cK
          generalize placed key value = PV at cP cK
          clear K1 K2 K3 K4 K5 K6 hF h200 hT hno h8
          go_wp2_with fail
          refine cL.mono ?_
          rintro e w14 ⟨rfl, b14⟩
          have HB14 : Hid (Below w13.heap.size w13 w14) := b14
          clear cL b14
          go_wp2_with fail
          refine (cP _).mono ?_
          rintro e w15 ⟨rfl, b15⟩
          have HB15 : Hid (Below w13.heap.size w13 w15) := bt HB14.out b15
          clear cP b15 HB14
          go_wp2_with fail
          refine (cK _ HB15.out).mono ?_
          rintro e w16 ⟨rfl, b16⟩
          have HB16 : Hid (Below w13.heap.size w13 w16) := bt HB15.out b16
          clear cK b16 HB15
          by_cases hU : U = root
          · have eU : (U != root) = false := by simpa using hU
            rw [if_pos hU] at HE
            clear hU
            go_wp2_with fail
            go_meet
            case rel => exact ⟨by rw [HE.out, HF0.out], HB16⟩
          · have eU : (U != root) = true := by simpa using hU
            rw [if_neg hU] at HE
            clear hU
            go_wp2_with fail
            go_meet
            case rel => exact ⟨by rw [HE.out]; rfl, HB16⟩
  obtain ⟨rfl, HBc⟩ := hcut
  have HB14 : Hid (Below w.heap.size w wc) := bt HB11.out HBc.out
  clear HB11 HBc
  go_wp2_with fail
  refine (HCk.out _ HB14.out).mono ?_
  rintro e w15 ⟨rfl, b15⟩
  have HB15 : Hid (Below w.heap.size w w15) := bt HB14.out b15
  clear b15 HB14 HCk
  go_wp2_with fail
  refine (HErC.out _ HB15.out).mono ?_
  rintro e w16 ⟨rfl, b16⟩
  have HB16 : Hid (Below w.heap.size w w16) := bt HB15.out b16
  have e5 : (RV == RV) = true := by simp
  have e6 : (SB.toList == SB.toList) = true := by simp
  clear b16 HB15 HErC
  go_wp2_with fail
  go_ret
  exact ⟨rfl, HB16.out⟩

end Go.Proofs.YtekahahaknamfaiDoor.WalkKeysTell
