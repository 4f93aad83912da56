/-
  The walk of PruneOne: a tree that knows one leaf knows no other one.
-/
import Derived.Test.YtlibjdkofajahaaDoorWalkPrLearn
import Derived.Test.YtlibjdkofajahaaDoorLeafProof
import Derived.Test.YtlibjdkofajahaaDoorWalkTold
import Derived.Deep.CutBlock
namespace Go.Proofs.YtlibjdkofajahaaDoor.WalkPruneOne
open Go.RowKit
open Lists (Row ints bt)
open Keeps (Kept owns_row)
open WalkCheck (errv errv0 errv_pos)
open WalkPrObj (Pt)
open Prunes

theorem ends {w w1 w2 : World} {b : Nat} {F : Nat → Prop} {root : Int} {k : Known} (h : Below w.heap.size w w1) (p : Pt w1 w.heap.size b F root k) (q : Kept F w1 w2) : Below w.heap.size w w2 :=
  h.trans (q.below (fun j hj => (p.foot j hj).1) h.size)

set_option maxHeartbeats 4000000 in
set_option maxRecDepth 100000 in
theorem walk (a : Option Addr) (n cap : Nat) (l : List Int) (_ : l.length * 8 ≤ 140737488351232) (_ : ∀ x ∈ l, (Lit.int .i64 x).wf = true) (i : Int) (_ : (Lit.int .i64 i).wf = true) (k : Int) (_ : (Lit.int .i64 k).wf = true) (w : World) (hr : Row w a n cap (ints l)) (hL : WalkTold.Laid w) :
    Calls Tryd.prog 3 #[.slice a n cap, .int .i64 i, .int .i64 k] w fun e w' => e = .returned (.bool true) ∧ Below w.heap.size w w' := by
  have hln : l.length = n := by rw [← hr.1, Lists.ints_length]
  have HR : Hid (∀ w', Below w.heap.size w w' → Row w' a n cap (ints l)) := fun w' b => hr.below b
  have HLd : Hid (∀ w', Below w.heap.size w w' → WalkTold.Laid w') := fun w' b => hL.below b
  have cT := WalkCheck.root_any l a n cap w hr
  have HNo : Hid (∀ w', Calls Tryd.prog 6 #[.int .i64 0, .int .i64 5] w' fun e w'' => e = .returned (.tuple #[.pointer none, errv 1]) ∧ Below w'.heap.size w' w'') := fun w' => WalkPr.new_no 0 5 w' (fun q => absurd q.1 (by decide))
  have HEr : Hid (∀ w', Below w.heap.size w w' → Calls Tryd.prog 7 #[errv 1, .int .i64 1] w' fun r w'' => r = .returned (.bool true) ∧ Below w'.heap.size w' w'') := fun w' b => WalkTold.error_is 1 1 w' (HLd.out w' b)
  clear hr hL
  go_enter Tryd.func3, Tryd.ntmps3
  go_wp2_with fail
  refine cT.mono ?_
  rintro e w1 ⟨rfl, b1⟩
  have HB1 : Hid (Below w.heap.size w w1) := b1
  clear cT b1
  by_cases h0 : Trees.leafsE l = 0
  rotate_left
  · rw [errv_pos _ h0]
    generalize ((Trees.leafsE l : Nat) : Int) = E
    generalize Trees.rootV l = RV
    clear h0
    go_wp2_with fail
    refine (HNo.out _).mono ?_
    rintro e w2 ⟨rfl, b2⟩
    have HB2 : Hid (Below w.heap.size w w2) := bt HB1.out b2
    clear b2
    go_wp2_with fail
    refine (HEr.out _ HB2.out).mono ?_
    rintro e w3 ⟨rfl, b3⟩
    have HB3 : Hid (Below w.heap.size w w3) := bt HB2.out b3
    clear b3
    go_wp2_with fail
    go_ret
    exact ⟨rfl, HB3.out⟩
  rw [h0, errv0, show Trees.rootV l = Trees.root l from if_pos h0]
  by_cases hi0 : i < 0
  · generalize Trees.root l = RV
    clear h0
    go_wp2_with fail
    refine (HNo.out _).mono ?_
    rintro e w2 ⟨rfl, b2⟩
    have HB2 : Hid (Below w.heap.size w w2) := bt HB1.out b2
    clear b2
    go_wp2_with fail
    refine (HEr.out _ HB2.out).mono ?_
    rintro e w3 ⟨rfl, b3⟩
    have HB3 : Hid (Below w.heap.size w w3) := bt HB2.out b3
    clear b3
    go_wp2_with fail
    go_ret
    exact ⟨rfl, HB3.out⟩
  by_cases hi1 : (n : Int) ≤ i
  · generalize Trees.root l = RV
    clear h0
    go_wp2_with fail
    refine (HNo.out _).mono ?_
    rintro e w2 ⟨rfl, b2⟩
    have HB2 : Hid (Below w.heap.size w w2) := bt HB1.out b2
    clear b2
    go_wp2_with fail
    refine (HEr.out _ HB2.out).mono ?_
    rintro e w3 ⟨rfl, b3⟩
    have HB3 : Hid (Below w.heap.size w w3) := bt HB2.out b3
    clear b3
    go_wp2_with fail
    go_ret
    exact ⟨rfl, HB3.out⟩
  by_cases hk0 : k < 0
  · generalize Trees.root l = RV
    clear h0
    go_wp2_with fail
    refine (HNo.out _).mono ?_
    rintro e w2 ⟨rfl, b2⟩
    have HB2 : Hid (Below w.heap.size w w2) := bt HB1.out b2
    clear b2
    go_wp2_with fail
    refine (HEr.out _ HB2.out).mono ?_
    rintro e w3 ⟨rfl, b3⟩
    have HB3 : Hid (Below w.heap.size w w3) := bt HB2.out b3
    clear b3
    go_wp2_with fail
    go_ret
    exact ⟨rfl, HB3.out⟩
  by_cases hk1 : (n : Int) ≤ k
  · generalize Trees.root l = RV
    clear h0
    go_wp2_with fail
    refine (HNo.out _).mono ?_
    rintro e w2 ⟨rfl, b2⟩
    have HB2 : Hid (Below w.heap.size w w2) := bt HB1.out b2
    clear b2
    go_wp2_with fail
    refine (HEr.out _ HB2.out).mono ?_
    rintro e w3 ⟨rfl, b3⟩
    have HB3 : Hid (Below w.heap.size w w3) := bt HB2.out b3
    clear b3
    go_wp2_with fail
    go_ret
    exact ⟨rfl, HB3.out⟩
  obtain ⟨Z, rfl⟩ := Int.eq_ofNat_of_zero_le (show 0 ≤ i by omega)
  obtain ⟨K, rfl⟩ := Int.eq_ofNat_of_zero_le (show 0 ≤ k by omega)
  have hZ : Z < n := by omega
  have hK : K < n := by omega
  obtain ⟨m1, m2, m3⟩ := LeafProof.one_proof h0 (Z := Z) (by omega)
  obtain ⟨l1, l2⟩ := LeafProof.leafs_ok h0
  have hrv : Nums.valid (Trees.root l) = true := Trees.root_valid l l2
  rw [hln] at m1 m2 m3 l1
  have hlen := WalkMake.makeL_len l Z n
  obtain ⟨P, HP⟩ : ∃ P, Hid (WalkMake.makeL l Z n = P) := ⟨_, rfl⟩
  obtain ⟨RL, HRL⟩ : ∃ RL, Hid (Trees.root l = RL) := ⟨_, rfl⟩
  obtain ⟨X, HX⟩ : ∃ X, Hid (l.getD Z 0 = X) := ⟨_, rfl⟩
  rw [HP.out, HRL.out, HX.out] at m3
  rw [HP.out] at hlen
  rw [HRL.out] at hrv ⊢
  have HM : Hid (∀ w', Below w.heap.size w w' → Calls Tryd.prog 8 #[.slice a n cap, .int .i64 (Z : Int), .int .i64 (n : Int)] w' fun e w'' => ∃ v, e = .returned (.tuple #[v, .nilIface]) ∧ w''.ownsRow w'.heap.size 3 1 v P.length (ints P) ∧ Below w'.heap.size w' w'') := fun w' b => by
    have h := WalkMake.make_any l a n cap (Z : Int) (n : Int) w' (HR.out w' b)
    rw [m1, HP.out, errv0] at h
    exact h
  have HC : Hid (WalkProofCheck.checkE RL (n : Int) (Z : Int) X P = 0) := m3
  have HXc : Hid (∀ w', Below w.heap.size w w' → ∃ b0 off0, a = some ⟨b0, off0, none⟩ ∧ w'.cell? ⟨b0, off0 + Z, none⟩ = some (.int .i64 X)) := fun w' b => by
    obtain ⟨b0, off0, e, hc⟩ := (HR.out w' b).2.2 (by omega)
    have := hc Z _ (Lists.ints_at (by omega))
    rw [HX.out] at this
    exact ⟨b0, off0, e, this⟩
  clear m1 m2 m3 h0 l2
  have cN := WalkPr.new_yes n RL w1 HB1.out.size (by omega) (by omega) hrv
  go_wp2_with fail
  refine cN.mono ?_
  rintro e w2 ⟨g, F, rfl, p2, _, b2⟩
  have HB2 : Hid (Below w.heap.size w w2) := bt HB1.out b2
  have HP2 : Hid (Pt w2 w.heap.size g F RL (fresh n)) := p2
  clear cN b2 p2 hrv
  go_wp2_with fail
  refine (HM.out _ HB2.out).mono ?_
  rintro e w3 ⟨v, rfl, o3, b3⟩
  have HB3 : Hid (Below w.heap.size w w3) := bt HB2.out b3
  obtain ⟨x3, c3, rfl, r3, _⟩ := owns_row o3
  have hP3 := HP2.out.below b3
  have cL := WalkPrLearn.learn_any hP3 (Z : Int) X P x3 P.length c3 r3 (by omega)
  rw [fresh_length, HC.out, (one_known X P).1, (one_known X P).2, errv0] at cL
  have HP3 : Hid (Pt w3 w.heap.size g F RL (fresh n)) := hP3
  obtain ⟨b0, off0, rfl, u0⟩ := HXc.out _ HB3.out
  clear b3 o3 r3 hP3
  go_wp2_with fail
  refine cL.mono ?_
  rintro e w4 ⟨rfl, F4, p4, k4, _⟩
  have HB4 : Hid (Below w.heap.size w w4) := ends HB3.out HP3.out k4
  have HP4 : Hid (Pt w4 w.heap.size g F4 RL ((fresh n).set Z (some (X, P)))) := p4
  clear cL p4 k4 u0 HP3 HB3 HB2 HP2
  by_cases hKZ : K = Z
  · subst hKZ
    have cK := WalkPr.knows_any HP4.out (K : Int)
    rw [(one_find hZ X P).1, (one_find hZ X P).2.1, errv0] at cK
    have cM := fun w' b => WalkPr.many_any (w := w') (HP4.out.below b)
    rw [(one_many hZ X P).1] at cM
    go_wp2_with fail
    refine cK.mono ?_
    rintro e w5 ⟨rfl, b5⟩
    have HB5 : Hid (Below w.heap.size w w5) := bt HB4.out b5
    have cM5 := cM w5 b5
    obtain ⟨_, _, e0, u0⟩ := HXc.out w5 HB5.out
    simp only [Option.some.injEq, Addr.mk.injEq, and_true] at e0
    obtain ⟨rfl, rfl⟩ := e0
    have x1 : (X == X) = true := by simp
    have x2 : ((K : Int) == (K : Int)) = true := by simp
    have x3 : (K : Int) < (n : Int) := by omega
    clear cK cM b5
    go_wp2_with fail
    refine cM5.mono ?_
    rintro e w6 ⟨rfl, b6⟩
    have HB6 : Hid (Below w.heap.size w w6) := bt HB5.out b6
    clear cM5 b6
    go_wp2_with fail
    go_ret
    exact ⟨rfl, HB6.out⟩
  · have cK := WalkPr.knows_any HP4.out (K : Int)
    rw [(one_other X P hK hKZ).1, (one_other X P hK hKZ).2] at cK
    have HEr5 : Hid (∀ w', Below w.heap.size w w' → Calls Tryd.prog 7 #[errv 5, .int .i64 5] w' fun r w'' => r = .returned (.bool true) ∧ Below w'.heap.size w' w'') := fun w' b => WalkTold.error_is 5 5 w' (HLd.out w' b)
    have HFg : Hid (∀ w', Below w4.heap.size w4 w' → Calls Tryd.prog 12 #[.pointer (some ⟨g, 0, none⟩), .int .i64 (Z : Int)] w' fun e w'' => e = .returned .nilIface ∧ Pt w'' w.heap.size g F4 RL (forgot ((fresh n).set Z (some (X, P))) Z) ∧ Kept F4 w' w'') := fun w' b => by
      have h := WalkPr.forget_any (HP4.out.below b) (Z : Int)
      rw [(one_find hZ X P).1, errv0] at h
      exact h
    have x2 : ((K : Int) == (Z : Int)) = false := by simp; omega
    have HMz : Hid (many (forgot ((fresh n).set Z (some (X, P))) Z) = 0) := (one_many hZ X P).2
    go_wp2_with fail
    refine cK.mono ?_
    rintro e w5 ⟨rfl, b5⟩
    have HB5 : Hid (Below w.heap.size w w5) := bt HB4.out b5
    have HB45 : Hid (Below w4.heap.size w4 w5) := b5
    clear cK b5
    go_wp2_with fail
    refine (HEr5.out w5 HB5.out).mono ?_
    rintro e w6 ⟨rfl, b6⟩
    have HB6 : Hid (Below w.heap.size w w6) := bt HB5.out b6
    have HB46 : Hid (Below w4.heap.size w4 w6) := bt HB45.out b6
    clear b6
    go_wp2_with fail
    refine (HFg.out w6 HB46.out).mono ?_
    rintro e w7 ⟨rfl, p7, k7⟩
    have HB7 : Hid (Below w.heap.size w w7) := ends HB6.out (HP4.out.below HB46.out) k7
    have cM := WalkPr.many_any p7
    rw [HMz.out] at cM
    clear p7 k7
    go_wp2_with fail
    refine cM.mono ?_
    rintro e w8 ⟨rfl, b8⟩
    have HB8 : Hid (Below w.heap.size w w8) := bt HB7.out b8
    clear cM b8
    go_wp2_with fail
    go_ret
    exact ⟨rfl, HB8.out⟩

end Go.Proofs.YtlibjdkofajahaaDoor.WalkPruneOne
