/-
  The walk of PruneKnows: of a tree that learned some leafs, each that it knows is proved by what it has; what it forgot it can learn again.
-/
import Derived.Test.YtlibjdkofajahaaWalkPrLearn
import Derived.Test.YtlibjdkofajahaaPruneGoods
import Derived.Test.YtlibjdkofajahaaLeafProof
import Derived.Deep.CutBlock
import Derived.Lib.QuietBelow
namespace Go.Proofs.Ytlibjdkofajahaa.WalkPruneKnows
open Go.RowKit
open Lists (Row ints bt)
open Keeps (Kept owns_row owns_kept)
open WalkCheck (errv errv0 errv_pos)
open WalkPrObj (Pt)
open Prunes PruneGoods

theorem ends {w w1 w2 : World} {b : Nat} {F : Nat → Prop} {root : Int} {k : Known} (h : Below w.heap.size w w1) (p : Pt w1 w.heap.size b F root k) (q : Kept F w1 w2) : Below w.heap.size w w2 :=
  h.trans (q.below (fun j hj => (p.foot j hj).1) h.size)
theorem right : WalkProofCheck.checkE (Sums.sum (Nums.nodeBytes 5 6)) 2 0 5 [6] = 0 := by decide +kernel
theorem two_known : learnE 0 (fresh 2) 0 5 = 0 ∧ learned 0 (fresh 2) 0 5 [6] = [some (5, [6]), none] ∧ findE [some (5, [6]), none] 0 = 0 ∧ knowsV [some (5, [6]), none] 0 = 5 ∧ many [some (5, [6]), none] = 1 := by decide
theorem row_one (w : World) (t : TypeId) (a : Int) : Row (w.alloc (.cells #[.int .i64 a] t)) (some ⟨w.heap.size, 0, none⟩) 1 1 (ints [a]) := by
  refine ⟨rfl, Nat.le_refl _, fun _ => ⟨_, _, rfl, fun j u hj => ?_⟩⟩
  match j, hj with
  | 0, h => rw [← h]; simp [ints]
  | j + 1, h => simp [ints] at h

set_option maxHeartbeats 8000000 in
set_option maxRecDepth 100000 in
theorem walk (a : Option Addr) (n cap : Nat) (l : List Int) (_ : l.length * 8 ≤ 140737488351232) (_ : ∀ x ∈ l, (Lit.int .i64 x).wf = true) (a2 : Option Addr) (n2 cap2 : Nat) (ats : List Int) (_ : ats.length * 8 ≤ 140737488351232) (_ : ∀ x ∈ ats, (Lit.int .i64 x).wf = true) (w : World) (hr : Row w a n cap (ints l)) (hr2 : Row w a2 n2 cap2 (ints ats)) :
    Calls Try.prog 3 #[.slice a n cap, .slice a2 n2 cap2] w fun e w' => e = .returned (.bool true) ∧ Below w.heap.size w w' := by
  have hln : l.length = n := by rw [← hr.1, Lists.ints_length]
  have hln2 : ats.length = n2 := by rw [← hr2.1, Lists.ints_length]
  have HR : Hid (∀ w', Below w.heap.size w w' → Row w' a n cap (ints l)) := fun w' b => hr.below b
  have HR2 : Hid (∀ w', Below w.heap.size w w' → Row w' a2 n2 cap2 (ints ats)) := fun w' b => hr2.below b
  have cN := WalkMix.node_yes 5 6 w (by decide) (by decide)
  have HS : Hid (WalkProofCheck.checkE (Sums.sum (Nums.nodeBytes 5 6)) 2 0 5 [6] = 0) := right
  have HV : Hid (Nums.valid (Sums.sum (Nums.nodeBytes 5 6)) = true) := Trees.valid_sum _
  generalize Sums.sum (Nums.nodeBytes 5 6) = S at cN HS HV
  clear hr hr2
  go_enter Try.func3, Try.ntmps3
  go_wp2_with fail
  refine cN.mono ?_
  rintro e w1 ⟨rfl, b1⟩
  have HB1 : Hid (Below w.heap.size w w1) := b1
  have cM := WalkPr.new_yes 2 S w1 HB1.out.size (by decide) (by decide) HV.out
  clear cN b1
  go_wp2_with fail
  refine cM.mono ?_
  rintro e w2 ⟨g, F, rfl, p2, _, b2⟩
  have HB2 : Hid (Below w.heap.size w w2) := bt HB1.out b2
  have b3 : Below w2.heap.size w2 (w2.alloc (.cells #[.int .i64 6] 3)) := (Below.refl _ _).alloc (Nat.le_refl _) _
  have cL := WalkPrLearn.learn_any (p2.below b3) 0 5 [6] (some ⟨w2.heap.size, 0, none⟩) 1 1 (row_one w2 3 6) (by decide)
  rw [show ((fresh 2).length : Int) = 2 from rfl, HS.out, two_known.1, two_known.2.1, errv0] at cL
  have HB3 : Hid (Below w.heap.size w (w2.alloc (.cells #[.int .i64 6] 3))) := bt HB2.out b3
  have HP3 : Hid (Pt (w2.alloc (.cells #[.int .i64 6] 3)) w.heap.size g F S (fresh 2)) := p2.below b3
  clear p2 b2 b3
  go_wp2_with fail
  refine cL.mono ?_
  rintro e w4 ⟨rfl, F4, p4, k4, _⟩
  have HB4 : Hid (Below w.heap.size w w4) := ends HB3.out HP3.out k4
  have cMa := WalkPr.many_any p4
  rw [two_known.2.2.2.2] at cMa
  have HKn : Hid (∀ w', Below w4.heap.size w4 w' → Calls Try.prog 8 #[.pointer (some ⟨g, 0, none⟩), .int .i64 0] w' fun e w'' => e = .returned (.tuple #[.int .i64 5, .nilIface]) ∧ Below w'.heap.size w' w'') := fun w' b => by
    have h := WalkPr.knows_any (p4.below b) 0
    rw [two_known.2.2.1, two_known.2.2.2.1, errv0] at h
    exact h
  clear cL p4 k4 HB3 HP3
  go_wp2_with fail
  refine cMa.mono ?_
  rintro e w5 ⟨rfl, b5⟩
  have HB5 : Hid (Below w.heap.size w w5) := bt HB4.out b5
  have cK := HKn.out w5 b5
  clear cMa b5 HKn
  go_wp2_with fail
  refine cK.mono ?_
  rintro e w6 ⟨rfl, b6⟩
  have HB6 : Hid (Below w.heap.size w w6) := bt HB5.out b6
  have cT := WalkCheck.root_any l a n cap w6 (HR.out _ HB6.out)
  clear cK b6 HB1 HB2 HB4 HB5
  go_wp2_with fail
  refine cT.mono ?_
  rintro e w7 ⟨rfl, b7⟩
  have HB7 : Hid (Below w.heap.size w w7) := bt HB6.out b7
  clear cT b7 HB6
  by_cases h0 : Trees.leafsE l = 0
  rotate_left
  · rw [errv_pos _ h0]
    generalize ((Trees.leafsE l : Nat) : Int) = E
    generalize Trees.rootV l = RV
    clear h0
    go_wp2_with fail
    go_ret
    exact ⟨rfl, HB7.out⟩
  rw [h0, errv0, show Trees.rootV l = Trees.root l from if_pos h0]
  by_cases hn0 : n = 0
  · have i1 : ((n : Int) == 0) = true := by rw [hn0]; rfl
    generalize Trees.root l = RL
    clear h0 hn0
    go_wp2_with fail
    go_ret
    exact ⟨rfl, HB7.out⟩
  have i1 : ((n : Int) == 0) = false := by simp; omega
  obtain ⟨l1, l2⟩ := LeafProof.leafs_ok h0
  have hrv : Nums.valid (Trees.root l) = true := Trees.root_valid l l2
  rw [hln] at l1
  have HOne : Hid (∀ Z, Z < n → WalkMake.makeE l Z n = 0 ∧ (WalkMake.makeL l Z n).length ≤ 200 ∧ WalkProofCheck.checkE (Trees.root l) n Z (l.getD Z 0) (WalkMake.makeL l Z n) = 0) := fun Z h => by
    have q := LeafProof.one_proof h0 (Z := Z) (by omega)
    rw [hln] at q
    exact ⟨q.1, WalkMake.makeL_len l Z n, q.2.2⟩
  have HIn : Hid (∀ x, WalkMake.makeE l x n = 0 → ∃ Z : Nat, x = (Z : Int) ∧ Z < n) := fun x h => by
    obtain ⟨_, hi⟩ := WalkMake.make_of h
    obtain ⟨i, m, rfl, hm, h1, h2⟩ := WalkSteps.inside_of hi
    exact ⟨i, rfl, by omega⟩
  obtain ⟨RL, HRL⟩ : ∃ RL, Hid (Trees.root l = RL) := ⟨_, rfl⟩
  rw [HRL.out] at hrv HOne ⊢
  have cN := WalkPr.new_yes n RL w7 HB7.out.size (by omega) l1 hrv
  clear h0 hn0 l2 hrv
  go_wp2_with fail
  refine cN.mono ?_
  rintro e w8 ⟨gt, Ft, rfl, p8, _, b8⟩
  have HB8 : Hid (Below w.heap.size w w8) := bt HB7.out b8
  have HP8 : Hid (Pt w8 w.heap.size gt Ft RL (fresh n)) := p8
  clear cN p8 b8 i1
  go_wp2_with fail
  go_loopw [13] (fun iv wr => ∃ (i : Nat) (F : Nat → Prop) (k : Known), i ≤ n2 ∧ iv = .int .i64 (i : Int) ∧ k.length = n ∧ Hid (PruneGoods.Good l k) ∧ Hid (Pt wr w.heap.size gt F RL k) ∧ Hid (Below w.heap.size w wr)) (fun iv _ => n2 - (intOf iv).toNat)
  case atStart => exact ⟨0, Ft, fresh n, Nat.zero_le _, rfl, fresh_length n, good_fresh l n, HP8.out, HB8.out⟩
  case round =>
    obtain ⟨i, F, k, hi2, rfl, hkl, HG, HP, HB⟩ := hrel
    by_cases hlt : i < n2
    · have i1 : (i : Int) < (n2 : Int) := by omega
      by_cases h40 : i < 40
      · have i2 : (i : Int) < 40 := by omega
        obtain ⟨b2, off2, rfl, _⟩ := (HR2.out w (Below.refl _ _)).2.2 (by omega)
        have HC2 : Hid (∀ w', Below w.heap.size w w' → w'.cell? ⟨b2, off2 + i, none⟩ = some (.int .i64 (ats.getD i 0))) := fun w' b => (HR2.out w' b).at i _ (Lists.ints_at (by omega))
        generalize ats.getD i 0 = z at HC2
        have u0 := HC2.out _ HB.out
        have cP := WalkMake.make_any l a n cap z (n : Int) wr (HR.out _ HB.out)
        go_wp2_with fail
        refine cP.mono ?_
        rintro e w9 ⟨v9, rfl, o9, b9⟩
        have HB9 : Hid (Below w.heap.size w w9) := bt HB.out b9
        have HP9 : Hid (Pt w9 w.heap.size gt F RL k) := HP.out.below b9
        clear cP b9 u0 
        by_cases hm : WalkMake.makeE l z n = 0
        rotate_left
        · rw [errv_pos _ hm]
          generalize ((WalkMake.makeE l z n : Nat) : Int) = E
          clear hm o9
          go_wp2_with fail
          go_roundw
          case rel => exact ⟨i + 1, F, k, by omega, by go_num, hkl, HG, HP9, HB9⟩
          case measure => simp [intOf]; omega
        obtain ⟨Z, rfl, hZ⟩ := HIn.out z hm
        obtain ⟨m1, m2, m3⟩ := HOne.out Z hZ
        rw [m1, errv0]
        obtain ⟨P, HPP⟩ : ∃ P, Hid (WalkMake.makeL l Z n = P) := ⟨_, rfl⟩
        rw [HPP.out] at m2 m3 o9
        obtain ⟨b0, off0, rfl, _⟩ := (HR.out w (Below.refl _ _)).2.2 (by omega)
        have HC0 : Hid (∀ w', Below w.heap.size w w' → w'.cell? ⟨b0, off0 + Z, none⟩ = some (.int .i64 (l.getD Z 0))) := fun w' b => (HR.out w' b).at Z _ (Lists.ints_at (by omega))
        obtain ⟨g1, g2⟩ := good_learn HG.out Z P
        have g3 := good_set HG.out (Z := Z) (by omega) P
        have HGn : Hid (PruneGoods.Good l (k.set Z (some (l.getD Z 0, P)))) := g3
        obtain ⟨X, HX⟩ : ∃ X, Hid (l.getD Z 0 = X) := ⟨_, rfl⟩
        rw [HX.out] at m3 g1 g2 HGn HC0
        obtain ⟨x9, c9, rfl, r9, z9⟩ := owns_row o9
        have cL := WalkPrLearn.learn_any (w := w9.drew) (HP9.out.below (Below.refl _ w9).drew) (Z : Int) X P x9 P.length c9 (r9.below (Below.refl _ w9).drew) (by omega)
        rw [hkl, m3, g1, g2, errv0] at cL
        have HCk : Hid (∀ w' x c, Row w' x P.length c (ints P) → Calls Try.prog 12 #[.int .i64 RL, .int .i64 (n : Int), .int .i64 (Z : Int), .int .i64 X, .slice x P.length c] w' fun e w'' => e = .returned .nilIface ∧ Below w'.heap.size w' w'') := fun w' x c r => by
          have h := WalkProofCheck.check_any RL (n : Int) (Z : Int) X P x P.length c w' r (by omega)
          rw [m3, errv0] at h
          exact h
        have HPl : Hid (P.length ≤ 200) := m2
        have HM3 : Hid (WalkProofCheck.checkE RL (n : Int) (Z : Int) X P = 0) := m3
        have u1 := HC2.out _ HB9.out
        have u2 := HC0.out _ HB9.out
        have q0 : ¬ (Z : Int) < 0 := by omega
        have q1 : ¬ (Z : Int) ≥ (n : Int) := by omega
        have q2 : (Z : Int) < (n : Int) := by omega
        clear hm m1 m2 m3 g1 g2 g3 o9 r9
        go_upto_region 21 with fail
        go_region_held3 (fun w' => w'.cell? ⟨b2, off2 + i, none⟩ = some (.int .i64 (Z : Int)) ∧ w'.cell? ⟨b0, off0 + Z, none⟩ = some (.int .i64 X)) (first | exact ⟨u1, u2⟩ | exact ⟨s1, s2⟩ | go_keep) (first | (go_at_call 6; refine cL.mono ?_; rintro e wa ⟨rfl, Fa, pa, ka, na⟩; have HBa : Hid (Below w.heap.size w wa) := ends (HB9.out.trans ((Below.refl _ w9).drew.mono HB9.out.size)) (HP9.out.below (Below.refl _ w9).drew) ka; have HPa : Hid (Pt wa w.heap.size gt Fa RL (k.set Z (some (X, P)))) := pa; have s1 := HC2.out wa HBa.out; have s2 := HC0.out wa HBa.out; clear pa ka na))
        obtain ⟨f1, f2, f3⟩ := set_find (k := k) (Z := Z) (by omega) X P
        have HKn : Hid (∀ w', Below wa.heap.size wa w' → Calls Try.prog 8 #[.pointer (some ⟨gt, 0, none⟩), .int .i64 (Z : Int)] w' fun e w'' => e = .returned (.tuple #[.int .i64 X, .nilIface]) ∧ Below w'.heap.size w' w'') := fun w' b => by
          have h := WalkPr.knows_any (HPa.out.below b) (Z : Int)
          rw [f1, f2, errv0] at h
          exact h
        have HPr : Hid (∀ w', Below wa.heap.size wa w' → Calls Try.prog 11 #[.pointer (some ⟨gt, 0, none⟩), .int .i64 (Z : Int)] w' fun e w'' => ∃ v, e = .returned (.tuple #[v, .nilIface]) ∧ w''.ownsRow w'.heap.size 3 1 v P.length (ints P) ∧ Below w'.heap.size w' w'') := fun w' b => by
          have h := WalkPr.prove_any (HPa.out.below b) (Z : Int) (by rw [f3]; have := HPl.out; omega)
          rw [f1, f3, errv0] at h
          exact h
        clear cL u1 u2 HP9 HP HB f1 f2 f3
        go_wp2_with fail
        refine (HKn.out wa (Below.refl _ _)).mono ?_
        rintro e wb ⟨rfl, bb⟩
        have HBb : Hid (Below w.heap.size w wb) := bt HBa.out bb
        have HBab : Hid (Below wa.heap.size wa wb) := bb
        have t1 := HC2.out wb HBb.out
        clear bb s1 s2
        go_wp2_with fail
        refine (HPr.out wb HBab.out).mono ?_
        rintro e wc ⟨vc, rfl, oc, bc⟩
        have HBc : Hid (Below w.heap.size w wc) := bt HBb.out bc
        have HPc : Hid (Pt wc w.heap.size gt Fa RL (k.set Z (some (X, P)))) := HPa.out.below (bt HBab.out bc)
        have HOc : Hid (wc.ownsRow wb.heap.size 3 1 vc P.length (ints P)) := oc
        obtain ⟨xc, cc, rfl, rc, _⟩ := owns_row oc
        have cC := HCk.out wc xc cc rc
        have s1 := HC2.out wc HBc.out
        have s2 := HC0.out wc HBc.out
        have q3 : (X != X) = false := by simp
        have HFa : Hid (∀ j, Fa j → j < wb.heap.size) := fun j hj => Nat.lt_of_lt_of_le (HPa.out.foot j hj).2 HBab.out.size
        clear oc rc bc t1 HKn HPr
        go_wp2_with fail
        refine cC.mono ?_
        rintro e wd ⟨rfl, bd⟩
        have HBd : Hid (Below w.heap.size w wd) := bt HBc.out bd
        have HBcd : Hid (Below wc.heap.size wc wd) := bd
        have t1 := HC2.out wd HBd.out
        have t2 := HC0.out wd HBd.out
        have HPd : Hid (Pt wd w.heap.size gt Fa RL (k.set Z (some (X, P)))) := HPc.out.below bd
        clear cC s1 s2 q3 bd
        go_upto_region 27 with fail
        by_cases h3 : i % 3 = 0
        · have e3 : (Int.tmod (i : Int) 3 == 0) = true := by
            rw [Int.tmod_eq_emod_of_nonneg (by omega)]; simp; omega
          have e4 : ((i : Int) % 3 == 0) = true := by simp; omega
          have cF := WalkPr.forget_any HPd.out (Z : Int)
          rw [(set_find (k := k) (Z := Z) (by omega) X P).1, set_forgot (k := k) (Z := Z) (by omega) X P, errv0] at cF
          have HOd : Hid (wd.ownsRow wb.heap.size 3 1 (.slice xc P.length cc) P.length (ints P)) := owns_kept HOc.out (Kept.of_below (fun _ => False) HBcd.out) fun _ _ z => z
          go_upto_region 28 with fail
          go_wp2_with fail
          refine cF.mono ?_
          rintro e we ⟨rfl, pe, ke⟩
          have HBe : Hid (Below w.heap.size w we) := ends HBd.out HPd.out ke
          have HPe : Hid (Pt we w.heap.size gt Fa RL (k.set Z none)) := pe
          obtain ⟨_, _, e6, re, _⟩ := owns_row (owns_kept HOd.out ke fun j hj hF => by have := HFa.out j hF; have := (HOd.out.lt j hj).1; omega)
          injection e6 with e7 e8 e9
          subst e7 e9
          have cG := WalkPrLearn.learn_any HPe.out (Z : Int) X P xc P.length cc re (by have := HPl.out; omega)
          rw [List.length_set, hkl, HM3.out, (again k (Z := Z) (by omega) X P).1, (again k (Z := Z) (by omega) X P).2, errv0] at cG
          have v1 := HC2.out we HBe.out
          clear cF pe ke re t1 t2 e8 HPd
          go_wp2_with fail
          refine cG.mono ?_
          rintro e wf ⟨rfl, Ff, pf, kf, nf⟩
          have HBf : Hid (Below w.heap.size w wf) := ends HBe.out HPe.out kf
          have HPf : Hid (Pt wf w.heap.size gt Ff RL (k.set Z (some (X, P)))) := pf
          clear cG pf kf nf v1 e3 e4
          go_wp2_with fail
          go_roundw
          case rel => exact ⟨i + 1, Ff, _, by omega, by go_num, (List.length_set ..).trans hkl, HGn, HPf, HBf⟩
          case measure => simp [intOf]; omega
        · have e3 : (Int.tmod (i : Int) 3 == 0) = false := by
            rw [Int.tmod_eq_emod_of_nonneg (by omega)]; simp; omega
          have e4 : ((i : Int) % 3 == 0) = false := by simp; omega
          clear t1 t2
          go_wp2_with fail
          go_roundw
          case rel => exact ⟨i + 1, Fa, _, by omega, by go_num, (List.length_set ..).trans hkl, HGn, HPd, HBd⟩
          case measure => simp [intOf]; omega
      · have i2 : ¬ (i : Int) < 40 := by omega
        have cMa := WalkPr.many_any HP.out
        have hle := many_le k
        rw [hkl] at hle
        obtain ⟨M, HM⟩ : ∃ M, Hid (many k = M) := ⟨_, rfl⟩
        rw [HM.out] at cMa hle
        go_wp2_with fail
        refine cMa.mono ?_
        rintro e wz ⟨rfl, bz⟩
        have HBz : Hid (Below w.heap.size w wz) := bt HB.out bz
        have z1 : (M : Int) ≤ (n : Int) := by omega
        clear cMa bz
        go_wp2_with fail
        go_ret
        exact ⟨rfl, HBz.out⟩
    · have i1 : ¬ (i : Int) < (n2 : Int) := by omega
      have cMa := WalkPr.many_any HP.out
      have hle := many_le k
      rw [hkl] at hle
      obtain ⟨M, HM⟩ : ∃ M, Hid (many k = M) := ⟨_, rfl⟩
      rw [HM.out] at cMa hle
      go_wp2_with fail
      refine cMa.mono ?_
      rintro e wz ⟨rfl, bz⟩
      have HBz : Hid (Below w.heap.size w wz) := bt HB.out bz
      have z1 : (M : Int) ≤ (n : Int) := by omega
      clear cMa bz
      go_wp2_with fail
      go_ret
      exact ⟨rfl, HBz.out⟩

end Go.Proofs.Ytlibjdkofajahaa.WalkPruneKnows
