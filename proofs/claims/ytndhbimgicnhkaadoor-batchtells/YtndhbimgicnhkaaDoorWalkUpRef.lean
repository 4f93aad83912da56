/-
  What the document's own answer witref2.Upward returns: the root that comes of sums and a proof of several leafs, and what is left of both.
-/
import Derived.Test.YtndhbimgicnhkaaDoorWalkPartsRef
namespace Go.Proofs.YtndhbimgicnhkaaDoor.WalkUpRef
open Go.RowKit
open Lists (Row ints bt)
open Trees (half)
open Batches BatchSets BatchFaults
open WalkPartsRef (any_any below_drewN)

/-- what Upward answers -/
def Up (a : List Int) (fr n : Nat) (s : List Int) (ms : Nat) (p : List Int) (mp : Nat) (w : World) (e : Ending) (w' : World) : Prop :=
  ∃ xs cs xp cp, e = .returned (.tuple #[.int .i64 (up a fr n s p), .slice xs (ms - many a fr n) cs, .slice xp (mp - long a fr n) cp]) ∧ Row w' xs (ms - many a fr n) cs (ints (s.drop (many a fr n))) ∧ Row w' xp (mp - long a fr n) cp (ints (p.drop (long a fr n))) ∧ Below w.heap.size w w'
theorem tail_row {w : World} {b off n c : Nat} {p : List Int} (h : Row w (some ⟨b, off, none⟩) n c (ints p)) (h1 : 1 ≤ n) : (c = 1 → Row w (some ⟨b, off, none⟩) (n - 1) 0 (ints (p.drop 1))) ∧ (c ≠ 1 → Row w (some ⟨b, off + 1, none⟩) (n - 1) (c - 1) (ints (p.drop 1))) := by
  have hc := h.2.1
  refine ⟨fun e => ?_, fun _ => by rw [Lists.ints_drop]; exact h.drop 1 h1⟩
  have hl : p.length = n := by rw [← h.1, Lists.ints_length]
  rw [List.drop_of_length_le (by omega), show n - 1 = 0 by omega]
  exact Row.nil _ _ _

set_option maxHeartbeats 4000000 in
set_option maxRecDepth 100000 in
theorem upward_any : ∀ (f : Nat) (a : List Int) (fr n : Nat) (FR N : Int) (x : Option Addr) (m cap : Nat) (s : List Int) (xs : Option Addr) (ms cs : Nat) (p : List Int) (xp : Option Addr) (mp cp : Nat) (w : World), FR = fr → N = n → n ≤ f → 1 ≤ n → fr + n ≤ 1000 → Row w x m cap (ints a) → m ≤ 1000 → Row w xs ms cs (ints s) → Row w xp mp cp (ints p) → many a fr n ≤ ms → long a fr n ≤ mp → ms ≤ 1000 → mp ≤ 1000 → (∀ z ∈ s, Nums.valid z = true) → (∀ z ∈ p, Nums.valid z = true) →
    Calls Tryd.prog 14 #[.slice x m cap, .int .i64 FR, .int .i64 N, .slice xs ms cs, .slice xp mp cp] w (Up a fr n s ms p mp w)
  | 0, _, _, _, _, _, _, _, _, _, _, _, _, _, _, _, _, _, _, _, h, h1, _, _, _, _, _, _, _, _, _, _, _ => by omega
  | f + 1, a, fr, n, FR, N, x, m, cap, s, xs, ms, cs, p, xp, mp, cp, w, hF, hN, hf, h1, hb, hr, hm, hs, hp, hms, hmp, hs1, hp1, hvs, hvp => by
    have cA := any_any a fr n FR N x m cap w hF hN hb hr hm
    subst hF hN
    have hls : s.length = ms := by rw [← hs.1, Lists.ints_length]
    have hlp : p.length = mp := by rw [← hp.1, Lists.ints_length]
    have hcs := hs.2.1
    have hcp := hp.2.1
    cases hw : wanted a fr n
    · rw [hw] at cA
      rw [many_no h1 hw] at hms
      rw [long_no h1 hw] at hmp
      have HU : Hid (∀ xp' cp' w', Row w' xp' (mp - 1) cp' (ints (p.drop 1)) → Below w.heap.size w w' → Up a fr n s ms p mp w (.returned (.tuple #[.int .i64 (p.getD 0 0), .slice xs ms cs, .slice xp' (mp - 1) cp'])) w') := fun xp' cp' w' r b => by
        refine ⟨xs, cs, xp', cp', ?_, ?_, ?_, b⟩
        · rw [up_no h1 hw, many_no h1 hw, long_no h1 hw, Nat.sub_zero]
        · rw [many_no h1 hw, Nat.sub_zero, List.drop_zero]
          exact hs.below b
        · rw [long_no h1 hw]
          exact r
      obtain ⟨b, off, rfl, hc⟩ := hp.2.2 (by omega)
      have c0 := hc 0 _ (Lists.ints_at (by omega))
      rw [Nat.add_zero] at c0
      obtain ⟨t1, t2⟩ := tail_row hp (by omega)
      generalize p.getD 0 0 = P0 at c0 HU
      have i1 : (0 : Int) < (mp : Int) := by omega
      have i2 : (1 : Int) ≤ (mp : Int) := by omega
      have i3 : 0 < mp := by omega
      by_cases hcp1 : cp = 1
      · have HF : Hid (∀ w', Below w.heap.size w w' → Up a fr n s ms p mp w (.returned (.tuple #[.int .i64 P0, .slice xs ms cs, .slice (some ⟨b, off, none⟩) (mp - 1) 0])) w') := fun w' bb => HU.out _ _ w' ((t1 hcp1).below bb) bb
        clear HU t1 t2 hr hs hp hc hw
        go_enter Tryd.func14, Tryd.ntmps14
        go_wp2_with fail
        refine cA.mono ?_
        rintro e w1 ⟨rfl, rfl⟩
        go_wp2_with fail
        go_quiet (fail)
        go_wp2_with fail
        go_ret3
        exact HF.out _ (below_drewN (Below.refl _ _) _)
      · have HF : Hid (∀ w', Below w.heap.size w w' → Up a fr n s ms p mp w (.returned (.tuple #[.int .i64 P0, .slice xs ms cs, .slice (some ⟨b, off + 1, none⟩) (mp - 1) (cp - 1)])) w') := fun w' bb => HU.out _ _ w' ((t2 hcp1).below bb) bb
        clear HU t1 t2 hr hs hp hc hw
        go_enter Tryd.func14, Tryd.ntmps14
        go_wp2_with fail
        refine cA.mono ?_
        rintro e w1 ⟨rfl, rfl⟩
        go_wp2_with fail
        go_quiet (fail)
        go_wp2_with fail
        go_ret3
        exact HF.out _ (below_drewN (Below.refl _ _) _)
    rw [hw] at cA
    by_cases e1 : n = 1
    · subst e1
      rw [many_one hw] at hms
      rw [long_one hw] at hmp
      have HU : Hid (∀ xs' cs' w', Row w' xs' (ms - 1) cs' (ints (s.drop 1)) → Below w.heap.size w w' → Up a fr 1 s ms p mp w (.returned (.tuple #[.int .i64 (s.getD 0 0), .slice xs' (ms - 1) cs', .slice xp mp cp])) w') := fun xs' cs' w' r b => by
        refine ⟨xs', cs', xp, cp, ?_, ?_, ?_, b⟩
        · rw [up_one hw, many_one hw, long_one hw, Nat.sub_zero]
        · rw [many_one hw]
          exact r
        · rw [long_one hw, Nat.sub_zero, List.drop_zero]
          exact hp.below b
      obtain ⟨b, off, rfl, hc⟩ := hs.2.2 (by omega)
      have c0 := hc 0 _ (Lists.ints_at (by omega))
      rw [Nat.add_zero] at c0
      obtain ⟨t1, t2⟩ := tail_row hs (by omega)
      generalize s.getD 0 0 = P0 at c0 HU
      have i1 : (0 : Int) < (ms : Int) := by omega
      have i2 : (1 : Int) ≤ (ms : Int) := by omega
      have i3 : 0 < ms := by omega
      by_cases hcs1 : cs = 1
      · have HF : Hid (∀ w', Below w.heap.size w w' → Up a fr 1 s ms p mp w (.returned (.tuple #[.int .i64 P0, .slice (some ⟨b, off, none⟩) (ms - 1) 0, .slice xp mp cp])) w') := fun w' bb => HU.out _ _ w' ((t1 hcs1).below bb) bb
        clear HU t1 t2 hr hs hp hc hw
        go_enter Tryd.func14, Tryd.ntmps14
        go_wp2_with fail
        refine cA.mono ?_
        rintro e w1 ⟨rfl, rfl⟩
        go_wp2_with fail
        go_quiet (fail)
        go_wp2_with fail
        go_ret3
        exact HF.out _ (below_drewN (Below.refl _ _) _)
      · have HF : Hid (∀ w', Below w.heap.size w w' → Up a fr 1 s ms p mp w (.returned (.tuple #[.int .i64 P0, .slice (some ⟨b, off + 1, none⟩) (ms - 1) (cs - 1), .slice xp mp cp])) w') := fun w' bb => HU.out _ _ w' ((t2 hcs1).below bb) bb
        clear HU t1 t2 hr hs hp hc hw
        go_enter Tryd.func14, Tryd.ntmps14
        go_wp2_with fail
        refine cA.mono ?_
        rintro e w1 ⟨rfl, rfl⟩
        go_wp2_with fail
        go_quiet (fail)
        go_wp2_with fail
        go_ret3
        exact HF.out _ (below_drewN (Below.refl _ _) _)
    have h2 : 2 ≤ n := by omega
    have kl := Trees.half_lt n h2
    have kp := Trees.half_pos n
    have cH := fun w => WalkTreeRef.half_any n w h2 (by omega)
    have HK : Hid (many a fr n = many a fr (half n) + many a (fr + half n) (n - half n)) := many_two h2 hw
    have HL : Hid (long a fr n = long a fr (half n) + long a (fr + half n) (n - half n)) := long_two h2 hw
    have HV : Hid (up a fr n s p = Ways.node (up a fr (half n) s p) (up a (fr + half n) (n - half n) (s.drop (many a fr (half n))) (p.drop (long a fr (half n))))) := up_two h2 hw
    rw [HK.out] at hms
    rw [HL.out] at hmp
    generalize half n = k at kl kp cH HK HL HV hms hmp
    have c1 := upward_any f a fr k (fr : Int) (k : Int) x m cap s xs ms cs p xp mp cp w rfl rfl (by omega) kp (by omega) hr hm hs hp (by omega) (by omega) hs1 hp1 hvs hvp
    have v1 := up_valid (at_ := a) fr k kp s p hvs hvp (by omega) (by omega)
    have hvs2 : ∀ z ∈ s.drop (many a fr k), Nums.valid z = true := fun z hz => hvs z (List.mem_of_mem_drop hz)
    have hvp2 : ∀ z ∈ p.drop (long a fr k), Nums.valid z = true := fun z hz => hvp z (List.mem_of_mem_drop hz)
    have v2 := up_valid (at_ := a) (fr + k) (n - k) (by omega) (s.drop (many a fr k)) (p.drop (long a fr k)) hvs2 hvp2 (by rw [List.length_drop]; omega) (by rw [List.length_drop]; omega)
    have c2 := fun xs' cs' xp' cp' w' (b : Below w.heap.size w w') (r1 : Row w' xs' (ms - many a fr k) cs' (ints (s.drop (many a fr k)))) (r2 : Row w' xp' (mp - long a fr k) cp' (ints (p.drop (long a fr k)))) =>
      upward_any f a (fr + k) (n - k) ((fr : Int) + (k : Int)) ((n : Int) - (k : Int)) x m cap (s.drop (many a fr k)) xs' (ms - many a fr k) cs' (p.drop (long a fr k)) xp' (mp - long a fr k) cp' w' (by omega) (by omega) (by omega) (by omega) (by omega) (hr.below b) hm r1 r2 (by omega) (by omega) (by omega) (by omega) hvs2 hvp2
    have HU : Hid (∀ xs' cs' xp' cp' w', Row w' xs' (ms - many a fr k - many a (fr + k) (n - k)) cs' (ints ((s.drop (many a fr k)).drop (many a (fr + k) (n - k)))) → Row w' xp' (mp - long a fr k - long a (fr + k) (n - k)) cp' (ints ((p.drop (long a fr k)).drop (long a (fr + k) (n - k)))) → Below w.heap.size w w' →
        Up a fr n s ms p mp w (.returned (.tuple #[.int .i64 (Ways.node (up a fr k s p) (up a (fr + k) (n - k) (s.drop (many a fr k)) (p.drop (long a fr k)))), .slice xs' (ms - many a fr k - many a (fr + k) (n - k)) cs', .slice xp' (mp - long a fr k - long a (fr + k) (n - k)) cp'])) w') := fun xs' cs' xp' cp' w' r1 r2 b => by
      refine ⟨xs', cs', xp', cp', ?_, ?_, ?_, b⟩
      · rw [HV.out, HK.out, HL.out, Nat.sub_sub, Nat.sub_sub]
      · rw [HK.out, ← Nat.sub_sub, ← List.drop_drop]
        exact r1
      · rw [HL.out, ← Nat.sub_sub, ← List.drop_drop]
        exact r2
    have cN := fun w' => WalkTreeRef.node_any _ _ w' v1 v2
    have HN : Hid (∀ w', Calls Tryd.prog 26 #[.int .i64 (up a fr k s p), .int .i64 (up a (fr + k) (n - k) (s.drop (many a fr k)) (p.drop (long a fr k)))] w' fun e w'' => e = .returned (.int .i64 (Ways.node (up a fr k s p) (up a (fr + k) (n - k) (s.drop (many a fr k)) (p.drop (long a fr k))))) ∧ Below w'.heap.size w' w'') := cN
    have HC2 : Hid (∀ xs' cs' xp' cp' w', Below w.heap.size w w' → Row w' xs' (ms - many a fr k) cs' (ints (s.drop (many a fr k))) → Row w' xp' (mp - long a fr k) cp' (ints (p.drop (long a fr k))) → Calls Tryd.prog 14 #[.slice x m cap, .int .i64 ((fr : Int) + (k : Int)), .int .i64 ((n : Int) - (k : Int)), .slice xs' (ms - many a fr k) cs', .slice xp' (mp - long a fr k) cp'] w' (Up a (fr + k) (n - k) (s.drop (many a fr k)) (ms - many a fr k) (p.drop (long a fr k)) (mp - long a fr k) w')) := c2
    have i1 : ((n : Int) == 1) = false := by simp; omega
    clear hr hw hs hp hvs hvp hvs2 hvp2 v1 v2 c2 cN HV
    go_enter Tryd.func14, Tryd.ntmps14
    go_wp2_with fail
    refine cA.mono ?_
    rintro e w1 ⟨rfl, rfl⟩
    go_wp2_with fail
    refine (cH _).mono ?_
    rintro e w2 ⟨rfl, rfl⟩
    go_wp2_with fail
    refine c1.mono ?_
    rintro e w3 ⟨xs3, cs3, xp3, cp3, rfl, r3, q3, b3⟩
    have HC := HC2.out xs3 cs3 xp3 cp3 w3 b3 r3 q3
    have HB3 : Hid (Below w2.heap.size w2 w3) := b3
    clear c1 cA cH HC2 r3 q3 b3
    obtain ⟨A1, HA1⟩ : ∃ A1, Hid (up a fr k s p = A1) := ⟨_, rfl⟩
    obtain ⟨M1, HM1⟩ : ∃ M1, Hid (ms - many a fr k = M1) := ⟨_, rfl⟩
    obtain ⟨P1, HP1⟩ : ∃ P1, Hid (mp - long a fr k = P1) := ⟨_, rfl⟩
    rw [HA1.out] at HU HN ⊢
    rw [HM1.out] at HU HC ⊢
    rw [HP1.out] at HU HC ⊢
    go_wp2_with fail
    refine HC.mono ?_
    rintro e w4 ⟨xs4, cs4, xp4, cp4, rfl, r4, q4, b4⟩
    have HB4 : Hid (Below w2.heap.size w2 w4) := bt HB3.out b4
    have HR4 : Hid (∀ w', Below w4.heap.size w4 w' → Row w' xs4 (M1 - many a (fr + k) (n - k)) cs4 (ints ((s.drop (many a fr k)).drop (many a (fr + k) (n - k)))) ∧ Row w' xp4 (P1 - long a (fr + k) (n - k)) cp4 (ints ((p.drop (long a fr k)).drop (long a (fr + k) (n - k))))) := fun w' b => ⟨r4.below b, q4.below b⟩
    clear HC b4 r4 q4 HB3
    generalize up a (fr + k) (n - k) (s.drop (many a fr k)) (p.drop (long a fr k)) = A2 at HU HN ⊢
    obtain ⟨M2, HM2⟩ : ∃ M2, Hid (M1 - many a (fr + k) (n - k) = M2) := ⟨_, rfl⟩
    obtain ⟨P2, HP2⟩ : ∃ P2, Hid (P1 - long a (fr + k) (n - k) = P2) := ⟨_, rfl⟩
    rw [HM2.out] at HU HR4 ⊢
    rw [HP2.out] at HU HR4 ⊢
    go_wp2_with fail
    refine (HN.out _).mono ?_
    rintro e w5 ⟨rfl, b5⟩
    have HF : Hid (Up a fr n s ms p mp w2 (.returned (.tuple #[.int .i64 (Ways.node A1 A2), .slice xs4 M2 cs4, .slice xp4 P2 cp4])) w5) := HU.out _ _ _ _ w5 (HR4.out w5 b5).1 (HR4.out w5 b5).2 (bt HB4.out b5)
    clear b5 HN HU HR4
    generalize Ways.node A1 A2 = R at HF ⊢
    go_wp2_with fail
    go_ret3
    exact HF.out

end Go.Proofs.YtndhbimgicnhkaaDoor.WalkUpRef
