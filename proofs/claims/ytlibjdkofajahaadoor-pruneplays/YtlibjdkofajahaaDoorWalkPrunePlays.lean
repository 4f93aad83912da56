/-
  The walk of PrunePlays: any leafs that a tree learns and forgets: what is refused, what it knows and proves.
-/
import Derived.Test.YtlibjdkofajahaaDoorWalkPrLearn
import Derived.Test.YtlibjdkofajahaaDoorWalkPrMarks
import Derived.Test.YtlibjdkofajahaaDoorWalkTold
import Derived.Test.YtlibjdkofajahaaDoorWalkInts
import Derived.Test.YtlibjdkofajahaaDoorWalkWayRef
import Derived.Test.YtlibjdkofajahaaDoorWalkAllRef
import Derived.Test.YtlibjdkofajahaaDoorIntRows
import Derived.Deep.CutBlock
namespace Go.Proofs.YtlibjdkofajahaaDoor.WalkPrunePlays
open Go.RowKit
open Lists (Row ints bt)
open Keeps (Kept owns_row owns_kept owns_set)
open WalkCheck (errv errv0 errv_pos)
open WalkPrObj (Pt)
open WalkPrMarks
open Prunes

theorem ends {w w1 w2 : World} {b : Nat} {F : Nat → Prop} {root : Int} {k : Known} (h : Below w.heap.size w w1) (p : Pt w1 w.heap.size b F root k) (q : Kept F w1 w2) : Below w.heap.size w w2 :=
  h.trans (q.below (fun j hj => (p.foot j hj).1) h.size)
theorem infoR : (Tryd.prog.info? 22).map (fun i => (i.zero, i.size, i.bytes)) = some (some (.slice none 0 0), 1, 24) := by kernel_rfl
/-- nothing but 0 -/
def fills' (N : Nat) : List Int := List.replicate N 0
theorem made_cells (v : Value) (N : Nat) : (madeCells #[v] N).toList = List.replicate N v := toList_madeCells_one _ _
theorem made_ints (N : Nat) : (madeCells #[.int .i64 0] N).toList = ints (fills' N) := by
  rw [made_cells]
  unfold ints fills'
  rw [List.map_replicate]
theorem made_nils (N : Nat) : (madeCells #[.slice none 0 0] N).toList = List.replicate N (.slice none 0 0) := made_cells _ N
/-- the first list, half filled -/
def fills (N j : Nat) : List Int := List.replicate j (-1) ++ List.replicate (N - j) 0
theorem fills_zero (N : Nat) : fills N 0 = fills' N := rfl
theorem fills_all (N : Nat) : fills N N = marks (fresh N) := by
  unfold fills marks fresh
  rw [Nat.sub_self, List.map_replicate, List.replicate_zero, List.append_nil]
  rfl
theorem fills_length {N j : Nat} (h : j ≤ N) : (fills N j).length = N := by
  unfold fills
  simp
  omega
theorem fills_next {N j : Nat} (h : j < N) : (ints (fills N j)).set j (.int .i64 (-1)) = ints (fills N (j + 1)) := by
  rw [← ints_set]
  congr 1
  unfold fills
  rw [List.set_append_right _ _ (by simp), List.length_replicate, Nat.sub_self, show N - j = (N - (j + 1)) + 1 by omega, List.replicate_succ, List.set_cons_zero, List.replicate_succ', List.append_assoc]
  rfl
theorem mk_start {w : World} {B gk gp N : Nat} {F : Nat → Prop} (o : w.ownsRow B 3 1 (.slice (some ⟨gk, 0, none⟩) N N) N (ints (fills N N))) (o' : w.ownsRow B 22 1 (.slice (some ⟨gp, 0, none⟩) N N) N (List.replicate N (.slice none 0 0))) (l1 : gk < w.heap.size) (l2 : gp < w.heap.size) (h : gk < gp) (hF : ∀ j, F j → j < gk) : Mk w B gk gp F (fresh N) (List.replicate N (.slice none 0 0)) := by
  rw [fills_all] at o
  have hl := fresh_length N
  refine ⟨?_, ?_, ⟨fun z => ?_, fun z => ?_, by omega⟩, ⟨l1, l2⟩, fun Z s p e => ?_, fun Z s p e => ?_⟩
  · rw [hl]; exact o
  · rw [hl]; exact o'
  · have := hF _ z; omega
  · have := hF _ z; omega
  · rw [fresh_at] at e; cases e
  · rw [fresh_at] at e; cases e
/-- the first ones of a list, the rest 0 -/
def firsts (r : List Int) (k : Nat) : Nat → Value := fun x => .int .i64 (if x < k then r.getD x 0 else 0)
theorem firsts_all {r : List Int} {k x : Nat} (h : x < k ∨ r.length ≤ x) : firsts r k x = .int .i64 (r.getD x 0) := by
  unfold firsts
  split
  · rfl
  · rcases h with h | h
    · contradiction
    · rw [List.getD_eq_getElem?_getD, List.getElem?_eq_none h]; rfl
theorem firsts_next (r : List Int) (k x : Nat) : (if x = k then Value.int .i64 (r.getD k 0) else firsts r k x) = firsts r (k + 1) x := by
  unfold firsts
  by_cases h : x = k
  · rw [if_pos h, if_pos (by omega), h]
  · rw [if_neg h]
    by_cases h2 : x < k
    · rw [if_pos h2, if_pos (by omega)]
    · rw [if_neg h2, if_neg (by omega)]
theorem check_out {root S AT : Int} {N : Nat} {q : List Int} (h : ¬ (0 ≤ AT ∧ AT < (N : Int)) ∨ Trees.allOk q = false) : WalkProofCheck.checkE root N AT S q = 1 := by
  unfold WalkProofCheck.checkE
  split
  · rename_i hi
    rw [if_neg]
    rintro ⟨_, _, z⟩
    rcases h with h | h
    · have := of_decide_eq_true hi
      exact h ⟨this.1, this.2.1⟩
    · rw [h] at z; cases z
  · rfl
theorem check_in {root S : Int} {N Z : Nat} {q : List Int} (hN : N ≤ 200) (hZ : Z < N) (hr : Nums.valid root = true) (hS : Nums.valid S = true) (ha : Trees.allOk q = true) : WalkProofCheck.checkE root N Z S q = if q.length = Ways.steps Z N then (if Ways.upL S q (Ways.turns Z N) = root then 0 else 8) else 3 := by
  unfold WalkProofCheck.checkE WalkProofCheck.upE
  rw [if_pos (show WalkSteps.inside _ _ _ = true from decide_eq_true ⟨by omega, by omega, by omega⟩), if_pos ⟨hr, hS, ha⟩, Int.toNat_natCast, Int.toNat_natCast]
theorem learn_bad {C : Nat} (hC : C ≠ 0) (k : Known) (AT S : Int) (q : List Int) : learnE C k AT S = C ∧ learned C k AT S q = k := by
  have e : learnE C k AT S = C := if_pos hC
  exact ⟨e, by unfold learned; rw [e, if_neg hC]⟩
theorem learn_clash {k : Known} {Z : Nat} {S : Int} (h : has k Z = true) (hne : sumOf k Z ≠ S) (q : List Int) : learnE 0 k Z S = 7 ∧ learned 0 k Z S q = k := by
  have e : learnE 0 k Z S = 7 := by
    unfold learnE
    rw [if_neg (fun z => z rfl), if_pos ⟨by rw [Int.toNat_natCast]; exact h, by rw [Int.toNat_natCast]; exact hne⟩]
  exact ⟨e, by unfold learned; rw [e, if_neg (by decide)]⟩
theorem learn_good {k : Known} {Z : Nat} {S : Int} (h : has k Z = true → sumOf k Z = S) (q : List Int) : learnE 0 k Z S = 0 ∧ learned 0 k Z S q = k.set Z (some (S, q)) := by
  have e : learnE 0 k Z S = 0 := by
    unfold learnE
    rw [if_neg (fun z => z rfl), if_neg]
    rw [Int.toNat_natCast]
    exact fun z => z.2 (h z.1)
  exact ⟨e, by unfold learned; rw [if_pos e, Int.toNat_natCast]⟩
theorem leafs_ok {l : List Int} (h : Trees.leafsE l = 0) : l.length ≤ 200 ∧ ∀ x ∈ l, Nums.valid x = true := by
  unfold Trees.leafsE at h
  split at h
  · contradiction
  split at h
  · rename_i a b
    exact ⟨by omega, List.all_eq_true.1 b⟩
  · contradiction
theorem error_same (e : Nat) (w : World) (hg : WalkTold.Laid w) : Calls Tryd.prog 7 #[errv e, .int .i64 (e : Int)] w fun r w' => r = .returned (.bool true) ∧ Below w.heap.size w w' := by
  have h := WalkTold.error_is e (e : Int) w hg
  rw [beq_self_eq_true] at h
  exact h

set_option maxHeartbeats 16000000 in
set_option maxRecDepth 100000 in
theorem walk (a : Option Addr) (n cap : Nat) (l : List Int) (_ : l.length * 8 ≤ 140737488351232) (_ : ∀ x ∈ l, (Lit.int .i64 x).wf = true) (size : Int) (_ : (Lit.int .i64 size).wf = true) (root : Int) (_ : (Lit.int .i64 root).wf = true) (a3 : Option Addr) (n3 cap3 : Nat) (steps : List (List Int)) (_ : steps.length * 24 ≤ 140737488351232) (_ : ∀ x ∈ steps, ∀ z ∈ x, (Lit.int .i64 z).wf = true) (a4 : Option Addr) (n4 cap4 : Nat) (p : List Int) (hz4 : p.length * 8 ≤ 140737488351232) (_ : ∀ x ∈ p, (Lit.int .i64 x).wf = true) (w : World) (hr : Row w a n cap (ints l)) (hr3 : IntRows.Rowss w a3 n3 cap3 steps) (hr4 : Row w a4 n4 cap4 (ints p)) (hL : WalkTold.Laid w) :
    Calls Tryd.prog 4 #[.slice a n cap, .int .i64 size, .int .i64 root, .slice a3 n3 cap3, .slice a4 n4 cap4] w fun e w' => e = .returned (.bool true) ∧ Below w.heap.size w w' := by
  have hln : l.length = n := by rw [← hr.1, Lists.ints_length]
  have hln4 : p.length = n4 := by rw [← hr4.1, Lists.ints_length]
  have hn4 : n4 ≤ 17592186043904 := by omega
  have HR : Hid (∀ w', Below w.heap.size w w' → Row w' a n cap (ints l)) := fun w' b => hr.below b
  have HR3 : Hid (∀ w', Below w.heap.size w w' → IntRows.Rowss w' a3 n3 cap3 steps) := fun w' b => hr3.below b
  have HR4 : Hid (∀ w', Below w.heap.size w w' → Row w' a4 n4 cap4 (ints p)) := fun w' b => hr4.below b
  have HLt4 : Hid (∀ g off, 0 < n4 → a4 = some ⟨g, off, none⟩ → g < w.heap.size) := fun g off h0 e => by
    obtain ⟨g', off', e', hc⟩ := hr4.2.2 h0
    rw [e] at e'
    injection e' with e'
    injection e' with e1 e2
    subst e1
    exact Lists.block_lt (hc 0 _ (Lists.ints_at (by omega)))
  have HLd : Hid (∀ w', Below w.heap.size w w' → WalkTold.Laid w') := fun w' b => hL.below b
  have cV := WalkRef.valid_any root w
  have HEr : Hid (∀ (e : Nat) w', Below w.heap.size w w' → Calls Tryd.prog 7 #[errv e, .int .i64 (e : Int)] w' fun r w'' => r = .returned (.bool true) ∧ Below w'.heap.size w' w'') := fun e w' b => error_same e w' (HLd.out w' b)
  clear hr hr3 hr4 hL hz4
  by_cases hgood : 1 ≤ size ∧ size ≤ 200 ∧ Nums.valid root = true
  rotate_left
  · have cN := WalkPr.new_no size root w hgood
    have cE := HEr.out 1
    by_cases h1 : size < 1
    ·
      generalize Nums.valid root = V at cV
      clear hgood
      go_enter Tryd.func4, Tryd.ntmps4
      go_wp2_with fail
      refine cV.mono ?_
      rintro e w1 ⟨rfl, rfl⟩
      go_wp2_with fail
      refine cN.mono ?_
      rintro e w2 ⟨rfl, b2⟩
      have HB2 : Hid (Below w1.heap.size w1 w2) := b2
      have c2 := cE w2 b2
      clear cN cV cE b2
      go_wp2_with fail
      refine c2.mono ?_
      rintro e w3 ⟨rfl, b3⟩
      have HB3 : Hid (Below w1.heap.size w1 w3) := bt HB2.out b3
      clear c2 b3
      go_wp2_with fail
      go_ret
      exact ⟨rfl, HB3.out⟩
    by_cases h2 : 200 < size
    ·
      generalize Nums.valid root = V at cV
      clear hgood
      go_enter Tryd.func4, Tryd.ntmps4
      go_wp2_with fail
      refine cV.mono ?_
      rintro e w1 ⟨rfl, rfl⟩
      go_wp2_with fail
      refine cN.mono ?_
      rintro e w2 ⟨rfl, b2⟩
      have HB2 : Hid (Below w1.heap.size w1 w2) := b2
      have c2 := cE w2 b2
      clear cN cV cE b2
      go_wp2_with fail
      refine c2.mono ?_
      rintro e w3 ⟨rfl, b3⟩
      have HB3 : Hid (Below w1.heap.size w1 w3) := bt HB2.out b3
      clear c2 b3
      go_wp2_with fail
      go_ret
      exact ⟨rfl, HB3.out⟩
    have hV : Nums.valid root = false := by
      cases e : Nums.valid root with
      | false => rfl
      | true => exact absurd ⟨by omega, by omega, e⟩ hgood
    have h3 : 1 ≤ size := by omega
    have h4 : size ≤ 200 := by omega
    rw [hV] at cV
    clear hgood hV
    ·
      go_enter Tryd.func4, Tryd.ntmps4
      go_wp2_with fail
      refine cV.mono ?_
      rintro e w1 ⟨rfl, rfl⟩
      go_wp2_with fail
      refine cN.mono ?_
      rintro e w2 ⟨rfl, b2⟩
      have HB2 : Hid (Below w1.heap.size w1 w2) := b2
      have c2 := cE w2 b2
      clear cN cV cE b2
      go_wp2_with fail
      refine c2.mono ?_
      rintro e w3 ⟨rfl, b3⟩
      have HB3 : Hid (Below w1.heap.size w1 w3) := bt HB2.out b3
      clear c2 b3
      go_wp2_with fail
      go_ret
      exact ⟨rfl, HB3.out⟩
  · obtain ⟨g1, g2, g3⟩ := hgood
    obtain ⟨N, rfl⟩ := Int.eq_ofNat_of_zero_le (show 0 ≤ size by omega)
    rw [g3] at cV
    have cN := WalkPr.new_yes N root w (Nat.le_refl _) (by omega) (by omega) g3
    have HVr : Hid (Nums.valid root = true) := g3
    have hN1 : 1 ≤ N := by omega
    have hN2 : N ≤ 200 := by omega
    clear g3
    go_enter Tryd.func4, Tryd.ntmps4
    go_wp2_with fail
    refine cV.mono ?_
    rintro e w1 ⟨rfl, rfl⟩
    go_wp2_with fail
    refine cN.mono ?_
    rintro e w2 ⟨gt, F, rfl, p2, _, b2⟩
    have HB2 : Hid (Below w1.heap.size w1 w2) := b2
    have HP2 : Hid (Pt w2 w1.heap.size gt F root (fresh N)) := p2
    have c2 := HEr.out 0 w2 b2
    rw [errv0] at c2
    clear cN cV b2 p2
    go_wp2_with fail
    refine c2.mono ?_
    rintro e w3 ⟨rfl, b3⟩
    have HB3 : Hid (Below w1.heap.size w1 w3) := bt HB2.out b3
    have HP3 : Hid (Pt w3 w1.heap.size gt F root (fresh N)) := HP2.out.below b3
    clear c2 b3
    obtain ⟨i0, hi, hz0, hz1, hz2⟩ := info_parts WalkPr.infoI
    obtain ⟨j0, hj, hy0, hy1, hy2⟩ := info_parts infoR
    obtain ⟨w4, hmk, o4, q4⟩ := run_make_full (P := Tryd.prog) w3 w1.heap.size 22 3 i0 (.int .i64 0) 1 Tryd.underlying22 hi hz0 hz1 .i64 .i64 N (by rw [hz2]; omega) (by unfold maxLen; omega) HB3.out.size
    have b4 : Below w3.heap.size w3 w4 := (Below.refl _ w3).grown q4 (Nat.le_refl _) (fun k hk => by cases hk)
    obtain ⟨w5, hmk2, o5, q5⟩ := run_make_full (P := Tryd.prog) w4 w1.heap.size 38 22 j0 (.slice none 0 0) 1 Tryd.underlying38 hj hy0 hy1 .i64 .i64 N (by rw [hy2]; omega) (by unfold maxLen; omega) (Nat.le_trans HB3.out.size b4.size)
    have b5 : Below w4.heap.size w4 w5 := (Below.refl _ w4).grown q5 (Nat.le_refl _) (fun k hk => by cases hk)
    have hsz4 : w3.heap.size < w4.heap.size := (o4.lt w3.heap.size rfl).2
    have hsz5 : w4.heap.size < w5.heap.size := (o5.lt w4.heap.size rfl).2
    have o4' := owns_kept o4 (Kept.of_below (fun _ => False) b5) fun _ _ z => z
    rw [Nat.mul_one, show madeCells (Value.int IntKind.i64 0).cells N = madeCells #[.int .i64 0] N from rfl, made_ints] at o4'
    rw [Nat.mul_one, show madeCells (Value.slice none 0 0).cells N = madeCells #[.slice none 0 0] N from rfl, made_nils] at o5
    have HB5 : Hid (Below w1.heap.size w1 w5) := bt (bt HB3.out b4) b5
    have HP5 : Hid (Pt w5 w1.heap.size gt F root (fresh N)) := (HP3.out.below b4).below b5
    have HFlt : Hid (∀ j, F j → j < w3.heap.size) := fun j hj => (HP3.out.foot j hj).2
    obtain ⟨gk, HGk⟩ : ∃ gk, Hid (w3.heap.size = gk) := ⟨_, rfl⟩
    obtain ⟨gp, HGp⟩ : ∃ gp, Hid (w4.heap.size = gp) := ⟨_, rfl⟩
    have HAp : Hid (gk < w5.heap.size ∧ gp < w5.heap.size ∧ gk < gp ∧ w1.heap.size ≤ gk ∧ ∀ j, F j → j < gk) := by
      have := HB3.out.size
      rw [← HGk.out, ← HGp.out]
      exact ⟨by omega, hsz5, hsz4, this, HFlt.out⟩
    rw [HGk.out] at o4' hmk
    rw [HGp.out] at o5 hmk2
    have HO5 : Hid (w5.ownsRow w1.heap.size 22 1 (.slice (some ⟨gp, 0, none⟩) N N) N (List.replicate N (.slice none 0 0))) := o5
    have HO4 : Hid (w5.ownsRow w1.heap.size 3 1 (.slice (some ⟨gk, 0, none⟩) N N) N (ints (fills N 0))) := o4'
    clear o4 o4' o5 q4 q5 b4 b5 hsz4 hsz5 HFlt HB2 HP2 HP3 hi hz0 hz1 hz2 hj hy0 hy1 hy2
    go_wp2_with fail
    clear hmk hmk2
    go_loopw [18] (fun iv wr => ∃ j : Nat, j ≤ N ∧ iv = .int .i64 (j : Int) ∧ Hid (wr.ownsRow w1.heap.size 3 1 (.slice (some ⟨gk, 0, none⟩) N N) N (ints (fills N j))) ∧ Hid (Kept (fun i => i = gk) w5 wr)) (fun iv _ => N - (intOf iv).toNat)
    case atStart => exact ⟨0, Nat.zero_le _, rfl, HO4.out, Kept.refl _ _⟩
    case round =>
      obtain ⟨j, hj, rfl, HO, HK⟩ := hrel
      by_cases hlt : j < N
      · have i1 : (j : Int) < (N : Int) := by omega
        obtain ⟨_, _, e1, _, _, _, _, _, c1, f1⟩ := Keeps.owns_open HO.out (by omega)
        simp only [Value.slice.injEq, Option.some.injEq, Addr.mk.injEq, and_true, true_and] at e1
        obtain ⟨rfl, rfl⟩ := e1
        have hget : ∃ u, (ints (fills N j))[j]? = some u := ⟨_, List.getElem?_eq_getElem (by rw [Lists.ints_length, fills_length hj]; exact hlt)⟩
        obtain ⟨u, hu⟩ := hget
        have cj := c1 j u hu
        have fj := f1 j
        have o2 := owns_set HO.out j (.int .i64 (-1))
        rw [fills_next hlt] at o2
        have HO2 : Hid ((wr.setCell ⟨gk, j, none⟩ (.int .i64 (-1))).ownsRow w1.heap.size 3 1 (.slice (some ⟨gk, 0, none⟩) N N) N (ints (fills N (j + 1)))) := o2
        have HK2 : Hid (Kept (fun i => i = gk) w5 (wr.setCell ⟨gk, j, none⟩ (.int .i64 (-1)))) := HK.out.setCell (p := ⟨gk, j, none⟩) (.inl rfl) _
        clear c1 f1 o2 hu
        go_wp2_with fail
        go_roundw
        case rel => exact ⟨j + 1, by omega, by go_num, HO2, HK2⟩
        case measure => simp [intOf]; omega
      · have i1 : ¬ (j : Int) < (N : Int) := by omega
        obtain rfl : j = N := by omega
        have HM0 : Hid (Mk wr w1.heap.size gk gp F (fresh j) (List.replicate j (.slice none 0 0))) := by
          obtain ⟨a1, a2, a3, a4, a5⟩ := HAp.out
          exact mk_start HO.out (owns_kept HO5.out HK.out fun i hi z => by simp only [Value.ownBlock, Option.some.injEq] at hi; omega) (Nat.lt_of_lt_of_le a1 HK.out.size) (Nat.lt_of_lt_of_le a2 HK.out.size) a3 a5
        have HP0 : Hid (Pt wr w1.heap.size gt F root (fresh j)) := HP5.out.kept HK.out fun i hi z => by have := HAp.out.2.2.2.2 i hi; omega
        have HB0 : Hid (Below w1.heap.size w1 wr) := HB5.out.trans (HK.out.below (fun i hi => by have := HAp.out.2.2.2.1; omega) HB5.out.size)
        have HG : Hid (w1.heap.size ≤ gk ∧ w1.heap.size ≤ gp) := by
          obtain ⟨_, _, a3, a4, _⟩ := HAp.out
          exact ⟨a4, by omega⟩
        clear HO HK HO5 HP5 HB5 HAp hlt hj HO4
        go_wp2_with fail
        go_loopw [19, 20] (fun mv iv wx => ∃ (i : Nat) (F : Nat → Prop) (k : Known) (vs : List Value), i ≤ n3 ∧ mv = .int .i64 (many k : Nat) ∧ iv = .int .i64 (i : Int) ∧ k.length = j ∧ Hid (Mk wx w1.heap.size gk gp F k vs) ∧ Hid (Pt wx w1.heap.size gt F root k) ∧ Hid (Below w1.heap.size w1 wx)) (fun _ iv _ => n3 - (intOf iv).toNat)
        case atStart => exact ⟨0, F, fresh j, _, Nat.zero_le _, by rw [fresh_many]; rfl, rfl, fresh_length j, HM0.out, HP0.out, HB0.out⟩
        case round =>
          obtain ⟨i, F, k, vs, hi3, rfl, rfl, hkl, HM, HP, HB⟩ := hrel
          rename World => wo
          obtain ⟨M, HMa⟩ : ∃ M, Hid (many k = M) := ⟨_, rfl⟩
          rw [HMa.out]
          have HM200 : Hid (M ≤ 200) := by
            show M ≤ 200
            have := many_le k
            rw [← HMa.out]
            omega
          by_cases hlt : i < n3
          rotate_left
          · have i1 : ¬ (i : Int) < (n3 : Int) := by omega
            go_wp2_with fail
            go_ret
            exact ⟨rfl, HB.out⟩
          by_cases h60 : i < 60
          rotate_left
          · have i1 : (i : Int) < (n3 : Int) := by omega
            have i2 : ¬ (i : Int) < 60 := by omega
            go_wp2_with fail
            go_ret
            exact ⟨rfl, HB.out⟩
          have i1 : (i : Int) < (n3 : Int) := by omega
          have i2 : (i : Int) < 60 := by omega
          obtain ⟨hl3, _, hc3⟩ := HR3.out w1 (Below.refl _ _)
          obtain ⟨b3, off3, rfl, _⟩ := hc3 (by omega)
          obtain ⟨r, hst⟩ : ∃ r, steps[i]? = some r := ⟨_, List.getElem?_eq_getElem (by omega)⟩
          obtain ⟨_, _, hc3'⟩ := HR3.out w1 (Below.refl _ _)
          obtain ⟨b3', off3', e3, hc3''⟩ := hc3' (by omega)
          simp only [Option.some.injEq, Addr.mk.injEq, and_true] at e3
          obtain ⟨rfl, rfl⟩ := e3
          obtain ⟨ai, ci, hci, hri⟩ := hc3'' i r hst
          have HRi : Hid (∀ w', Below w1.heap.size w1 w' → w'.cell? ⟨b3, off3 + i, none⟩ = some (.slice ai r.length ci) ∧ Row w' ai r.length ci (ints r)) := fun w' b => ⟨Lists.cell_below b hci, hri.below b⟩
          clear hc3 hl3 hst hc3' hc3'' hci hri
          go_upto_region 19 with fail
          have b6 : Below wo.heap.size wo (wo.alloc (.cells #[.int .i64 0, .int .i64 0] 40)) := (Below.refl _ _).alloc (Nat.le_refl _) _
          have hv6 : (wo.alloc (.cells #[.int .i64 0, .int .i64 0] 40)).rowIs wo.heap.size 40 2 (firsts r 0) := World.rowIs_alloc wo #[.int .i64 0, .int .i64 0] 40 (firsts r 0) fun x hx => by
            match x, hx with
            | 0, _ => rfl
            | 1, _ => rfl
          go_upto_block 4 with fail
          obtain ⟨gv, HGv⟩ : ∃ gv, Hid (wo.heap.size = gv) := ⟨_, rfl⟩
          rw [HGv.out] at hv6 ⊢
          generalize wo.alloc (.cells #[.int .i64 0, .int .i64 0] 40) = w6 at b6 hv6 ⊢
          have HB6 : Hid (Below wo.heap.size wo w6) := b6
          have HV6 : Hid (w6.rowIs gv 40 2 (firsts r 0)) := hv6
          clear b6 hv6
          go_cut [22] from 86 to 107 (fun _ wy => Hid (wy.rowIs gv 40 2 (fun x => .int .i64 (r.getD x 0))) ∧ Hid (Below wo.heap.size wo wy))
          case first => as_aux_lemma =>
            go_wp2_with fail
            go_loopw [22] (fun jv wy => ∃ jj : Nat, jj ≤ 2 ∧ jj ≤ r.length ∧ jv = .int .i64 (jj : Int) ∧ Hid (wy.rowIs gv 40 2 (firsts r jj)) ∧ Hid (Below wo.heap.size wo wy)) (fun jv _ => 2 - (intOf jv).toNat)
            case atStart => exact ⟨0, by decide, Nat.zero_le _, rfl, HV6.out, HB6.out⟩
            case round =>
              obtain ⟨jj, hj2, hjr, rfl, HV, HBo⟩ := hrel
              have HBy : Hid (Below w1.heap.size w1 wr) := bt HB.out HBo.out
              obtain ⟨s3, hrw⟩ := HRi.out wr HBy.out
              obtain ⟨RN, HRN⟩ : ∃ RN, Hid (r.length = RN) := ⟨_, rfl⟩
              rw [HRN.out] at s3 hrw hjr
              by_cases hin : jj < RN ∧ jj < 2
              · obtain ⟨hlt2, hlt3⟩ := hin
                have j1 : (jj : Int) < (RN : Int) := by omega
                have j2 : (jj : Int) < 2 := by omega
                obtain ⟨bi, offi, rfl, hci⟩ := hrw.2.2 (by omega)
                have s4 := hci jj _ (Lists.ints_at (by rw [HRN.out]; exact hlt2))
                have s5 := HV.out.cell (i := jj) (by omega)
                have s6 := HV.out.frozen jj
                have HV2 : Hid ((wr.setCell ⟨gv, jj, none⟩ (.int .i64 (r.getD jj 0))).rowIs gv 40 2 (firsts r (jj + 1))) := (HV.out.set jj (.int .i64 (r.getD jj 0))).congr fun x hx => firsts_next r jj x
                have HB2 : Hid (Below wo.heap.size wo (wr.setCell ⟨gv, jj, none⟩ (.int .i64 (r.getD jj 0)))) := HBo.out.setCell (p := ⟨gv, jj, none⟩) (by rw [HGv.out]; exact Nat.le_refl _) _
                generalize r.getD jj 0 = X at s4 HV2 HB2
                clear hci hrw
                go_wp2_with fail
                go_roundw
                case rel => exact ⟨jj + 1, by omega, by have := HRN.out; omega, by go_num, HV2, HB2⟩
                case measure => simp [intOf]; omega
              have HVx : Hid (wr.rowIs gv 40 2 (fun x => .int .i64 (r.getD x 0))) := HV.out.congr fun x hx => firsts_all (by rw [HRN.out]; omega)
              by_cases hlt2 : jj < RN
              · have j1 : (jj : Int) < (RN : Int) := by omega
                have j2 : ¬ (jj : Int) < 2 := by omega
                clear hrw hin
                go_wp2_with fail
                go_meet
                case rel => exact ⟨HVx, HBo⟩
              · have j1 : ¬ (jj : Int) < (RN : Int) := by omega
                clear hrw hin
                go_wp2_with fail
                go_meet
                case rel => exact ⟨HVx, HBo⟩
          obtain ⟨HV, HBo⟩ := hcut
          rename World => w7
          have HM7 : Hid (Mk w7 w1.heap.size gk gp F k vs) := HM.out.below HBo.out
          have HP7 : Hid (Pt w7 w1.heap.size gt F root k) := HP.out.below HBo.out
          have HB7 : Hid (Below w1.heap.size w1 w7) := bt HB.out HBo.out
          have d0 : w7.cell? ⟨gv, 0, none⟩ = some (.int .i64 (r.getD 0 0)) := HV.out.cell (i := 0) (by omega)
          have d1 : w7.cell? ⟨gv, 1, none⟩ = some (.int .i64 (r.getD 1 0)) := HV.out.cell (i := 1) (by omega)
          obtain ⟨T, HT⟩ : ∃ T, Hid (r.getD 0 0 = T) := ⟨_, rfl⟩
          obtain ⟨AT, HAT⟩ : ∃ AT, Hid (r.getD 1 0 = AT) := ⟨_, rfl⟩
          rw [HT.out] at d0
          rw [HAT.out] at d1
          have HD0 : Hid (∀ w', Below w7.heap.size w7 w' → w'.cell? ⟨gv, 0, none⟩ = some (.int .i64 T)) := fun w' b => Lists.cell_below b d0
          have HGvs : Hid (gv < w7.heap.size) := Lists.block_lt d0
          clear HM HP HB HBo HV HB6 HV6 HRi HGv HT HAT HR3
          go_upto_region 25 with fail
          clear d1
          go_cut [24] from 110 to 116 (fun v wy => v = .bool (decide (0 ≤ AT ∧ AT < (j : Int))) ∧ w7 = wy)
          case first => as_aux_lemma =>
            by_cases hA0 : 0 ≤ AT
            · by_cases hA1 : AT < (j : Int)
              · have HI : Hid (decide (0 ≤ AT ∧ AT < (j : Int)) = true) := decide_eq_true ⟨hA0, hA1⟩
                go_wp2_with fail
                go_meet
                case rel => exact ⟨by rw [HI.out], rfl⟩
              · have HI : Hid (decide (0 ≤ AT ∧ AT < (j : Int)) = false) := decide_eq_false fun z => hA1 z.2
                go_wp2_with fail
                go_meet
                case rel => exact ⟨by rw [HI.out], rfl⟩
            · have HI : Hid (decide (0 ≤ AT ∧ AT < (j : Int)) = false) := decide_eq_false fun z => hA0 z.1
              go_wp2_with fail
              go_meet
              case rel => exact ⟨by rw [HI.out], rfl⟩
          obtain ⟨rfl, rfl⟩ := hcut
          obtain ⟨I, HI⟩ : ∃ I, Hid (decide (0 ≤ AT ∧ AT < (j : Int)) = I) := ⟨_, rfl⟩
          rw [HI.out]
          go_upto_block 6 with fail
          go_cut [11, 15, 19, 25, 26, 27] from 119 to 228 (fun _ tv mv _ _ _ wy => tv = .bool true ∧ ∃ (F' : Nat → Prop) (k' : Known) (vs' : List Value), mv = .int .i64 (many k' : Nat) ∧ k'.length = j ∧ Hid (Mk wy w1.heap.size gk gp F' k' vs') ∧ Hid (Pt wy w1.heap.size gt F' root k') ∧ Hid (Below w1.heap.size w1 wy))
          case first => as_aux_lemma =>
            go_upto_if 136 with fail
            go_cut [136] from 138 to 139 (fun v wy => v = .bool (decide (T = 0 ∨ T = 1 ∨ T = 2)) ∧ w7 = wy)
            case first => as_aux_lemma =>
              by_cases t0 : T = 0
              · have e0 : (T == 0) = true := by rw [t0]; rfl
                have HI2 : Hid (decide (T = 0 ∨ T = 1 ∨ T = 2) = true) := decide_eq_true (.inl t0)
                clear t0
                go_wp2_with fail
                go_meet
                case rel => exact ⟨by rw [HI2.out, e0], rfl⟩
              have e0 : (T == 0) = false := by rw [beq_eq_false_iff_ne]; exact t0
              by_cases t1 : T = 1
              · have e1 : (T == 1) = true := by rw [t1]; rfl
                have HI2 : Hid (decide (T = 0 ∨ T = 1 ∨ T = 2) = true) := decide_eq_true (.inr (.inl t1))
                clear t0 t1
                go_wp2_with fail
                go_meet
                case rel => exact ⟨by rw [HI2.out], rfl⟩
              have e1 : (T == 1) = false := by rw [beq_eq_false_iff_ne]; exact t1
              by_cases t2 : T = 2
              · have e2 : (T == 2) = true := by rw [t2]; rfl
                have HI2 : Hid (decide (T = 0 ∨ T = 1 ∨ T = 2) = true) := decide_eq_true (.inr (.inr t2))
                clear t0 t1 t2
                go_wp2_with fail
                go_meet
                case rel => exact ⟨by rw [HI2.out], rfl⟩
              have e2 : (T == 2) = false := by rw [beq_eq_false_iff_ne]; exact t2
              have HI2 : Hid (decide (T = 0 ∨ T = 1 ∨ T = 2) = false) := decide_eq_false (by omega)
              clear t0 t1 t2
              go_wp2_with fail
              go_meet
              case rel => exact ⟨by rw [HI2.out], rfl⟩
            obtain ⟨rfl, rfl⟩ := hcut
            cases hTd : decide (T = 0 ∨ T = 1 ∨ T = 2)
            · clear hTd
              go_upto_if 120 with fail
              go_cut [11, 19, 120] from 121 to 130 (fun ev mv _ wy => ev = .int .i64 (findE k AT : Nat) ∧ mv = .int .i64 (many (forgot k AT) : Nat) ∧ Hid (Mk wy w1.heap.size gk gp F (forgot k AT) vs) ∧ Hid (Pt wy w1.heap.size gt F root k) ∧ Hid (Below w1.heap.size w1 wy))
              case first => as_aux_lemma =>
                cases I with
                | false =>
                  have hf : findE k AT = 1 := if_neg (by rw [hkl]; exact of_decide_eq_false HI.out)
                  have hg : forgot k AT = k := by unfold forgot; rw [hf, if_neg (by decide)]
                  have h1 : Hid ((Value.int .i64 1 = .int .i64 (findE k AT : Nat)) ∧ (Value.int .i64 (M : Int) = .int .i64 (many (forgot k AT) : Nat)) ∧ Hid (Mk w7 w1.heap.size gk gp F (forgot k AT) vs) ∧ Hid (Pt w7 w1.heap.size gt F root k) ∧ Hid (Below w1.heap.size w1 w7)) :=
                    ⟨by rw [hf]; rfl, by rw [hg, HMa.out], by rw [hg]; exact HM7.out, HP7.out, HB7.out⟩
                  clear hf hg
                  rw [Bool.not_false]
                  go_wp2_with fail
                  go_meet
                  case rel => exact h1.out
                | true =>
                  have hA := of_decide_eq_true HI.out
                  obtain ⟨Z, rfl⟩ := Int.eq_ofNat_of_zero_le hA.1
                  have hZ : Z < j := by omega
                  have hZk : Z < k.length := by omega
                  obtain ⟨c1, f1, v, v1, c2, f2⟩ := HM7.out.sum hZk
                  obtain ⟨n1, n2⟩ := HM7.out.mark_neg Z
                  have y4 : 0 ≤ (Z : Int) := by omega
                  have y5 : (Z : Int) < (j : Int) := by omega
                  rw [Bool.not_true]
                  cases hh : Prunes.has k Z with
                  | false =>
                    have hf : findE k Z = 5 := by unfold findE; rw [if_pos (by rw [hkl]; exact hA), if_neg (by rw [Int.toNat_natCast, hh]; decide)]
                    have hg : forgot k Z = k := by unfold forgot; rw [hf, if_neg (by decide)]
                    have h1 : Hid ((Value.int .i64 5 = .int .i64 (findE k Z : Nat)) ∧ (Value.int .i64 (M : Int) = .int .i64 (many (forgot k Z) : Nat)) ∧ Hid (Mk w7 w1.heap.size gk gp F (forgot k Z) vs) ∧ Hid (Pt w7 w1.heap.size gt F root k) ∧ Hid (Below w1.heap.size w1 w7)) :=
                      ⟨by rw [hf]; rfl, by rw [hg, HMa.out], by rw [hg]; exact HM7.out, HP7.out, HB7.out⟩
                    rw [n2 hh] at c1
                    clear hf hg n1 n2 hh v1 c2 f2 hA
                    go_wp2_with fail
                    go_meet
                    case rel => exact h1.out
                  | true =>
                    obtain ⟨n3', n4'⟩ := n1 hh
                    rw [n3'] at c1
                    have hf : findE k Z = 0 := by unfold findE; rw [if_pos (by rw [hkl]; exact hA), if_pos (by rw [Int.toNat_natCast, hh])]
                    have hg : forgot k Z = k.set Z none := by unfold forgot; rw [hf, if_pos rfl, Int.toNat_natCast]
                    have hmu := many_unset k hZk
                    rw [hh, if_pos rfl, HMa.out] at hmu
                    have mdrop := HM7.out.drop hZk
                    have pdrop : Pt (w7.setCell ⟨gk, Z, none⟩ (.int .i64 (-1))) w1.heap.size gt F root k := HP7.out.kept ((Kept.refl (fun y => y = gk) w7).setCell (p := ⟨gk, Z, none⟩) (.inl rfl) _) (fun y hy z => HM7.out.apart.1 (z ▸ hy))
                    have h1 : Hid ((Value.int .i64 0 = .int .i64 (findE k Z : Nat)) ∧ (Value.int .i64 ((M : Int) - 1) = .int .i64 (many (forgot k Z) : Nat)) ∧ Hid (Mk (w7.setCell ⟨gk, Z, none⟩ (.int .i64 (-1))) w1.heap.size gk gp F (forgot k Z) vs) ∧ Hid (Pt (w7.setCell ⟨gk, Z, none⟩ (.int .i64 (-1))) w1.heap.size gt F root k) ∧ Hid (Below w1.heap.size w1 (w7.setCell ⟨gk, Z, none⟩ (.int .i64 (-1))))) := by
                      refine ⟨by rw [hf]; rfl, ?_, by rw [hg]; exact mdrop, pdrop, HB7.out.setCell (p := ⟨gk, Z, none⟩) HG.out.1 _⟩
                      rw [hg]
                      congr 1
                      omega
                    have hm1 : 1 ≤ M := by omega
                    have hm200 := HM200.out
                    generalize sumOf k Z = SO at c1 n4'
                    have y8 : ¬ SO < 0 := by omega
                    clear hf hg n1 n2 n3' hh v1 c2 f2 hA hmu mdrop pdrop
                    go_wp2_with fail
                    go_meet
                    case rel => exact h1.out
              obtain ⟨rfl, rfl, HM9, HP9, HB9⟩ := hcut
              rename World => w9
              have cL := WalkPr.forget_any HP9.out AT
              obtain ⟨E1, HE1⟩ : ∃ E1, Hid (findE k AT = E1) := ⟨_, rfl⟩
              obtain ⟨k1, Hk1⟩ : ∃ k1, Hid (forgot k AT = k1) := ⟨_, rfl⟩
              have hk1 : k1.length = j := by rw [← Hk1.out, forgot_length, hkl]
              rw [HE1.out, Hk1.out] at cL ⊢
              rw [Hk1.out] at HM9
              go_wp2_with fail
              refine cL.mono ?_
              rintro e wa ⟨rfl, pa, ka⟩
              have HBa : Hid (Below w1.heap.size w1 wa) := ends HB9.out HP9.out ka
              have HMa2 : Hid (Mk wa w1.heap.size gk gp F k1 vs) := HM9.out.kept ka (fun _ z => z) fun _ z => .inl z
              have HPa : Hid (Pt wa w1.heap.size gt F root k1) := pa
              have cE := HEr.out E1 wa HBa.out
              clear cL pa ka HM9 HP9 HB9
              go_wp2_with fail
              refine cE.mono ?_
              rintro e wb ⟨rfl, bb⟩
              have HBb : Hid (Below w1.heap.size w1 wb) := bt HBa.out bb
              have HMb : Hid (Mk wb w1.heap.size gk gp F k1 vs) := HMa2.out.below bb
              have HPb : Hid (Pt wb w1.heap.size gt F root k1) := HPa.out.below bb
              clear cE bb
              go_wp2_with fail
              go_meet
              case rel => exact ⟨rfl, F, k1, vs, rfl, hk1, HMb, HPb, HBb⟩
            · have hT0 : 0 ≤ T := by have := of_decide_eq_true hTd; omega
              clear hTd
              go_upto_region 40 with fail
              have cLf := WalkTreeRef.leafs_any l a n cap w7 (HR.out _ HB7.out)
              obtain ⟨E, HE⟩ : ∃ E : Nat, Hid (Trees.leafsE l = E) := ⟨_, rfl⟩
              rw [HE.out] at cLf
              have dT := HD0.out w7 (Below.refl _ _)
              go_cut [163] from 141 to 163 (fun v wy => v = .bool (decide (I = true ∧ AT < (n : Int) ∧ j ≤ n ∧ E = 0 ∧ 0 < T)) ∧ w7 = wy)
              case first => as_aux_lemma =>
                cases I with
                | false =>
                  have HX : Hid (decide (false = true ∧ AT < (n : Int) ∧ j ≤ n ∧ E = 0 ∧ 0 < T) = false) := decide_eq_false (by simp)
                  clear cLf dT
                  go_wp2_with fail
                  go_meet
                  case rel => exact ⟨by rw [HX.out], rfl⟩
                | true =>
                  by_cases x1 : AT < (n : Int)
                  rotate_left
                  · have HX : Hid (decide (true = true ∧ AT < (n : Int) ∧ j ≤ n ∧ E = 0 ∧ 0 < T) = false) := decide_eq_false (fun z => x1 z.2.1)
                    clear cLf dT
                    go_wp2_with fail
                    go_meet
                    case rel => exact ⟨by rw [HX.out], rfl⟩
                  by_cases x2 : j ≤ n
                  rotate_left
                  · have HX : Hid (decide (true = true ∧ AT < (n : Int) ∧ j ≤ n ∧ E = 0 ∧ 0 < T) = false) := decide_eq_false (fun z => x2 z.2.2.1)
                    have x3 : ¬ (j : Int) ≤ (n : Int) := by omega
                    clear cLf dT
                    go_wp2_with fail
                    go_meet
                    case rel => exact ⟨by rw [HX.out], rfl⟩
                  have x3 : (j : Int) ≤ (n : Int) := by omega
                  go_wp2_with fail
                  refine cLf.mono ?_
                  rintro e wz ⟨rfl, rfl⟩
                  clear cLf
                  by_cases x4 : E = 0
                  rotate_left
                  · have HX : Hid (decide (true = true ∧ AT < (n : Int) ∧ j ≤ n ∧ E = 0 ∧ 0 < T) = false) := decide_eq_false (fun z => x4 z.2.2.2.1)
                    have x5 : ((E : Int) == 0) = false := by rw [beq_eq_false_iff_ne]; omega
                    clear dT x4
                    go_wp2_with fail
                    go_meet
                    case rel => exact ⟨by rw [HX.out], rfl⟩
                  have x5 : ((E : Int) == 0) = true := by rw [x4]; rfl
                  by_cases x6 : 0 < T
                  · have HX : Hid (decide (true = true ∧ AT < (n : Int) ∧ j ≤ n ∧ E = 0 ∧ 0 < T) = true) := decide_eq_true ⟨rfl, x1, x2, x4, x6⟩
                    clear x4
                    go_wp2_with fail
                    go_meet
                    case rel => exact ⟨by rw [HX.out], rfl⟩
                  · have HX : Hid (decide (true = true ∧ AT < (n : Int) ∧ j ≤ n ∧ E = 0 ∧ 0 < T) = false) := decide_eq_false (fun z => x6 z.2.2.2.2)
                    clear x4
                    go_wp2_with fail
                    go_meet
                    case rel => exact ⟨by rw [HX.out]; simp; omega, rfl⟩
              obtain ⟨rfl, rfl⟩ := hcut
              clear cLf dT
              have HFlt : Hid (∀ y, F y → w1.heap.size ≤ y ∧ y < w7.heap.size) := HP7.out.foot
              have HGk : Hid (gk < w7.heap.size ∧ gp < w7.heap.size) := HM7.out.lies
              go_upto_if 163 with fail
              go_cut [25, 26, 163] from 164 to 172 (fun sv qv _ wy => ∃ (S : Int) (q : List Int) (x : Option Addr) (c : Nat), sv = .int .i64 S ∧ qv = .slice x q.length c ∧ Hid (Nums.valid S = true) ∧ Hid (q.length ≤ 17592186043904) ∧ Hid (Row wy x q.length c (ints q)) ∧ Hid (LiesOff wy gk gp F q (.slice x q.length c)) ∧ Hid (Below w7.heap.size w7 wy))
              case first => as_aux_lemma =>
                cases hd : decide (I = true ∧ AT < (n : Int) ∧ j ≤ n ∧ E = 0 ∧ 0 < T)
                · have HRq := HR4.out _ HB7.out
                  have hA : LiesOff w7 gk gp F p (.slice a4 n4 cap4) := off_old HRq HLt4.out HB7.out.size HG.out.1 HG.out.2 fun y hy => (HFlt.out y hy).1
                  have HAq : Hid (LiesOff w7 gk gp F p (.slice a4 n4 cap4) ∧ Row w7 a4 n4 cap4 (ints p)) := ⟨hA, HRq⟩
                  clear HRq hA hd
                  go_wp2_with fail
                  go_meet
                  case rel =>
                    subst hln4
                    exact ⟨5, p, a4, cap4, rfl, rfl, by show Nums.valid 5 = true; decide, hn4, HAq.out.2, HAq.out.1, Below.refl _ _⟩
                · obtain ⟨rfl, hAn, hjn, hE, _⟩ := of_decide_eq_true hd
                  have hA := of_decide_eq_true HI.out
                  obtain ⟨Z, rfl⟩ := Int.eq_ofNat_of_zero_le hA.1
                  have hZ : Z < j := by omega
                  rw [hE] at HE
                  obtain ⟨_, hva⟩ := leafs_ok HE.out
                  obtain ⟨b0, off0, rfl, _⟩ := (HR.out w7 HB7.out).2.2 (by omega)
                  have s0 : w7.cell? ⟨b0, off0 + Z, none⟩ = some (.int .i64 (l.getD Z 0)) := (HR.out _ HB7.out).at Z _ (Lists.ints_at (by omega))
                  have r1 : Row w7 (some ⟨b0, off0, none⟩) j cap (ints (l.take j)) := by rw [Lists.ints_take]; exact (HR.out _ HB7.out).take j hjn
                  have cW := WalkWayRef.way_le (l.take j) Z Z (some ⟨b0, off0, none⟩) j cap w7 rfl hZ hN2 r1 (fun x hx => hva x (List.mem_of_mem_take hx))
                  have h5 : (j : Int) ≤ (cap : Int) := by have := (HR.out w7 HB7.out).2.1; omega
                  have HSv : Hid (Nums.valid (l.getD Z 0) = true) := by
                    show _ = _
                    rw [List.getD_eq_getElem?_getD, List.getElem?_eq_getElem (by omega)]
                    exact hva _ (List.getElem_mem _)
                  have hql : (Ways.way (l.take j) Z).length ≤ 17592186043904 := by
                    rw [Ways.way_len, List.length_take]
                    have := Ways.steps_le _ Z (min j l.length) (Nat.le_refl _)
                    omega
                  generalize Ways.way (l.take j) Z = q at cW hql
                  generalize l.getD Z 0 = S at s0 HSv
                  have x1 : (Z : Int) < (n : Int) := by omega
                  clear hd hva r1
                  go_wp2_with fail
                  refine cW.mono ?_
                  rintro e wz ⟨v, rfl, oz, bz⟩
                  have hAz : LiesOff wz gk gp F q v := off_new oz HGk.out.1 HGk.out.2 fun y hy => (HFlt.out y hy).2
                  obtain ⟨xz, cz, rfl, rz, _⟩ := owns_row oz
                  have HAz : Hid (LiesOff wz gk gp F q (.slice xz q.length cz) ∧ Row wz xz q.length cz (ints q) ∧ Below w7.heap.size w7 wz ∧ q.length ≤ 17592186043904) := ⟨hAz, rz, bz, hql⟩
                  clear cW oz bz rz hAz hql s0
                  go_wp2_with fail
                  go_meet
                  case rel => exact ⟨S, q, xz, cz, rfl, rfl, HSv, HAz.out.2.2.2, HAz.out.2.1, HAz.out.1, HAz.out.2.2.1⟩
              obtain ⟨S, q, x, c, rfl, rfl, HSv, HQl, HRq, HAq, HB78⟩ := hcut
              rename World => w8
              have HM8 : Hid (Mk w8 w1.heap.size gk gp F k vs) := HM7.out.below HB78.out
              have HP8 : Hid (Pt w8 w1.heap.size gt F root k) := HP7.out.below HB78.out
              have HB8 : Hid (Below w1.heap.size w1 w8) := bt HB7.out HB78.out
              have cA := WalkAllRef.all_long q x q.length c w8 HQl.out HRq.out
              obtain ⟨A, HA⟩ : ∃ A, Hid (Trees.allOk q = A) := ⟨_, rfl⟩
              rw [HA.out] at cA
              clear HM7 HP7 HB7 HB78 HD0 HGvs HFlt HGk
              go_wp2_with fail
              refine cA.mono ?_
              rintro e w8 ⟨rfl, rfl⟩
              clear cA
              go_upto_region 45 with fail
              go_cut [180] from 175 to 180 (fun v wy => v = .bool (!I || !A) ∧ w8 = wy)
              case first => as_aux_lemma =>
                cases I with
                | false =>
                  go_wp2_with fail
                  go_meet
                  case rel => exact ⟨rfl, rfl⟩
                | true =>
                  cases A with
                  | false =>
                    go_wp2_with fail
                    go_meet
                    case rel => exact ⟨rfl, rfl⟩
                  | true =>
                    go_wp2_with fail
                    go_meet
                    case rel => exact ⟨rfl, rfl⟩
              obtain ⟨rfl, rfl⟩ := hcut
              obtain ⟨C, HC⟩ : ∃ C, Hid (WalkProofCheck.checkE root j AT S q = C) := ⟨_, rfl⟩
              go_upto_if 180 with fail
              go_cut [11, 19, 180] from 181 to 217 (fun ev mv _ wy => ev = .int .i64 (learnE C k AT S : Nat) ∧ mv = .int .i64 (many (learned C k AT S q) : Nat) ∧ ∃ vs', Hid (Mk wy w1.heap.size gk gp F (learned C k AT S q) vs') ∧ Hid (Pt wy w1.heap.size gt F root k) ∧ Hid (Row wy x q.length c (ints q)) ∧ Hid (Below w1.heap.size w1 wy))
              case first => as_aux_lemma =>
                have hbad : ∀ e : Nat, e ≠ 0 → C = e → Hid ((Value.int .i64 (e : Int) = .int .i64 (learnE C k AT S : Nat)) ∧ (Value.int .i64 (M : Int) = .int .i64 (many (learned C k AT S q) : Nat)) ∧ ∃ vs', Hid (Mk w8 w1.heap.size gk gp F (learned C k AT S q) vs') ∧ Hid (Pt w8 w1.heap.size gt F root k) ∧ Hid (Row w8 x q.length c (ints q)) ∧ Hid (Below w1.heap.size w1 w8)) := fun e he hCe => by
                  obtain ⟨z1, z2⟩ := learn_bad (C := C) (by rw [hCe]; exact he) k AT S q
                  exact ⟨by rw [z1, hCe], by rw [z2, HMa.out], vs, by rw [z2]; exact HM8.out, HP8.out, HRq.out, HB8.out⟩
                cases I with
                | false =>
                  have h1 := hbad 1 (by decide) (by rw [← HC.out]; exact check_out (.inl (of_decide_eq_false HI.out)))
                  rw [Bool.not_false, Bool.true_or]
                  clear hbad
                  go_wp2_with fail
                  go_meet
                  case rel => exact h1.out
                | true =>
                cases A with
                | false =>
                  have h1 := hbad 1 (by decide) (by rw [← HC.out]; exact check_out (.inr HA.out))
                  rw [Bool.not_true, Bool.false_or, Bool.not_false]
                  clear hbad
                  go_wp2_with fail
                  go_meet
                  case rel => exact h1.out
                | true =>
                  rw [Bool.not_true, Bool.false_or]
                  have hA := of_decide_eq_true HI.out
                  obtain ⟨Z, rfl⟩ := Int.eq_ofNat_of_zero_le hA.1
                  have hZ : Z < j := by omega
                  have hC := check_in hN2 hZ HVr.out HSv.out HA.out
                  rw [HC.out] at hC
                  have hst := Ways.steps_le _ Z j (Nat.le_refl _)
                  have cS := WalkStepsRef.steps_le Z j Z j w8 rfl rfl hZ (by omega)
                  obtain ⟨ST, HST⟩ : ∃ ST, Hid (Ways.steps Z j = ST) := ⟨_, rfl⟩
                  rw [HST.out] at cS hC hst
                  go_wp2_with fail
                  refine cS.mono ?_
                  rintro e w8 ⟨rfl, rfl⟩
                  clear cS
                  by_cases hl : q.length = ST
                  rotate_left
                  · rw [if_neg hl] at hC
                    have h1 := hbad 3 (by decide) hC
                    have y1 : ((q.length : Int) != (ST : Int)) = true := by rw [bne_iff_ne]; omega
                    clear hbad hC hl
                    go_wp2_with fail
                    go_meet
                    case rel => exact h1.out
                  rw [if_pos hl] at hC
                  have hlq : q.length = Ways.steps Z j := by rw [hl, HST.out]
                  have cU := WalkWayRef.up_le q Z j Z j S x q.length c w8 rfl rfl hZ hN2 hlq HRq.out (fun z hz => List.all_eq_true.1 HA.out z hz) HSv.out
                  obtain ⟨U, HU⟩ : ∃ U, Hid (Ways.upL S q (Ways.turns Z j) = U) := ⟨_, rfl⟩
                  rw [HU.out] at cU hC
                  have y1 : ((q.length : Int) != (ST : Int)) = false := by rw [hl]; simp
                  have HQ200 : Hid (q.length ≤ 200) := by show q.length ≤ 200; rw [hlq, HST.out]; omega
                  clear hlq hl
                  go_wp2_with fail
                  refine cU.mono ?_
                  rintro e w9 ⟨rfl, b9⟩
                  clear cU y1
                  by_cases hu : U = root
                  rotate_left
                  · rw [if_neg hu] at hC
                    obtain ⟨z1, z2⟩ := learn_bad (C := C) (by rw [hC]; decide) k Z S q
                    have h1 : Hid ((Value.int .i64 8 = .int .i64 (learnE C k Z S : Nat)) ∧ (Value.int .i64 (M : Int) = .int .i64 (many (learned C k Z S q) : Nat)) ∧ ∃ vs', Hid (Mk w9 w1.heap.size gk gp F (learned C k Z S q) vs') ∧ Hid (Pt w9 w1.heap.size gt F root k) ∧ Hid (Row w9 x q.length c (ints q)) ∧ Hid (Below w1.heap.size w1 w9)) :=
                      ⟨by rw [z1, hC]; rfl, by rw [z2, HMa.out], vs, by rw [z2]; exact HM8.out.below b9, HP8.out.below b9, HRq.out.below b9, bt HB8.out b9⟩
                    have y2 : (U != root) = true := by rw [bne_iff_ne]; exact hu
                    clear hbad hC hu z1 z2 b9
                    go_wp2_with fail
                    go_meet
                    case rel => exact h1.out
                  rw [if_pos hu] at hC
                  subst hC
                  have y2 : (U != root) = false := by rw [hu]; simp
                  have HM9 : Hid (Mk w9 w1.heap.size gk gp F k vs) := HM8.out.below b9
                  have HP9 : Hid (Pt w9 w1.heap.size gt F root k) := HP8.out.below b9
                  have HA9 : Hid (LiesOff w9 gk gp F q (.slice x q.length c)) := HAq.out.below b9
                  have HR9 : Hid (Row w9 x q.length c (ints q)) := HRq.out.below b9
                  have HB9 : Hid (Below w1.heap.size w1 w9) := bt HB8.out b9
                  have hZk : Z < k.length := by omega
                  obtain ⟨c1, f1, v, v1, c2, f2⟩ := HM9.out.sum hZk
                  obtain ⟨n1, n2⟩ := HM9.out.mark_neg Z
                  have hS0 : 0 ≤ S := (Nums.valid_iff.1 HSv.out).1
                  have hgkp := HM9.out.apart.2.2
                  have c2' : (w9.setCell ⟨gk, Z, none⟩ (.int .i64 S)).cell? ⟨gp, Z, none⟩ = some v := (World.cell?_setCell_other w9 ⟨gk, Z, none⟩ ⟨gp, Z, none⟩ _ (fun z => by injection z with z; exact hgkp z)).trans c2
                  have f2' : (w9.setCell ⟨gk, Z, none⟩ (.int .i64 S)).frozen? ⟨gp, Z, none⟩ = false := (World.frozen?_setCell _ _ _ _).trans f2
                  have mput := HM9.out.put hZk hS0 HQ200.out HA9.out
                  have pput : Pt ((w9.setCell ⟨gk, Z, none⟩ (.int .i64 S)).setCell ⟨gp, Z, none⟩ (.slice x q.length c)) w1.heap.size gt F root k := HP9.out.kept (((Kept.refl (fun y => y = gk ∨ y = gp) w9).setCell (p := ⟨gk, Z, none⟩) (.inl (.inl rfl)) _).setCell (p := ⟨gp, Z, none⟩) (.inl (.inr rfl)) _) (fun y hy z => by rcases z with rfl | rfl; exact HM9.out.apart.1 hy; exact HM9.out.apart.2.1 hy)
                  have rput : Row ((w9.setCell ⟨gk, Z, none⟩ (.int .i64 S)).setCell ⟨gp, Z, none⟩ (.slice x q.length c)) x q.length c (ints q) := WalkPrObj.row_kept HR9.out (((Kept.refl (fun y => y = gk ∨ y = gp) w9).setCell (p := ⟨gk, Z, none⟩) (.inl (.inl rfl)) _).setCell (p := ⟨gp, Z, none⟩) (.inl (.inr rfl)) _) (fun h0 y off e z => by
                    obtain ⟨xx, cc, ee, _, hq⟩ := HA9.out.core
                    injection ee with ee1 ee2 ee3
                    subst ee1
                    have := hq h0 y off e
                    rcases z with rfl | rfl
                    · exact this.2.1 rfl
                    · exact this.2.2.1 rfl)
                  have bput : Below w1.heap.size w1 ((w9.setCell ⟨gk, Z, none⟩ (.int .i64 S)).setCell ⟨gp, Z, none⟩ (.slice x q.length c)) := (HB9.out.setCell (p := ⟨gk, Z, none⟩) HG.out.1 _).setCell (p := ⟨gp, Z, none⟩) HG.out.2 _
                  have hms := many_set k hZk (S, q)
                  have y4 : 0 ≤ (Z : Int) := by omega
                  have y5 : (Z : Int) < (j : Int) := by omega
                  have hm200 := HM200.out
                  cases hh : Prunes.has k Z with
                  | false =>
                    obtain ⟨z1, z2⟩ := learn_good (k := k) (Z := Z) (S := S) (fun z => by rw [hh] at z; cases z) q
                    have h1 : Hid ((Value.int .i64 0 = .int .i64 (learnE 0 k Z S : Nat)) ∧ (Value.int .i64 ((M : Int) + 1) = .int .i64 (many (learned 0 k Z S q) : Nat)) ∧ ∃ vs', Hid (Mk ((w9.setCell ⟨gk, Z, none⟩ (.int .i64 S)).setCell ⟨gp, Z, none⟩ (.slice x q.length c)) w1.heap.size gk gp F (learned 0 k Z S q) vs') ∧ Hid (Pt ((w9.setCell ⟨gk, Z, none⟩ (.int .i64 S)).setCell ⟨gp, Z, none⟩ (.slice x q.length c)) w1.heap.size gt F root k) ∧ Hid (Row ((w9.setCell ⟨gk, Z, none⟩ (.int .i64 S)).setCell ⟨gp, Z, none⟩ (.slice x q.length c)) x q.length c (ints q)) ∧ Hid (Below w1.heap.size w1 ((w9.setCell ⟨gk, Z, none⟩ (.int .i64 S)).setCell ⟨gp, Z, none⟩ (.slice x q.length c)))) := by
                      refine ⟨by rw [z1]; rfl, ?_, vs.set Z (.slice x q.length c), by rw [z2]; exact mput, pput, rput, bput⟩
                      rw [z2, hms, hh, if_neg (by decide), HMa.out]
                      rfl
                    rw [n2 hh] at c1
                    clear hbad z1 z2 n1 n2 mput pput rput bput hms hh c2 f2 v1 b9 HR9 HA9 HP9 HM9 hu
                    go_wp2_with fail
                    go_meet
                    case rel => exact h1.out
                  | true =>
                    obtain ⟨n3', n4'⟩ := n1 hh
                    rw [n3'] at c1
                    by_cases hs : sumOf k Z = S
                    · obtain ⟨z1, z2⟩ := learn_good (k := k) (Z := Z) (S := S) (fun _ => hs) q
                      have h1 : Hid ((Value.int .i64 0 = .int .i64 (learnE 0 k Z S : Nat)) ∧ (Value.int .i64 (M : Int) = .int .i64 (many (learned 0 k Z S q) : Nat)) ∧ ∃ vs', Hid (Mk ((w9.setCell ⟨gk, Z, none⟩ (.int .i64 S)).setCell ⟨gp, Z, none⟩ (.slice x q.length c)) w1.heap.size gk gp F (learned 0 k Z S q) vs') ∧ Hid (Pt ((w9.setCell ⟨gk, Z, none⟩ (.int .i64 S)).setCell ⟨gp, Z, none⟩ (.slice x q.length c)) w1.heap.size gt F root k) ∧ Hid (Row ((w9.setCell ⟨gk, Z, none⟩ (.int .i64 S)).setCell ⟨gp, Z, none⟩ (.slice x q.length c)) x q.length c (ints q)) ∧ Hid (Below w1.heap.size w1 ((w9.setCell ⟨gk, Z, none⟩ (.int .i64 S)).setCell ⟨gp, Z, none⟩ (.slice x q.length c)))) := by
                        refine ⟨by rw [z1]; rfl, ?_, vs.set Z (.slice x q.length c), by rw [z2]; exact mput, pput, rput, bput⟩
                        rw [z2, hms, hh, if_pos rfl, HMa.out]
                      generalize sumOf k Z = SO at c1 n4' hs
                      have y6 : (SO != S) = false := by rw [hs]; simp
                      have y7 : SO ≥ 0 := n4'
                      have y8 : ¬ SO < 0 := by omega
                      clear hbad z1 z2 n1 n2 n3' mput pput rput bput hms hh c2 f2 v1 b9 HR9 HA9 HP9 HM9 hu hs
                      go_wp2_with fail
                      go_meet
                      case rel => exact h1.out
                    · obtain ⟨z1, z2⟩ := learn_clash hh hs q
                      have h1 : Hid ((Value.int .i64 7 = .int .i64 (learnE 0 k Z S : Nat)) ∧ (Value.int .i64 (M : Int) = .int .i64 (many (learned 0 k Z S q) : Nat)) ∧ ∃ vs', Hid (Mk w9 w1.heap.size gk gp F (learned 0 k Z S q) vs') ∧ Hid (Pt w9 w1.heap.size gt F root k) ∧ Hid (Row w9 x q.length c (ints q)) ∧ Hid (Below w1.heap.size w1 w9)) :=
                        ⟨by rw [z1]; rfl, by rw [z2, HMa.out], vs, by rw [z2]; exact HM9.out, HP9.out, HR9.out, HB9.out⟩
                      generalize sumOf k Z = SO at c1 n4' hs
                      have y6 : (SO != S) = true := by rw [bne_iff_ne]; exact hs
                      have y7 : SO ≥ 0 := n4'
                      clear hbad z1 z2 n1 n2 n3' mput pput rput bput hms hh c2 f2 c2' f2' v1 b9 HR9 HA9 HP9 HM9 hu hs
                      go_wp2_with fail
                      go_meet
                      case rel => exact h1.out
              obtain ⟨rfl, rfl, vs', HM9, HP9, HR9, HB9⟩ := hcut
              rename World => w9
              have cL := WalkPrLearn.learn_any HP9.out AT S q x q.length c HR9.out HQl.out
              rw [hkl, HC.out] at cL
              obtain ⟨E1, HE1⟩ : ∃ E1, Hid (learnE C k AT S = E1) := ⟨_, rfl⟩
              obtain ⟨k1, Hk1⟩ : ∃ k1, Hid (learned C k AT S q = k1) := ⟨_, rfl⟩
              have hk1 : k1.length = j := by rw [← Hk1.out, learned_length, hkl]
              rw [HE1.out, Hk1.out] at cL ⊢
              rw [Hk1.out] at HM9
              clear HR9
              go_wp2_with fail
              refine cL.mono ?_
              rintro e wa ⟨rfl, Fa, pa, ka, na⟩
              have HBa : Hid (Below w1.heap.size w1 wa) := ends HB9.out HP9.out ka
              have HMa2 : Hid (Mk wa w1.heap.size gk gp Fa k1 vs') := HM9.out.kept ka (fun _ z => z) na
              have HPa : Hid (Pt wa w1.heap.size gt Fa root k1) := pa
              have cE := HEr.out E1 wa HBa.out
              clear cL pa ka na HM9 HP9 HB9
              go_wp2_with fail
              refine cE.mono ?_
              rintro e wb ⟨rfl, bb⟩
              have HBb : Hid (Below w1.heap.size w1 wb) := bt HBa.out bb
              have HMb : Hid (Mk wb w1.heap.size gk gp Fa k1 vs') := HMa2.out.below bb
              have HPb : Hid (Pt wb w1.heap.size gt Fa root k1) := HPa.out.below bb
              clear cE bb
              go_wp2_with fail
              go_meet
              case rel => exact ⟨rfl, Fa, k1, vs', rfl, hk1, HMb, HPb, HBb⟩
          obtain ⟨rfl, F', k', vs', rfl, hkl', HM, HP, HB⟩ := hcut
          rename World => w9
          have hM2 := many_le k'
          clear HM7 HP7 HB7 HD0 HGvs HMa HM200
          go_upto_if 230 with fail
          go_cut [11, 28, 29, 230] from 231 to 243 (fun ev sv qv _ wy => ev = .int .i64 (findE k' AT : Nat) ∧ sv = .int .i64 (knowsV k' AT) ∧ (∃ x c, qv = .slice x (proveV k' AT).length c ∧ Hid (Row wy x (proveV k' AT).length c (ints (proveV k' AT)))) ∧ w9 = wy)
          case first => as_aux_lemma =>
            cases I with
            | false =>
              obtain ⟨e1, e2, e3⟩ := WalkPr.known_out (k := k') (i := AT) (by rw [hkl']; exact of_decide_eq_false HI.out)
              have HE : Hid (findE k' AT = 1 ∧ knowsV k' AT = 0 ∧ proveV k' AT = []) := ⟨e1, e2, e3⟩
              clear e1 e2 e3
              rw [Bool.not_false]
              go_wp2_with fail
              go_meet
              case rel => exact ⟨by rw [HE.out.1]; rfl, by rw [HE.out.2.1], ⟨none, 0, by rw [HE.out.2.2]; rfl, by rw [HE.out.2.2]; exact Row.nil _ _ _⟩, rfl⟩
            | true =>
              have hA := of_decide_eq_true HI.out
              obtain ⟨Z, rfl⟩ := Int.eq_ofNat_of_zero_le hA.1
              have hZk : Z < k'.length := by omega
              obtain ⟨q1, q2⟩ := WalkPr.known_in hZk
              obtain ⟨c1, f1, v, v1, c2, f2⟩ := HM.out.sum hZk
              obtain ⟨n1, n2⟩ := HM.out.mark_neg Z
              have y4 : 0 ≤ (Z : Int) := by omega
              have y5 : (Z : Int) < (j : Int) := by omega
              rw [Bool.not_true]
              cases hh : Prunes.has k' Z with
              | false =>
                have HE : Hid (findE k' Z = 5 ∧ knowsV k' Z = 0 ∧ proveV k' Z = []) := q2 hh
                rw [n2 hh] at c1
                clear q1 q2 n1 n2 hh v1 c2 f2 hA
                go_wp2_with fail
                go_meet
                case rel => exact ⟨by rw [HE.out.1]; rfl, by rw [HE.out.2.1], ⟨none, 0, by rw [HE.out.2.2]; rfl, by rw [HE.out.2.2]; exact Row.nil _ _ _⟩, rfl⟩
              | true =>
                obtain ⟨n3', n4'⟩ := n1 hh
                rw [n3'] at c1
                obtain ⟨xq, cq, w1', w2', _⟩ := HM.out.told hh
                rw [v1] at w1'
                injection w1' with w1'
                subst w1'
                obtain ⟨e1, e2, e3⟩ := q1 hh
                have HE : Hid (findE k' Z = 0 ∧ knowsV k' Z = sumOf k' Z ∧ proveV k' Z = proofOf k' Z) := ⟨e1, e2, e3⟩
                have HR2 : Hid (Row w9 xq (proofOf k' Z).length cq (ints (proofOf k' Z))) := w2'
                obtain ⟨SO, HSO⟩ : ∃ SO, Hid (sumOf k' Z = SO) := ⟨_, rfl⟩
                rw [HSO.out] at c1 n4'
                obtain ⟨QO, HQO⟩ : ∃ QO, Hid ((proofOf k' Z).length = QO) := ⟨_, rfl⟩
                rw [HQO.out] at c2
                have y8 : ¬ SO < 0 := by omega
                clear q1 q2 n1 n2 n3' hh v1 hA e1 e2 e3 w2'
                go_wp2_with fail
                go_meet
                case rel => exact ⟨by rw [HE.out.1]; rfl, by rw [HE.out.2.1, HSO.out], ⟨xq, cq, by rw [HE.out.2.2, HQO.out], by rw [HE.out.2.2]; exact HR2.out⟩, rfl⟩
          obtain ⟨rfl, rfl, ⟨xq, cq, rfl, HRq⟩, rfl⟩ := hcut
          have hlong := HM.out.long AT
          have cK := WalkPr.knows_any HP.out AT
          have HPr : Hid (∀ w', Below w9.heap.size w9 w' → Calls Tryd.prog 19 #[.pointer (some ⟨gt, 0, none⟩), .int .i64 AT] w' fun e w'' => ∃ v, e = .returned (.tuple #[v, errv (findE k' AT)]) ∧ w''.ownsRow w'.heap.size 3 1 v (proveV k' AT).length (ints (proveV k' AT)) ∧ Below w'.heap.size w' w'') := fun w' b => WalkPr.prove_any (HP.out.below b) AT (by omega)
          obtain ⟨E2, HE2⟩ : ∃ E2, Hid (findE k' AT = E2) := ⟨_, rfl⟩
          obtain ⟨KV, HKV⟩ : ∃ KV, Hid (knowsV k' AT = KV) := ⟨_, rfl⟩
          obtain ⟨PV, HPV⟩ : ∃ PV, Hid (proveV k' AT = PV) := ⟨_, rfl⟩
          rw [HE2.out, HKV.out] at cK
          rw [HE2.out, HPV.out] at HPr
          rw [HPV.out] at HRq hlong
          rw [HE2.out, HKV.out, HPV.out]
          obtain ⟨MM, HMM⟩ : ∃ MM, Hid (many k' = MM) := ⟨_, rfl⟩
          rw [HMM.out] at hM2 ⊢
          go_wp2_with fail
          refine cK.mono ?_
          rintro e wc1 ⟨rfl, b1⟩
          have HBc1 : Hid (Below w9.heap.size w9 wc1) := b1
          have cE := HEr.out E2 wc1 (bt HB.out b1)
          clear cK b1
          go_wp2_with fail
          refine cE.mono ?_
          rintro e wc2 ⟨rfl, b2⟩
          have HBc2 : Hid (Below w9.heap.size w9 wc2) := bt HBc1.out b2
          clear cE b2
          go_wp2_with fail
          refine (HPr.out wc2 HBc2.out).mono ?_
          rintro e wc3 ⟨vy, rfl, o3, b3⟩
          have HBc3 : Hid (Below w9.heap.size w9 wc3) := bt HBc2.out b3
          obtain ⟨xy, cy, rfl, r3, _⟩ := owns_row o3
          have HRy : Hid (Row wc3 xy PV.length cy (ints PV)) := r3
          have cE := HEr.out E2 wc3 (bt HB.out HBc3.out)
          clear o3 b3 r3
          go_wp2_with fail
          refine cE.mono ?_
          rintro e wc4 ⟨rfl, b4⟩
          have HBc4 : Hid (Below w9.heap.size w9 wc4) := bt HBc3.out b4
          have cI := WalkInts.ints_any PV PV xy xq PV.length PV.length cy cq wc4 (HRy.out.below b4) (HRq.out.below HBc4.out) (by omega)
          rw [decide_eq_true rfl] at cI
          clear cE b4
          go_wp2_with fail
          refine cI.mono ?_
          rintro e wc5 ⟨rfl, b5⟩
          have HBc5 : Hid (Below w9.heap.size w9 wc5) := bt HBc4.out b5
          have cM := WalkPr.many_any (HP.out.below HBc5.out)
          rw [HMM.out] at cM
          have x1 : (KV != KV) = false := by simp
          have x2 : ((MM : Int) != (MM : Int)) = false := by simp
          clear cI b5
          go_wp2_with fail
          refine cM.mono ?_
          rintro e wc6 ⟨rfl, b6⟩
          have HBc6 : Hid (Below w9.heap.size w9 wc6) := bt HBc5.out b6
          clear cM b6
          go_wp2_with fail
          go_roundw
          case rel => exact ⟨i + 1, F', k', vs', by omega, by rw [HMM.out], by go_num, hkl', HM.out.below HBc6.out, HP.out.below HBc6.out, bt HB.out HBc6.out⟩
          case measure => simp [intOf]; omega

end Go.Proofs.YtlibjdkofajahaaDoor.WalkPrunePlays
