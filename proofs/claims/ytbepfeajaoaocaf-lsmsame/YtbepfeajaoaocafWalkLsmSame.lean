/-
  The walk of LsmSame: flushed or not, merged or not: what one can get is what a store would have.
-/
import Derived.Test.YtbepfeajaoaocafWalkLs
import Derived.Test.YtbepfeajaoaocafWalkSto
import Derived.Test.YtbepfeajaoaocafLsmSames
import Derived.Test.YtbepfeajaoaocafWalkPairsSame
import Derived.BigQuiet
import Derived.Deep.QuietTactic
import Derived.Deep.CutBlock
import Derived.Deep.DeepMust
import Derived.StillTail
namespace Go.Proofs.Ytbepfeajaoaocaf.WalkLsmSame
open Go.RowKit
open Lists (Row ints bt strs)
open Keeps (Kept owns_row owns_kept)
open Stores (Pair putE putL getE getV)
open WalkLs (Ls)
open WalkSto (St)
open Errs (errv errv0 errv_pos)
open Wides (Wide owns_wide)
open PairRows (cells cells_append)
open WalkPairsSame (aggP sizeP)
open Lsms (Lsm putted flushed merged flushE mergeE newE getLE getLV alive)
open LsmSames (Same pa)

theorem infoP : (Try.prog.info? 38).map (fun i => (i.zero, i.size, i.bytes)) = some (some (.agg #[.string ⟨#[]⟩, .string ⟨#[]⟩, .bool false]), 3, 40) := by kernel_rfl
theorem cell_three_new (w : World) (x y z : Value) (t : TypeId) : ∀ j u, [x, y, z][j]? = some u → (w.alloc (.cells #[x, y, z] t)).cell? ((⟨w.heap.size, 0, none⟩ : Addr).add j) = some u := by
  intro j u hj
  match j, hj with
  | 0, hj => simp at hj; subst hj; simp [Addr.add]
  | 1, hj => simp at hj; subst hj; simp [Addr.add]
  | 2, hj => simp at hj; subst hj; simp [Addr.add]
/-- an error held against none -/
theorem err_eql (E : Nat) (w : World) : (binOp .eql 26 (errv E) .nilIface).run Try.prog w = .ok (.bool (decide (E = 0))) w := by
  by_cases h : E = 0
  · subst h
    rw [errv0]
    kernel_rfl
  · rw [errv_pos _ h, decide_eq_false h]
    kernel_rfl
theorem err_guard (E : Nat) (x : Operand) (w : World) : (eqGuard .eql 26 x (.const .nilIface) (errv E) .nilIface).run Try.prog w = .ok () w := by
  by_cases h : E = 0
  · subst h
    rw [errv0]
    go_simp
  · rw [errv_pos _ h]
    go_simp
theorem below_drewN {B : Nat} {a w : World} (h : Below B a w) (n : Nat) : Below B a (w.drewN n) := ⟨h.os, h.tape, h.output, h.size, h.block⟩
/-- both objects, apart, and nothing old has turned -/
def Both (w0 : World) (b c : Nat) (x : Lsm) (s : List Pair) (w : World) : Prop := ∃ F G, Ls w w0.heap.size b F x ∧ St w w0.heap.size c G s ∧ (∀ k, F k → ¬ G k) ∧ Below w0.heap.size w0 w
theorem Both.below {w0 w w' : World} {b c : Nat} {x : Lsm} {s : List Pair} (h : Both w0 b c x s w) (k : Below w.heap.size w w') : Both w0 b c x s w' := by
  obtain ⟨F, G, h1, h2, h3, h4⟩ := h
  exact ⟨F, G, h1.kept (Kept.of_below (fun _ => False) k) fun _ _ q => q, h2.kept (Kept.of_below (fun _ => False) k) fun _ _ q => q, h3, bt h4 k⟩
/-- what a call on the first one leaves -/
theorem Both.lsm {w0 w w' : World} {b c : Nat} {x y : Lsm} {s : List Pair} {F G : Nat → Prop} (h1 : Ls w w0.heap.size b F x) (h2 : St w w0.heap.size c G s) (h3 : ∀ k, F k → ¬ G k) (h4 : Below w0.heap.size w0 w)
    (hy : ∃ F', Ls w' w0.heap.size b F' y ∧ ∀ k, F' k → F k ∨ w.heap.size ≤ k) (k : Kept F w w') : Both w0 b c y s w' := by
  obtain ⟨F', h5, h6⟩ := hy
  refine ⟨F', G, h5, h2.kept k fun i q r => h3 i r q, fun i q r => ?_, h4.trans (k.below (fun i q => (h1.foot i q).1) h4.size)⟩
  rcases h6 i q with q | q
  · exact h3 i q r
  · have := (h2.foot i r).2
    omega
/-- what a call on the other one leaves -/
theorem Both.sto {w0 w w' : World} {b c : Nat} {x : Lsm} {s t : List Pair} {F G : Nat → Prop} (h1 : Ls w w0.heap.size b F x) (h2 : St w w0.heap.size c G s) (h3 : ∀ k, F k → ¬ G k) (h4 : Below w0.heap.size w0 w)
    {G' : Nat → Prop} (h5 : St w' w0.heap.size c G' t) (k : Kept G w w') (h6 : ∀ k, G' k → G k ∨ w.heap.size ≤ k) : Both w0 b c x t w' := by
  refine ⟨F, G', h1.kept k h3, h5, fun i q r => ?_, h4.trans (k.below (fun i q => (h2.foot i q).1) h4.size)⟩
  rcases h6 i r with r | r
  · exact h3 i q r
  · have := (h1.foot i q).2
    omega

set_option maxHeartbeats 16000000 in
set_option maxRecDepth 100000 in
theorem walk (limit : Int) (_ : (Lit.int .i64 limit).wf = true) (ast : Option Addr) (nst capst : Nat) (st : List Int) (hzs : st.length * 8 ≤ 140737488351232) (_ : ∀ x ∈ st, (Lit.int .i64 x).wf = true)
    (a : Option Addr) (n cap : Nat) (l : List Pair) (hz : l.length * 40 ≤ 140737488351232) (hw : ∀ e ∈ l, e.key.size ≤ maxLen ∧ e.val.size ≤ maxLen) (w : World) (hrs : Row w ast nst capst (ints st)) (hr : Wide 3 w a n cap (cells l)) :
    Calls Try.prog 3 #[.int .i64 limit, .slice ast nst capst, .slice a n cap] w fun e w' => e = .returned (.bool true) ∧ Below w.heap.size w w' := by
  have hln := PairRows.len_of hr
  have HZ : Hid (∀ e ∈ l, e.key.size ≤ maxLen ∧ e.val.size ≤ maxLen) := hw
  have HR : Hid (Wide 3 w a n cap (cells l)) := hr
  have HRs : Hid (Row w ast nst capst (ints st)) := hrs
  have hn : n * 40 ≤ 140737488351232 := by omega
  have hls : st.length = nst := by have := hrs.1; rw [Lists.ints_length] at this; exact this
  have a26 := aggP
  have z26 := sizeP
  obtain ⟨i0, hi, hz0, hz1, hz2⟩ := info_parts infoP
  clear hr hw hz hrs
  go_enter Try.func3, Try.ntmps3
  go_wp2_with fail
  refine (WalkLs.new_any 1 _ w.heap.size (Nat.le_refl _)).mono ?_
  rintro e w1 ⟨v, rfl, hv, b1⟩
  obtain ⟨b0, F0, rfl, ls0, _⟩ := hv rfl
  rw [show newE 1 = 0 from rfl, errv0]
  have cP := WalkLs.put_any ls0 (by show 0 ≤ 10000; omega) ⟨#[97]⟩ ⟨#[120]⟩ (by show 1 ≤ maxLen; unfold maxLen; omega) (by show 1 ≤ maxLen; unfold maxLen; omega)
  rw [show putE (⟨(1 : Int).toNat, [], []⟩ : Lsm).young ⟨⟨#[97]⟩, ⟨#[120]⟩, false⟩ = 0 from LsmSames.one_put, errv0, show putted ⟨(1 : Int).toNat, [], []⟩ ⟨⟨#[97]⟩, ⟨#[120]⟩, false⟩ = ⟨1, [], [[pa]]⟩ from LsmSames.one_is] at cP
  clear hv
  go_wp2_with fail
  refine cP.mono ?_
  rintro e w2 ⟨rfl, ⟨F2, ls2, _⟩, k2⟩
  have hb : Below w.heap.size w w2 := b1.trans (k2.below (fun i q => (ls0.foot i q).1) b1.size)
  clear cP k2 ls0 b1
  have cY := WalkLs.young_any ls2
  rw [show ((⟨1, [], [[pa]]⟩ : Lsm).young.length : Int) = 0 from rfl] at cY
  go_wp2_with fail
  refine cY.mono ?_
  rintro e w3 ⟨rfl, b3⟩
  have ls3 := ls2.kept (Kept.of_below (fun _ => False) b3) fun _ _ q => q
  replace hb := bt hb b3
  clear cY b3 ls2
  have cT := WalkLs.tables_any ls3 (by show 1 ≤ 10000; omega)
  rw [show (⟨1, [], [[pa]]⟩ : Lsm).levels.length = 1 from rfl] at cT
  go_wp2_with fail
  refine cT.mono ?_
  rintro e w4 ⟨v, rfl, o4, b4⟩
  obtain ⟨a4, c4, rfl, _⟩ := owns_row o4
  have ls4 := ls3.kept (Kept.of_below (fun _ => False) b4) fun _ _ q => q
  replace hb := bt hb b4
  clear cT b4 o4 ls3
  have cG := WalkLs.get_any ls4 (by show 1 ≤ 10000; omega) ⟨#[97]⟩
  rw [LsmSames.one_get.1, LsmSames.one_get.2, errv0] at cG
  go_wp2_with fail
  refine cG.mono ?_
  rintro e w5 ⟨rfl, b5⟩
  replace hb := bt hb b5
  clear cG b5 ls4
  have q1 : (((⟨#[120]⟩ : ByteArray).toList) != [120]) = false := by decide +kernel
  go_wp2_with fail
  refine (WalkLs.new_any limit _ w.heap.size hb.size).mono ?_
  rintro e w6 ⟨v, rfl, hv, b6⟩
  replace hb := bt hb b6
  by_cases hl1 : limit < 1
  · rw [show newE limit = 1 from if_pos (.inl hl1), errv_pos 1 (by decide)]
    clear hv
    go_wp2_with fail
    go_ret
    exact ⟨rfl, hb⟩
  by_cases hl2 : 60 < limit
  · rw [show newE limit = 1 from if_pos (.inr hl2), errv_pos 1 (by decide)]
    clear hv
    go_wp2_with fail
    go_ret
    exact ⟨rfl, hb⟩
  have hE : newE limit = 0 := if_neg (by omega)
  rw [hE, errv0]
  obtain ⟨b, F, rfl, ls6, _⟩ := hv hE
  obtain ⟨m, rfl⟩ := Int.eq_ofNat_of_zero_le (show (0 : Int) ≤ limit by omega)
  clear hE hv b6 q1
  go_wp2_with fail
  refine (WalkSto.new_any _ w.heap.size hb.size).mono ?_
  rintro e w7 ⟨c, G, rfl, st7, hG, b7⟩
  have HB7 : Hid (∃ x s, Both w b c x s w7 ∧ Same m x s 0) := ⟨_, _, ⟨F, G, ls6.kept (Kept.of_below (fun _ => False) b7) (fun _ _ q => q), st7, fun k q r => by have := (ls6.foot k q).2; have := hG k r; omega, bt hb b7⟩, Same.start (by omega) (by omega)⟩
  clear hb b7 st7 hG ls6
  go_wp2_with fail
  go_loopw [13] (fun i wr => ∃ k : Nat, k ≤ n ∧ k ≤ 60 ∧ i = .int .i64 (k : Int) ∧ Hid (∃ x s, Both w b c x s wr ∧ Same m x s k)) (fun i _ => n - (intOf i).toNat)
  case atStart => exact ⟨0, Nat.zero_le _, Nat.zero_le _, rfl, HB7⟩
  case round =>
    obtain ⟨k, hk, hk6, rfl, HK⟩ := hrel
    clear HB7
    by_cases hlt : k < n ∧ k < 60
    · have j1 : (k : Int) < (n : Int) := by omega
      have j2 : (k : Int) < 60 := by omega
      have hkl : k < l.length := by omega
      obtain ⟨b1, off1, rfl, _⟩ := HR.out.2.2 (by omega)
      have hP := fun w2 (hb : Below w.heap.size w w2) => PairRows.at_three (HR.out.below hb) k hkl
      obtain ⟨hx0, hx1⟩ := HZ.out _ (List.getElem_mem hkl)
      generalize l[k] = x at hP hx0 hx1
      obtain ⟨x0, x1, x2⟩ := x
      simp only at hP hx0 hx1
      have HP : Hid (∀ w2, Below w.heap.size w w2 → w2.cell? ⟨b1, off1 + k * 3, none⟩ = some (.string x0) ∧ w2.cell? ⟨b1, off1 + k * 3 + 1, none⟩ = some (.string x1) ∧ w2.cell? ⟨b1, off1 + k * 3 + 2, none⟩ = some (.bool x2)) := hP
      obtain ⟨x, s, hB, hS⟩ := HK.out
      have HBt : Hid (Both w b c x s wr) := hB
      have HSm : Hid (Same m x s k) := hS
      obtain ⟨p0, p1, p2⟩ := hP wr (by obtain ⟨_, _, _, _, _, h⟩ := hB; exact h)
      clear hkl hP hB hS HK
      go_upto_if 84 with fail
      go_cut [14, 15] from 80 to 122 (fun e f wc => ∃ E x' s', e = errv E ∧ f = errv E ∧ Both w b c x' s' wc ∧ Same m x' s' (k + 1))
      case first => as_aux_lemma =>
        have hsz := HSm.out.size
        cases x2
        · go_upto_region 18 with fail
          refine wp_region_still_tail 11 (by kernel_rfl) (by kernel_rfl) ?_
          rw [show ({ wr with drawn := wr.drawn + 1 } : World) = wr.drew from rfl]
          simp only [List.take_succ_cons, List.take_zero, List.drop_succ_cons, List.drop_zero]
          repeat still_step
          refine wpStill_nil ?_
          have hB1 := HBt.out.below ((Below.refl _ wr).drew)
          clear HBt p0 p1 p2
          generalize wr.drew = wd at hB1 ⊢
          obtain ⟨F1, G1, l1, s1, d1, bb1⟩ := hB1
          have cL := WalkLs.put_any l1 (by omega) x0 x1 hx0 hx1
          go_wp2_with fail
          refine cL.mono ?_
          rintro e w8 ⟨rfl, hy, k8⟩
          have hB2 := Both.lsm l1 s1 d1 bb1 hy k8
          obtain ⟨p0, p1, p2⟩ := HP.out w8 (by obtain ⟨_, _, _, _, _, h⟩ := hB2; exact h)
          clear cL hy k8 l1 s1 d1 bb1
          rw [HSm.out.err (by omega) ⟨x0, x1, false⟩]
          go_upto_region 19 with fail
          refine wp_region_still_tail 11 (by kernel_rfl) (by kernel_rfl) ?_
          rw [show ({ w8 with drawn := w8.drawn + 1 } : World) = w8.drew from rfl]
          simp only [List.take_succ_cons, List.take_zero, List.drop_succ_cons, List.drop_zero]
          repeat still_step
          refine wpStill_nil ?_
          have hB3 := hB2.below ((Below.refl _ w8).drew)
          clear hB2 p0 p1 p2
          generalize w8.drew = we at hB3 ⊢
          obtain ⟨F1, G1, l1, s1, d1, bb1⟩ := hB3
          have cS := WalkSto.put_any s1 x0 x1 hx0 hx1
          go_wp2_with fail
          refine cS.mono ?_
          rintro e w9 ⟨rfl, G', s9, k9, hG9⟩
          have hB4 := Both.sto l1 s1 d1 bb1 s9 k9 hG9
          clear cS s9 k9 hG9 l1 s1 d1 bb1
          go_wp2_with fail
          go_meet
          case rel => exact ⟨_, _, _, rfl, rfl, hB4, HSm.out.put (by omega) _⟩
        · obtain ⟨F1, G1, l1, s1, d1, bb1⟩ := HBt.out
          have cL := WalkLs.drop_any l1 (by omega) x0 hx0
          clear HBt
          go_wp2_with fail
          refine cL.mono ?_
          rintro e w8 ⟨rfl, hy, k8⟩
          have hB2 := Both.lsm l1 s1 d1 bb1 hy k8
          clear cL hy k8 l1 s1 d1 bb1 p0 p1 p2
          obtain ⟨p0, p1, p2⟩ := HP.out w8 (by obtain ⟨_, _, _, _, _, h⟩ := hB2; exact h)
          rw [HSm.out.err (by omega) ⟨x0, ⟨#[]⟩, true⟩]
          obtain ⟨F1, G1, l1, s1, d1, bb1⟩ := hB2
          have cS := WalkSto.drop_any s1 x0 hx0
          go_wp2_with fail
          refine cS.mono ?_
          rintro e w9 ⟨rfl, G', s9, k9, hG9⟩
          have hB4 := Both.sto l1 s1 d1 bb1 s9 k9 hG9
          clear cS s9 k9 hG9 l1 s1 d1 bb1
          go_wp2_with fail
          go_meet
          case rel => exact ⟨_, _, _, rfl, rfl, hB4, HSm.out.put (by omega) _⟩
      obtain ⟨E, x', s', rfl, rfl, hB, hS⟩ := hcut
      have HB1 : Hid (Both w b c x' s' wc) := hB
      have HS1 : Hid (Same m x' s' (k + 1)) := hS
      clear hB hS HBt HSm HP p0 p1 p2
      have g1 := err_eql E
      have g2 := err_guard E
      obtain ⟨B, HBo⟩ : ∃ B, Hid (decide (E = 0) = B) := ⟨_, rfl⟩
      rw [HBo.out] at g1
      have g3 : (B != B) = false := by cases B <;> rfl
      clear HBo
      go_wp2_with fail
      go_quiet (fail)
      have HB2 : Hid (Both w b c x' s' (wc.drewN nq)) := HB1.out.below (below_drewN (Below.refl _ _) nq)
      generalize wc.drewN nq = w8 at HB2 ⊢
      have hsz := HS1.out.size
      have hbw : Below w.heap.size w w8 := by obtain ⟨_, _, _, _, _, h⟩ := HB2.out; exact h
      have HSt : Hid (∀ h : k < nst, ∃ bs os z, ast = some ⟨bs, os, none⟩ ∧ ∀ w2, Below w.heap.size w w2 → w2.cell? ⟨bs, os + k, none⟩ = some (.int .i64 z)) := fun h => by
        obtain ⟨bs, os, he, _⟩ := HRs.out.2.2 (by omega)
        subst he
        exact ⟨bs, os, _, rfl, fun w2 b2 => (HRs.out.below b2).at k _ (Lists.ints_at (by omega))⟩
      clear g1 g2 g3 HB1 HR
      go_upto_region 22 with fail
      go_cut [138] from 128 to 137 (fun v wc => ∃ B : Bool, v = .bool B ∧ wc = w8)
      case first => as_aux_lemma =>
        by_cases hst : k < nst
        · obtain ⟨bs, os, z, rfl, hc⟩ := HSt.out hst
          have q0 := hc w8 hbw
          have q1 : (k : Int) < (nst : Int) := by omega
          clear hc HSt HRs
          go_wp2_with fail
          go_meet
          case rel => exact ⟨_, rfl, rfl⟩
        · have q1 : ¬ (k : Int) < (nst : Int) := by omega
          clear HSt HRs
          go_wp2_with fail
          go_meet
          case rel => exact ⟨_, rfl, rfl⟩
      obtain ⟨B, rfl, rfl⟩ := hcut
      go_upto_if 138 with fail
      go_cut [138] from 139 to 140 (fun _ wc => ∃ x'', Both w b c x'' s' wc ∧ Same m x'' s' (k + 1))
      case first => as_aux_lemma =>
        cases B
        · go_wp2_with fail
          go_meet
          case rel => exact ⟨_, HB2.out, HS1.out⟩
        · obtain ⟨F1, G1, l1, s1, d1, bb1⟩ := HB2.out
          have cF := WalkLs.flush_any l1 (by omega)
          clear HB2
          go_wp2_with fail
          refine cF.mono ?_
          rintro e w9 ⟨rfl, hy, k9⟩
          have hB4 := Both.lsm l1 s1 d1 bb1 hy k9
          clear cF hy k9 l1 s1 d1 bb1
          go_wp2_with fail
          go_meet
          case rel => exact ⟨_, hB4, HS1.out.flush⟩
      obtain ⟨y, hB, hS⟩ := hcut
      have HB3 : Hid (Both w b c y s' wc) := hB
      have HS3 : Hid (Same m y s' (k + 1)) := hS
      have hsz3 := hS.size
      have hbw3 : Below w.heap.size w wc := by obtain ⟨_, _, _, _, _, h⟩ := hB; exact h
      clear hB hS HB2 HS1 hbw hsz
      go_upto_region 24 with fail
      go_cut [151] from 141 to 150 (fun v wd => ∃ B : Bool, v = .bool B ∧ wd = wc)
      case first => as_aux_lemma =>
        by_cases hst : k < nst
        · obtain ⟨bs, os, z, rfl, hc⟩ := HSt.out hst
          have q0 := hc wc hbw3
          have q1 : (k : Int) < (nst : Int) := by omega
          clear hc HSt HRs
          go_wp2_with fail
          go_meet
          case rel => exact ⟨_, rfl, rfl⟩
        · have q1 : ¬ (k : Int) < (nst : Int) := by omega
          clear HSt HRs
          go_wp2_with fail
          go_meet
          case rel => exact ⟨_, rfl, rfl⟩
      obtain ⟨B2, rfl, rfl⟩ := hcut
      clear HSt hbw3
      go_upto_if 151 with fail
      go_cut [151] from 152 to 153 (fun _ we => ∃ x'', Both w b c x'' s' we ∧ Same m x'' s' (k + 1))
      case first => as_aux_lemma =>
        cases B2
        · go_wp2_with fail
          go_meet
          case rel => exact ⟨_, HB3.out, HS3.out⟩
        · obtain ⟨F1, G1, l1, s1, d1, bb1⟩ := HB3.out
          have cF := WalkLs.merge_any l1 (by omega)
          clear HB3
          go_wp2_with fail
          refine cF.mono ?_
          rintro e w9 ⟨rfl, hy, k9⟩
          have hB4 := Both.lsm l1 s1 d1 bb1 hy k9
          clear cF hy k9 l1 s1 d1 bb1
          go_wp2_with fail
          go_meet
          case rel => exact ⟨_, hB4, HS3.out.merge⟩
      obtain ⟨z, hB, hS⟩ := hcut
      clear HB3 HS3 hsz3
      have hsz := hS.size
      have hsm := hS.good.small
      have hfe := hS.good.few
      rw [hS.limit] at hsm
      obtain ⟨F1, G1, l1, s1, d1, bb1⟩ := hB
      have cY := WalkLs.young_any l1
      go_wp2_with fail
      refine cY.mono ?_
      rintro e wy ⟨rfl, by1⟩
      have hB5 := (show Both w b c z s' _ from ⟨F1, G1, l1, s1, d1, bb1⟩).below by1
      clear cY by1 l1 s1 d1 bb1
      have t1 : ¬ ((m : Int) ≤ (z.young.length : Int)) := by omega
      obtain ⟨F1, G1, l1, s1, d1, bb1⟩ := hB5
      have cT := WalkLs.tables_any l1 (by omega)
      generalize (z.young.length : Int) = YL at t1
      go_wp2_with fail
      refine cT.mono ?_
      rintro e wt ⟨v, rfl, ot, bt1⟩
      obtain ⟨at1, ct1, rfl, _⟩ := owns_row ot
      have HB6 : Hid (∃ x s, Both w b c x s wt ∧ Same m x s (k + 1)) := ⟨z, s', (show Both w b c z s' _ from ⟨F1, G1, l1, s1, d1, bb1⟩).below bt1, hS⟩
      have t2 : ¬ ((8 : Int) < (z.levels.length : Int)) := by omega
      clear cT ot bt1 l1 s1 d1 bb1 hS hsz hsm
      generalize z.levels.length = ZL at t2 hfe
      go_wp2_with fail
      go_roundw
      case rel => exact ⟨k + 1, by omega, by omega, by go_num, HB6⟩
      case measure => simp [intOf]; omega
    · obtain ⟨x, s, hB, hS⟩ := HK.out
      have j1 : ¬ ((k : Int) < (n : Int) ∧ (k : Int) < 60) := by omega
      have hsz := hS.size
      clear HK HR HRs HZ
      obtain ⟨F1, G1, l1, s1, d1, bb1⟩ := hB
      have cA := WalkSto.all_any s1
      by_cases hkn : k < n
      all_goals
        first | have t1 : (k : Int) < (n : Int) := by omega | have t1 : ¬ (k : Int) < (n : Int) := by omega
        try have t2 : ¬ (k : Int) < 60 := by omega
        clear j1 hlt hkn
        go_wp2_with fail
      all_goals
        refine cA.mono ?_
        rintro e w8 ⟨v, rfl, o8, b8⟩
        obtain ⟨a8, c8, rfl, r8⟩ := owns_wide o8
        have HLs : Hid (∀ w2, Below w8.heap.size w8 w2 → ∃ F, Ls w2 w.heap.size b F x) := fun w2 k2 => ⟨F1, l1.kept (Kept.of_below (fun _ => False) (bt b8 k2)) fun _ _ q => q⟩
        have HSt : Hid (∀ w2, Below w8.heap.size w8 w2 → ∃ G, St w2 w.heap.size c G s) := fun w2 k2 => ⟨G1, s1.kept (Kept.of_below (fun _ => False) (bt b8 k2)) fun _ _ q => q⟩
        have HR8 : Hid (Wide 3 w8 a8 s.length c8 (cells s)) := r8
        have HB8 : Hid (Below w.heap.size w w8) := bt bb1 b8
        have hsl := hS.len
        clear cA o8 r8 l1 s1 d1 bb1 b8 t1
        go_wp2_with fail
        go_loopw [16, 18] (fun v i wr => ∃ j : Nat, j ≤ s.length ∧ i = .int .i64 (j : Int) ∧ Hid (wr.ownsRow w8.heap.size 38 3 v (alive (s.take j)).length (cells (alive (s.take j)))) ∧ Hid (Below w8.heap.size w8 wr)) (fun _ i _ => s.length - (intOf i).toNat)
        case atStart => exact ⟨0, Nat.zero_le _, rfl, World.ownsRow_nil _ _ _ _, Below.refl _ _⟩
        case round =>
          obtain ⟨j, hj, rfl, HO, HB⟩ := hrel
          by_cases hlt2 : j < s.length
          · have i1 : (j : Int) < (s.length : Int) := by omega
            obtain ⟨b9, off9, rfl, _⟩ := HR8.out.2.2 (by omega)
            have HP : Hid (∀ w2, Below w8.heap.size w8 w2 → w2.cell? ⟨b9, off9 + j * 3, none⟩ = some (.string (s[j]).key) ∧ w2.cell? ⟨b9, off9 + j * 3 + 1, none⟩ = some (.string (s[j]).val) ∧ w2.cell? ⟨b9, off9 + j * 3 + 2, none⟩ = some (.bool (s[j]).gone)) := fun w2 k2 => PairRows.at_three (HR8.out.below k2) j hlt2
            have hks : (s[j]).key.size ≤ maxLen := by have := hS.keys _ (List.getElem_mem hlt2); unfold maxLen; omega
            have HN : Hid (alive (s.take (j + 1)) = alive (s.take j) ++ (if (s[j]).gone = true then [] else [s[j]])) := Lsms.alive_next hlt2
            have hal := LsmSames.alive_le s j
            generalize s[j] = y at HP hks HN
            obtain ⟨y0, y1, y2⟩ := y
            simp only at HP hks HN
            obtain ⟨p0, p1, p2⟩ := HP.out _ HB.out
            go_upto_if 177 with fail
            go_cut [16] from 172 to 184 (fun v wc => Hid (wc.ownsRow w8.heap.size 38 3 v (alive (s.take (j + 1))).length (cells (alive (s.take (j + 1))))) ∧ Hid (Below w8.heap.size w8 wc))
            case first => as_aux_lemma =>
              cases y2
              · have HN2 : Hid (alive (s.take (j + 1)) = alive (s.take j) ++ [⟨y0, y1, false⟩]) := HN.out
                clear HN
                go_wp2_with (at_builtin; go_must (refine wpList_append_own _ rfl (.tmp 178) (.tmp 183) 23 rfl w8.heap.size 38 i0 (.agg #[.string ⟨#[]⟩, .string ⟨#[]⟩, .bool false]) 3 40 Try.underlying23 hi hz0 hz1 hz2 rfl (by decide) _ _ _ rfl (HO.out.alloc _) ⟨_, 0, none⟩ 1 1 [.string y0, .string y1, .bool false] rfl rfl (cell_three_new _ _ _ _ _) (fun u hu => by simp at hu; rcases hu with rfl | rfl | rfl <;> rfl) (by unfold maxLen; omega) (by omega) (by have := HB.out.size; simp; omega) ?_); intro v1 wn o1 g1 z1; clear z1)
                have HBN : Hid (Below w8.heap.size w8 wn) := (HB.out.alloc HB.out.size _).grown g1 (by have := HB.out.size; simp; omega) (fun k hk => (HO.out.lt k hk).1)
                have HON : Hid (wn.ownsRow w8.heap.size 38 3 v1 (alive (s.take (j + 1))).length (cells (alive (s.take (j + 1))))) := by
                  rw [HN2.out, cells_append, List.length_append]
                  exact o1
                clear g1 o1
                go_wp2_with fail
                go_meet
                case rel => exact ⟨HON, HBN⟩
              · have HN2 : Hid (alive (s.take (j + 1)) = alive (s.take j)) := by show _ = _; rw [HN.out]; simp
                clear HN
                go_wp2_with fail
                go_meet
                case rel => exact ⟨by show Hid _; rw [HN2.out]; exact HO, HB⟩
            obtain ⟨HO2, HB2⟩ := hcut
            clear p0 p1 p2 HO HB HN
            obtain ⟨p0, p1, p2⟩ := HP.out _ HB2.out
            obtain ⟨F3, l3⟩ := HLs.out _ HB2.out
            have cG := WalkLs.get_any l3 (by omega) y0
            rw [(hS.get y0).1, (hS.get y0).2] at cG
            clear l3
            go_wp2_with fail
            refine cG.mono ?_
            rintro e wg ⟨rfl, bg⟩
            have HBg : Hid (Below w8.heap.size w8 wg) := bt HB2.out bg
            have HOg : Hid (wg.ownsRow w8.heap.size 38 3 u16 (alive (s.take (j + 1))).length (cells (alive (s.take (j + 1))))) := owns_kept HO2.out (Kept.of_below (fun _ => False) bg) fun _ _ q => q
            clear cG bg p0 p1 p2 HB2 HO2
            obtain ⟨p0, p1, p2⟩ := HP.out _ HBg.out
            obtain ⟨G3, s3⟩ := HSt.out _ HBg.out
            have cH := WalkSto.get_any s3 y0 hks
            clear s3
            go_wp2_with fail
            refine cH.mono ?_
            rintro e wh ⟨rfl, bh⟩
            have HBh : Hid (Below w8.heap.size w8 wh) := bt HBg.out bh
            have HOh : Hid (wh.ownsRow w8.heap.size 38 3 u16 (alive (s.take (j + 1))).length (cells (alive (s.take (j + 1))))) := owns_kept HOg.out (Kept.of_below (fun _ => False) bh) fun _ _ q => q
            clear cH bh p0 p1 p2 HBg HOg HP hks hal
            have g4 : ((getV s y0).toList != (getV s y0).toList) = false := by rw [bne, beq_self_eq_true]; rfl
            generalize getV s y0 = V2 at g4
            generalize getE s y0 = E2
            have g1 := err_eql E2
            have g2 := err_guard E2
            obtain ⟨B, HBo⟩ : ∃ B, Hid (decide (E2 = 0) = B) := ⟨_, rfl⟩
            rw [HBo.out] at g1
            have g3 : (B != B) = false := by cases B <;> rfl
            clear HBo
            go_wp2_with fail
            go_quiet (fail)
            have HBq : Hid (Below w8.heap.size w8 (wh.drewN nq)) := below_drewN HBh.out nq
            have HOq : Hid ((wh.drewN nq).ownsRow w8.heap.size 38 3 u16 (alive (s.take (j + 1))).length (cells (alive (s.take (j + 1))))) := owns_kept HOh.out (Kept.of_below (fun _ => False) (below_drewN (Below.refl _ _) nq)) fun _ _ q => q
            generalize wh.drewN nq = wq at HBq HOq ⊢
            clear HBh HOh g1 g2 g3 g4
            go_wp2_with fail
            go_roundw
            case rel => exact ⟨j + 1, by omega, by go_num, HOq, HBq⟩
            case measure => simp [intOf]; omega
          · have i1 : ¬ (j : Int) < (s.length : Int) := by omega
            obtain rfl : j = s.length := by omega
            have hO := HO.out
            rw [LsmSames.alive_all] at hO
            have hal := LsmSames.alive_le s s.length
            rw [LsmSames.alive_all] at hal
            obtain ⟨a9, c9, rfl, r9⟩ := owns_wide hO
            have HR9 : Hid (Wide 3 wr a9 (alive s).length c9 (cells (alive s))) := r9
            obtain ⟨F3, l3⟩ := HLs.out _ HB.out
            have cX := WalkLs.all_any l3 (by omega)
            rw [hS.all] at cX
            clear l3 hO r9 HO
            go_wp2_with fail
            refine cX.mono ?_
            rintro e wx ⟨v, rfl, ox, bx⟩
            obtain ⟨ax, cx, rfl, rx⟩ := owns_wide ox
            have cE := WalkPairsSame.pairs_same (alive s) ax a9 (alive s).length cx c9 wx rx (HR9.out.below bx) (by omega)
            have HBx : Hid (Below w.heap.size w wx) := bt HB8.out (bt HB.out bx)
            clear cX ox rx bx HR9
            go_wp2_with fail
            refine cE.mono ?_
            rintro e wz ⟨rfl, bz⟩
            have HBz : Hid (Below w.heap.size w wz) := bt HBx.out bz
            clear cE bz HBx
            go_wp2_with fail
            go_ret
            exact ⟨rfl, HBz.out⟩

end Go.Proofs.Ytbepfeajaoaocaf.WalkLsmSame
