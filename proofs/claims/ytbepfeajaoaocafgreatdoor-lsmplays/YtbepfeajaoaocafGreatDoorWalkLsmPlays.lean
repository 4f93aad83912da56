/-
  The walk of LsmPlays: any keys that are put and dropped, flushed and merged between: what is refused, what is there, as which tables, are the document's.
-/
import Derived.Test.YtbepfeajaoaocafGreatDoorLsAll
import Derived.Test.YtbepfeajaoaocafGreatDoorPlains
import Derived.Test.YtbepfeajaoaocafGreatDoorWalkLPutRef
import Derived.Test.YtbepfeajaoaocafGreatDoorWalkTablesRef
import Derived.Test.YtbepfeajaoaocafGreatDoorWalkPairsSame
import Derived.Test.YtbepfeajaoaocafGreatDoorWalkTexts
import Derived.Test.YtbepfeajaoaocafGreatDoorWalkTold
import Derived.Deep.CutBlock
import Derived.Lib.QuietBelow
namespace Go.Proofs.YtbepfeajaoaocafGreatDoor.WalkLsmPlays
open Go.RowKit
open Lists (Row ints bt strs)
open Keeps (Kept owns_row owns_kept)
open Stores (Pair putE getE getV)
open WalkTold (Laid)
open WalkLs (Ls)
open LsmDoc (Dl In)
open WalkMergeRef (DL Stays)
open Errs (errv errv0 errv_pos)
open Wides (Wide owns_wide)
open PairRows (cells)
open WalkPairsSame (aggP sizeP)
open Lsms (Lsm putted flushed merged flushE mergeE newE getLE getLV total)
open LsmFines (Fine)
open Nums (str)
open Go.Sort (grow)

theorem error_same (e : Nat) (w : World) (hg : Laid w) : Calls Tryz.prog 11 #[errv e, .int .i64 (e : Int)] w fun r w' => r = .returned (.bool true) ∧ Below w.heap.size w w' := by
  have h := WalkTold.error_is e (e : Int) w hg
  rw [beq_self_eq_true] at h
  exact h
/-- both objects, apart, and nothing old has turned -/
def Two (w0 : World) (b g : Nat) (x y : Lsm) (w : World) : Prop := ∃ F D, Ls w w0.heap.size b F x ∧ DL w w0.heap.size g D y ∧ (∀ k, F k → ¬ D k) ∧ Below w0.heap.size w0 w
theorem Two.bel {w0 w : World} {b g : Nat} {x y : Lsm} (h : Two w0 b g x y w) : Below w0.heap.size w0 w := by
  obtain ⟨_, _, _, _, _, h⟩ := h
  exact h
theorem Two.below {w0 w w' : World} {b g : Nat} {x y : Lsm} (h : Two w0 b g x y w) (k : Below w.heap.size w w') : Two w0 b g x y w' := by
  obtain ⟨F, D, h1, ⟨yv, lv, vs, h2⟩, h3, h4⟩ := h
  exact ⟨F, D, h1.kept (Kept.of_below (fun _ => False) k) fun _ _ q => q, ⟨yv, lv, vs, h2.below k⟩, h3, bt h4 k⟩
/-- what a call on the first one leaves -/
theorem Two.lsm {w0 w w' : World} {b g : Nat} {x y z : Lsm} {F D : Nat → Prop} (h1 : Ls w w0.heap.size b F x) (h2 : DL w w0.heap.size g D y) (h3 : ∀ k, F k → ¬ D k) (h4 : Below w0.heap.size w0 w)
    (hz : ∃ F', Ls w' w0.heap.size b F' z ∧ ∀ k, F' k → F k ∨ w.heap.size ≤ k) (k : Kept F w w') : Two w0 b g z y w' := by
  obtain ⟨F', h5, h6⟩ := hz
  obtain ⟨yv, lv, vs, h7⟩ := h2
  refine ⟨F', D, h5, ⟨yv, lv, vs, h7.kept k fun i q r => h3 i r q⟩, fun i q r => ?_, h4.trans (k.below (fun i q => (h1.foot i q).1) h4.size)⟩
  rcases h6 i q with q | q
  · exact h3 i q r
  · have := (h7.foot i r).2
    omega
/-- what a call on the other one leaves -/
theorem Two.doc {w0 w w' : World} {b g : Nat} {x y z : Lsm} {F D : Nat → Prop} (h1 : Ls w w0.heap.size b F x) (h2 : DL w w0.heap.size g D y) (h3 : ∀ k, F k → ¬ D k) (h4 : Below w0.heap.size w0 w)
    (h5 : Stays w w' w0.heap.size g D z) : Two w0 b g x z w' := by
  obtain ⟨⟨D', h6, h7⟩, k⟩ := h5
  obtain ⟨yv, lv, vs, h8⟩ := h2
  refine ⟨F, D', h1.kept k fun i q r => ?_, h6, fun i q r => ?_, h4.trans (k.below (fun i q => by rw [q]; exact (h8.foot g h8.own).1) h4.size)⟩
  · rw [r] at q
    exact h3 g q h8.own
  · rcases h7 i r with r | r
    · exact h3 i q r
    · have := (h1.foot i q).2
      omega
/-- a pair's three cells -/
def prow (P : Pair) (j : Nat) : Value := if j = 0 then .string P.key else if j = 1 then .string P.val else .bool P.gone
/-- and the law's own variable -/
def Tri (w0 : World) (b g q : Nat) (P : Pair) (x y : Lsm) (w : World) : Prop := ∃ F D, Ls w w0.heap.size b F x ∧ DL w w0.heap.size g D y ∧ (∀ k, F k → ¬ D k) ∧ Below w0.heap.size w0 w ∧ w.rowIs q 44 3 (prow P) ∧ ¬ F q ∧ ¬ D q ∧ w0.heap.size ≤ q
theorem Tri.two {w0 w : World} {b g q : Nat} {P : Pair} {x y : Lsm} (h : Tri w0 b g q P x y w) : Two w0 b g x y w := by
  obtain ⟨F, D, h1, h2, h3, h4, _⟩ := h
  exact ⟨F, D, h1, h2, h3, h4⟩
theorem Tri.row {w0 w : World} {b g q : Nat} {P : Pair} {x y : Lsm} (h : Tri w0 b g q P x y w) : w.rowIs q 44 3 (prow P) := by
  obtain ⟨F, D, h1, h2, h3, h4, h5, _⟩ := h
  exact h5
theorem Tri.below {w0 w w' : World} {b g q : Nat} {P : Pair} {x y : Lsm} (h : Tri w0 b g q P x y w) (k : Below w.heap.size w w') : Tri w0 b g q P x y w' := by
  obtain ⟨F, D, h1, ⟨yv, lv, vs, h2⟩, h3, h4, h5, h6⟩ := h
  exact ⟨F, D, h1.kept (Kept.of_below (fun _ => False) k) fun _ _ q => q, ⟨yv, lv, vs, h2.below k⟩, h3, bt h4 k, h5.of_block (k.block _ h5.lt), h6⟩
theorem Tri.new {w0 w : World} {b g : Nat} {x y : Lsm} (h : Two w0 b g x y w) (P : Pair) : Tri w0 b g w.heap.size P x y (w.alloc (.cells #[.string P.key, .string P.val, .bool P.gone] 44)) := by
  obtain ⟨F, D, h1, ⟨yv, lv, vs, h2⟩, h3, h4⟩ := h
  have k : Below w.heap.size w (w.alloc (.cells #[.string P.key, .string P.val, .bool P.gone] 44)) := (Below.refl _ _).alloc (Nat.le_refl _) _
  refine ⟨F, D, h1.kept (Kept.of_below (fun _ => False) k) fun _ _ q => q, ⟨yv, lv, vs, h2.below k⟩, h3, bt h4 k, World.rowIs_alloc _ _ _ _ (fun j hj => by match j, hj with | 0, _ | 1, _ | 2, _ => rfl | j + 3, h => simp at h; omega), fun q => ?_, fun q => ?_, h4.size⟩
  · have := (h1.foot _ q).2
    omega
  · have := (h2.foot _ q).2
    omega
theorem Tri.set {w0 w w' : World} {b g q : Nat} {P Q : Pair} {x y : Lsm} (h : Tri w0 b g q P x y w) (k : Kept (fun i => i = q) w w') (hr : w'.rowIs q 44 3 (prow Q)) : Tri w0 b g q Q x y w' := by
  obtain ⟨F, D, h1, ⟨yv, lv, vs, h2⟩, h3, h4, h5, h6, h7, h8⟩ := h
  exact ⟨F, D, h1.kept k fun i a b => h6 (by rw [← b]; exact a), ⟨yv, lv, vs, h2.kept k fun i a b => h7 (by rw [← b]; exact a)⟩, h3, h4.trans (k.below (fun i a => by rw [a]; exact h8) h4.size), hr, h6, h7, h8⟩
theorem Tri.lsm {w0 w w' : World} {b g q : Nat} {P : Pair} {x y z : Lsm} {F D : Nat → Prop} (h1 : Ls w w0.heap.size b F x) (h2 : DL w w0.heap.size g D y) (h3 : ∀ k, F k → ¬ D k) (h4 : Below w0.heap.size w0 w) (h5 : w.rowIs q 44 3 (prow P)) (h6 : ¬ F q) (h7 : ¬ D q) (h8 : w0.heap.size ≤ q)
    (hz : ∃ F', Ls w' w0.heap.size b F' z ∧ ∀ k, F' k → F k ∨ w.heap.size ≤ k) (k : Kept F w w') : Tri w0 b g q P z y w' := by
  obtain ⟨F', e5, e6⟩ := hz
  obtain ⟨yv, lv, vs, e7⟩ := h2
  refine ⟨F', D, e5, ⟨yv, lv, vs, e7.kept k fun i a r => h3 i r a⟩, fun i a r => ?_, h4.trans (k.below (fun i a => (h1.foot i a).1) h4.size), h5.of_block (k.block _ h5.lt h6), fun a => ?_, h7, h8⟩
  · rcases e6 i a with a | a
    · exact h3 i a r
    · have := (e7.foot i r).2
      omega
  · rcases e6 q a with a | a
    · exact h6 a
    · have := h5.lt
      omega
theorem Tri.doc {w0 w w' : World} {b g q : Nat} {P : Pair} {x y z : Lsm} {F D : Nat → Prop} (h1 : Ls w w0.heap.size b F x) (h2 : DL w w0.heap.size g D y) (h3 : ∀ k, F k → ¬ D k) (h4 : Below w0.heap.size w0 w) (h5 : w.rowIs q 44 3 (prow P)) (h6 : ¬ F q) (h7 : ¬ D q) (h8 : w0.heap.size ≤ q)
    (hz : Stays w w' w0.heap.size g D z) : Tri w0 b g q P x z w' := by
  obtain ⟨⟨D', e6, e7⟩, k⟩ := hz
  obtain ⟨yv, lv, vs, e8⟩ := h2
  have hq : q ≠ g := fun e => h7 (by rw [e]; exact e8.own)
  refine ⟨F, D', h1.kept k fun i a r => ?_, e6, fun i a r => ?_, h4.trans (k.below (fun i a => by rw [a]; exact (e8.foot g e8.own).1) h4.size), h5.of_block (k.block _ h5.lt hq), h6, fun a => ?_, h8⟩
  · rw [r] at a
    exact h3 g a e8.own
  · rcases e7 i r with r | r
    · exact h3 i a r
    · have := (h1.foot i a).2
      omega
  · rcases e7 q a with a | a
    · exact h7 a
    · have := h5.lt
      omega
/-- the document's one, new -/
theorem doc_new (w : World) (B m : Nat) (hB : B ≤ w.heap.size) : DL (w.alloc (.cells #[.int .i64 (m : Int), .slice none 0 0, .slice none 0 0] 42)) B w.heap.size (fun k => k = w.heap.size) ⟨m, [], []⟩ :=
  ⟨.slice none 0 0, .slice none 0 0, [], fun k q => by rw [q]; simp; omega, rfl, World.rowIs_alloc _ _ _ _ (fun j hj => by match j, hj with | 0, _ | 1, _ | 2, _ => rfl | j + 3, h => simp at h; omega), LsmRows.PRow.nil _, In.nil _ _, ⟨none, 0, rfl, Row.nil _ _ _, fun _ => ⟨rfl, rfl⟩⟩, In.nil _ _, LsmRows.LRows.nil _, fun v hv => by cases hv⟩

set_option maxHeartbeats 16000000 in
set_option maxRecDepth 100000 in
theorem walk (limit : Int) (_ : (Lit.int .i64 limit).wf = true) (ast : Option Addr) (nst capst : Nat) (st : List Int) (hzs : st.length * 8 ≤ 140737488351232) (_ : ∀ x ∈ st, (Lit.int .i64 x).wf = true)
    (a : Option Addr) (n cap : Nat) (l : List Pair) (hz : l.length * 40 ≤ 140737488351232) (hw : ∀ e ∈ l, e.key.size ≤ maxLen ∧ e.val.size ≤ maxLen) (w : World) (hrs : Row w ast nst capst (ints st)) (hr : Wide 3 w a n cap (cells l)) (hL : Laid w) :
    Calls Tryz.prog 4 #[.int .i64 limit, .slice ast nst capst, .slice a n cap] w fun e w' => e = .returned (.bool true) ∧ Below w.heap.size w w' := by
  have hln := PairRows.len_of hr
  have HZ : Hid (∀ e ∈ l, e.key.size ≤ maxLen ∧ e.val.size ≤ maxLen) := hw
  have HR : Hid (Wide 3 w a n cap (cells l)) := hr
  have HRs : Hid (Row w ast nst capst (ints st)) := hrs
  have hn : n * 40 ≤ 140737488351232 := by omega
  have hls : st.length = nst := by have := hrs.1; rw [Lists.ints_length] at this; exact this
  have a26 := aggP
  have z26 := sizeP
  have HErr : Hid (∀ (e : Nat) (w1 : World), Below w.heap.size w w1 → Calls Tryz.prog 11 #[errv e, .int .i64 (e : Int)] w1 fun r w' => r = .returned (.bool true) ∧ Below w1.heap.size w1 w') := fun e w1 b => error_same e w1 (hL.below b)
  clear hr hw hz hrs hL
  go_enter Tryz.func4, Tryz.ntmps4
  go_upto_region 2 with fail
  by_cases hl1 : limit < 1
  · have hE : newE limit = 1 := if_pos (.inl hl1)
    go_wp2_with fail
    refine (WalkLs.new_any limit _ w.heap.size (Nat.le_refl _)).mono ?_
    rintro e w1 ⟨v, rfl, _, b1⟩
    rw [hE]
    go_wp2_with fail
    refine (HErr.out 1 _ b1).mono ?_
    rintro e w2 ⟨rfl, b2⟩
    go_wp2_with fail
    go_ret
    exact ⟨rfl, bt b1 b2⟩
  by_cases hl2 : 60 < limit
  · have hE : newE limit = 1 := if_pos (.inr hl2)
    go_wp2_with fail
    refine (WalkLs.new_any limit _ w.heap.size (Nat.le_refl _)).mono ?_
    rintro e w1 ⟨v, rfl, _, b1⟩
    rw [hE]
    go_wp2_with fail
    refine (HErr.out 1 _ b1).mono ?_
    rintro e w2 ⟨rfl, b2⟩
    go_wp2_with fail
    go_ret
    exact ⟨rfl, bt b1 b2⟩
  have hE : newE limit = 0 := if_neg (by omega)
  go_wp2_with fail
  refine (WalkLs.new_any limit _ w.heap.size (Nat.le_refl _)).mono ?_
  rintro e w1 ⟨v, rfl, hv, b1⟩
  rw [hE]
  obtain ⟨b, F, rfl, ls1, _⟩ := hv hE
  obtain ⟨m, rfl⟩ := Int.eq_ofNat_of_zero_le (show (0 : Int) ≤ limit by omega)
  clear hv hE
  go_wp2_with fail
  refine (HErr.out 0 _ b1).mono ?_
  rintro e w2 ⟨rfl, b2⟩
  have ls2 := ls1.kept (Kept.of_below (fun _ => False) b2) fun _ _ q => q
  have hb2 := bt b1 b2
  have HT : Hid (Two w b w2.heap.size ⟨m, [], []⟩ ⟨m, [], []⟩ (w2.alloc (.cells #[.int .i64 (m : Int), .slice none 0 0, .slice none 0 0] 42))) := ⟨F, _, ls2.kept (Kept.of_below (fun _ => False) ((Below.refl _ w2).alloc (Nat.le_refl _) _)) (fun _ _ q => q), doc_new w2 w.heap.size m hb2.size, fun k q r => by have := (ls2.foot k q).2; omega, hb2.alloc hb2.size _⟩
  clear ls1 ls2 b1 b2 hb2
  go_upto_region 9 with fail
  generalize w2.alloc (.cells #[.int .i64 (m : Int), .slice none 0 0, .slice none 0 0] 42) = w3 at HT ⊢
  generalize w2.heap.size = g at HT ⊢
  have HF0 : Hid (Fine m ⟨m, [], []⟩ 0) := Fine.start (by omega) (by omega)
  go_wp2_with fail
  go_loopw [12] (fun i wr => ∃ k : Nat, k ≤ nst ∧ k ≤ 80 ∧ i = .int .i64 (k : Int) ∧ Hid (∃ x, Two w b g x x wr ∧ Fine m x k)) (fun i _ => nst - (intOf i).toNat)
  case atStart => exact ⟨0, Nat.zero_le _, Nat.zero_le _, rfl, ⟨_, HT.out, HF0.out⟩⟩
  case round =>
    obtain ⟨k, hk, hk8, rfl, HK⟩ := hrel
    clear HT HF0
    by_cases hlt : k < nst ∧ k < 80
    · have j1 : (k : Int) < (nst : Int) := by omega
      have j2 : (k : Int) < 80 := by omega
      obtain ⟨bs, os, rfl, _⟩ := HRs.out.2.2 (by omega)
      have HSt : Hid (∀ w2, Below w.heap.size w w2 → w2.cell? ⟨bs, os + k, none⟩ = some (.int .i64 (st.getD k 0))) := fun w2 b2 => (HRs.out.below b2).at k _ (Lists.ints_at (by omega))
      generalize st.getD k 0 = z at HSt
      obtain ⟨x, hT, hF⟩ := HK.out
      have HF : Hid (Fine m x k) := hF
      have HA : Hid (Tri w b g wr.heap.size ⟨⟨#[]⟩, ⟨#[]⟩, false⟩ x x (wr.alloc (.cells #[.string ⟨#[]⟩, .string ⟨#[]⟩, .bool false] 44))) := Tri.new hT ⟨⟨#[]⟩, ⟨#[]⟩, false⟩
      clear hT hF HK HRs
      go_upto_region 13 with fail
      generalize wr.alloc (.cells #[.string ⟨#[]⟩, .string ⟨#[]⟩, .bool false] 44) = w4 at HA ⊢
      generalize wr.heap.size = q at HA ⊢
      go_upto_if 58 with fail
      go_cut [58] from 59 to 65 (fun _ wc => ∃ P : Pair, P.key.size ≤ maxLen ∧ P.val.size ≤ maxLen ∧ Tri w b g q P x x wc)
      case first => as_aux_lemma =>
        by_cases hn0 : 0 < n
        · have hn1 : (0 : Int) < (n : Int) := by omega
          have hml : k % n < l.length := by rw [hln]; exact Nat.mod_lt _ hn0
          obtain ⟨b1, off1, rfl, _⟩ := HR.out.2.2 hn0
          obtain ⟨p0, p1, p2⟩ := PairRows.at_three (HR.out.below HA.out.two.bel) (k % n) hml
          obtain ⟨s0, s1⟩ := HZ.out _ (List.getElem_mem hml)
          generalize l[k % n] = P at p0 p1 p2 s0 s1
          obtain ⟨P0, P1, P2⟩ := P
          simp only at p0 p1 p2 s0 s1
          obtain ⟨M, hM⟩ : ∃ M : Nat, k % n = M := ⟨_, rfl⟩
          have hM2 : (k : Int) % (n : Int) = (M : Int) := by rw [← hM]; exact (Int.natCast_emod k n).symm
          have hM3 : (M : Int) < (n : Int) := by have := Nat.mod_lt k hn0; omega
          have hM4 : Int.tmod (k : Int) (n : Int) = (M : Int) := by rw [← hM]; rfl
          rw [hM] at p0 p1 p2
          have r0 := HA.out.row.cell (i := 0) (by omega)
          have r1 := HA.out.row.cell (i := 1) (by omega)
          have r2 := HA.out.row.cell (i := 2) (by omega)
          have f0 := HA.out.row.frozen 0
          have f1 := HA.out.row.frozen 1
          have f2 := HA.out.row.frozen 2
          clear HSt HErr hml
          go_wp2_with fail
          go_meet
          case rel => exact ⟨⟨P0, P1, P2⟩, s0, s1, HA.out.set ((((Kept.refl (fun i => i = q) w4).setCell (.inl rfl) _).setCell (.inl rfl) _).setCell (.inl rfl) _) ((((HA.out.row.set 0 _).set 1 _).set 2 _).congr (fun j hj => by match j, hj with | 0, _ | 1, _ | 2, _ => rfl | j + 3, h => omega))⟩
        · have hn1 : ¬ (0 : Int) < (n : Int) := by omega
          clear HSt HErr
          go_wp2_with fail
          go_meet
          case rel => exact ⟨_, (by show 0 ≤ maxLen; omega), (by show 0 ≤ maxLen; omega), HA.out⟩
      obtain ⟨P, s0, s1, hA⟩ := hcut
      obtain ⟨P0, P1, P2⟩ := P
      simp only at s0 s1
      have r2 : wc.cell? ⟨q, 2, none⟩ = some (.bool P2) := hA.row.cell (i := 2) (by omega)
      have HA1 : Hid (Tri w b g q ⟨P0, P1, P2⟩ x x wc) := hA
      clear hA HA HR HZ
      go_upto_if 67 with fail
      go_cut [67] from 68 to 68 (fun _ wd => ∃ V : ByteArray, V.size ≤ maxLen ∧ (P2 = true → V = ⟨#[]⟩) ∧ Tri w b g q ⟨P0, V, P2⟩ x x wd)
      case first => as_aux_lemma =>
        cases P2
        · clear HSt HErr
          go_wp2_with fail
          go_meet
          case rel => exact ⟨P1, s1, fun h => (by cases h), HA1.out⟩
        · have r1 : wc.cell? ⟨q, 1, none⟩ = some (.string P1) := HA1.out.row.cell (i := 1) (by omega)
          have f1 := HA1.out.row.frozen 1
          clear HSt HErr
          go_wp2_with fail
          go_meet
          case rel => exact ⟨⟨#[]⟩, (by show 0 ≤ maxLen; omega), fun _ => rfl, HA1.out.set ((Kept.refl (fun i => i = q) _).setCell (.inl rfl) _) ((HA1.out.row.set 1 _).congr (fun j hj => by match j, hj with | 0, _ | 1, _ | 2, _ => rfl | j + 3, h => omega))⟩
      obtain ⟨V, sV, hV, hA⟩ := hcut
      have HA2 : Hid (Tri w b g q ⟨P0, V, P2⟩ x x _) := hA
      have c0 := HSt.out _ hA.two.bel
      have hsz := HF.out.size
      have hfe := HF.out.good.few
      have hyl := HF.out.good.small
      have hhi := HF.out.good.high
      have htl : total x.levels ≤ 80 := by unfold Lsm.size at hsz; omega
      clear HA1 HSt r2 hA
      go_upto_block 2 with fail
      go_cut [7, 10] from 73 to 107 (fun _ tt we => ∃ (y : Lsm) (Q : Pair), tt = .bool true ∧ Tri w b g q Q y y we ∧ Fine m y (k + 1) ∧ Q.key = P0)
      case first => as_aux_lemma =>
        rcases (show z = 0 ∨ z = 1 ∨ ((z == 0) = false ∧ (z == 1) = false ∧ P2 = true) ∨ ((z == 0) = false ∧ (z == 1) = false ∧ P2 = false) by
          by_cases h0 : z = 0
          · exact .inl h0
          · by_cases h1 : z = 1
            · exact .inr (.inl h1)
            · cases P2
              · exact .inr (.inr (.inr ⟨by simpa using h0, by simpa using h1, rfl⟩))
              · exact .inr (.inr (.inl ⟨by simpa using h0, by simpa using h1, rfl⟩))) with hz0 | hz0 | ⟨hz0, hz1, hp⟩ | ⟨hz0, hz1, hp⟩
        · subst hz0
          obtain ⟨F1, D1, l1, d1, e1, e2, e3, e4, e5, e6⟩ := HA2.out
          have cD := WalkFlushRef.flush_any d1 (by omega) (by omega)
          clear HA2
          go_wp2_with fail
          refine cD.mono ?_
          rintro e w5 ⟨rfl, hs5⟩
          have hA3 := Tri.doc l1 d1 e1 e2 e3 e4 e5 e6 hs5
          clear cD hs5 l1 d1 e1 e2 e3 e4 e5 e6 c0
          obtain ⟨F1, D1, l1, d1, e1, e2, e3, e4, e5, e6⟩ := hA3
          have cL := WalkLs.flush_any l1 (by omega)
          go_wp2_with fail
          refine cL.mono ?_
          rintro e w6 ⟨rfl, hy6, k6⟩
          have hA4 := Tri.lsm l1 d1 e1 e2 e3 e4 e5 e6 hy6 k6
          clear cL hy6 k6 l1 d1 e1 e2 e3 e4 e5 e6
          go_wp2_with fail
          refine (HErr.out _ _ hA4.two.bel).mono ?_
          rintro e w7 ⟨rfl, b7⟩
          have HA5 : Hid (Tri w b g q ⟨P0, V, P2⟩ (flushed x) (flushed x) w7) := hA4.below b7
          have HF5 : Hid (Fine m (flushed x) (k + 1)) := HF.out.flush.more
          clear hA4 b7 HF hsz hfe hyl htl
          go_wp2_with fail
          go_meet
          case rel => exact ⟨_, _, rfl, HA5.out, HF5.out, rfl⟩
        · subst hz0
          obtain ⟨F1, D1, l1, d1, e1, e2, e3, e4, e5, e6⟩ := HA2.out
          have cD := WalkMergeRef.merge_any d1 (by omega) (by omega)
          clear HA2
          go_wp2_with fail
          refine cD.mono ?_
          rintro e w5 ⟨rfl, hs5⟩
          have hA3 := Tri.doc l1 d1 e1 e2 e3 e4 e5 e6 hs5
          clear cD hs5 l1 d1 e1 e2 e3 e4 e5 e6 c0
          obtain ⟨F1, D1, l1, d1, e1, e2, e3, e4, e5, e6⟩ := hA3
          have cL := WalkLs.merge_any l1 (by omega)
          go_wp2_with fail
          refine cL.mono ?_
          rintro e w6 ⟨rfl, hy6, k6⟩
          have hA4 := Tri.lsm l1 d1 e1 e2 e3 e4 e5 e6 hy6 k6
          clear cL hy6 k6 l1 d1 e1 e2 e3 e4 e5 e6
          go_wp2_with fail
          refine (HErr.out _ _ hA4.two.bel).mono ?_
          rintro e w7 ⟨rfl, b7⟩
          have HA5 : Hid (Tri w b g q ⟨P0, V, P2⟩ (merged x) (merged x) w7) := hA4.below b7
          have HF5 : Hid (Fine m (merged x) (k + 1)) := HF.out.merge.more
          clear hA4 b7 HF hsz hfe hyl htl
          go_wp2_with fail
          go_meet
          case rel => exact ⟨_, _, rfl, HA5.out, HF5.out, rfl⟩
        · subst hp
          obtain rfl := hV rfl
          have r0 : wc.cell? ⟨q, 0, none⟩ = some (.string P0) := HA2.out.row.cell (i := 0) (by omega)
          have r1 : wc.cell? ⟨q, 1, none⟩ = some (.string ⟨#[]⟩) := HA2.out.row.cell (i := 1) (by omega)
          have r2 : wc.cell? ⟨q, 2, none⟩ = some (.bool true) := HA2.out.row.cell (i := 2) (by omega)
          obtain ⟨F1, D1, l1, d1, e1, e2, e3, e4, e5, e6⟩ := HA2.out
          have cD := WalkLPutRef.put_any d1 P0 ⟨#[]⟩ true HF.out.young.1 (by omega) (by omega) (by omega)
          clear HA2
          go_wp2_with fail
          refine cD.mono ?_
          rintro e w5 ⟨rfl, hs5⟩
          have hA3 := Tri.doc l1 d1 e1 e2 e3 e4 e5 e6 hs5
          clear cD hs5 l1 d1 e1 e2 e3 e4 e5 e6 c0
          replace r0 : w5.cell? ⟨q, 0, none⟩ = some (.string P0) := hA3.row.cell (i := 0) (by omega)
          replace r1 : w5.cell? ⟨q, 1, none⟩ = some (.string ⟨#[]⟩) := hA3.row.cell (i := 1) (by omega)
          replace r2 : w5.cell? ⟨q, 2, none⟩ = some (.bool true) := hA3.row.cell (i := 2) (by omega)
          obtain ⟨F1, D1, l1, d1, e1, e2, e3, e4, e5, e6⟩ := hA3
          have cL := WalkLs.drop_any l1 (by omega) P0 s0
          go_wp2_with fail
          refine cL.mono ?_
          rintro e w6 ⟨rfl, hy6, k6⟩
          have hA4 := Tri.lsm l1 d1 e1 e2 e3 e4 e5 e6 hy6 k6
          clear cL hy6 k6 l1 d1 e1 e2 e3 e4 e5 e6
          go_wp2_with fail
          refine (HErr.out _ _ hA4.two.bel).mono ?_
          rintro e w7 ⟨rfl, b7⟩
          have HA5 : Hid (Tri w b g q ⟨P0, ⟨#[]⟩, true⟩ (putted x ⟨P0, ⟨#[]⟩, true⟩) (putted x ⟨P0, ⟨#[]⟩, true⟩) w7) := hA4.below b7
          have HF5 : Hid (Fine m (putted x ⟨P0, ⟨#[]⟩, true⟩) (k + 1)) := HF.out.put ⟨P0, ⟨#[]⟩, true⟩ (fun _ => rfl)
          clear hA4 b7 r0 r1 r2 HF hsz hfe hyl htl
          go_wp2_with fail
          go_meet
          case rel => exact ⟨_, _, rfl, HA5.out, HF5.out, rfl⟩
        · subst hp
          have r0 : wc.cell? ⟨q, 0, none⟩ = some (.string P0) := HA2.out.row.cell (i := 0) (by omega)
          have r1 : wc.cell? ⟨q, 1, none⟩ = some (.string V) := HA2.out.row.cell (i := 1) (by omega)
          have r2 : wc.cell? ⟨q, 2, none⟩ = some (.bool false) := HA2.out.row.cell (i := 2) (by omega)
          obtain ⟨F1, D1, l1, d1, e1, e2, e3, e4, e5, e6⟩ := HA2.out
          have cD := WalkLPutRef.put_any d1 P0 V false HF.out.young.1 (by omega) (by omega) (by omega)
          clear HA2
          go_wp2_with fail
          refine cD.mono ?_
          rintro e w5 ⟨rfl, hs5⟩
          have hA3 := Tri.doc l1 d1 e1 e2 e3 e4 e5 e6 hs5
          clear cD hs5 l1 d1 e1 e2 e3 e4 e5 e6 c0
          replace r0 : w5.cell? ⟨q, 0, none⟩ = some (.string P0) := hA3.row.cell (i := 0) (by omega)
          replace r1 : w5.cell? ⟨q, 1, none⟩ = some (.string V) := hA3.row.cell (i := 1) (by omega)
          replace r2 : w5.cell? ⟨q, 2, none⟩ = some (.bool false) := hA3.row.cell (i := 2) (by omega)
          obtain ⟨F1, D1, l1, d1, e1, e2, e3, e4, e5, e6⟩ := hA3
          have cL := WalkLs.put_any l1 (by omega) P0 V s0 sV
          go_wp2_with fail
          refine cL.mono ?_
          rintro e w6 ⟨rfl, hy6, k6⟩
          have hA4 := Tri.lsm l1 d1 e1 e2 e3 e4 e5 e6 hy6 k6
          clear cL hy6 k6 l1 d1 e1 e2 e3 e4 e5 e6
          go_wp2_with fail
          refine (HErr.out _ _ hA4.two.bel).mono ?_
          rintro e w7 ⟨rfl, b7⟩
          have HA5 : Hid (Tri w b g q ⟨P0, V, false⟩ (putted x ⟨P0, V, false⟩) (putted x ⟨P0, V, false⟩) w7) := hA4.below b7
          have HF5 : Hid (Fine m (putted x ⟨P0, V, false⟩) (k + 1)) := HF.out.put ⟨P0, V, false⟩ (fun h => by cases h)
          clear hA4 b7 r0 r1 r2 HF hsz hfe hyl htl
          go_wp2_with fail
          go_meet
          case rel => exact ⟨_, _, rfl, HA5.out, HF5.out, rfl⟩
      obtain ⟨y, Q, rfl, hA, hFy, hQ⟩ := hcut
      subst hQ
      have HA5 : Hid (Tri w b g q Q y y wc) := hA
      have HF5 : Hid (Fine m y (k + 1)) := hFy
      have hsz5 := hFy.size
      have hfe5 := hFy.good.few
      have htl5 : total y.lists ≤ 81 := by
        have : total y.lists = y.size := rfl
        omega
      have HTb : Hid (∀ l ∈ y.levels, Tabs.pairsE l = 0 ∧ l.length ≤ 1000) := fun l hl => ⟨(hFy.tabs l hl).1, by have := (hFy.tabs l hl).2; omega⟩
      have hal : y.all.length ≤ 81 := by have := Lsms.live_le y.lists; have : y.all = Lsms.live y.lists := rfl; rw [this]; omega
      clear hA hFy HF HA2 c0 hsz hfe hyl hhi htl hV sV
      -- all that one can get
      obtain ⟨F1, D1, l1, d1, e1, e2, e3, e4, e5, e6⟩ := HA5.out
      have cA := WalkFlushRef.all_any d1 (by omega) (by omega)
      clear l1 d1 e1 e2 e3 e4 e5 e6
      go_wp2_with fail
      refine cA.mono ?_
      rintro e w8 ⟨v, rfl, o8, b8⟩
      obtain ⟨a8, c8, rfl, r8⟩ := owns_wide o8
      have HA6 : Hid (Tri w b g q Q y y w8) := HA5.out.below b8
      have HR8 : Hid (Wide 3 w8 a8 y.all.length c8 (cells y.all)) := r8
      have k0 : w8.cell? ⟨q, 0, none⟩ = some (.string Q.key) := HA6.out.row.cell (i := 0) (by omega)
      clear cA o8 b8 r8 HA5
      have cG := WalkStoreRef.get_any y.all Q.key a8 y.all.length c8 w8 HR8.out (by omega)
      obtain ⟨E, HE⟩ : ∃ E, Hid (getE y.all Q.key = E) := ⟨_, rfl⟩
      obtain ⟨B, HB⟩ : ∃ B, Hid (decide (getE y.all Q.key = 0) = B) := ⟨_, rfl⟩
      obtain ⟨VV, HV⟩ : ∃ VV, Hid (getV y.all Q.key = VV) := ⟨_, rfl⟩
      rw [HB.out, HV.out] at cG
      go_wp2_with fail
      refine cG.mono ?_
      rintro e w9 ⟨rfl, b9⟩
      have HA7 : Hid (Tri w b g q Q y y w9) := HA6.out.below b9
      have HR9 : Hid (Wide 3 w9 a8 y.all.length c8 (cells y.all)) := HR8.out.below b9
      replace k0 : w9.cell? ⟨q, 0, none⟩ = some (.string Q.key) := HA7.out.row.cell (i := 0) (by omega)
      clear cG b9 HA6 HR8
      go_upto_if 118 with fail
      go_cut [7] from 117 to 118 (fun e we => e = .int .i64 (E : Int) ∧ we = w9)
      case first => as_aux_lemma =>
        have hE5 : E = 0 ∨ E = 5 := by
          rw [← HE.out]
          unfold getE
          split
          · split
            · exact .inr rfl
            · exact .inl rfl
          · exact .inr rfl
        have hBE : B = decide (E = 0) := by rw [← HB.out, HE.out]
        rcases hE5 with rfl | rfl
        · have hB1 : B = true := by rw [hBE]; rfl
          clear hBE
          subst hB1
          go_wp2_with fail
          go_meet
          case rel => exact ⟨rfl, rfl⟩
        · have hB1 : B = false := by rw [hBE]; rfl
          clear hBE
          subst hB1
          go_wp2_with fail
          go_meet
          case rel => exact ⟨rfl, rfl⟩
      obtain ⟨rfl, rfl⟩ := hcut
      obtain ⟨F1, D1, l1, d1, e1, e2, e3, e4, e5, e6⟩ := HA7.out
      have cL := WalkLs.get_any l1 (by omega) Q.key
      rw [← (LsmFines.all_get y Q.key).1, ← (LsmFines.all_get y Q.key).2, HE.out, HV.out] at cL
      clear l1 d1 e1 e2 e3 e4 e5 e6
      go_wp2_with fail
      refine cL.mono ?_
      rintro e wa ⟨rfl, ba⟩
      have HA8 := HA7.out.below ba
      go_wp2_with fail
      refine (HErr.out _ _ HA8.two.bel).mono ?_
      rintro e wb ⟨rfl, bb⟩
      have HA9 : Hid (Tri w b g q Q y y wb) := HA8.below bb
      have HRb : Hid (Wide 3 wb a8 y.all.length c8 (cells y.all)) := HR9.out.below (bt ba bb)
      clear cL ba bb HA8 HA7 HR9 k0
      obtain ⟨F1, D1, l1, d1, e1, e2, e3, e4, e5, e6⟩ := HA9.out
      have cX := WalkLs.all_any l1 (by omega)
      clear l1 d1 e1 e2 e3 e4 e5 e6
      go_wp2_with fail
      refine cX.mono ?_
      rintro e wx ⟨v, rfl, ox, bx⟩
      obtain ⟨ax, cx, rfl, rx⟩ := owns_wide ox
      have cP := WalkPairsSame.pairs_same y.all ax a8 y.all.length cx c8 wx rx (HRb.out.below bx) (by omega)
      have hA10 := HA9.out.below bx
      clear cX ox rx bx HRb HA9
      go_wp2_with fail
      refine cP.mono ?_
      rintro e wy ⟨rfl, by1⟩
      have HA11 : Hid (Tri w b g q Q y y wy) := hA10.below by1
      clear cP by1 hA10
      obtain ⟨F1, D1, l1, d1, e1, e2, e3, e4, e5, e6⟩ := HA11.out
      have cT := WalkLs.tables_any l1 (by omega)
      clear l1 d1 e1 e2 e3 e4 e5 e6
      go_wp2_with fail
      refine cT.mono ?_
      rintro e wt ⟨v, rfl, ot, bt1⟩
      obtain ⟨at1, ct1, rfl, rt1, _⟩ := owns_row ot
      have hA12 := HA11.out.below bt1
      have HRt : Hid (Row wt at1 y.levels.length ct1 (strs (WalkTablesRef.tabs y.levels))) := rt1
      clear cT ot bt1 rt1 HA11
      obtain ⟨F1, D1, l1, d1, e1, e2, e3, e4, e5, e6⟩ := id hA12
      have cU := WalkTablesRef.tables_any d1 (by omega) HTb.out
      clear l1 d1 e1 e2 e3 e4 e5 e6
      go_wp2_with fail
      refine cU.mono ?_
      rintro e wu ⟨v, rfl, ou, bu⟩
      obtain ⟨au, cu, rfl, ru, _⟩ := owns_row ou
      have cS := WalkTexts.texts_same (WalkTablesRef.tabs y.levels) at1 au y.levels.length ct1 cu wu (HRt.out.below bu) ru (by omega)
      have hA13 := hA12.below bu
      clear cU ou bu ru HRt hA12
      go_wp2_with fail
      refine cS.mono ?_
      rintro e wv ⟨rfl, bv⟩
      have HA14 : Hid (Tri w b g q Q y y wv) := hA13.below bv
      clear cS bv hA13
      obtain ⟨F1, D1, l1, ⟨yv, lv, vs, d1⟩, e1, e2, e3, e4, e5, e6⟩ := HA14.out
      obtain ⟨ay, cy, rfl, _⟩ := d1.young
      have c9 : wv.cell? ⟨g, 1, none⟩ = some (.slice ay y.young.length cy) := d1.lies.cell (i := 1) (by omega)
      have t9 := fun dd os => cell_regrown c9 dd os
      have y9 : ∀ dd os, Calls Tryz.prog 8 #[.pointer (some ⟨b, 0, none⟩)] (grow (redrawn wv dd) os) fun e w'' => e = .returned (.int .i64 (y.young.length : Int)) ∧ ∃ p : Regrown, w'' = grow (redrawn wv p.d) p.os := fun dd os => Calls.regrown_of (WalkLs.young_any (l1.kept (Kept.of_below (fun _ => False) (below_regrown wv dd os)) fun _ _ q => q))
      have g4 : (VV.toList != VV.toList) = false := by rw [bne, beq_self_eq_true]; rfl
      have g5 : ((y.young.length : Int) != (y.young.length : Int)) = false := by rw [bne, beq_self_eq_true]; rfl
      have HK2 : Hid (∀ w2, Below wv.heap.size wv w2 → ∃ x, Two w b g x x w2 ∧ Fine m x (k + 1)) := fun w2 b2 => ⟨y, (HA14.out.below b2).two, HF5.out⟩
      clear l1 d1 e1 e2 e3 e4 e5 e6 HA14 HF5 HTb HE HB HV HErr hsz5 hfe5 htl5 hal c9 s0 s1
      go_upto_region 37 with fail
      refine wp_region_quiet_below (by kernel_rfl) (by kernel_rfl) ?_
      iterate 21 (quiet_step (fail))
      quiet_step (exact y9 _ _)
      iterate 7 (quiet_step (fail))
      refine wpQuiet_nil ?_
      intro _ hw'
      obtain ⟨⟨dq, osq⟩, hw''⟩ := hw'
      subst hw''
      have HK3 : Hid (∃ x, Two w b g x x (grow (redrawn wv dq) osq) ∧ Fine m x (k + 1)) := HK2.out _ (below_regrown wv dq osq)
      clear y9 t9 g4 g5 HK2
      generalize grow (redrawn wv dq) osq = wz at HK3 ⊢
      go_wp2_with fail
      go_roundw
      case rel => exact ⟨k + 1, by omega, by omega, by go_num, HK3⟩
      case measure => simp [intOf]; omega
    · obtain ⟨x, hT, _⟩ := HK.out
      have hb := hT.bel
      by_cases hkn : k < nst
      · have t1 : (k : Int) < (nst : Int) := by omega
        have t2 : ((k : Int) < 80) = False := eq_false (by omega)
        clear HK hT hk hk8 hlt hkn
        go_wp2_with fail
        go_ret
        exact ⟨rfl, hb⟩
      · have t1 : ((k : Int) < (nst : Int)) = False := eq_false (by omega)
        clear HK hT hk hk8 hlt hkn
        go_wp2_with fail
        go_ret
        exact ⟨rfl, hb⟩

end Go.Proofs.YtbepfeajaoaocafGreatDoor.WalkLsmPlays
