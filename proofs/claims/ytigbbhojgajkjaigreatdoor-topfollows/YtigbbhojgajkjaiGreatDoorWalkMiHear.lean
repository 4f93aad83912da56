/-
  What the program's mirror does when it hears a reply: take, Hear.
-/
import Derived.Test.YtigbbhojgajkjaiGreatDoorWalkMiEnts
import Derived.Test.YtigbbhojgajkjaiGreatDoorReplyAll
namespace Go.Proofs.YtigbbhojgajkjaiGreatDoor.WalkMiHear
open Go.RowKit
open Lists (Row ints bt)
open Keeps (Kept owns_kept owns_base owns_row)
open Wides (Wide owns_wide)
open Heads (Head zero isKey verifyE)
open HeadVals (hv aggH sizeH)
open Entries (Entry entE entsE firstE leafsOf)
open EntRows (cells cells_append)
open Errs (errv errv0 errv_pos)
open Mirrors (Mir Want Reply rootE Ok headE headM someE someE0 someM ends proofE proofE0 proofM hearE hearM)
open MirObj (Lay fld foot put4)
open MirVals (rv wv aggR sizeR aggW sizeW cell7)
open ReplyRows (RFine)
open WalkMiGo (Turned gone)
open WalkMiTake (proofG)
open WalkMiEnts (Took)
open WalkHdLib (Tabs)

/-- on an error of entries, or of a proof, all that was heard is forgotten -/
theorem some_bad {m : Mir} {l : List Entry} (h : someE m l ≠ 0) : someM m l = m.forget := by
  unfold someE at h
  unfold someM
  split at h
  · rename_i h0
    rw [if_pos h0]
    split at h
    · rename_i h1
      rw [if_pos h1]
      unfold Mir.settledE at h
      unfold Mir.settled
      split at h
      · exact absurd rfl h
      · rename_i h2
        rw [if_neg h2]
        rfl
    · exact absurd rfl h
  · rename_i h0
    rw [if_neg h0]
theorem proof_bad {m : Mir} {p : List Int} (h : proofE m p ≠ 0) : proofM m p = m.forget ∧ proofG m p = m := by
  unfold proofE at h
  unfold proofM proofG gone
  split at h
  · rename_i h0
    rw [if_pos h0, if_pos h0]
    refine ⟨?_, if_neg h⟩
    unfold Mir.settledE at h
    unfold Mir.settled
    split at h
    · exact absurd rfl h
    · rename_i h2
      rw [if_neg h2]
  · rename_i h0
    rw [if_neg h0, if_neg h0]
    exact ⟨rfl, rfl⟩
theorem proof_good {m : Mir} {p : List Int} (h : proofE m p = 0) : proofG m p = proofM m p := by
  unfold proofE at h
  unfold proofM proofG gone
  split at h
  · rename_i h0
    rw [if_pos h0, if_pos h0, if_pos h]
  · rename_i h0
    exact absurd h h0
/-- it forgets -/
theorem Turned.forget {w w1 w' : World} {B b : Nat} {key : Int} {m' : Mir} {v1 v2 x1 x2 : Value} (hk : Kept (foot b v1 v2) w w1) (hf : ∀ k, foot b x1 x2 k → foot b v1 v2 k ∨ w.heap.size ≤ k) (h : Lay w' B b key m'.forget x1 (.slice none 0 0)) (k : Kept (fun k => k = b) w1 w') : Turned w B b key v1 v2 m'.forget w' := by
  refine ⟨x1, .slice none 0 0, h, hk.trans k fun i hi => .inl (.inl hi), ?_⟩
  rintro i (q | q | q)
  · exact .inl (.inl q)
  · exact hf i (.inr (.inl q))
  · simp [Value.ownBlock] at q

set_option maxHeartbeats 8000000 in
set_option maxRecDepth 100000 in
theorem take_any {w : World} {B b : Nat} {key : Int} {m : Mir} {v1 v2 : Value} (h : Lay w B b key m v1 v2) (hT : Tabs w) (ho : Ok key m) (r : Reply) (hr : RFine r) (hw : r.what = m.want.what) (hz : r.what ≠ 0) (a5 : Option Addr) (c5 : Nat) (a6 : Option Addr) (c6 : Nat)
    (h5 : Wide 2 w a5 r.ents.length c5 (cells r.ents)) (h6 : Row w a6 r.proof.length c6 (ints r.proof)) (d5 : ∀ p, 0 < r.ents.length → a5 = some p → ¬ foot b v1 v2 p.block) :
    Calls Tryz.prog 81 #[.pointer (some ⟨b, 0, none⟩), rv r a5 c5 a6 c6, wv m.want] w fun e w' => e = .returned (errv (hearE key m r)) ∧ Turned w B b key v1 v2 (hearM key m r) w' := by
  obtain ⟨what, ⟨hs, hrt, ht, hsg⟩, ents, prf⟩ := r
  obtain ⟨x, HWx⟩ : ∃ x, Hid (m.want = x) := ⟨_, rfl⟩
  rw [HWx.out] at hw ⊢
  obtain ⟨ww, wf, wt⟩ := x
  simp only at hw hz h5 h6 d5
  obtain rfl : what = ww := hw
  simp only [rv, wv]
  have HE0 : Hid (hearE key m ⟨what, ⟨hs, hrt, ht, hsg⟩, ents, prf⟩ = if what = 1 then headE key m ⟨hs, hrt, ht, hsg⟩ else if what = 2 then someE m ents else proofE m prf) := by
    show _ = _
    unfold hearE
    rw [if_neg hz, if_neg (by rw [HWx.out]; simp), HWx.out]
  have HM0 : Hid (hearM key m ⟨what, ⟨hs, hrt, ht, hsg⟩, ents, prf⟩ = if what = 1 then headM key m ⟨hs, hrt, ht, hsg⟩ else if what = 2 then someM m ents else proofM m prf) := by
    show _ = _
    unfold hearM
    rw [if_neg hz, if_neg (by rw [HWx.out]; simp), HWx.out]
  have aW := aggW
  have zW := sizeW
  have aR := aggR
  have zR := sizeR
  have aH := aggH
  have zH := sizeH
  have HL : Hid (Lay w B b key m v1 v2) := h
  have HO : Hid (Ok key m) := ho
  have HTb : Hid (Tabs w) := hT
  have HF : Hid (RFine ⟨what, ⟨hs, hrt, ht, hsg⟩, ents, prf⟩) := hr
  have H5 : Hid (Wide 2 w a5 ents.length c5 (cells ents)) := h5
  have H6 : Hid (Row w a6 prf.length c6 (ints prf)) := h6
  have HD : Hid (∀ p, 0 < ents.length → a5 = some p → ¬ foot b v1 v2 p.block) := d5
  clear h hT ho hr h5 h6 d5 hz
  go_enter Tryz.func81, Tryz.ntmps81
  go_upto_region 1 with fail
  have HB0 : Hid (Below w.heap.size w ((w.alloc (.cells #[.int .i64 what, .int .i64 hs, .int .i64 hrt, .int .i64 ht, .int .i64 hsg, .slice a5 ents.length c5, .slice a6 prf.length c6] 89)).alloc (.cells #[.int .i64 what, .int .i64 wf, .int .i64 wt] 91))) := ((Below.refl _ _).alloc (Nat.le_refl _) _).alloc (by simp) _
  have HR0 : Hid (((w.alloc (.cells #[.int .i64 what, .int .i64 hs, .int .i64 hrt, .int .i64 ht, .int .i64 hsg, .slice a5 ents.length c5, .slice a6 prf.length c6] 89)).alloc (.cells #[.int .i64 what, .int .i64 wf, .int .i64 wt] 91)).rowIs w.heap.size 89 7 (cell7 what hs hrt ht hsg (.slice a5 ents.length c5) (.slice a6 prf.length c6))) := by
    have h1 : (w.alloc (.cells #[.int .i64 what, .int .i64 hs, .int .i64 hrt, .int .i64 ht, .int .i64 hsg, .slice a5 ents.length c5, .slice a6 prf.length c6] 89)).rowIs w.heap.size 89 7 (cell7 what hs hrt ht hsg (.slice a5 ents.length c5) (.slice a6 prf.length c6)) := World.rowIs_alloc w #[.int .i64 what, .int .i64 hs, .int .i64 hrt, .int .i64 ht, .int .i64 hsg, .slice a5 ents.length c5, .slice a6 prf.length c6] _ _ (by intro i hi; match i, hi with | 0, _ => rfl | 1, _ => rfl | 2, _ => rfl | 3, _ => rfl | 4, _ => rfl | 5, _ => rfl | 6, _ => rfl)
    exact h1.of_block (((Below.refl _ _).alloc (Nat.le_refl _) _).block _ h1.lt)
  have HW0 : Hid (((w.alloc (.cells #[.int .i64 what, .int .i64 hs, .int .i64 hrt, .int .i64 ht, .int .i64 hsg, .slice a5 ents.length c5, .slice a6 prf.length c6] 89)).alloc (.cells #[.int .i64 what, .int .i64 wf, .int .i64 wt] 91)).rowIs (w.heap.size + 1) 91 3 (fun i => if i = 0 then .int .i64 what else if i = 1 then .int .i64 wf else .int .i64 wt)) := by
    have h1 := World.rowIs_alloc (w.alloc (.cells #[.int .i64 what, .int .i64 hs, .int .i64 hrt, .int .i64 ht, .int .i64 hsg, .slice a5 ents.length c5, .slice a6 prf.length c6] 89)) #[.int .i64 what, .int .i64 wf, .int .i64 wt] 91 (fun i => if i = 0 then .int .i64 what else if i = 1 then .int .i64 wf else .int .i64 wt) (by intro i hi; match i, hi with | 0, _ => rfl | 1, _ => rfl | 2, _ => rfl)
    show World.rowIs _ _ _ _ _
    simpa using h1
  generalize (w.alloc (.cells #[.int .i64 what, .int .i64 hs, .int .i64 hrt, .int .i64 ht, .int .i64 hsg, .slice a5 ents.length c5, .slice a6 prf.length c6] 89)).alloc (.cells #[.int .i64 what, .int .i64 wf, .int .i64 wt] 91) = w0 at HB0 HR0 HW0 ⊢
  obtain ⟨pr, HPR⟩ : ∃ pr, Hid (w.heap.size = pr) := ⟨_, rfl⟩
  rw [show w.heap.size = pr from HPR.out] at HR0 HW0 ⊢
  obtain ⟨pw, HPW⟩ : ∃ pw, Hid (pr + 1 = pw) := ⟨_, rfl⟩
  rw [show pr + 1 = pw from HPW.out] at HW0 ⊢
  have k1 : w0.cell? ⟨pr, 1, none⟩ = some (.int .i64 hs) := HR0.out.cell (i := 1) (by omega)
  have k2 : w0.cell? ⟨pr, 2, none⟩ = some (.int .i64 hrt) := HR0.out.cell (i := 2) (by omega)
  have k3 : w0.cell? ⟨pr, 3, none⟩ = some (.int .i64 ht) := HR0.out.cell (i := 3) (by omega)
  have k4 : w0.cell? ⟨pr, 4, none⟩ = some (.int .i64 hsg) := HR0.out.cell (i := 4) (by omega)
  have k5 : w0.cell? ⟨pr, 5, none⟩ = some (.slice a5 ents.length c5) := HR0.out.cell (i := 5) (by omega)
  have k6 : w0.cell? ⟨pr, 6, none⟩ = some (.slice a6 prf.length c6) := HR0.out.cell (i := 6) (by omega)
  have q0 : w0.cell? ⟨pw, 0, none⟩ = some (.int .i64 what) := HW0.out.cell (i := 0) (by omega)
  have q1 : w0.cell? ⟨pw, 1, none⟩ = some (.int .i64 wf) := HW0.out.cell (i := 1) (by omega)
  have q2 : w0.cell? ⟨pw, 2, none⟩ = some (.int .i64 wt) := HW0.out.cell (i := 2) (by omega)
  have L0 := HL.out.below HB0.out
  have T0 := HTb.out.below HB0.out
  by_cases h1 : what = 1
  · -- a head
    have HEM : Hid (hearE key m ⟨what, ⟨hs, hrt, ht, hsg⟩, ents, prf⟩ = headE key m ⟨hs, hrt, ht, hsg⟩ ∧ hearM key m ⟨what, ⟨hs, hrt, ht, hsg⟩, ents, prf⟩ = headM key m ⟨hs, hrt, ht, hsg⟩) := ⟨by rw [HE0.out, if_pos h1], by rw [HM0.out, if_pos h1]⟩
    have e2 : (what == 1) = true := by rw [beq_iff_eq]; exact h1
    have cH := WalkMiTake.head_any L0 T0 HO.out ⟨hs, hrt, ht, hsg⟩
    unfold hv at cH
    simp only at cH
    clear L0 T0 h1 HE0 HM0
    go_wp2_with fail
    refine cH.mono ?_
    rintro e w1 ⟨rfl, hT1⟩
    have HT1 : Hid (Turned w B b key v1 v2 (headM key m ⟨hs, hrt, ht, hsg⟩) w1) := hT1.from HB0.out
    clear cH hT1
    go_wp2_with fail
    go_ret
    exact ⟨by rw [HEM.out.1]; rfl, by rw [HEM.out.2]; exact HT1.out⟩
  have e2 : (what == 1) = false := by rw [beq_eq_false_iff_ne]; exact h1
  by_cases h2 : what = 2
  · -- entries
    have HEM : Hid (hearE key m ⟨what, ⟨hs, hrt, ht, hsg⟩, ents, prf⟩ = someE m ents ∧ hearM key m ⟨what, ⟨hs, hrt, ht, hsg⟩, ents, prf⟩ = someM m ents) := ⟨by rw [HE0.out, if_neg h1, if_pos h2], by rw [HM0.out, if_neg h1, if_pos h2]⟩
    have e3 : (what == 2) = true := by rw [beq_iff_eq]; exact h2
    have hw2 : m.want.what = 2 := by rw [HWx.out]; exact h2
    have hM : wt - wf = m.want.to_ - m.want.fr := by rw [HWx.out]
    have hsm := WalkMiEnts.want_small HO.out hw2
    have hwt := Mirrors.want_two hw2
    have hb9 : 0 ≤ wt - wf ∧ wt - wf ≤ 16 := by
      have h3 := (HO.out.some hwt.1).2.2.1
      rw [hM, hwt.2.2.1, hwt.2.2.2]
      split <;> omega
    have w9 : IntKind.i64.wrap (wt - wf) = wt - wf := by rw [IntKind.wrap_i64]; omega
    have cE := WalkMiEnts.ents_any L0 HO.out hw2 ents a5 c5 (H5.out.below HB0.out) HF.out.data HF.out.ents HD.out (wt - wf) hM
    have HBd : Hid (someE m ents ≠ 0 → someM m ents = m.forget) := fun q => some_bad q
    clear L0 T0 h1 h2 HE0 HM0 hsm hwt hw2 hM hb9
    go_wp2_with fail
    refine cE.mono ?_
    rintro e w1 ⟨rfl, m', hT, hg, hbd⟩
    clear cE k1 k2 k3 k4 k5 k6 q0 q1 q2 w9
    obtain ⟨x1, x2, hl, hk, hf⟩ := hT
    by_cases hE : someE m ents = 0
    · have HFIN : Hid (hearE key m ⟨what, ⟨hs, hrt, ht, hsg⟩, ents, prf⟩ = 0 ∧ Turned w B b key v1 v2 (hearM key m ⟨what, ⟨hs, hrt, ht, hsg⟩, ents, prf⟩) w1) := ⟨by rw [HEM.out.1, hE], by rw [HEM.out.2, ← hg hE]; exact Turned.from HB0.out ⟨x1, x2, hl, hk, hf⟩⟩
      rw [hE, errv0]
      clear hE hg hbd hl hk hf HBd HEM
      go_wp2_with fail
      go_ret
      exact ⟨by rw [HFIN.out.1]; rfl, HFIN.out.2⟩
    · have cF := WalkMiOne.forget_any hl
      have HFIN : Hid (hearE key m ⟨what, ⟨hs, hrt, ht, hsg⟩, ents, prf⟩ = someE m ents ∧ hearM key m ⟨what, ⟨hs, hrt, ht, hsg⟩, ents, prf⟩ = m'.forget) := ⟨HEM.out.1, by rw [HEM.out.2, HBd.out hE, hbd hE]⟩
      have HN : Hid (errv (someE m ents) = .iface 70 (.int .i64 (someE m ents : Nat))) := errv_pos _ hE
      have HKf : Hid (Kept (foot b v1 v2) w0 w1 ∧ ∀ k, foot b x1 x2 k → foot b v1 v2 k ∨ w0.heap.size ≤ k) := ⟨hk, hf⟩
      rw [HN.out]
      clear hE hg hbd hl hk hf HBd HEM
      generalize someE m ents = E at HFIN HN ⊢
      go_wp2_with fail
      refine cF.mono ?_
      rintro e w2 ⟨rfl, l2, k2⟩
      have HT2 : Hid (Turned w B b key v1 v2 m'.forget w2) := Turned.from HB0.out (Turned.forget HKf.out.1 HKf.out.2 l2 k2)
      clear cF l2 k2
      go_wp2_with fail
      go_ret
      exact ⟨by rw [HFIN.out.1, HN.out]; rfl, by rw [HFIN.out.2]; exact HT2.out⟩
  · -- a proof
    have e3 : (what == 2) = false := by rw [beq_eq_false_iff_ne]; exact h2
    have HEM : Hid (hearE key m ⟨what, ⟨hs, hrt, ht, hsg⟩, ents, prf⟩ = proofE m prf ∧ hearM key m ⟨what, ⟨hs, hrt, ht, hsg⟩, ents, prf⟩ = proofM m prf) := ⟨by rw [HE0.out, if_neg h1, if_neg h2], by rw [HM0.out, if_neg h1, if_neg h2]⟩
    obtain ⟨_, hn, hh⟩ := Mirrors.want_else (m := m) (by rw [HWx.out]; exact h1) (by rw [HWx.out]; exact h2)
    have cP := WalkMiTake.proof_any L0 HO.out hn hh prf a6 c6 (H6.out.below HB0.out) HF.out.proof
    have HGd : Hid (proofE m prf = 0 → proofG m prf = proofM m prf) := fun q => proof_good q
    have HBd : Hid (proofE m prf ≠ 0 → proofM m prf = m.forget ∧ proofG m prf = m) := fun q => proof_bad q
    clear L0 T0 h1 h2 HE0 HM0 hn hh
    go_wp2_with fail
    refine cP.mono ?_
    rintro e w1 ⟨rfl, hT⟩
    clear cP k1 k2 k3 k4 k5 k6 q0 q1 q2
    obtain ⟨x1, x2, hl, hk, hf⟩ := hT
    by_cases hE : proofE m prf = 0
    · have HFIN : Hid (hearE key m ⟨what, ⟨hs, hrt, ht, hsg⟩, ents, prf⟩ = 0 ∧ Turned w B b key v1 v2 (hearM key m ⟨what, ⟨hs, hrt, ht, hsg⟩, ents, prf⟩) w1) := ⟨by rw [HEM.out.1, hE], by rw [HEM.out.2, ← HGd.out hE]; exact Turned.from HB0.out ⟨x1, x2, hl, hk, hf⟩⟩
      rw [hE, errv0]
      clear hE hl hk hf HBd HGd HEM
      go_wp2_with fail
      go_ret
      exact ⟨by rw [HFIN.out.1]; rfl, HFIN.out.2⟩
    · have cF := WalkMiOne.forget_any hl
      rw [(HBd.out hE).2] at cF
      have HFIN : Hid (hearE key m ⟨what, ⟨hs, hrt, ht, hsg⟩, ents, prf⟩ = proofE m prf ∧ hearM key m ⟨what, ⟨hs, hrt, ht, hsg⟩, ents, prf⟩ = m.forget) := ⟨HEM.out.1, by rw [HEM.out.2, (HBd.out hE).1]⟩
      have HN : Hid (errv (proofE m prf) = .iface 70 (.int .i64 (proofE m prf : Nat))) := errv_pos _ hE
      have HKf : Hid (Kept (foot b v1 v2) w0 w1 ∧ ∀ k, foot b x1 x2 k → foot b v1 v2 k ∨ w0.heap.size ≤ k) := ⟨hk, hf⟩
      rw [HN.out]
      clear hE hl hk hf HBd HGd HEM
      generalize proofE m prf = E at HFIN HN ⊢
      go_wp2_with fail
      refine cF.mono ?_
      rintro e w2 ⟨rfl, l2, k2⟩
      have HT2 : Hid (Turned w B b key v1 v2 m.forget w2) := Turned.from HB0.out (Turned.forget HKf.out.1 HKf.out.2 l2 k2)
      clear cF l2 k2
      go_wp2_with fail
      go_ret
      exact ⟨by rw [HFIN.out.1, HN.out]; rfl, by rw [HFIN.out.2]; exact HT2.out⟩

set_option maxHeartbeats 8000000 in
set_option maxRecDepth 100000 in
theorem hear_any {w : World} {B b : Nat} {key : Int} {m : Mir} {v1 v2 : Value} (h : Lay w B b key m v1 v2) (hT : Tabs w) (ho : Ok key m) (r : Reply) (hr : RFine r) (a5 : Option Addr) (c5 : Nat) (a6 : Option Addr) (c6 : Nat)
    (h5 : Wide 2 w a5 r.ents.length c5 (cells r.ents)) (h6 : Row w a6 r.proof.length c6 (ints r.proof)) (d5 : ∀ p, 0 < r.ents.length → a5 = some p → ¬ foot b v1 v2 p.block) :
    Calls Tryz.prog 47 #[.pointer (some ⟨b, 0, none⟩), rv r a5 c5 a6 c6] w fun e w' => e = .returned (errv (hearE key m r)) ∧ Turned w B b key v1 v2 (hearM key m r) w' := by
  obtain ⟨what, ⟨hs, hrt, ht, hsg⟩, ents, prf⟩ := r
  obtain ⟨x, HWx⟩ : ∃ x, Hid (m.want = x) := ⟨_, rfl⟩
  obtain ⟨ww, wf, wt⟩ := x
  simp only at h5 h6 d5
  have aW := aggW
  have zW := sizeW
  have aR := aggR
  have zR := sizeR
  have HL : Hid (Lay w B b key m v1 v2) := h
  have HO : Hid (Ok key m) := ho
  have HCT : Hid (∀ w', Below w.heap.size w w' → what = ww → what ≠ 0 → Calls Tryz.prog 81 #[.pointer (some ⟨b, 0, none⟩), .agg #[.int .i64 what, .int .i64 hs, .int .i64 hrt, .int .i64 ht, .int .i64 hsg, .slice a5 ents.length c5, .slice a6 prf.length c6], .agg #[.int .i64 ww, .int .i64 wf, .int .i64 wt]] w' fun e w'' => e = .returned (errv (hearE key m ⟨what, ⟨hs, hrt, ht, hsg⟩, ents, prf⟩)) ∧ Turned w B b key v1 v2 (hearM key m ⟨what, ⟨hs, hrt, ht, hsg⟩, ents, prf⟩) w'') := fun w' b' hq hz => by
    have hc := take_any (h.below b') (hT.below b') ho ⟨what, ⟨hs, hrt, ht, hsg⟩, ents, prf⟩ hr (by rw [HWx.out]; exact hq) hz a5 c5 a6 c6 (h5.below b') (h6.below b') d5
    rw [HWx.out] at hc
    simp only [rv, wv] at hc
    refine hc.mono ?_
    rintro e w'' ⟨rfl, hq2⟩
    exact ⟨rfl, hq2.from b'⟩
  have HCW : Hid (∀ w', Below w.heap.size w w' → Calls Tryz.prog 48 #[.pointer (some ⟨b, 0, none⟩)] w' fun e w'' => e = .returned (.agg #[.int .i64 ww, .int .i64 wf, .int .i64 wt]) ∧ Below w'.heap.size w' w'') := fun w' b' => by
    have hc := WalkMiOne.want_any (h.below b') ho
    rw [HWx.out] at hc
    exact hc
  have HE0 : Hid (hearE key m ⟨what, ⟨hs, hrt, ht, hsg⟩, ents, prf⟩ = if what = 0 then 0 else if what ≠ ww then 3 else hearE key m ⟨what, ⟨hs, hrt, ht, hsg⟩, ents, prf⟩) := by
    show _ = _
    by_cases hz : what = 0
    · rw [if_pos hz]; unfold hearE; rw [if_pos hz]
    · rw [if_neg hz]
      by_cases hne : what ≠ ww
      · rw [if_pos hne]; unfold hearE; rw [if_neg hz, if_pos (by rw [HWx.out]; exact hne)]
      · rw [if_neg hne]
  have HM0 : Hid (what = 0 ∨ what ≠ ww → hearM key m ⟨what, ⟨hs, hrt, ht, hsg⟩, ents, prf⟩ = m) := fun q => by
    unfold hearM
    by_cases hz : what = 0
    · rw [if_pos hz]
    · rw [if_neg hz, if_pos (by rw [HWx.out]; exact q.resolve_left hz)]
  simp only [rv]
  clear h hT ho hr h5 h6 d5
  go_enter Tryz.func47, Tryz.ntmps47
  go_upto_region 1 with fail
  have HB0 : Hid (Below w.heap.size w (w.alloc (.cells #[.int .i64 what, .int .i64 hs, .int .i64 hrt, .int .i64 ht, .int .i64 hsg, .slice a5 ents.length c5, .slice a6 prf.length c6] 89))) := (Below.refl _ _).alloc (Nat.le_refl _) _
  have HR0 : Hid ((w.alloc (.cells #[.int .i64 what, .int .i64 hs, .int .i64 hrt, .int .i64 ht, .int .i64 hsg, .slice a5 ents.length c5, .slice a6 prf.length c6] 89)).rowIs w.heap.size 89 7 (cell7 what hs hrt ht hsg (.slice a5 ents.length c5) (.slice a6 prf.length c6))) := World.rowIs_alloc w #[.int .i64 what, .int .i64 hs, .int .i64 hrt, .int .i64 ht, .int .i64 hsg, .slice a5 ents.length c5, .slice a6 prf.length c6] _ _ (by intro i hi; match i, hi with | 0, _ => rfl | 1, _ => rfl | 2, _ => rfl | 3, _ => rfl | 4, _ => rfl | 5, _ => rfl | 6, _ => rfl)
  generalize w.alloc (.cells #[.int .i64 what, .int .i64 hs, .int .i64 hrt, .int .i64 ht, .int .i64 hsg, .slice a5 ents.length c5, .slice a6 prf.length c6] 89) = w0 at HB0 HR0 ⊢
  obtain ⟨pr, HPR⟩ : ∃ pr, Hid (w.heap.size = pr) := ⟨_, rfl⟩
  rw [show w.heap.size = pr from HPR.out] at HR0 ⊢
  have cW := HCW.out _ HB0.out
  go_wp2_with fail
  refine cW.mono ?_
  rintro e w1 ⟨rfl, bw1⟩
  clear cW HCW
  go_upto_region 2 with fail
  have HB1 : Hid (Below w0.heap.size w0 (w1.alloc (.cells #[.int .i64 ww, .int .i64 wf, .int .i64 wt] 91))) := bw1.alloc bw1.size _
  have HW1 : Hid ((w1.alloc (.cells #[.int .i64 ww, .int .i64 wf, .int .i64 wt] 91)).rowIs w1.heap.size 91 3 (fun i => if i = 0 then .int .i64 ww else if i = 1 then .int .i64 wf else .int .i64 wt)) := World.rowIs_alloc w1 #[.int .i64 ww, .int .i64 wf, .int .i64 wt] _ _ (by intro i hi; match i, hi with | 0, _ => rfl | 1, _ => rfl | 2, _ => rfl)
  clear bw1
  generalize w1.alloc (.cells #[.int .i64 ww, .int .i64 wf, .int .i64 wt] 91) = w2 at HB1 HW1 ⊢
  generalize w1.heap.size = pw at HW1 ⊢
  have HB2 : Hid (Below w.heap.size w w2) := bt HB0.out HB1.out
  have hR2 := HR0.out.of_block (HB1.out.block _ HR0.out.lt)
  have k0 : w2.cell? ⟨pr, 0, none⟩ = some (.int .i64 what) := hR2.cell (i := 0) (by omega)
  have k1 : w2.cell? ⟨pr, 1, none⟩ = some (.int .i64 hs) := hR2.cell (i := 1) (by omega)
  have k2 : w2.cell? ⟨pr, 2, none⟩ = some (.int .i64 hrt) := hR2.cell (i := 2) (by omega)
  have k3 : w2.cell? ⟨pr, 3, none⟩ = some (.int .i64 ht) := hR2.cell (i := 3) (by omega)
  have k4 : w2.cell? ⟨pr, 4, none⟩ = some (.int .i64 hsg) := hR2.cell (i := 4) (by omega)
  have k5 : w2.cell? ⟨pr, 5, none⟩ = some (.slice a5 ents.length c5) := hR2.cell (i := 5) (by omega)
  have k6 : w2.cell? ⟨pr, 6, none⟩ = some (.slice a6 prf.length c6) := hR2.cell (i := 6) (by omega)
  have q0 : w2.cell? ⟨pw, 0, none⟩ = some (.int .i64 ww) := HW1.out.cell (i := 0) (by omega)
  have q1 : w2.cell? ⟨pw, 1, none⟩ = some (.int .i64 wf) := HW1.out.cell (i := 1) (by omega)
  have q2 : w2.cell? ⟨pw, 2, none⟩ = some (.int .i64 wt) := HW1.out.cell (i := 2) (by omega)
  have HSame : Hid (Turned w B b key v1 v2 m w2) := Turned.same HL.out HB2.out
  clear hR2
  by_cases hz : what = 0
  · have HFIN : Hid (hearE key m ⟨what, ⟨hs, hrt, ht, hsg⟩, ents, prf⟩ = 0 ∧ hearM key m ⟨what, ⟨hs, hrt, ht, hsg⟩, ents, prf⟩ = m) := ⟨by rw [HE0.out, if_pos hz], HM0.out (.inl hz)⟩
    have e0 : (what == 0) = true := by rw [beq_iff_eq]; exact hz
    clear hz HE0 HM0 HCT
    go_wp2_with fail
    go_ret
    exact ⟨by rw [HFIN.out.1]; rfl, by rw [HFIN.out.2]; exact HSame.out⟩
  have e0 : (what == 0) = false := by rw [beq_eq_false_iff_ne]; exact hz
  by_cases hq : what = ww
  · have e1 : (what == ww) = true := by rw [beq_iff_eq]; exact hq
    have cT := HCT.out w2 HB2.out hq hz
    clear hz hq HE0 HM0 HCT HSame
    go_wp2_with fail
    refine cT.mono ?_
    rintro e w3 ⟨rfl, hT3⟩
    have HT3 : Hid (Turned w B b key v1 v2 (hearM key m ⟨what, ⟨hs, hrt, ht, hsg⟩, ents, prf⟩) w3) := hT3
    clear cT hT3
    go_wp2_with fail
    go_ret
    exact ⟨rfl, HT3.out⟩
  · have e1 : (what == ww) = false := by rw [beq_eq_false_iff_ne]; exact hq
    have HFIN : Hid (hearE key m ⟨what, ⟨hs, hrt, ht, hsg⟩, ents, prf⟩ = 3 ∧ hearM key m ⟨what, ⟨hs, hrt, ht, hsg⟩, ents, prf⟩ = m) := ⟨by rw [HE0.out, if_neg hz, if_pos hq], HM0.out (.inr hq)⟩
    clear hz hq HE0 HM0 HCT
    go_wp2_with fail
    go_ret
    exact ⟨by rw [HFIN.out.1]; rfl, by rw [HFIN.out.2]; exact HSame.out⟩

end Go.Proofs.YtigbbhojgajkjaiGreatDoor.WalkMiHear
