/-
  What the document's own mirror (package witref2) does: Root, Want, forget, settle.
-/
import Derived.Test.YtfpkngpgmllhnaaGreatDoorDocMir
import Derived.Test.YtfpkngpgmllhnaaGreatDoorEntRuns
import Derived.Test.YtfpkngpgmllhnaaGreatDoorObjRows
import Derived.Test.YtfpkngpgmllhnaaGreatDoorEntRef
import Derived.Test.YtfpkngpgmllhnaaGreatDoorRefTree
import Derived.Test.YtfpkngpgmllhnaaGreatDoorHeadRows
import Derived.BigRegion
import Derived.BigQuiet
import Derived.Deep.QuietTactic
import Derived.Deep.RegionHeld
import Derived.Deep.CutBlock
import Derived.Deep.DeepMust
import Derived.Laws.AppendOwnNone
import Derived.Lib.AppendZeros
import Derived.Maps.AppendAt
import Derived.Test.YtfpkngpgmllhnaaGreatDoorReplyAll
import Derived.Test.YtfpkngpgmllhnaaGreatDoorHeadRef
import Derived.Test.YtfpkngpgmllhnaaGreatDoorGrowRef
import Derived.Deep.RegionLaw
namespace Go.Proofs.YtfpkngpgmllhnaaGreatDoor.WalkMirRef
open Go.RowKit
open MirVals (wv aggW sizeW)
open Lists (Row ints bt)
open Keeps (Kept owns_kept owns_base owns_row)
open Wides (Wide owns_wide)
open Heads (Head zero)
open Entries (Entry entE entsE leafsOf)
open EntRows (cells cells_append)
open Mirrors (Mir Want rootE)
open MirDoc (Lay Dm fld foot put4)

theorem root_of (l : List Entry) (v : Value) (w : World) (B : Nat) (hown : w.ownsRow B 3 1 v (leafsOf l).length (ints (leafsOf l))) (hl : l.length ≤ 1000) :
    Calls Tryz.prog 42 #[v] w fun e w' => e = .returned (.int .i64 (rootE l)) ∧ Below w.heap.size w w' := WalkRootOf.root_of l v w B hown hl

theorem root_any {w : World} {B b : Nat} {key : Int} {m : Mir} {v1 v2 : Value} (h : Lay w B b key m v1 v2) (hf : entsE m.own = 0) :
    Calls Tryz.prog 21 #[.pointer (some ⟨b, 0, none⟩)] w fun e w' => e = .returned (.int .i64 (rootE m.own)) ∧ Below w.heap.size w w' := by
  have hl := (Entries.ents_ok hf).1
  have c1 : w.cell? ⟨b, 1, none⟩ = some v1 := h.row.cell (i := 1) (by omega)
  obtain ⟨a, c, rfl, hw⟩ := owns_wide h.own
  have cL := WalkUnpackRef.leafs_any m.own a m.own.length c w hw hf
  clear h hw hf
  go_enter Tryz.func21, Tryz.ntmps21
  go_wp2_with fail
  refine cL.mono ?_
  rintro e w1 ⟨v, rfl, o1, b1⟩
  have cR := root_of m.own v w1 _ o1 (by omega)
  clear cL o1
  go_wp2_with fail
  refine cR.mono ?_
  rintro e w2 ⟨rfl, b2⟩
  clear cR
  go_wp2_with fail
  go_ret
  exact ⟨rfl, bt b1 b2⟩

set_option maxHeartbeats 1000000 in
theorem forget_any {w : World} {B b : Nat} {key : Int} {m : Mir} {v1 v2 : Value} (h : Lay w B b key m v1 v2) :
    Calls Tryz.prog 82 #[.pointer (some ⟨b, 0, none⟩)] w fun e w' => e = .returned (.tuple #[]) ∧ Lay w' B b key m.forget v1 (.slice none 0 0) ∧ Kept (fun k => k = b) w w' := by
  have FIN : Hid (Lay ((put4 w b 6 zero).setCell ⟨b, 10, none⟩ (.slice none 0 0)) B b key m.forget v1 (.slice none 0 0) ∧ Kept (fun k => k = b) w ((put4 w b 6 zero).setCell ⟨b, 10, none⟩ (.slice none 0 0))) := ⟨h.forget, (MirDoc.kept_put4 w b 6 zero).trans (MirDoc.kept_set _ b 10 _) fun _ q => .inl q⟩
  have c6 : w.cell? ⟨b, 6, none⟩ = some (.int .i64 m.next.size) := h.row.cell (i := 6) (by omega)
  have c7 : w.cell? ⟨b, 7, none⟩ = some (.int .i64 m.next.root) := h.row.cell (i := 7) (by omega)
  have c8 : w.cell? ⟨b, 8, none⟩ = some (.int .i64 m.next.time) := h.row.cell (i := 8) (by omega)
  have c9 : w.cell? ⟨b, 9, none⟩ = some (.int .i64 m.next.sign) := h.row.cell (i := 9) (by omega)
  have f6 := h.row.frozen 6
  have f7 := h.row.frozen 7
  have f8 := h.row.frozen 8
  have f9 := h.row.frozen 9
  have aH := HeadVals.aggH
  have zH := HeadVals.sizeH
  have h2 := (h.setNext zero)
  have d10 : (put4 w b 6 zero).cell? ⟨b, 10, none⟩ = some v2 := h2.row.cell (i := 10) (by omega)
  have e10 := h2.row.frozen 10
  obtain ⟨a2, cc2, rfl, _⟩ := owns_wide h.waits
  clear h h2
  unfold put4 zero at FIN d10 e10
  simp only [Nat.reduceAdd] at FIN d10 e10
  go_enter Tryz.func82, Tryz.ntmps82
  go_upto_region 1 with fail
  generalize (((w.setCell ⟨b, 6, none⟩ (.int .i64 0)).setCell ⟨b, 7, none⟩ (.int .i64 0)).setCell ⟨b, 8, none⟩ (.int .i64 0)).setCell ⟨b, 9, none⟩ (.int .i64 0) = wf at FIN d10 e10 ⊢
  go_wp2_with fail
  go_end0
  exact ⟨rfl, FIN.out⟩

theorem size_want : (Tryz.prog.info? 58).map (·.size) = some 3 := by kernel_rfl
theorem ret_want {w : World} {g : Nat} {x y z : Value} (tmps : Array Value) (hp : tmps.getD 2 undef = .pointer (some ⟨g, 0, none⟩)) (h : w.heap[g]? = some (.cells #[x, y, z] 58 (0, 0))) :
    (results Tryz.f17 tmps).run Tryz.prog w = .ok (.agg #[x, y, z]) w :=
  results_cell_row rfl tmps w g _ #[x, y, z] (0, 0) _ hp h Tryz.underlying58 rfl size_want
theorem row_three {w : World} {g : Nat} {t : TypeId} {f : Nat → Value} (h : w.rowIs g t 3 f) : w.heap[g]? = some (.cells #[f 0, f 1, f 2] t (0, 0)) := by
  obtain ⟨c, hb, hn, hc⟩ := h
  have : c = #[f 0, f 1, f 2] := by
    apply Array.ext_getElem?
    intro i
    match i with
    | 0 => rw [hc 0 (by omega)]; rfl
    | 1 => rw [hc 1 (by omega)]; rfl
    | 2 => rw [hc 2 (by omega)]; rfl
    | i + 3 => rw [Array.getElem?_eq_none (by omega), Array.getElem?_eq_none (by simp)]
  rw [hb, this]
theorem put_three {w : World} {g : Nat} {t : TypeId} {f : Nat → Value} (h : w.rowIs g t 3 f) (x y z : Value) : (((w.setCell ⟨g, 0, none⟩ x).setCell ⟨g, 1, none⟩ y).setCell ⟨g, 2, none⟩ z).heap[g]? = some (.cells #[x, y, z] t (0, 0)) := row_three (((h.set 0 x).set 1 y).set 2 z)
set_option maxHeartbeats 4000000 in
theorem want_any {w : World} {B b : Nat} {key : Int} {m : Mir} {v1 v2 : Value} (h : Lay w B b key m v1 v2) (h1 : m.own.length ≤ 200) (h2 : m.waits.length ≤ 200) :
    Calls Tryz.prog 17 #[.pointer (some ⟨b, 0, none⟩)] w fun e w' => e = .returned (wv m.want) ∧ Below w.heap.size w w' := by
  have aW := aggW
  have zW := sizeW
  have c6 : w.cell? ⟨b, 6, none⟩ = some (.int .i64 m.next.size) := h.row.cell (i := 6) (by omega)
  have c1 : w.cell? ⟨b, 1, none⟩ = some v1 := h.row.cell (i := 1) (by omega)
  have c10 : w.cell? ⟨b, 10, none⟩ = some v2 := h.row.cell (i := 10) (by omega)
  obtain ⟨a1, k1, rfl, _⟩ := owns_wide h.own
  obtain ⟨a2, k2, rfl, _⟩ := owns_wide h.waits
  have hb := h.row.lt
  clear h
  have HW : Hid (∀ x, m.want = x → wv m.want = wv x) := fun x hx => by rw [hx]
  by_cases h0 : m.next.size = 0
  · have HV : Hid (m.want = ⟨1, 0, 0⟩) := if_pos h0
    have e0 : (m.next.size == 0) = true := by rw [h0]; rfl
    go_enter Tryz.func17, Tryz.ntmps17
    go_wp2_with fail
    refine bodyPost_ret (ret_want _ rfl (heap_alloc_new _ _)) rfl ⟨by rw [HV.out]; rfl, (Below.refl _ _).alloc (Nat.le_refl _) _⟩
  · have e0 : (m.next.size == 0) = false := by rw [beq_eq_false_iff_ne]; exact h0
    have HF : Hid (m.want = if (m.has : Int) = m.next.size then ⟨3, m.own.length, m.has⟩ else ⟨2, m.has, if m.next.size < m.has + 16 then m.next.size else m.has + 16⟩) := if_neg h0
    have HH : Hid ((m.has : Int) = (m.own.length : Int) + (m.waits.length : Int)) := by show ((m.own.length + m.waits.length : Nat) : Int) = _; omega
    generalize (m.has : Int) = H at HF HH
    generalize m.next.size = Z at *
    generalize m.own.length = O at *
    generalize m.waits.length = K at *
    have hH : (O : Int) + (K : Int) = H := HH.out.symm
    have hH0 : 0 ≤ H := by have := HH.out; omega
    have hH1 : H ≤ 400 := by have := HH.out; omega
    clear h0
    go_enter Tryz.func17, Tryz.ntmps17
    go_upto_region 3 with fail
    have b0 : Below w.heap.size w (w.alloc (.cells #[.int .i64 0, .int .i64 0, .int .i64 0] 58)) := (Below.refl _ _).alloc (Nat.le_refl _) _
    have r0 : (w.alloc (.cells #[.int .i64 0, .int .i64 0, .int .i64 0] 58)).rowIs w.heap.size 58 3 (fun _ => .int .i64 0) := World.rowIs_alloc w #[.int .i64 0, .int .i64 0, .int .i64 0] _ _ (by intro i hi; match i, hi with | 0, _ => rfl | 1, _ => rfl | 2, _ => rfl)
    have q1 := Lists.cell_below b0 c1
    have q6 := Lists.cell_below b0 c6
    have q10 := Lists.cell_below b0 c10
    clear c1 c6 c10 hb
    generalize w.alloc (.cells #[.int .i64 0, .int .i64 0, .int .i64 0] 58) = wa at b0 r0 q1 q6 q10 ⊢
    have hS : w.heap.size = w.heap.size := rfl
    generalize hg : w.heap.size = g at r0 ⊢
    go_quiet (fail)
    have b1 : Below w.heap.size w (wa.drewN nq) := ⟨b0.os, b0.tape, b0.output, b0.size, b0.block⟩
    have r1 : (wa.drewN nq).rowIs g 58 3 (fun _ => .int .i64 0) := r0
    have d1 : (wa.drewN nq).cell? ⟨b, 1, none⟩ = some (.slice a1 O k1) := q1
    have d6 : (wa.drewN nq).cell? ⟨b, 6, none⟩ = some (.int .i64 Z) := q6
    clear q1 q6 q10 r0 b0
    generalize wa.drewN nq = wb at b1 r1 d1 d6 ⊢
    have g0 := r1.cell (i := 0) (by omega)
    have g1 := r1.cell (i := 1) (by omega)
    have g2 := r1.cell (i := 2) (by omega)
    have f0 := r1.frozen 0
    have f1 := r1.frozen 1
    have f2 := r1.frozen 2
    have HR : Hid (wb.rowIs g 58 3 (fun _ => .int .i64 0)) := r1
    have HB : Hid (Below w.heap.size w wb) := b1
    have HG : Hid (w.heap.size = g) := hg
    clear r1 b1 hg hS
    have hEnd : Hid (∀ x y z, Below w.heap.size w (((wb.setCell ⟨g, 0, none⟩ x).setCell ⟨g, 1, none⟩ y).setCell ⟨g, 2, none⟩ z)) := fun x y z => ((HB.out.setCell (by rw [HG.out]; exact Nat.le_refl _) _).setCell (by rw [HG.out]; exact Nat.le_refl _) _).setCell (by rw [HG.out]; exact Nat.le_refl _) _
    by_cases hz : H = Z
    · have HV : Hid (m.want = ⟨3, (O : Int), H⟩) := by show _ = _; rw [HF.out, if_pos hz]
      have ez : (H == Z) = true := by rw [beq_iff_eq]; exact hz
      clear hz HF
      go_wp2_with fail
      refine bodyPost_ret (ret_want _ rfl (put_three HR.out _ _ _)) rfl ⟨by rw [HV.out]; rfl, hEnd.out _ _ _⟩
    · have ez : (H == Z) = false := by rw [beq_eq_false_iff_ne]; exact hz
      by_cases hlt : Z < H + 16
      · have HV : Hid (m.want = ⟨2, H, Z⟩) := by show _ = _; rw [HF.out, if_neg hz, if_pos hlt]
        clear hz HF
        go_wp2_with fail
        refine bodyPost_ret (ret_want _ rfl (put_three HR.out _ _ _)) rfl ⟨by rw [HV.out]; rfl, hEnd.out _ _ _⟩
      · have HV : Hid (m.want = ⟨2, H, H + 16⟩) := by show _ = _; rw [HF.out, if_neg hz, if_neg hlt]
        clear hz HF
        go_wp2_with fail
        refine bodyPost_ret (ret_want _ rfl (put_three HR.out _ _ _)) rfl ⟨by rw [HV.out]; rfl, hEnd.out _ _ _⟩

/-- what settle leaves -/
def Settled (w : World) (B b : Nat) (key : Int) (m : Mir) (v1 : Value) (e : Ending) (w' : World) : Prop :=
  e = .returned (.int .i64 (m.settledE : Nat)) ∧ ∃ v1' v2', Lay w' B b key m.settled v1' v2' ∧ Kept (fun k => k = b) w w' ∧ ∀ k, foot b v1' v2' k → foot b v1 v1 k ∨ w.heap.size ≤ k
set_option maxHeartbeats 4000000 in
set_option maxRecDepth 100000 in
theorem settle_any {w : World} {B b : Nat} {key : Int} {m : Mir} {v1 v2 : Value} (h : Lay w B b key m v1 v2) (hf : entsE m.all = 0) :
    Calls Tryz.prog 83 #[.pointer (some ⟨b, 0, none⟩)] w fun e w' => Settled w B b key m v1 e w' := by
  have hla := (Entries.ents_ok hf).1
  have hsum : m.all.length = m.own.length + m.waits.length := List.length_append
  have hBw : B ≤ w.heap.size := Nat.le_of_lt (Nat.lt_of_le_of_lt h.above h.row.lt)
  -- all of them
  obtain ⟨va, wa, ra, oa, ka, fa⟩ := run_own w B (.slice none 0 0) [] (World.ownsRow_nil _ _ _ _) v1 m.own h.own (by simp; omega) hBw
  have ba : Below w.heap.size w wa := ka.below (fun k hk => by cases hk) (Nat.le_refl _)
  have ha := h.below ba
  rw [List.nil_append] at oa
  have hBa : B ≤ wa.heap.size := Nat.le_trans hBw ba.size
  obtain ⟨vb, wb, rb, ob, kb, fb⟩ := run_own wa B va m.own oa v2 m.waits ha.waits (by omega) hBa
  have hva : ∀ k, va.ownBlock = some k → w.heap.size ≤ k := fun k hk => by
    rcases fa k hk with e | e
    · cases e
    · omega
  have bb : Below w.heap.size w wb := ba.trans (kb.below (fun k hk => hva k hk) ba.size)
  have hb := h.below bb
  have hvb : ∀ k, vb.ownBlock = some k → w.heap.size ≤ k := fun k hk => by
    rcases fb k hk with e | e
    · exact hva k e
    · have := ba.size
      omega
  have hall : m.own ++ m.waits = m.all := rfl
  rw [hall] at ob
  have HO : Hid (wb.ownsRow B 65 2 vb m.all.length (cells m.all)) := ob
  have HL : Hid (Lay wb B b key m v1 v2) := hb
  have HBB : Hid (Below w.heap.size w wb) := bb
  have HVB : Hid (∀ k, vb.ownBlock = some k → w.heap.size ≤ k) := hvb
  have HFT : Hid (∀ k, foot b v1 v2 k → B ≤ k ∧ k < w.heap.size) := h.foot_lt
  have c1 : w.cell? ⟨b, 1, none⟩ = some v1 := h.row.cell (i := 1) (by omega)
  have d10 : wa.cell? ⟨b, 10, none⟩ = some v2 := ha.row.cell (i := 10) (by omega)
  have ra' := ra 27
  have rb' := rb 27
  have lB : Hid (b < w.heap.size) := h.row.lt
  obtain ⟨a1, k1, rfl, _⟩ := owns_wide h.own
  obtain ⟨a2, k2, rfl, _⟩ := owns_wide h.waits
  obtain ⟨aa, kaa, rfl, _⟩ := owns_wide oa
  obtain ⟨ab, kab, rfl, hwb⟩ := owns_wide ob
  have cL := WalkUnpackRef.leafs_any m.all ab m.all.length kab
  have HRT : Hid (∀ v w5 D, w5.ownsRow D 3 1 v (leafsOf m.all).length (ints (leafsOf m.all)) → Calls Tryz.prog 42 #[v] w5 fun e w' => e = .returned (.int .i64 (rootE m.all)) ∧ Below w5.heap.size w5 w') := fun v w5 D o => root_of m.all v w5 D o (by omega)
  clear ra rb oa ob ka kb fa fb ba bb ha hb hva hvb hBa h hall hsum
  go_enter Tryz.func83, Tryz.ntmps83
  go_upto_region 3 with (at_builtin; go_must (refine Lib.wpList_append_run _ rfl (.tmp 4) (.tmp 8) 27 27 rfl _ _ rfl rfl _ _ ra' ?_))
  go_upto_region 4 with (at_builtin; go_must (refine Lib.wpList_append_run _ rfl (.tmp 10) (.tmp 14) 27 27 rfl _ _ rfl rfl _ _ rb' ?_))
  clear ra' rb' c1 d10
  have e7 : wb.drew.cell? ⟨b, 7, none⟩ = some (.int .i64 m.next.root) := HL.out.row.cell (i := 7) (by omega)
  have HLF : Hid (∀ w', Below wb.heap.size wb w' → w'.cell? ⟨b, 7, none⟩ = some (.int .i64 m.next.root)) := fun w' b' => (HL.out.below b').row.cell (i := 7) (by omega)
  have HCL : Hid (Calls Tryz.prog 40 #[.slice ab m.all.length kab] wb.drew fun e w' => ∃ v, e = .returned v ∧ w'.ownsRow wb.drew.heap.size 3 1 v (leafsOf m.all).length (ints (leafsOf m.all)) ∧ Below wb.drew.heap.size wb.drew w') := cL wb.drew hwb hf
  clear cL hwb hf
  go_region_held (fun w' => w'.cell? ⟨b, 7, none⟩ = some (.int .i64 m.next.root)) (go_keep)
    (first | (go_at_call 40; refine HCL.out.mono ?_; rintro e w5 ⟨vl, rfl, o5, b5⟩; have HB5 : Hid (Below wb.heap.size wb w5) := bt (Below.refl _ wb).drew b5; have HO5 : Hid (w5.ownsRow wb.heap.size 3 1 vl (leafsOf m.all).length (ints (leafsOf m.all))) := o5; have g7 := HLF.out _ HB5.out; clear b5 o5) | (go_at_call 42; refine (HRT.out _ _ _ HO5.out).mono ?_; rintro e w6 ⟨rfl, b6⟩; have HB6 : Hid (Below wb.heap.size wb w6) := bt HB5.out b6; have g7 := HLF.out _ HB6.out; clear b6))
  have L6 := HL.out.below HB6.out
  have HBW : Hid (Below w.heap.size w w6) := HBB.out.trans (HB6.out.mono HBB.out.size)
  have aH := HeadVals.aggH
  have zH := HeadVals.sizeH
  clear g7 e7 HLF HCL HRT HB5 HO5
  by_cases hr : rootE m.all = m.next.root
  · have e1 : (rootE m.all != m.next.root) = false := by rw [hr]; simp
    have hSE : m.settledE = 0 := if_pos hr
    have hSM : m.settled = ⟨m.all, m.next, zero, []⟩ := if_pos hr
    have o6 : w6.ownsRow B 65 2 (.slice ab m.all.length kab) m.all.length (cells m.all) := owns_kept HO.out (Kept.of_below (fun _ => False) HB6.out) fun _ _ q => q
    have nb : (Value.slice ab m.all.length kab).ownBlock ≠ some b := fun e => by have h1 := HVB.out b e; have h2 := lB.out; omega
    have nv : ∀ k, (Value.slice ab m.all.length kab).ownBlock = some k → (Value.slice a2 m.waits.length k2).ownBlock ≠ some k := fun k hk e => by have h1 := HVB.out k hk; have h2 := (HFT.out k (.inr (.inr e))).2; omega
    have L7 := L6.setOwn m.all _ o6 nb nv
    have c1 : w6.cell? ⟨b, 1, none⟩ = some (.slice a1 m.own.length k1) := L6.row.cell (i := 1) (by omega)
    have f1 := L6.row.frozen 1
    have K7 : Kept (fun k => k = b) w (w6.setCell ⟨b, 1, none⟩ (.slice ab m.all.length kab)) := (Kept.of_below (fun k => k = b) HBW.out).setCell (.inl rfl) _
    have HK7 : Hid (Kept (fun k => k = b) w (w6.setCell ⟨b, 1, none⟩ (.slice ab m.all.length kab))) := K7
    have HL7 : Hid (Lay (w6.setCell ⟨b, 1, none⟩ (.slice ab m.all.length kab)) B b key { m with own := m.all } (.slice ab m.all.length kab) (.slice a2 m.waits.length k2)) := L7
    clear L6 L7 K7 o6 hr
    go_upto_region 8 with fail
    generalize w6.setCell ⟨b, 1, none⟩ (.slice ab m.all.length kab) = w7 at HK7 HL7 ⊢
    have g2 : w7.cell? ⟨b, 2, none⟩ = some (.int .i64 m.head.size) := HL7.out.row.cell (i := 2) (by omega)
    have g3 : w7.cell? ⟨b, 3, none⟩ = some (.int .i64 m.head.root) := HL7.out.row.cell (i := 3) (by omega)
    have g4 : w7.cell? ⟨b, 4, none⟩ = some (.int .i64 m.head.time) := HL7.out.row.cell (i := 4) (by omega)
    have g5 : w7.cell? ⟨b, 5, none⟩ = some (.int .i64 m.head.sign) := HL7.out.row.cell (i := 5) (by omega)
    have g6 : w7.cell? ⟨b, 6, none⟩ = some (.int .i64 m.next.size) := HL7.out.row.cell (i := 6) (by omega)
    have g7 : w7.cell? ⟨b, 7, none⟩ = some (.int .i64 m.next.root) := HL7.out.row.cell (i := 7) (by omega)
    have g8 : w7.cell? ⟨b, 8, none⟩ = some (.int .i64 m.next.time) := HL7.out.row.cell (i := 8) (by omega)
    have g9 : w7.cell? ⟨b, 9, none⟩ = some (.int .i64 m.next.sign) := HL7.out.row.cell (i := 9) (by omega)
    have z2 := HL7.out.row.frozen 2
    have z3 := HL7.out.row.frozen 3
    have z4 := HL7.out.row.frozen 4
    have z5 := HL7.out.row.frozen 5
    have HL8 : Hid (Lay (put4 w7 b 2 m.next) B b key { { m with own := m.all } with head := m.next } (.slice ab m.all.length kab) (.slice a2 m.waits.length k2) ∧ Kept (fun k => k = b) w (put4 w7 b 2 m.next)) := ⟨HL7.out.setHead m.next, HK7.out.trans (MirDoc.kept_put4 w7 b 2 m.next) fun _ q => .inl q⟩
    unfold put4 at HL8
    simp only [Nat.reduceAdd] at HL8
    go_upto_region 9 with fail
    generalize (((w7.setCell ⟨b, 2, none⟩ (.int .i64 m.next.size)).setCell ⟨b, 3, none⟩ (.int .i64 m.next.root)).setCell ⟨b, 4, none⟩ (.int .i64 m.next.time)).setCell ⟨b, 5, none⟩ (.int .i64 m.next.sign) = w8 at HL8 ⊢
    have cF := forget_any HL8.out.1
    clear g2 g3 g4 g5 g6 g7 g8 g9 z2 z3 z4 z5 c1 f1
    go_wp2_with fail
    refine cF.mono ?_
    rintro e w9 ⟨rfl, L9, K9⟩
    clear cF
    go_wp2_with fail
    go_ret
    refine ⟨by rw [hSE]; rfl, _, _, by rw [hSM]; exact L9, HL8.out.2.trans K9 fun _ q => .inl q, ?_⟩
    rintro k (rfl | hk | hk)
    · exact .inl (.inl rfl)
    · exact .inr (HVB.out k hk)
    · simp [Value.ownBlock] at hk
  · have e1 : (rootE m.all != m.next.root) = true := by simpa using hr
    have hSE : m.settledE = 8 := if_neg hr
    have hSM : m.settled = m.forget := if_neg hr
    have cF := forget_any L6
    clear L6 hr
    go_wp2_with fail
    refine cF.mono ?_
    rintro e w9 ⟨rfl, L9, K9⟩
    clear cF
    go_wp2_with fail
    go_ret
    refine ⟨by rw [hSE]; rfl, _, _, by rw [hSM]; exact L9, (Kept.of_below (fun k => k = b) HBW.out).trans K9 fun _ q => .inl q, ?_⟩
    rintro k (rfl | hk | hk)
    · exact .inl (.inl rfl)
    · exact .inl (.inr (.inl hk))
    · simp [Value.ownBlock] at hk

end Go.Proofs.YtfpkngpgmllhnaaGreatDoor.WalkMirRef

/-
  What the document's own mirror (package witref2) does when it hears a reply: Hear.
-/
namespace Go.Proofs.YtfpkngpgmllhnaaGreatDoor.WalkMirHear
open Go.RowKit
open Lists (Row ints bt)
open Keeps (Kept owns_kept owns_base owns_row)
open Wides (Wide owns_wide)
open Heads (Head zero verifyE)
open HeadVals (hv)
open Entries (Entry entE entsE leafsOf)
open EntRows (cells cells_append)
open Mirrors (Mir Want Reply rootE Ok hearE hearM)
open MirDoc (Lay Dm fld foot put4)
open ReplyRows (RFine)
open MirVals (rv aggR sizeR cell7)

/-- what Hear leaves -/
def Heard (w : World) (B b : Nat) (key : Int) (m : Mir) (v1 v2 : Value) (r : Reply) (e : Ending) (w' : World) : Prop :=
  e = .returned (.int .i64 (hearE key m r : Nat)) ∧ ∃ v1' v2', Lay w' B b key (hearM key m r) v1' v2' ∧ Kept (foot b v1 v2) w w' ∧ ∀ k, foot b v1' v2' k → foot b v1 v2 k ∨ w.heap.size ≤ k
theorem heard_same {w w' : World} {B b : Nat} {key : Int} {m : Mir} {v1 v2 : Value} {r : Reply} {E : Nat} (h : Lay w B b key m v1 v2) (k : Below w.heap.size w w') (hE : hearE key m r = E) (hM : hearM key m r = m) : Heard w B b key m v1 v2 r (.returned (.int .i64 (E : Int))) w' :=
  ⟨by rw [hE], v1, v2, by rw [hM]; exact h.below k, Kept.of_below _ k, fun k hk => .inl hk⟩

theorem heard_settled {w w6 w' : World} {B b : Nat} {key : Int} {m x : Mir} {v1 v2 : Value} {r : Reply} {e : Ending} (k : Kept (foot b v1 v2) w w6) (h : WalkMirRef.Settled w6 B b key x v1 e w') (hE : hearE key m r = x.settledE) (hM : hearM key m r = x.settled) : Heard w B b key m v1 v2 r e w' := by
  obtain ⟨rfl, a, c, hl, hk, hf⟩ := h
  refine ⟨by rw [hE], a, c, by rw [hM]; exact hl, k.trans hk fun i hi => .inl (.inl hi), fun i hi => ?_⟩
  rcases hf i hi with (rfl | q | q) | q
  · exact .inl (.inl rfl)
  · exact .inl (.inr (.inl q))
  · exact .inl (.inr (.inl q))
  · exact .inr (Nat.le_trans k.size q)
theorem heard_forget {w w6 w' : World} {B b : Nat} {key : Int} {m : Mir} {v1 v2 : Value} {r : Reply} {E : Nat} (k : Kept (foot b v1 v2) w w6) (hl : Lay w' B b key m.forget v1 (.slice none 0 0)) (hk : Kept (fun k => k = b) w6 w') (hE : hearE key m r = E) (hM : hearM key m r = m.forget) : Heard w B b key m v1 v2 r (.returned (.int .i64 (E : Int))) w' := by
  refine ⟨by rw [hE], v1, .slice none 0 0, by rw [hM]; exact hl, k.trans hk fun i hi => .inl (.inl hi), fun i hi => ?_⟩
  rcases hi with rfl | q | q
  · exact .inl (.inl rfl)
  · exact .inl (.inr (.inl q))
  · simp [Value.ownBlock] at q
/-- all of them are fine -/
theorem all_fine {key : Int} {m : Mir} (ho : Ok key m) (hl : m.has ≤ 200) : entsE m.all = 0 := by
  refine Entries.ents_of (by show (m.own ++ m.waits).length ≤ 200; rw [List.length_append]; exact hl) fun e he => ?_
  rcases List.mem_append.1 he with he | he
  · exact ho.own e he
  · exact ho.waits e he

theorem with_fine {key : Int} {m : Mir} (ho : Ok key m) {l : List Entry} (h : entsE l = 0) (hl : m.has + l.length ≤ 200) : entsE (m.with l).all = 0 := by
  refine Entries.ents_of (by show (m.own ++ (m.waits ++ l)).length ≤ 200; rw [List.length_append, List.length_append]; have : m.has = m.own.length + m.waits.length := rfl; omega) fun e he => ?_
  rcases List.mem_append.1 he with he | he
  · exact ho.own e he
  · rcases List.mem_append.1 he with he | he
    · exact ho.waits e he
    · exact (Entries.ents_ok h).2 e he
set_option maxHeartbeats 8000000 in
set_option maxRecDepth 100000 in
theorem hear_any {w : World} {B b : Nat} {key : Int} {m : Mir} {v1 v2 : Value} (h : Lay w B b key m v1 v2) (ho : Ok key m) (r : Reply) (hr : RFine r) (a5 : Option Addr) (c5 : Nat) (a6 : Option Addr) (c6 : Nat)
    (h5 : Wide 2 w a5 r.ents.length c5 (cells r.ents)) (h6 : Row w a6 r.proof.length c6 (ints r.proof)) :
    Calls Tryz.prog 41 #[.pointer (some ⟨b, 0, none⟩), rv r a5 c5 a6 c6] w fun e w' => Heard w B b key m v1 v2 r e w' := by
  obtain ⟨what, ⟨hs, hrt, ht, hsg⟩, ents, prf⟩ := r
  simp only [rv]
  simp only at h5 h6
  have aW := MirVals.aggW
  have zW := MirVals.sizeW
  have aR := aggR
  have zR := sizeR
  have aH := HeadVals.aggH
  have zH := HeadVals.sizeH
  have HLay : Hid (Lay w B b key m v1 v2) := h
  have HOk : Hid (Ok key m) := ho
  have HF : Hid (RFine ⟨what, ⟨hs, hrt, ht, hsg⟩, ents, prf⟩) := hr
  have H5 : Hid (Wide 2 w a5 ents.length c5 (cells ents)) := h5
  have H6 : Hid (Row w a6 prf.length c6 (ints prf)) := h6
  clear h ho hr h5 h6
  go_enter Tryz.func41, Tryz.ntmps41
  go_upto_region 1 with fail
  have b0 : Below w.heap.size w (w.alloc (.cells #[.int .i64 what, .int .i64 hs, .int .i64 hrt, .int .i64 ht, .int .i64 hsg, .slice a5 ents.length c5, .slice a6 prf.length c6] 87)) := (Below.refl _ _).alloc (Nat.le_refl _) _
  have r0 : (w.alloc (.cells #[.int .i64 what, .int .i64 hs, .int .i64 hrt, .int .i64 ht, .int .i64 hsg, .slice a5 ents.length c5, .slice a6 prf.length c6] 87)).rowIs w.heap.size 87 7 (cell7 what hs hrt ht hsg (.slice a5 ents.length c5) (.slice a6 prf.length c6)) := World.rowIs_alloc w #[.int .i64 what, .int .i64 hs, .int .i64 hrt, .int .i64 ht, .int .i64 hsg, .slice a5 ents.length c5, .slice a6 prf.length c6] _ _ (by intro i hi; match i, hi with | 0, _ => rfl | 1, _ => rfl | 2, _ => rfl | 3, _ => rfl | 4, _ => rfl | 5, _ => rfl | 6, _ => rfl)
  have HB0 : Hid (Below w.heap.size w (w.alloc (.cells #[.int .i64 what, .int .i64 hs, .int .i64 hrt, .int .i64 ht, .int .i64 hsg, .slice a5 ents.length c5, .slice a6 prf.length c6] 87))) := b0
  have HR0 : Hid ((w.alloc (.cells #[.int .i64 what, .int .i64 hs, .int .i64 hrt, .int .i64 ht, .int .i64 hsg, .slice a5 ents.length c5, .slice a6 prf.length c6] 87)).rowIs w.heap.size 87 7 (cell7 what hs hrt ht hsg (.slice a5 ents.length c5) (.slice a6 prf.length c6))) := r0
  clear b0 r0
  generalize w.alloc (.cells #[.int .i64 what, .int .i64 hs, .int .i64 hrt, .int .i64 ht, .int .i64 hsg, .slice a5 ents.length c5, .slice a6 prf.length c6] 87) = w0 at HB0 HR0 ⊢
  obtain ⟨pr, HPR⟩ : ∃ pr, Hid (w.heap.size = pr) := ⟨_, rfl⟩
  rw [show w.heap.size = pr from HPR.out]
  have HR1 : Hid (w0.rowIs pr 87 7 (cell7 what hs hrt ht hsg (.slice a5 ents.length c5) (.slice a6 prf.length c6))) := by rw [← HPR.out]; exact HR0.out
  clear HR0
  -- what it wants
  have hown := HOk.out.few
  have hwts : m.waits.length ≤ 200 := by
    by_cases hz : m.next.size = 0
    · rw [(HOk.out.none hz).2]
      simp
    · have h1 := (HOk.out.some hz).2.2.1
      have h2 := (Mirrors.size_ok (HOk.out.some hz).1).2
      have h3 : (m.has : Int) = ((m.own.length + m.waits.length : Nat) : Int) := rfl
      omega
  have cW := WalkMirRef.want_any (HLay.out.below HB0.out) hown hwts
  obtain ⟨x, HWx⟩ : ∃ x, Hid (m.want = x) := ⟨_, rfl⟩
  rw [HWx.out] at cW
  obtain ⟨ww, wf, wt⟩ := x
  simp only [MirVals.wv] at cW
  go_wp2_with fail
  refine cW.mono ?_
  rintro e w1 ⟨rfl, bw1⟩
  clear cW
  go_upto_region 2 with fail
  have HB1 : Hid (Below w0.heap.size w0 w1) := bw1
  have hb2 : Below w0.heap.size w0 (w1.alloc (.cells #[.int .i64 ww, .int .i64 wf, .int .i64 wt] 58)) := bw1.alloc bw1.size _
  have HB2 : Hid (Below w0.heap.size w0 (w1.alloc (.cells #[.int .i64 ww, .int .i64 wf, .int .i64 wt] 58))) := hb2
  have HW2 : Hid ((w1.alloc (.cells #[.int .i64 ww, .int .i64 wf, .int .i64 wt] 58)).rowIs w1.heap.size 58 3 (fun i => if i = 0 then .int .i64 ww else if i = 1 then .int .i64 wf else .int .i64 wt)) := World.rowIs_alloc w1 #[.int .i64 ww, .int .i64 wf, .int .i64 wt] _ _ (by intro i hi; match i, hi with | 0, _ => rfl | 1, _ => rfl | 2, _ => rfl)
  clear bw1 hb2
  generalize w1.alloc (.cells #[.int .i64 ww, .int .i64 wf, .int .i64 wt] 58) = w2 at HB2 HW2 ⊢
  generalize w1.heap.size = pw at HW2 ⊢
  clear HB1
  have HB : Hid (Below w.heap.size w w2) := HB0.out.trans (HB2.out.mono HB0.out.size)
  have HRr : Hid (w2.rowIs pr 87 7 (cell7 what hs hrt ht hsg (.slice a5 ents.length c5) (.slice a6 prf.length c6))) := HR1.out.of_block (HB2.out.block _ HR1.out.lt)
  clear HR1 HB2 HB0 w0 w1
  have k0 : w2.cell? ⟨pr, 0, none⟩ = some (.int .i64 what) := HRr.out.cell (i := 0) (by omega)
  have q0 : w2.cell? ⟨pw, 0, none⟩ = some (.int .i64 ww) := HW2.out.cell (i := 0) (by omega)
  by_cases hz : what = 0
  · have FIN := heard_same (r := ⟨what, ⟨hs, hrt, ht, hsg⟩, ents, prf⟩) HLay.out HB.out (E := 0) (by unfold hearE; rw [if_pos hz]) (by unfold hearM; rw [if_pos hz])
    have e0 : (what == 0) = true := by rw [beq_iff_eq]; exact hz
    have HFIN : Hid (Heard w B b key m v1 v2 ⟨what, ⟨hs, hrt, ht, hsg⟩, ents, prf⟩ (.returned (.int .i64 ((0 : Nat) : Int))) w2) := FIN
    clear FIN hz
    go_wp2_with fail
    go_ret
    exact HFIN.out
  have e0 : (what == 0) = false := by rw [beq_eq_false_iff_ne]; exact hz
  by_cases hne : what ≠ ww
  · have hne' : what ≠ m.want.what := by rw [HWx.out]; exact hne
    have FIN := heard_same (r := ⟨what, ⟨hs, hrt, ht, hsg⟩, ents, prf⟩) HLay.out HB.out (E := 3) (by unfold hearE; rw [if_neg hz, if_pos hne']) (by unfold hearM; rw [if_neg hz, if_pos hne'])
    have e1 : (what != ww) = true := by simpa using hne
    have HFIN : Hid (Heard w B b key m v1 v2 ⟨what, ⟨hs, hrt, ht, hsg⟩, ents, prf⟩ (.returned (.int .i64 ((3 : Nat) : Int))) w2) := FIN
    clear FIN hne hne' hz
    go_wp2_with fail
    go_ret
    exact HFIN.out
  obtain rfl : what = ww := Decidable.not_not.1 hne
  have e1 : (what != what) = false := by simp
  have HE0 : Hid (hearE key m ⟨what, ⟨hs, hrt, ht, hsg⟩, ents, prf⟩ = if what = 1 then Mirrors.headE key m ⟨hs, hrt, ht, hsg⟩ else if what = 2 then Mirrors.someE m ents else Mirrors.proofE m prf) := by
    show _ = _
    unfold hearE
    rw [if_neg hz, if_neg (by rw [HWx.out]; simp), HWx.out]
  have HM0 : Hid (hearM key m ⟨what, ⟨hs, hrt, ht, hsg⟩, ents, prf⟩ = if what = 1 then Mirrors.headM key m ⟨hs, hrt, ht, hsg⟩ else if what = 2 then Mirrors.someM m ents else Mirrors.proofM m prf) := by
    show _ = _
    unfold hearM
    rw [if_neg hz, if_neg (by rw [HWx.out]; simp), HWx.out]
  clear hne hz
  by_cases h1 : what = 1
  · -- a head
    have hE := HE0.out
    have hM := HM0.out
    rw [if_pos h1] at hE hM
    have hn := Mirrors.want_one (m := m) (by rw [HWx.out]; exact h1)
    have HOF : Hid (entsE m.own = 0) := Entries.ents_of HOk.out.few HOk.out.own
    have hhd : m.head.size = (m.own.length : Int) := by
      rcases HOk.out.head with ⟨q1, q2⟩ | ⟨_, q2, _⟩
      · rw [q1, q2]
        rfl
      · exact q2
    have HMore : Hid (hs = (m.own.length : Int) → Heads.more ⟨hs, hrt, ht, hsg⟩ m.head = decide (m.head.time < ht)) := by
      intro q
      show decide (m.head.size < hs ∨ (hs = m.head.size ∧ m.head.time < ht)) = _
      rw [hhd, q]
      simp
    have hhd0 : Hid (m.head.size = (m.own.length : Int)) := hhd
    have e2 : (what == 1) = true := by rw [beq_iff_eq]; exact h1
    have HE : Hid (hearE key m ⟨what, ⟨hs, hrt, ht, hsg⟩, ents, prf⟩ = Mirrors.headE key m ⟨hs, hrt, ht, hsg⟩) := hE
    have HM : Hid (hearM key m ⟨what, ⟨hs, hrt, ht, hsg⟩, ents, prf⟩ = Mirrors.headM key m ⟨hs, hrt, ht, hsg⟩) := hM
    have k1 : w2.cell? ⟨pr, 1, none⟩ = some (.int .i64 hs) := HRr.out.cell (i := 1) (by omega)
    have k2 : w2.cell? ⟨pr, 2, none⟩ = some (.int .i64 hrt) := HRr.out.cell (i := 2) (by omega)
    have k3 : w2.cell? ⟨pr, 3, none⟩ = some (.int .i64 ht) := HRr.out.cell (i := 3) (by omega)
    have k4 : w2.cell? ⟨pr, 4, none⟩ = some (.int .i64 hsg) := HRr.out.cell (i := 4) (by omega)
    clear hE hM hn h1 HE0 HM0 HOk HF H5 H6 hwts hhd
    obtain ⟨a1, l1, rfl, _⟩ := owns_wide HLay.out.own
    obtain ⟨V0, HV0⟩ : ∃ V0, Hid (verifyE ⟨hs, hrt, ht, hsg⟩ key = V0) := ⟨_, rfl⟩
    go_upto_region 8 with fail
    have hb3 : Below w2.heap.size w2 (w2.alloc (.cells #[.int .i64 hs, .int .i64 hrt, .int .i64 ht, .int .i64 hsg] 29)) := (Below.refl _ _).alloc (Nat.le_refl _) _
    have HD0 : Hid (HeadVals.At (w2.alloc (.cells #[.int .i64 hs, .int .i64 hrt, .int .i64 ht, .int .i64 hsg] 29)) w2.heap.size ⟨hs, hrt, ht, hsg⟩) := HeadVals.At.new w2 hs hrt ht hsg
    have HB3 : Hid (Below w.heap.size w (w2.alloc (.cells #[.int .i64 hs, .int .i64 hrt, .int .i64 ht, .int .i64 hsg] 29))) := HB.out.trans (hb3.mono HB.out.size)
    clear hb3 k0 q0 k1 k2 k3 k4 HB HRr HW2
    generalize w2.alloc (.cells #[.int .i64 hs, .int .i64 hrt, .int .i64 ht, .int .i64 hsg] 29) = w3 at HD0 HB3 ⊢
    generalize w2.heap.size = ph at HD0 ⊢
    have HS : Hid (∀ w', Below w3.heap.size w3 w' → (w'.cell? ⟨b, 0, none⟩ = some (.int .i64 key) ∧ w'.cell? ⟨b, 1, none⟩ = some (.slice a1 m.own.length l1)) ∧ w'.cell? ⟨ph, 0, none⟩ = some (.int .i64 hs) ∧ w'.cell? ⟨ph, 1, none⟩ = some (.int .i64 hrt) ∧ w'.cell? ⟨ph, 2, none⟩ = some (.int .i64 ht) ∧ w'.cell? ⟨ph, 3, none⟩ = some (.int .i64 hsg)) := fun w' b' => by
      have l := HLay.out.below (HB3.out.trans (b'.mono HB3.out.size))
      have d := HD0.out.below b'
      exact ⟨⟨l.row.cell (i := 0) (by omega), l.row.cell (i := 1) (by omega)⟩, d.size, d.root, d.time, d.sign⟩
    have HCV : Hid (∀ w', Calls Tryz.prog 81 #[.agg #[.int .i64 hs, .int .i64 hrt, .int .i64 ht, .int .i64 hsg], .int .i64 key] w' fun e w'' => e = .returned (.int .i64 (V0 : Int)) ∧ Below w'.heap.size w' w'') := fun w' => by
      rw [← HV0.out]
      exact WalkVerifyRef.verify_any ⟨hs, hrt, ht, hsg⟩ key w'
    obtain ⟨⟨s0, s1⟩, t0, t1, t2, t3⟩ := HS.out _ (Below.refl _ w3).drew
    go_region_held (fun w' => w'.cell? ⟨b, 0, none⟩ = some (.int .i64 key) ∧ w'.cell? ⟨ph, 0, none⟩ = some (.int .i64 hs) ∧ w'.cell? ⟨ph, 1, none⟩ = some (.int .i64 hrt) ∧ w'.cell? ⟨ph, 2, none⟩ = some (.int .i64 ht) ∧ w'.cell? ⟨ph, 3, none⟩ = some (.int .i64 hsg)) (first | exact ⟨s0, t0, t1, t2, t3⟩ | go_keep)
      (first | (go_at_call 81; refine (HCV.out _).mono ?_; rintro e w4 ⟨rfl, b4⟩; have HB4 : Hid (Below w3.heap.size w3 w4) := bt (Below.refl _ w3).drew b4; obtain ⟨⟨s0, s1⟩, t0, t1, t2, t3⟩ := HS.out _ HB4.out; clear b4))
    clear HCV s0 s1 t0 t1 t2 t3
    have HBw : Hid (Below w.heap.size w w4) := HB3.out.trans (HB4.out.mono HB3.out.size)
    by_cases hv0 : V0 = 0
    rotate_left
    · -- it is none
      have hv1 : verifyE ⟨hs, hrt, ht, hsg⟩ key ≠ 0 := by rw [HV0.out]; exact hv0
      have hh : Mirrors.headE key m ⟨hs, hrt, ht, hsg⟩ = V0 := by unfold Mirrors.headE; rw [if_neg hv1, HV0.out]
      have HFIN : Hid (Heard w B b key m (.slice a1 m.own.length l1) v2 ⟨what, ⟨hs, hrt, ht, hsg⟩, ents, prf⟩ (.returned (.int .i64 (V0 : Int))) w4) := heard_same HLay.out HBw.out (by rw [HE.out, hh]) (by rw [HM.out]; unfold Mirrors.headM; rw [if_neg (by rw [hh]; exact hv0)])
      have e4 : ((V0 : Int) != 0) = true := by simpa using hv0
      clear hv0 hv1 hh
      go_wp2_with fail
      go_ret
      exact HFIN.out
    have e4 : ((V0 : Int) != 0) = false := by rw [hv0]; rfl
    have hv1 : verifyE ⟨hs, hrt, ht, hsg⟩ key = 0 := by rw [HV0.out]; exact hv0
    have HEE : Hid (hearE key m ⟨what, ⟨hs, hrt, ht, hsg⟩, ents, prf⟩ = if hs < m.own.length ∨ (hs = m.own.length ∧ hrt ≠ rootE m.own) then 3 else 0) := by show _ = _; rw [HE.out]; unfold Mirrors.headE; rw [if_pos hv1]
    have HEH : Hid (Mirrors.headE key m ⟨hs, hrt, ht, hsg⟩ = if hs < m.own.length ∨ (hs = m.own.length ∧ hrt ≠ rootE m.own) then 3 else 0) := by show _ = _; unfold Mirrors.headE; rw [if_pos hv1]
    clear hv0 hv1
    go_upto_region 11 with fail
    obtain ⟨⟨s0, s1⟩, t0, t1, t2, t3⟩ := HS.out _ HB4.out
    by_cases hlt : hs < (m.own.length : Int)
    · -- fewer
      have HFIN : Hid (∀ w', Below w4.heap.size w4 w' → Heard w B b key m (.slice a1 m.own.length l1) v2 ⟨what, ⟨hs, hrt, ht, hsg⟩, ents, prf⟩ (.returned (.int .i64 ((3 : Nat) : Int))) w') := fun w' b' => heard_same HLay.out (HBw.out.trans (b'.mono HBw.out.size)) (by rw [HEE.out, if_pos (.inl hlt)]) (by rw [HM.out]; unfold Mirrors.headM; rw [if_neg (by rw [HEH.out, if_pos (.inl hlt)]; decide)])
      clear HEE HEH HMore HM HE
      go_quiet (fail)
      go_wp2_with fail
      go_ret
      exact HFIN.out _ ⟨rfl, rfl, rfl, Nat.le_refl _, fun _ _ => rfl⟩
    by_cases heq : hs = (m.own.length : Int)
    rotate_left
    · -- more
      have hgt : (m.own.length : Int) < hs := by omega
      have hc : ¬ (hs < (m.own.length : Int) ∨ (hs = (m.own.length : Int) ∧ hrt ≠ rootE m.own)) := by rintro (q | q); exact hlt q; exact heq q.1
      have hEE : hearE key m ⟨what, ⟨hs, hrt, ht, hsg⟩, ents, prf⟩ = 0 := by rw [HEE.out, if_neg hc]
      have hMM : hearM key m ⟨what, ⟨hs, hrt, ht, hsg⟩, ents, prf⟩ = { m with next := ⟨hs, hrt, ht, hsg⟩ } := by rw [HM.out]; unfold Mirrors.headM; rw [if_pos (by rw [HEH.out, if_neg hc]), if_pos hgt]
      have HEM : Hid (hearE key m ⟨what, ⟨hs, hrt, ht, hsg⟩, ents, prf⟩ = 0 ∧ hearM key m ⟨what, ⟨hs, hrt, ht, hsg⟩, ents, prf⟩ = { m with next := ⟨hs, hrt, ht, hsg⟩ }) := ⟨hEE, hMM⟩
      have u1 : (hs == (m.own.length : Int)) = false := by rw [beq_eq_false_iff_ne]; exact heq
      clear hEE hMM hc HEE HEH HMore HM HE heq
      go_quiet (fail)
      have b5 : Below w4.heap.size w4 (w4.drewN nq) := ⟨rfl, rfl, rfl, Nat.le_refl _, fun _ _ => rfl⟩
      have HB5 : Hid (Below w3.heap.size w3 (w4.drewN nq)) := bt HB4.out b5
      clear b5 s0 s1 t0 t1 t2 t3
      generalize w4.drewN nq = w5 at HB5 ⊢
      obtain ⟨⟨s0, s1⟩, t0, t1, t2, t3⟩ := HS.out _ HB5.out
      clear nq
      go_upto_region 13 with fail
      go_quiet (fail)
      have b6 : Below w5.heap.size w5 (w5.drewN nq) := ⟨rfl, rfl, rfl, Nat.le_refl _, fun _ _ => rfl⟩
      have HB6 : Hid (Below w3.heap.size w3 (w5.drewN nq)) := bt HB5.out b6
      clear b6 s0 s1 t0 t1 t2 t3
      generalize w5.drewN nq = w6 at HB6 ⊢
      obtain ⟨⟨s0, s1⟩, t0, t1, t2, t3⟩ := HS.out _ HB6.out
      have bw6 := HB3.out.trans (HB6.out.mono HB3.out.size)
      have L6 := HLay.out.below bw6
      have g6 : w6.cell? ⟨b, 6, none⟩ = some (.int .i64 m.next.size) := L6.row.cell (i := 6) (by omega)
      have g7 : w6.cell? ⟨b, 7, none⟩ = some (.int .i64 m.next.root) := L6.row.cell (i := 7) (by omega)
      have g8 : w6.cell? ⟨b, 8, none⟩ = some (.int .i64 m.next.time) := L6.row.cell (i := 8) (by omega)
      have g9 : w6.cell? ⟨b, 9, none⟩ = some (.int .i64 m.next.sign) := L6.row.cell (i := 9) (by omega)
      have f6 := L6.row.frozen 6
      have f7 := L6.row.frozen 7
      have f8 := L6.row.frozen 8
      have f9 := L6.row.frozen 9
      have HFIN : Hid (Heard w B b key m (.slice a1 m.own.length l1) v2 ⟨what, ⟨hs, hrt, ht, hsg⟩, ents, prf⟩ (.returned (.int .i64 ((0 : Nat) : Int))) (put4 w6 b 6 ⟨hs, hrt, ht, hsg⟩)) :=
        ⟨by rw [HEM.out.1], _, _, by rw [HEM.out.2]; exact L6.setNext ⟨hs, hrt, ht, hsg⟩, (Kept.of_below _ bw6).trans (MirDoc.kept_put4 w6 b 6 _) fun i q => .inl (.inl q), fun k hk => .inl hk⟩
      unfold put4 at HFIN
      simp only [Nat.reduceAdd] at HFIN
      clear L6 bw6
      go_wp2_with fail
      go_ret
      exact HFIN.out
    · -- as many
      have u1 : (hs == (m.own.length : Int)) = true := by rw [beq_iff_eq]; exact heq
      have HCR : Hid (∀ w', Below w3.heap.size w3 w' → Calls Tryz.prog 21 #[.pointer (some ⟨b, 0, none⟩)] w' fun e w'' => e = .returned (.int .i64 (rootE m.own)) ∧ Below w'.heap.size w' w'') := fun w' b' => WalkMirRef.root_any (HLay.out.below (HB3.out.trans (b'.mono HB3.out.size))) HOF.out
      obtain ⟨R0, HR0⟩ : ∃ R0, Hid (rootE m.own = R0) := ⟨_, rfl⟩
      rw [HR0.out] at HCR
      have Heq : Hid (hs = (m.own.length : Int)) := heq
      clear heq
      go_region_held (fun w' => w'.cell? ⟨b, 1, none⟩ = some (.slice a1 m.own.length l1) ∧ w'.cell? ⟨ph, 0, none⟩ = some (.int .i64 hs) ∧ w'.cell? ⟨ph, 1, none⟩ = some (.int .i64 hrt)) (first | exact ⟨s1, t0, t1⟩ | go_keep)
        (first | (go_at_call 21; refine (HCR.out _ (bt HB4.out (Below.refl _ w4).drew)).mono ?_; rintro e w5 ⟨rfl, b5⟩; have HB5 : Hid (Below w3.heap.size w3 w5) := bt (bt HB4.out (Below.refl _ w4).drew) b5; obtain ⟨⟨s0, s1⟩, t0, t1, t2, t3⟩ := HS.out _ HB5.out; clear b5))
      have HBw5 : Hid (Below w.heap.size w w5) := HB3.out.trans (HB5.out.mono HB3.out.size)
      by_cases hrr : hrt = R0
      rotate_left
      · -- of another root
        have hc : hs < (m.own.length : Int) ∨ (hs = (m.own.length : Int) ∧ hrt ≠ rootE m.own) := .inr ⟨Heq.out, by rw [HR0.out]; exact hrr⟩
        have HFIN : Hid (Heard w B b key m (.slice a1 m.own.length l1) v2 ⟨what, ⟨hs, hrt, ht, hsg⟩, ents, prf⟩ (.returned (.int .i64 ((3 : Nat) : Int))) w5) := heard_same HLay.out HBw5.out (by rw [HEE.out, if_pos hc]) (by rw [HM.out]; unfold Mirrors.headM; rw [if_neg (by rw [HEH.out, if_pos hc]; decide)])
        have u2 : (hrt != R0) = true := by simpa using hrr
        clear hc hrr HEE HEH HM HE HMore s0 s1 t0 t1 t2 t3
        go_wp2_with fail
        go_ret
        exact HFIN.out
      have u2 : (hrt != R0) = false := by rw [hrr]; simp
      have hc : ¬ (hs < (m.own.length : Int) ∨ (hs = (m.own.length : Int) ∧ hrt ≠ rootE m.own)) := by
        rintro (q | q)
        · omega
        · exact q.2 (by rw [HR0.out]; exact hrr)
      have hEE : hearE key m ⟨what, ⟨hs, hrt, ht, hsg⟩, ents, prf⟩ = 0 := by rw [HEE.out, if_neg hc]
      have hMM : hearM key m ⟨what, ⟨hs, hrt, ht, hsg⟩, ents, prf⟩ = if m.head.time < ht then { m with head := ⟨hs, hrt, ht, hsg⟩ } else m := by
        rw [HM.out]
        unfold Mirrors.headM
        rw [if_pos (by rw [HEH.out, if_neg hc]), if_neg (by show ¬ (m.own.length : Int) < hs; rw [Heq.out]; omega), HMore.out Heq.out]
        simp
      have HEM : Hid (hearE key m ⟨what, ⟨hs, hrt, ht, hsg⟩, ents, prf⟩ = 0 ∧ hearM key m ⟨what, ⟨hs, hrt, ht, hsg⟩, ents, prf⟩ = if m.head.time < ht then { m with head := ⟨hs, hrt, ht, hsg⟩ } else m) := ⟨hEE, hMM⟩
      have ngt : ¬ (m.own.length : Int) < hs := by rw [Heq.out]; omega
      have HS6 : Hid (∀ w', Below w3.heap.size w3 w' → w'.cell? ⟨b, 2, none⟩ = some (.int .i64 m.head.size) ∧ w'.cell? ⟨b, 4, none⟩ = some (.int .i64 m.head.time)) := fun w' b' => by
        have l := HLay.out.below (HB3.out.trans (b'.mono HB3.out.size))
        exact ⟨l.row.cell (i := 2) (by omega), l.row.cell (i := 4) (by omega)⟩
      have nhs : ¬ m.head.size < hs := by have h1 := hhd0.out; have h2 := Heq.out; omega
      clear hEE hMM hc hrr HEE HEH HM HE HMore
      go_upto_region 13 with fail
      go_quiet (fail)
      have b6 : Below w5.heap.size w5 (w5.drewN nq) := ⟨rfl, rfl, rfl, Nat.le_refl _, fun _ _ => rfl⟩
      have HB6 : Hid (Below w3.heap.size w3 (w5.drewN nq)) := bt HB5.out b6
      clear b6 s0 s1 t0 t1 t2 t3
      generalize w5.drewN nq = w6 at HB6 ⊢
      obtain ⟨⟨s0, s1⟩, t0, t1, t2, t3⟩ := HS.out _ HB6.out
      obtain ⟨p2, p4⟩ := HS6.out _ HB6.out
      clear nq
      go_upto_region 15 with fail
      by_cases hti : m.head.time < ht
      · go_quiet (fail)
        have b7 : Below w6.heap.size w6 (w6.drewN nq) := ⟨rfl, rfl, rfl, Nat.le_refl _, fun _ _ => rfl⟩
        have HB7 : Hid (Below w3.heap.size w3 (w6.drewN nq)) := bt HB6.out b7
        clear b7 s0 s1 t0 t1 t2 t3 p2 p4
        generalize w6.drewN nq = w7 at HB7 ⊢
        obtain ⟨⟨s0, s1⟩, t0, t1, t2, t3⟩ := HS.out _ HB7.out
        have bw7 := HB3.out.trans (HB7.out.mono HB3.out.size)
        have L7 := HLay.out.below bw7
        have g2 : w7.cell? ⟨b, 2, none⟩ = some (.int .i64 m.head.size) := L7.row.cell (i := 2) (by omega)
        have g3 : w7.cell? ⟨b, 3, none⟩ = some (.int .i64 m.head.root) := L7.row.cell (i := 3) (by omega)
        have g4 : w7.cell? ⟨b, 4, none⟩ = some (.int .i64 m.head.time) := L7.row.cell (i := 4) (by omega)
        have g5 : w7.cell? ⟨b, 5, none⟩ = some (.int .i64 m.head.sign) := L7.row.cell (i := 5) (by omega)
        have f2 := L7.row.frozen 2
        have f3 := L7.row.frozen 3
        have f4 := L7.row.frozen 4
        have f5 := L7.row.frozen 5
        have HFIN : Hid (Heard w B b key m (.slice a1 m.own.length l1) v2 ⟨what, ⟨hs, hrt, ht, hsg⟩, ents, prf⟩ (.returned (.int .i64 ((0 : Nat) : Int))) (put4 w7 b 2 ⟨hs, hrt, ht, hsg⟩)) :=
          ⟨by rw [HEM.out.1], _, _, by rw [HEM.out.2, if_pos hti]; exact L7.setHead ⟨hs, hrt, ht, hsg⟩, (Kept.of_below _ bw7).trans (MirDoc.kept_put4 w7 b 2 _) fun i q => .inl (.inl q), fun k hk => .inl hk⟩
        unfold put4 at HFIN
        simp only [Nat.reduceAdd] at HFIN
        clear L7 bw7
        go_wp2_with fail
        go_ret
        exact HFIN.out
      · have HFIN : Hid (∀ w', Below w6.heap.size w6 w' → Heard w B b key m (.slice a1 m.own.length l1) v2 ⟨what, ⟨hs, hrt, ht, hsg⟩, ents, prf⟩ (.returned (.int .i64 ((0 : Nat) : Int))) w') := fun w' b' => heard_same HLay.out (HB3.out.trans ((bt HB6.out b').mono HB3.out.size)) HEM.out.1 (by rw [HEM.out.2, if_neg hti])
        go_quiet (fail)
        go_wp2_with fail
        go_ret
        exact HFIN.out _ ⟨rfl, rfl, rfl, Nat.le_refl _, fun _ _ => rfl⟩
  by_cases h2 : what = 2
  · -- entries
    have hE := HE0.out
    have hM := HM0.out
    rw [if_neg h1, if_pos h2] at hE hM
    obtain ⟨hn, hh, hfr, hto⟩ := Mirrors.want_two (m := m) (by rw [HWx.out]; exact h2)
    obtain ⟨s1, s2, s3, s4⟩ := HOk.out.some hn
    have hsz := (Mirrors.size_ok s1).2
    have e2 : (what == 1) = false := by rw [beq_eq_false_iff_ne]; exact h1
    have e3 : (what == 2) = true := by rw [beq_iff_eq]; exact h2
    have HE : Hid (hearE key m ⟨what, ⟨hs, hrt, ht, hsg⟩, ents, prf⟩ = Mirrors.someE m ents) := hE
    have HM : Hid (hearM key m ⟨what, ⟨hs, hrt, ht, hsg⟩, ents, prf⟩ = Mirrors.someM m ents) := hM
    have hft : 0 ≤ wt - wf ∧ wt - wf ≤ 16 := by
      rw [HWx.out] at hfr hto
      simp only at hfr hto
      rw [hfr, hto]
      split <;> omega
    have hfi : 0 ≤ wf ∧ wf ≤ 200 := by
      rw [HWx.out] at hfr
      simp only at hfr
      rw [hfr]
      omega
    obtain ⟨S0, HS0⟩ : ∃ S0, Hid (Mirrors.someE0 m ents = S0) := ⟨_, rfl⟩
    have hS0 : Mirrors.someE0 m ents = if ents.length = 0 ∨ wt - wf < (ents.length : Int) then 3 else entsE ents := by unfold Mirrors.someE0; rw [HWx.out]
    have q1 : w2.cell? ⟨pw, 1, none⟩ = some (.int .i64 wf) := HW2.out.cell (i := 1) (by omega)
    have q2 : w2.cell? ⟨pw, 2, none⟩ = some (.int .i64 wt) := HW2.out.cell (i := 2) (by omega)
    have k5 : w2.cell? ⟨pr, 5, none⟩ = some (.slice a5 ents.length c5) := HRr.out.cell (i := 5) (by omega)
    have hel : ents.length ≤ 17592186043904 := HF.out.ents
    have HFD : Hid (∀ e ∈ ents, e.2.size ≤ maxLen) := HF.out.data
    have HNX : Hid (m.next.size ≠ 0 ∧ m.next.size ≤ 200 ∧ (m.has : Int) ≤ m.next.size ∧ (ents.length = 0 ∨ wt - wf < (ents.length : Int) ∨ (m.has : Int) + ents.length ≤ m.next.size)) := by
      refine ⟨hn, hsz, s3, ?_⟩
      rw [HWx.out] at hfr hto
      simp only at hfr hto
      by_cases hc : wt - wf < (ents.length : Int)
      · exact .inr (.inl hc)
      · refine .inr (.inr ?_)
        have : wt ≤ m.next.size := by rw [hto]; split <;> omega
        omega
    clear hE hM hn hh hfr hto s1 s2 s3 s4 hsz h1 h2 HE0 HM0 HF H6
    have L2 := HLay.out.below HB.out
    have HK2 : Hid (Kept (foot b v1 v2) w w2) := Kept.of_below _ HB.out
    by_cases hbad : ents.length = 0 ∨ wt - wf < (ents.length : Int)
    · -- not so many
      rw [if_pos hbad] at hS0
      have HEM : Hid (hearE key m ⟨what, ⟨hs, hrt, ht, hsg⟩, ents, prf⟩ = 3 ∧ hearM key m ⟨what, ⟨hs, hrt, ht, hsg⟩, ents, prf⟩ = m.forget) := ⟨by rw [HE.out]; unfold Mirrors.someE; rw [hS0]; rfl, by rw [HM.out]; unfold Mirrors.someM; rw [if_neg (by rw [hS0]; decide)]⟩
      have cF := WalkMirRef.forget_any L2
      clear L2 hS0 HS0 HE HM HNX HFD
      by_cases hz0 : ents.length = 0
      · have i1 : ((ents.length : Int) == 0) = true := by rw [hz0]; rfl
        clear hbad hz0
        generalize ents.length = N at *
        go_wp2_with fail
        refine cF.mono ?_
        rintro e w7 ⟨rfl, l7, k7⟩
        clear cF
        go_wp2_with fail
        go_ret
        exact heard_forget HK2.out l7 k7 HEM.out.1 HEM.out.2
      · have i1 : ((ents.length : Int) == 0) = false := by rw [beq_eq_false_iff_ne]; omega
        have i2 : wt - wf < (ents.length : Int) := by omega
        clear hbad hz0
        generalize ents.length = N at *
        go_wp2_with fail
        refine cF.mono ?_
        rintro e w7 ⟨rfl, l7, k7⟩
        clear cF
        go_wp2_with fail
        go_ret
        exact heard_forget HK2.out l7 k7 HEM.out.1 HEM.out.2
    · rw [if_neg hbad] at hS0
      have i0 : 0 < ents.length := by omega
      have i1 : ((ents.length : Int) == 0) = false := by rw [beq_eq_false_iff_ne]; omega
      have i2 : ¬ wt - wf < (ents.length : Int) := by omega
      have cE := WalkEntriesRef.entries_any ents a5 ents.length c5 w2 (H5.out.below HB.out) HFD.out
      obtain ⟨T, HT⟩ : ∃ T, Hid (entsE ents = T) := ⟨_, rfl⟩
      rw [HT.out] at cE hS0
      go_wp2_with fail
      refine cE.mono ?_
      rintro e w3 ⟨rfl, b3⟩
      have bw3 := HB.out.trans (b3.mono HB.out.size)
      have HB3 : Hid (Below w.heap.size w w3) := bw3
      have L3 := HLay.out.below bw3
      have HK3 : Hid (Kept (foot b v1 v2) w w3) := Kept.of_below _ bw3
      have HRr3 : Hid (w3.rowIs pr 87 7 (cell7 what hs hrt ht hsg (.slice a5 ents.length c5) (.slice a6 prf.length c6))) := HRr.out.of_block (b3.block _ HRr.out.lt)
      clear cE L2 HK2 bw3 b3 k0 q0 q1 q2 k5 HRr
      by_cases hT : T = 0
      · -- they are fine
        obtain ⟨_, n2, n3, n4⟩ := HNX.out
        have hlen : m.has + ents.length ≤ 200 := by omega
        have HWF : Hid (entsE (m.with ents).all = 0) := with_fine HOk.out (by rw [HT.out]; exact hT) hlen
        have HEE : Hid (hearE key m ⟨what, ⟨hs, hrt, ht, hsg⟩, ents, prf⟩ = if Mirrors.ends (m.with ents) = true then (m.with ents).settledE else 0) := by show _ = _; rw [HE.out]; unfold Mirrors.someE; rw [if_pos (by rw [hS0]; exact hT)]
        have HMM : Hid (hearM key m ⟨what, ⟨hs, hrt, ht, hsg⟩, ents, prf⟩ = if Mirrors.ends (m.with ents) = true then (m.with ents).settled else m.with ents) := by show _ = _; rw [HM.out]; unfold Mirrors.someM; rw [if_pos (by rw [hS0]; exact hT)]
        have hasE : m.has = m.own.length + m.waits.length := rfl
        obtain ⟨b5, off5, rfl, _⟩ := H5.out.2.2 i0
        have w5 : Wide 2 w3.drew (some ⟨b5, off5, none⟩) ents.length c5 (cells ents) := (H5.out.below HB3.out).below (Below.refl _ _).drew
        have o3 : w3.drew.ownsRow B 65 2 v2 m.waits.length (cells m.waits) := L3.waits
        obtain ⟨vn, wn, rn, on, kn, fn⟩ := WalkMirRef.run_some w3.drew B v2 m.waits o3 ⟨b5, off5, none⟩ ents.length c5 ents w5 i0 (by omega) (Nat.le_of_lt (Nat.lt_of_le_of_lt L3.above L3.row.lt))
        have rwn : wn.rowIs b 31 11 (fld key v1 m.head m.next v2) := L3.row.of_block (kn.block b L3.row.lt (fun e => L3.ap2 e))
        have own : wn.ownsRow B 65 2 v1 m.own.length (cells m.own) := owns_kept (w := w3.drew) L3.own kn fun i hi e => L3.ap3 i hi e
        have nb : vn.ownBlock ≠ some b := fun e => by
          rcases fn b e with h | h
          · exact L3.ap2 h
          · have := L3.row.lt
            have h' : b = w3.heap.size := h
            omega
        have nv : ∀ k, v1.ownBlock = some k → vn.ownBlock ≠ some k := fun k hk e => by
          rcases fn k e with h | h
          · exact L3.ap3 k hk h
          · have := (L3.own.lt k hk).2
            have h' : k = w3.heap.size := h
            omega
        have L8 : Lay (wn.setCell ⟨b, 10, none⟩ vn) B b key (m.with ents) v1 vn := ⟨MirDoc.row_waits rwn vn, MirDoc.owns_off own (MirDoc.kept_set wn b 10 vn) L3.ap1, MirDoc.owns_off on (MirDoc.kept_set wn b 10 vn) nb, L3.above, L3.ap1, nb, nv⟩
        have K8 : Kept (foot b v1 v2) w (wn.setCell ⟨b, 10, none⟩ vn) := ((HK3.out.drew).trans kn fun i hi => .inl (.inr (.inr hi))).setCell (.inl (.inl rfl)) _
        have HL8 : Hid (Lay (wn.setCell ⟨b, 10, none⟩ vn) B b key (m.with ents) v1 vn) := L8
        have HK8 : Hid (Kept (foot b v1 v2) w (wn.setCell ⟨b, 10, none⟩ vn)) := K8
        have HFN : Hid (∀ k, vn.ownBlock = some k → v2.ownBlock = some k ∨ w.heap.size ≤ k) := fun k hk => (fn k hk).imp id fun h => by have h' : k = w3.heap.size := h; have := HB3.out.size; omega
        have d10 : w3.drew.cell? ⟨b, 10, none⟩ = some v2 := L3.row.cell (i := 10) (by omega)
        have g5 : w3.drew.cell? ⟨pr, 5, none⟩ = some (.slice (some ⟨b5, off5, none⟩) ents.length c5) := HRr3.out.cell (i := 5) (by omega)
        have z10 : wn.cell? ⟨b, 10, none⟩ = some v2 := rwn.cell (i := 10) (by omega)
        have zf := rwn.frozen 10
        have e5 : ((T : Int) != 0) = false := by rw [hT]; rfl
        obtain ⟨N, hN⟩ : ∃ N, N = (m.waits ++ ents).length := ⟨_, rfl⟩
        have HN : Hid (N = (m.waits ++ ents).length) := hN
        rw [← hN] at on
        obtain ⟨a1, k1, rfl, _⟩ := owns_wide L3.own
        obtain ⟨a2, k2, rfl, _⟩ := owns_wide o3
        obtain ⟨an, kn2, rfl, _⟩ := owns_wide on
        have HZ : Hid (∀ w', Below w.heap.size w w' → True) := fun _ _ => trivial
        clear hS0 HS0 HE HM HNX HFD hT hbad on kn fn own nb nv L8 K8 rwn w5 o3 L3 hasE hlen n2 n3 n4 hN HZ
        go_upto_region 26 with fail
        go_region_law (refine step_append_run rfl (.tmp 123) (.tmp 125) 27 27 rfl (.slice a2 m.waits.length k2) (.slice (some ⟨b5, off5, none⟩) ents.length c5) (by simp [Act.eval]) (by simp [Act.eval]) _ _ rn ?_)
        all_goals
          generalize wn.setCell ⟨b, 10, none⟩ (.slice an N kn2) = w8 at HL8 HK8 ⊢
          have g1 : w8.cell? ⟨b, 1, none⟩ = some (.slice a1 m.own.length k1) := HL8.out.row.cell (i := 1) (by omega)
          have g6 : w8.cell? ⟨b, 6, none⟩ = some (.int .i64 m.next.size) := HL8.out.row.cell (i := 6) (by omega)
          have g10 : w8.cell? ⟨b, 10, none⟩ = some (.slice an N kn2) := HL8.out.row.cell (i := 10) (by omega)
          clear d10 g5 z10 zf rn
          have FIN0 : Hid (Mirrors.ends (m.with ents) = false → ∀ w', Below w8.heap.size w8 w' → Heard w B b key m (.slice a1 m.own.length k1) (.slice a2 m.waits.length k2) ⟨what, ⟨hs, hrt, ht, hsg⟩, ents, prf⟩ (.returned (.int .i64 ((0 : Nat) : Int))) w') := by
            intro hend w' b'
            refine ⟨by rw [HEE.out, hend]; rfl, _, _, by rw [HMM.out, hend]; exact HL8.out.below b', HK8.out.then b', ?_⟩
            rintro k (rfl | q | q)
            · exact .inl (.inl rfl)
            · exact .inl (.inr (.inl q))
            · exact (HFN.out k q).imp (fun q => .inr (.inr q)) id
          by_cases ho0 : m.own.length = 0
          · have u1 : ((m.own.length : Int) == 0) = true := by rw [ho0]; rfl
            by_cases hns : (N : Int) = m.next.size
            · have hend : Mirrors.ends (m.with ents) = true := by
                show decide (m.own.length = 0 ∧ (((m.waits ++ ents).length : Nat) : Int) = m.next.size) = true
                rw [← HN.out]
                exact decide_eq_true ⟨ho0, hns⟩
              have HEM : Hid (hearE key m ⟨what, ⟨hs, hrt, ht, hsg⟩, ents, prf⟩ = (m.with ents).settledE ∧ hearM key m ⟨what, ⟨hs, hrt, ht, hsg⟩, ents, prf⟩ = (m.with ents).settled) := ⟨by rw [HEE.out, hend]; rfl, by rw [HMM.out, hend]; rfl⟩
              have u2 : ((N : Int) == m.next.size) = true := by rw [beq_iff_eq]; exact hns
              clear ho0 hns hend FIN0 HN
              go_upto_region 27 with fail
              go_quiet (fail)
              have b9 : Below w8.heap.size w8 (w8.drewN nq) := ⟨rfl, rfl, rfl, Nat.le_refl _, fun _ _ => rfl⟩
              have L9 := HL8.out.below b9
              have HK9 : Hid (Kept (foot b (.slice a1 m.own.length k1) (.slice a2 m.waits.length k2)) w (w8.drewN nq)) := HK8.out.then b9
              clear b9 g1 g6 g10
              generalize w8.drewN nq = w9 at L9 HK9 ⊢
              have cS := WalkMirRef.settle_any L9 HWF.out
              clear L9
              go_wp2_with fail
              refine cS.mono ?_
              rintro e w7 ⟨rfl, hS⟩
              clear cS
              go_wp2_with fail
              go_ret
              exact heard_settled HK9.out ⟨rfl, hS⟩ HEM.out.1 HEM.out.2
            · have hend : Mirrors.ends (m.with ents) = false := by
                show decide (m.own.length = 0 ∧ (((m.waits ++ ents).length : Nat) : Int) = m.next.size) = false
                rw [← HN.out]
                exact decide_eq_false fun q => hns q.2
              have HFIN := FIN0.out hend
              have u2 : ((N : Int) == m.next.size) = false := by rw [beq_eq_false_iff_ne]; exact hns
              have HFI : Hid (∀ w', Below w8.heap.size w8 w' → Heard w B b key m (.slice a1 m.own.length k1) (.slice a2 m.waits.length k2) ⟨what, ⟨hs, hrt, ht, hsg⟩, ents, prf⟩ (.returned (.int .i64 ((0 : Nat) : Int))) w') := HFIN
              clear ho0 hns hend FIN0 HN HFIN
              go_upto_region 27 with fail
              go_quiet (fail)
              go_wp2_with fail
              go_ret
              exact HFI.out _ ⟨rfl, rfl, rfl, Nat.le_refl _, fun _ _ => rfl⟩
          · have hend : Mirrors.ends (m.with ents) = false := by
              show decide (m.own.length = 0 ∧ (((m.waits ++ ents).length : Nat) : Int) = m.next.size) = false
              exact decide_eq_false fun q => ho0 q.1
            have HFIN := FIN0.out hend
            have u1 : ((m.own.length : Int) == 0) = false := by rw [beq_eq_false_iff_ne]; omega
            have HFI : Hid (∀ w', Below w8.heap.size w8 w' → Heard w B b key m (.slice a1 m.own.length k1) (.slice a2 m.waits.length k2) ⟨what, ⟨hs, hrt, ht, hsg⟩, ents, prf⟩ (.returned (.int .i64 ((0 : Nat) : Int))) w') := HFIN
            clear ho0 hend FIN0 HN HFIN
            go_upto_region 27 with fail
            go_quiet (fail)
            go_wp2_with fail
            go_ret
            exact HFI.out _ ⟨rfl, rfl, rfl, Nat.le_refl _, fun _ _ => rfl⟩
      · have HEM : Hid (hearE key m ⟨what, ⟨hs, hrt, ht, hsg⟩, ents, prf⟩ = T ∧ hearM key m ⟨what, ⟨hs, hrt, ht, hsg⟩, ents, prf⟩ = m.forget) := ⟨by rw [HE.out]; unfold Mirrors.someE; rw [hS0, if_neg hT], by rw [HM.out]; unfold Mirrors.someM; rw [if_neg (by rw [hS0]; exact hT)]⟩
        have e5 : ((T : Int) != 0) = true := by simpa using hT
        have cF := WalkMirRef.forget_any L3
        clear L3 hS0 HS0 HE HM HNX HFD hT hbad
        go_wp2_with fail
        refine cF.mono ?_
        rintro e w7 ⟨rfl, l7, k7⟩
        clear cF
        go_wp2_with fail
        go_ret
        exact heard_forget HK3.out l7 k7 HEM.out.1 HEM.out.2
  · -- a proof
    have hE := HE0.out
    have hM := HM0.out
    rw [if_neg h1, if_neg h2] at hE hM
    obtain ⟨_, hn, hh⟩ := Mirrors.want_else (m := m) (by rw [HWx.out]; exact h1) (by rw [HWx.out]; exact h2)
    have hHas : m.has ≤ 200 := by have := (Mirrors.size_ok (HOk.out.some hn).1).2; omega
    have HAF : Hid (entsE m.all = 0) := all_fine HOk.out hHas
    have HOF : Hid (entsE m.own = 0) := Entries.ents_of HOk.out.few HOk.out.own
    have e2 : (what == 1) = false := by rw [beq_eq_false_iff_ne]; exact h1
    have e3 : (what == 2) = false := by rw [beq_eq_false_iff_ne]; exact h2
    have HE : Hid (hearE key m ⟨what, ⟨hs, hrt, ht, hsg⟩, ents, prf⟩ = Mirrors.proofE m prf) := hE
    have HM : Hid (hearM key m ⟨what, ⟨hs, hrt, ht, hsg⟩, ents, prf⟩ = Mirrors.proofM m prf) := hM
    have HPF : Hid (prf.length ≤ 17592186043904) := HF.out.proof
    clear hE hM hn hh hHas h1 h2 HE0 HM0 HOk HF H5 hwts
    obtain ⟨a1, k1, rfl, _⟩ := owns_wide HLay.out.own
    obtain ⟨P0, HP0⟩ : ∃ P0, Hid (Mirrors.proofE0 m prf = P0) := ⟨_, rfl⟩
    have HS : Hid (∀ w', Below w2.heap.size w2 w' → w'.cell? ⟨b, 1, none⟩ = some (.slice a1 m.own.length k1) ∧ w'.cell? ⟨b, 6, none⟩ = some (.int .i64 m.next.size) ∧ w'.cell? ⟨b, 7, none⟩ = some (.int .i64 m.next.root) ∧ w'.cell? ⟨pr, 6, none⟩ = some (.slice a6 prf.length c6)) := fun w' b' => by
      have l := HLay.out.below (HB.out.trans (b'.mono HB.out.size))
      exact ⟨l.row.cell (i := 1) (by omega), l.row.cell (i := 6) (by omega), l.row.cell (i := 7) (by omega), (HRr.out.of_block (b'.block _ HRr.out.lt)).cell (i := 6) (by omega)⟩
    have HCR : Hid (∀ w', Below w2.heap.size w2 w' → Calls Tryz.prog 21 #[.pointer (some ⟨b, 0, none⟩)] w' fun e w'' => e = .returned (.int .i64 (rootE m.own)) ∧ Below w'.heap.size w' w'') := fun w' b' => WalkMirRef.root_any (HLay.out.below (HB.out.trans (b'.mono HB.out.size))) HOF.out
    have HCG : Hid (∀ w', Below w2.heap.size w2 w' → Calls Tryz.prog 84 #[.int .i64 (rootE m.own), .int .i64 (m.own.length : Int), .int .i64 m.next.root, .int .i64 m.next.size, .slice a6 prf.length c6] w' fun e w'' => e = .returned (.int .i64 (P0 : Int)) ∧ Below w'.heap.size w' w'') := fun w' b' => by
      rw [← HP0.out]
      exact WalkGrowRef.growCheck_any _ _ _ _ prf a6 prf.length c6 w' (H6.out.below (HB.out.trans (b'.mono HB.out.size))) HPF.out
    go_upto_region 30 with fail
    obtain ⟨s1, s6, s7, t6⟩ := HS.out _ (Below.refl _ w2).drew
    clear k0 q0
    go_region_held (fun w' => w'.cell? ⟨b, 1, none⟩ = some (.slice a1 m.own.length k1) ∧ w'.cell? ⟨b, 6, none⟩ = some (.int .i64 m.next.size) ∧ w'.cell? ⟨b, 7, none⟩ = some (.int .i64 m.next.root) ∧ w'.cell? ⟨pr, 6, none⟩ = some (.slice a6 prf.length c6)) (first | exact ⟨s1, s6, s7, t6⟩ | go_keep)
      (first | (go_at_call 21; refine (HCR.out _ (Below.refl _ w2).drew).mono ?_; rintro e w5 ⟨rfl, b5⟩; have HB5 : Hid (Below w2.heap.size w2 w5) := bt (Below.refl _ w2).drew b5; obtain ⟨s1, s6, s7, t6⟩ := HS.out _ HB5.out; clear b5) | (go_at_call 84; refine (HCG.out _ HB5.out).mono ?_; rintro e w6 ⟨rfl, b6⟩; have HB6 : Hid (Below w2.heap.size w2 w6) := bt HB5.out b6; obtain ⟨s1, s6, s7, t6⟩ := HS.out _ HB6.out; clear b6))
    have bw6 := HB.out.trans (HB6.out.mono HB.out.size)
    have L6 := HLay.out.below bw6
    have HK6 : Hid (Kept (foot b (.slice a1 m.own.length k1) v2) w w6) := Kept.of_below _ bw6
    clear HCR HCG HS s1 s6 s7 t6 bw6
    by_cases hp : P0 = 0
    · have hE : hearE key m ⟨what, ⟨hs, hrt, ht, hsg⟩, ents, prf⟩ = m.settledE := by rw [HE.out]; unfold Mirrors.proofE; rw [if_pos (by rw [HP0.out]; exact hp)]
      have hM : hearM key m ⟨what, ⟨hs, hrt, ht, hsg⟩, ents, prf⟩ = m.settled := by rw [HM.out]; unfold Mirrors.proofM; rw [if_pos (by rw [HP0.out]; exact hp)]
      have HEM : Hid (hearE key m ⟨what, ⟨hs, hrt, ht, hsg⟩, ents, prf⟩ = m.settledE ∧ hearM key m ⟨what, ⟨hs, hrt, ht, hsg⟩, ents, prf⟩ = m.settled) := ⟨hE, hM⟩
      have e5 : ((P0 : Int) != 0) = false := by rw [hp]; rfl
      have cS := WalkMirRef.settle_any L6 HAF.out
      clear hE hM hp L6
      go_wp2_with fail
      refine cS.mono ?_
      rintro e w7 ⟨rfl, hS⟩
      clear cS
      go_wp2_with fail
      go_ret
      exact heard_settled HK6.out ⟨rfl, hS⟩ HEM.out.1 HEM.out.2
    · have hE : hearE key m ⟨what, ⟨hs, hrt, ht, hsg⟩, ents, prf⟩ = P0 := by rw [HE.out]; unfold Mirrors.proofE; rw [if_neg (by rw [HP0.out]; exact hp), HP0.out]
      have hM : hearM key m ⟨what, ⟨hs, hrt, ht, hsg⟩, ents, prf⟩ = m.forget := by rw [HM.out]; unfold Mirrors.proofM; rw [if_neg (by rw [HP0.out]; exact hp)]
      have HEM : Hid (hearE key m ⟨what, ⟨hs, hrt, ht, hsg⟩, ents, prf⟩ = P0 ∧ hearM key m ⟨what, ⟨hs, hrt, ht, hsg⟩, ents, prf⟩ = m.forget) := ⟨hE, hM⟩
      have e5 : ((P0 : Int) != 0) = true := by simpa using hp
      have cF := WalkMirRef.forget_any L6
      clear hE hM hp L6
      go_wp2_with fail
      refine cF.mono ?_
      rintro e w7 ⟨rfl, l7, k7⟩
      clear cF
      go_wp2_with fail
      go_ret
      exact heard_forget HK6.out l7 k7 HEM.out.1 HEM.out.2

end Go.Proofs.YtfpkngpgmllhnaaGreatDoor.WalkMirHear

