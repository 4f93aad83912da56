/-
  What the document's own mirror (package witref2) does: Root, Want, forget, settle.
-/
import Derived.Test.YtncddfgclpdgfagGreatDoorMirDoc
import Derived.Test.YtncddfgclpdgfagGreatDoorMirVals
import Derived.Test.YtncddfgclpdgfagGreatDoorEntRef
import Derived.Test.YtncddfgclpdgfagGreatDoorWalkTreeRef
import Derived.Test.YtncddfgclpdgfagGreatDoorWalkRootOf
import Derived.Test.YtncddfgclpdgfagGreatDoorHeadRows
import Derived.BigRegion
import Derived.BigQuiet
import Derived.Deep.QuietTactic
import Derived.Deep.RegionHeld
import Derived.Deep.CutBlock
import Derived.Deep.DeepMust
import Derived.Laws.AppendOwnNone
import Derived.Lib.AppendZeros
import Derived.Maps.AppendAt
namespace Go.Proofs.YtncddfgclpdgfagGreatDoor.WalkMirRef
open Go.RowKit
open MirVals (wv aggW sizeW)
open Lists (Row ints bt)
open Keeps (Kept owns_kept owns_base owns_row)
open Wides (Wide owns_wide)
open Heads (Head zero)
open Entries (Entry entE entsE leafsOf)
open EntRows (cells cells_append)
open Mirrors (Mir Want rootE)
open MirDoc (Lay Dm fld foot put4)

theorem leafs_valid {l : List Entry} : ∀ x ∈ leafsOf l, Nums.valid x = true := WalkRootOf.leafs_valid
theorem root_of (l : List Entry) (v : Value) (w : World) (B : Nat) (hown : w.ownsRow B 3 1 v (leafsOf l).length (ints (leafsOf l))) (hl : l.length ≤ 1000) :
    Calls Tryz.prog 63 #[v] w fun e w' => e = .returned (.int .i64 (rootE l)) ∧ Below w.heap.size w w' := WalkRootOf.root_of l v w B hown hl

theorem root_any {w : World} {B b : Nat} {key : Int} {m : Mir} {v1 v2 : Value} (h : Lay w B b key m v1 v2) (hf : entsE m.own = 0) :
    Calls Tryz.prog 32 #[.pointer (some ⟨b, 0, none⟩)] w fun e w' => e = .returned (.int .i64 (rootE m.own)) ∧ Below w.heap.size w w' := by
  have hl := (Entries.ents_ok hf).1
  have c1 : w.cell? ⟨b, 1, none⟩ = some v1 := h.row.cell (i := 1) (by omega)
  obtain ⟨a, c, rfl, hw⟩ := owns_wide h.own
  have cL := WalkUnpackRef.leafs_any m.own a m.own.length c w hw hf
  clear h hw hf
  go_enter Tryz.func32, Tryz.ntmps32
  go_wp2_with fail
  refine cL.mono ?_
  rintro e w1 ⟨v, rfl, o1, b1⟩
  have cR := root_of m.own v w1 _ o1 (by omega)
  clear cL o1
  go_wp2_with fail
  refine cR.mono ?_
  rintro e w2 ⟨rfl, b2⟩
  clear cR
  go_wp2_with fail
  go_ret
  exact ⟨rfl, bt b1 b2⟩

set_option maxHeartbeats 1000000 in
theorem forget_any {w : World} {B b : Nat} {key : Int} {m : Mir} {v1 v2 : Value} (h : Lay w B b key m v1 v2) :
    Calls Tryz.prog 57 #[.pointer (some ⟨b, 0, none⟩)] w fun e w' => e = .returned (.tuple #[]) ∧ Lay w' B b key m.forget v1 (.slice none 0 0) ∧ Kept (fun k => k = b) w w' := by
  have FIN : Hid (Lay ((put4 w b 6 zero).setCell ⟨b, 10, none⟩ (.slice none 0 0)) B b key m.forget v1 (.slice none 0 0) ∧ Kept (fun k => k = b) w ((put4 w b 6 zero).setCell ⟨b, 10, none⟩ (.slice none 0 0))) := ⟨h.forget, (MirDoc.kept_put4 w b 6 zero).trans (MirDoc.kept_set _ b 10 _) fun _ q => .inl q⟩
  have c6 : w.cell? ⟨b, 6, none⟩ = some (.int .i64 m.next.size) := h.row.cell (i := 6) (by omega)
  have c7 : w.cell? ⟨b, 7, none⟩ = some (.int .i64 m.next.root) := h.row.cell (i := 7) (by omega)
  have c8 : w.cell? ⟨b, 8, none⟩ = some (.int .i64 m.next.time) := h.row.cell (i := 8) (by omega)
  have c9 : w.cell? ⟨b, 9, none⟩ = some (.int .i64 m.next.sign) := h.row.cell (i := 9) (by omega)
  have f6 := h.row.frozen 6
  have f7 := h.row.frozen 7
  have f8 := h.row.frozen 8
  have f9 := h.row.frozen 9
  have aH := HeadVals.aggH
  have zH := HeadVals.sizeH
  have h2 := (h.setNext zero)
  have d10 : (put4 w b 6 zero).cell? ⟨b, 10, none⟩ = some v2 := h2.row.cell (i := 10) (by omega)
  have e10 := h2.row.frozen 10
  obtain ⟨a2, cc2, rfl, _⟩ := owns_wide h.waits
  clear h h2
  unfold put4 zero at FIN d10 e10
  simp only [Nat.reduceAdd] at FIN d10 e10
  go_enter Tryz.func57, Tryz.ntmps57
  go_upto_region 1 with fail
  generalize (((w.setCell ⟨b, 6, none⟩ (.int .i64 0)).setCell ⟨b, 7, none⟩ (.int .i64 0)).setCell ⟨b, 8, none⟩ (.int .i64 0)).setCell ⟨b, 9, none⟩ (.int .i64 0) = wf at FIN d10 e10 ⊢
  go_wp2_with fail
  go_end0
  exact ⟨rfl, FIN.out⟩

theorem size_want : (Tryz.prog.info? 68).map (·.size) = some 3 := by kernel_rfl
theorem ret_want {w : World} {g : Nat} {x y z : Value} (tmps : Array Value) (hp : tmps.getD 2 undef = .pointer (some ⟨g, 0, none⟩)) (h : w.heap[g]? = some (.cells #[x, y, z] 68 (0, 0))) :
    (results Tryz.f24 tmps).run Tryz.prog w = .ok (.agg #[x, y, z]) w :=
  results_cell_row rfl tmps w g _ #[x, y, z] (0, 0) _ hp h Tryz.underlying68 rfl size_want
theorem row_three {w : World} {g : Nat} {t : TypeId} {f : Nat → Value} (h : w.rowIs g t 3 f) : w.heap[g]? = some (.cells #[f 0, f 1, f 2] t (0, 0)) := by
  obtain ⟨c, hb, hn, hc⟩ := h
  have : c = #[f 0, f 1, f 2] := by
    apply Array.ext_getElem?
    intro i
    match i with
    | 0 => rw [hc 0 (by omega)]; rfl
    | 1 => rw [hc 1 (by omega)]; rfl
    | 2 => rw [hc 2 (by omega)]; rfl
    | i + 3 => rw [Array.getElem?_eq_none (by omega), Array.getElem?_eq_none (by simp)]
  rw [hb, this]
theorem put_three {w : World} {g : Nat} {t : TypeId} {f : Nat → Value} (h : w.rowIs g t 3 f) (x y z : Value) : (((w.setCell ⟨g, 0, none⟩ x).setCell ⟨g, 1, none⟩ y).setCell ⟨g, 2, none⟩ z).heap[g]? = some (.cells #[x, y, z] t (0, 0)) := row_three (((h.set 0 x).set 1 y).set 2 z)
set_option maxHeartbeats 4000000 in
theorem want_any {w : World} {B b : Nat} {key : Int} {m : Mir} {v1 v2 : Value} (h : Lay w B b key m v1 v2) (h1 : m.own.length ≤ 200) (h2 : m.waits.length ≤ 200) :
    Calls Tryz.prog 24 #[.pointer (some ⟨b, 0, none⟩)] w fun e w' => e = .returned (wv m.want) ∧ Below w.heap.size w w' := by
  have aW := aggW
  have zW := sizeW
  have c6 : w.cell? ⟨b, 6, none⟩ = some (.int .i64 m.next.size) := h.row.cell (i := 6) (by omega)
  have c1 : w.cell? ⟨b, 1, none⟩ = some v1 := h.row.cell (i := 1) (by omega)
  have c10 : w.cell? ⟨b, 10, none⟩ = some v2 := h.row.cell (i := 10) (by omega)
  obtain ⟨a1, k1, rfl, _⟩ := owns_wide h.own
  obtain ⟨a2, k2, rfl, _⟩ := owns_wide h.waits
  have hb := h.row.lt
  clear h
  have HW : Hid (∀ x, m.want = x → wv m.want = wv x) := fun x hx => by rw [hx]
  by_cases h0 : m.next.size = 0
  · have HV : Hid (m.want = ⟨1, 0, 0⟩) := if_pos h0
    have e0 : (m.next.size == 0) = true := by rw [h0]; rfl
    go_enter Tryz.func24, Tryz.ntmps24
    go_wp2_with fail
    refine bodyPost_ret (ret_want _ rfl (heap_alloc_new _ _)) rfl ⟨by rw [HV.out]; rfl, (Below.refl _ _).alloc (Nat.le_refl _) _⟩
  · have e0 : (m.next.size == 0) = false := by rw [beq_eq_false_iff_ne]; exact h0
    have HF : Hid (m.want = if (m.has : Int) = m.next.size then ⟨3, m.own.length, m.has⟩ else ⟨2, m.has, if m.next.size < m.has + 16 then m.next.size else m.has + 16⟩) := if_neg h0
    have HH : Hid ((m.has : Int) = (m.own.length : Int) + (m.waits.length : Int)) := by show ((m.own.length + m.waits.length : Nat) : Int) = _; omega
    generalize (m.has : Int) = H at HF HH
    generalize m.next.size = Z at *
    generalize m.own.length = O at *
    generalize m.waits.length = K at *
    have hH : (O : Int) + (K : Int) = H := HH.out.symm
    have hH0 : 0 ≤ H := by have := HH.out; omega
    have hH1 : H ≤ 400 := by have := HH.out; omega
    clear h0
    go_enter Tryz.func24, Tryz.ntmps24
    go_upto_region 3 with fail
    have b0 : Below w.heap.size w (w.alloc (.cells #[.int .i64 0, .int .i64 0, .int .i64 0] 68)) := (Below.refl _ _).alloc (Nat.le_refl _) _
    have r0 : (w.alloc (.cells #[.int .i64 0, .int .i64 0, .int .i64 0] 68)).rowIs w.heap.size 68 3 (fun _ => .int .i64 0) := World.rowIs_alloc w #[.int .i64 0, .int .i64 0, .int .i64 0] _ _ (by intro i hi; match i, hi with | 0, _ => rfl | 1, _ => rfl | 2, _ => rfl)
    have q1 := Lists.cell_below b0 c1
    have q6 := Lists.cell_below b0 c6
    have q10 := Lists.cell_below b0 c10
    clear c1 c6 c10 hb
    generalize w.alloc (.cells #[.int .i64 0, .int .i64 0, .int .i64 0] 68) = wa at b0 r0 q1 q6 q10 ⊢
    have hS : w.heap.size = w.heap.size := rfl
    generalize hg : w.heap.size = g at r0 ⊢
    go_quiet (fail)
    have b1 : Below w.heap.size w (wa.drewN nq) := ⟨b0.os, b0.tape, b0.output, b0.size, b0.block⟩
    have r1 : (wa.drewN nq).rowIs g 68 3 (fun _ => .int .i64 0) := r0
    have d1 : (wa.drewN nq).cell? ⟨b, 1, none⟩ = some (.slice a1 O k1) := q1
    have d6 : (wa.drewN nq).cell? ⟨b, 6, none⟩ = some (.int .i64 Z) := q6
    clear q1 q6 q10 r0 b0
    generalize wa.drewN nq = wb at b1 r1 d1 d6 ⊢
    have g0 := r1.cell (i := 0) (by omega)
    have g1 := r1.cell (i := 1) (by omega)
    have g2 := r1.cell (i := 2) (by omega)
    have f0 := r1.frozen 0
    have f1 := r1.frozen 1
    have f2 := r1.frozen 2
    have HR : Hid (wb.rowIs g 68 3 (fun _ => .int .i64 0)) := r1
    have HB : Hid (Below w.heap.size w wb) := b1
    have HG : Hid (w.heap.size = g) := hg
    clear r1 b1 hg hS
    have hEnd : Hid (∀ x y z, Below w.heap.size w (((wb.setCell ⟨g, 0, none⟩ x).setCell ⟨g, 1, none⟩ y).setCell ⟨g, 2, none⟩ z)) := fun x y z => ((HB.out.setCell (by rw [HG.out]; exact Nat.le_refl _) _).setCell (by rw [HG.out]; exact Nat.le_refl _) _).setCell (by rw [HG.out]; exact Nat.le_refl _) _
    by_cases hz : H = Z
    · have HV : Hid (m.want = ⟨3, (O : Int), H⟩) := by show _ = _; rw [HF.out, if_pos hz]
      have ez : (H == Z) = true := by rw [beq_iff_eq]; exact hz
      clear hz HF
      go_wp2_with fail
      refine bodyPost_ret (ret_want _ rfl (put_three HR.out _ _ _)) rfl ⟨by rw [HV.out]; rfl, hEnd.out _ _ _⟩
    · have ez : (H == Z) = false := by rw [beq_eq_false_iff_ne]; exact hz
      by_cases hlt : Z < H + 16
      · have HV : Hid (m.want = ⟨2, H, Z⟩) := by show _ = _; rw [HF.out, if_neg hz, if_pos hlt]
        clear hz HF
        go_wp2_with fail
        refine bodyPost_ret (ret_want _ rfl (put_three HR.out _ _ _)) rfl ⟨by rw [HV.out]; rfl, hEnd.out _ _ _⟩
      · have HV : Hid (m.want = ⟨2, H, H + 16⟩) := by show _ = _; rw [HF.out, if_neg hz, if_neg hlt]
        clear hz HF
        go_wp2_with fail
        refine bodyPost_ret (ret_want _ rfl (put_three HR.out _ _ _)) rfl ⟨by rw [HV.out]; rfl, hEnd.out _ _ _⟩

theorem infoE : (Tryz.prog.info? 108).map (fun i => (i.zero, i.size, i.bytes)) = some (some (.agg #[.int .i64 0, .string ⟨#[]⟩]), 2, 24) := by kernel_rfl
theorem ones (l : List Entry) : ∀ v ∈ cells l, v.oneCell' = true := by
  induction l with
  | nil => intro v hv; cases hv
  | cons p l ih =>
    intro v hv
    simp only [cells, List.mem_cons] at hv
    rcases hv with rfl | rfl | hv
    · rfl
    · rfl
    · exact ih v hv
/-- entries of a list put behind those of a row of the call's own -/
theorem run_some (w : World) (B : Nat) (v : Value) (l : List Entry) (hown : w.ownsRow B 108 2 v l.length (cells l)) (a : Addr) (n c : Nat) (q : List Entry) (hw : Wide 2 w (some a) n c (cells q)) (hn : 0 < n) (hl : l.length + n ≤ 100000) (hB : B ≤ w.heap.size) :
    ∃ v' w', (∀ ty, (Builtin.append_ #[51, 51] ty #[v, .slice (some a) n c]).run Tryz.prog w = .ok v' w') ∧ w'.ownsRow B 108 2 v' (l ++ q).length (cells (l ++ q)) ∧ Kept (fun k => v.ownBlock = some k) w w' ∧ ∀ k, v'.ownBlock = some k → v.ownBlock = some k ∨ k = w.heap.size := by
  obtain ⟨i0, hi, hz0, hz1, hz2⟩ := info_parts infoE
  obtain ⟨b, off, hab, hc⟩ := hw.2.2 hn
  obtain rfl : a = ⟨b, off, none⟩ := by simpa using hab
  have hql := EntRows.len_of hw
  obtain ⟨v', w', hr, o', g', _, at'⟩ := run_append_own_at (P := Tryz.prog) w B 51 51 108 i0 (.agg #[.int .i64 0, .string ⟨#[]⟩]) 2 24 Tryz.underlying51 hi hz0 hz1 hz2 rfl (by decide) v l.length (cells l) hown ⟨b, off, none⟩ n c (cells q) hw.1
    (fun j u hj => by rw [show (⟨b, off, none⟩ : Addr).add j = ⟨b, off + j, none⟩ by (unfold Addr.add; split <;> simp_all)]; exact hc j u hj) (ones q) (by unfold maxLen; omega) (by omega) hB
  refine ⟨v', w', fun ty => hr, ?_, (Kept.refl _ w).grown g' fun k hk => .inl hk, fun k hk => ?_⟩
  · rw [cells_append, List.length_append, hql]
    exact o'
  · rcases at' with e | e
    · exact .inl (by rw [← e]; exact hk)
    · rw [e] at hk
      simp only [Option.some.injEq] at hk
      exact .inr hk.symm
/-- .. or of another row of the call's own -/
theorem run_own (w : World) (B : Nat) (v : Value) (l : List Entry) (hown : w.ownsRow B 108 2 v l.length (cells l)) (u : Value) (q : List Entry) (hu : w.ownsRow B 108 2 u q.length (cells q)) (hl : l.length + q.length ≤ 100000) (hB : B ≤ w.heap.size) :
    ∃ v' w', (∀ ty, (Builtin.append_ #[51, 51] ty #[v, u]).run Tryz.prog w = .ok v' w') ∧ w'.ownsRow B 108 2 v' (l ++ q).length (cells (l ++ q)) ∧ Kept (fun k => v.ownBlock = some k) w w' ∧ ∀ k, v'.ownBlock = some k → v.ownBlock = some k ∨ k = w.heap.size := by
  rcases Nat.eq_zero_or_pos q.length with h0 | h0
  · have hq : q = [] := List.eq_nil_of_length_eq_zero h0
    subst hq
    obtain ⟨i0, hi, hz0, hz1, hz2⟩ := info_parts infoE
    rcases hu.2 with ⟨rfl, _⟩ | ⟨g, cap, cur, rfl, _⟩
    · refine ⟨v, w, fun ty => run_append_owned_none (P := Tryz.prog) (w := w) B 51 ty 108 i0 2 Tryz.underlying51 hi v l.length (cells l) hown, by simpa using hown, Kept.refl _ _, fun k hk => .inl hk⟩
    · obtain ⟨v', w', hr, o', g', _, at'⟩ := run_append_own_at (P := Tryz.prog) w B 51 51 108 i0 (.agg #[.int .i64 0, .string ⟨#[]⟩]) 2 24 Tryz.underlying51 hi hz0 hz1 hz2 rfl (by decide) v l.length (cells l) hown ⟨g, 0, none⟩ 0 cap [] rfl (fun j u hj => by cases hj) (fun u hu => by cases hu) (by unfold maxLen; omega) (by omega) hB
      refine ⟨v', w', fun ty => hr, by simpa using o', (Kept.refl _ w).grown g' fun k hk => .inl hk, fun k hk => ?_⟩
      rcases at' with e | e
      · exact .inl (by rw [← e]; exact hk)
      · rw [e] at hk
        simp only [Option.some.injEq] at hk
        exact .inr hk.symm
  · obtain ⟨a, c, rfl, hw⟩ := owns_wide hu
    obtain ⟨b, off, rfl, _⟩ := hw.2.2 h0
    exact run_some w B v l hown ⟨b, off, none⟩ q.length c q hw h0 (by omega) hB

/-- what settle leaves -/
def Settled (w : World) (B b : Nat) (key : Int) (m : Mir) (v1 : Value) (e : Ending) (w' : World) : Prop :=
  e = .returned (.int .i64 (m.settledE : Nat)) ∧ ∃ v1' v2', Lay w' B b key m.settled v1' v2' ∧ Kept (fun k => k = b) w w' ∧ ∀ k, foot b v1' v2' k → foot b v1 v1 k ∨ w.heap.size ≤ k
set_option maxHeartbeats 4000000 in
set_option maxRecDepth 100000 in
theorem settle_any {w : World} {B b : Nat} {key : Int} {m : Mir} {v1 v2 : Value} (h : Lay w B b key m v1 v2) (hf : entsE m.all = 0) :
    Calls Tryz.prog 58 #[.pointer (some ⟨b, 0, none⟩)] w fun e w' => Settled w B b key m v1 e w' := by
  have hla := (Entries.ents_ok hf).1
  have hsum : m.all.length = m.own.length + m.waits.length := List.length_append
  have hBw : B ≤ w.heap.size := Nat.le_of_lt (Nat.lt_of_le_of_lt h.above h.row.lt)
  -- all of them
  obtain ⟨va, wa, ra, oa, ka, fa⟩ := run_own w B (.slice none 0 0) [] (World.ownsRow_nil _ _ _ _) v1 m.own h.own (by simp; omega) hBw
  have ba : Below w.heap.size w wa := ka.below (fun k hk => by cases hk) (Nat.le_refl _)
  have ha := h.below ba
  rw [List.nil_append] at oa
  have hBa : B ≤ wa.heap.size := Nat.le_trans hBw ba.size
  obtain ⟨vb, wb, rb, ob, kb, fb⟩ := run_own wa B va m.own oa v2 m.waits ha.waits (by omega) hBa
  have hva : ∀ k, va.ownBlock = some k → w.heap.size ≤ k := fun k hk => by
    rcases fa k hk with e | e
    · cases e
    · omega
  have bb : Below w.heap.size w wb := ba.trans (kb.below (fun k hk => hva k hk) ba.size)
  have hb := h.below bb
  have hvb : ∀ k, vb.ownBlock = some k → w.heap.size ≤ k := fun k hk => by
    rcases fb k hk with e | e
    · exact hva k e
    · have := ba.size
      omega
  have hall : m.own ++ m.waits = m.all := rfl
  rw [hall] at ob
  have HO : Hid (wb.ownsRow B 108 2 vb m.all.length (cells m.all)) := ob
  have HL : Hid (Lay wb B b key m v1 v2) := hb
  have HBB : Hid (Below w.heap.size w wb) := bb
  have HVB : Hid (∀ k, vb.ownBlock = some k → w.heap.size ≤ k) := hvb
  have HFT : Hid (∀ k, foot b v1 v2 k → B ≤ k ∧ k < w.heap.size) := h.foot_lt
  have c1 : w.cell? ⟨b, 1, none⟩ = some v1 := h.row.cell (i := 1) (by omega)
  have d10 : wa.cell? ⟨b, 10, none⟩ = some v2 := ha.row.cell (i := 10) (by omega)
  have ra' := ra 51
  have rb' := rb 51
  have lB : Hid (b < w.heap.size) := h.row.lt
  obtain ⟨a1, k1, rfl, _⟩ := owns_wide h.own
  obtain ⟨a2, k2, rfl, _⟩ := owns_wide h.waits
  obtain ⟨aa, kaa, rfl, _⟩ := owns_wide oa
  obtain ⟨ab, kab, rfl, hwb⟩ := owns_wide ob
  have cL := WalkUnpackRef.leafs_any m.all ab m.all.length kab
  have HRT : Hid (∀ v w5 D, w5.ownsRow D 3 1 v (leafsOf m.all).length (ints (leafsOf m.all)) → Calls Tryz.prog 63 #[v] w5 fun e w' => e = .returned (.int .i64 (rootE m.all)) ∧ Below w5.heap.size w5 w') := fun v w5 D o => root_of m.all v w5 D o (by omega)
  clear ra rb oa ob ka kb fa fb ba bb ha hb hva hvb hBa h hall hsum
  go_enter Tryz.func58, Tryz.ntmps58
  go_upto_region 3 with (at_builtin; go_must (refine Lib.wpList_append_run _ rfl (.tmp 4) (.tmp 8) 51 51 rfl _ _ rfl rfl _ _ ra' ?_))
  go_upto_region 4 with (at_builtin; go_must (refine Lib.wpList_append_run _ rfl (.tmp 10) (.tmp 14) 51 51 rfl _ _ rfl rfl _ _ rb' ?_))
  clear ra' rb' c1 d10
  have e7 : wb.drew.cell? ⟨b, 7, none⟩ = some (.int .i64 m.next.root) := HL.out.row.cell (i := 7) (by omega)
  have HLF : Hid (∀ w', Below wb.heap.size wb w' → w'.cell? ⟨b, 7, none⟩ = some (.int .i64 m.next.root)) := fun w' b' => (HL.out.below b').row.cell (i := 7) (by omega)
  have HCL : Hid (Calls Tryz.prog 54 #[.slice ab m.all.length kab] wb.drew fun e w' => ∃ v, e = .returned v ∧ w'.ownsRow wb.drew.heap.size 3 1 v (leafsOf m.all).length (ints (leafsOf m.all)) ∧ Below wb.drew.heap.size wb.drew w') := cL wb.drew hwb hf
  clear cL hwb hf
  go_region_held (fun w' => w'.cell? ⟨b, 7, none⟩ = some (.int .i64 m.next.root)) (go_keep)
    (first | (go_at_call 54; refine HCL.out.mono ?_; rintro e w5 ⟨vl, rfl, o5, b5⟩; have HB5 : Hid (Below wb.heap.size wb w5) := bt (Below.refl _ wb).drew b5; have HO5 : Hid (w5.ownsRow wb.heap.size 3 1 vl (leafsOf m.all).length (ints (leafsOf m.all))) := o5; have g7 := HLF.out _ HB5.out; clear b5 o5) | (go_at_call 63; refine (HRT.out _ _ _ HO5.out).mono ?_; rintro e w6 ⟨rfl, b6⟩; have HB6 : Hid (Below wb.heap.size wb w6) := bt HB5.out b6; have g7 := HLF.out _ HB6.out; clear b6))
  have L6 := HL.out.below HB6.out
  have HBW : Hid (Below w.heap.size w w6) := HBB.out.trans (HB6.out.mono HBB.out.size)
  have aH := HeadVals.aggH
  have zH := HeadVals.sizeH
  clear g7 e7 HLF HCL HRT HB5 HO5
  by_cases hr : rootE m.all = m.next.root
  · have e1 : (rootE m.all != m.next.root) = false := by rw [hr]; simp
    have hSE : m.settledE = 0 := if_pos hr
    have hSM : m.settled = ⟨m.all, m.next, zero, []⟩ := if_pos hr
    have o6 : w6.ownsRow B 108 2 (.slice ab m.all.length kab) m.all.length (cells m.all) := owns_kept HO.out (Kept.of_below (fun _ => False) HB6.out) fun _ _ q => q
    have nb : (Value.slice ab m.all.length kab).ownBlock ≠ some b := fun e => by have h1 := HVB.out b e; have h2 := lB.out; omega
    have nv : ∀ k, (Value.slice ab m.all.length kab).ownBlock = some k → (Value.slice a2 m.waits.length k2).ownBlock ≠ some k := fun k hk e => by have h1 := HVB.out k hk; have h2 := (HFT.out k (.inr (.inr e))).2; omega
    have L7 := L6.setOwn m.all _ o6 nb nv
    have c1 : w6.cell? ⟨b, 1, none⟩ = some (.slice a1 m.own.length k1) := L6.row.cell (i := 1) (by omega)
    have f1 := L6.row.frozen 1
    have K7 : Kept (fun k => k = b) w (w6.setCell ⟨b, 1, none⟩ (.slice ab m.all.length kab)) := (Kept.of_below (fun k => k = b) HBW.out).setCell (.inl rfl) _
    have HK7 : Hid (Kept (fun k => k = b) w (w6.setCell ⟨b, 1, none⟩ (.slice ab m.all.length kab))) := K7
    have HL7 : Hid (Lay (w6.setCell ⟨b, 1, none⟩ (.slice ab m.all.length kab)) B b key { m with own := m.all } (.slice ab m.all.length kab) (.slice a2 m.waits.length k2)) := L7
    clear L6 L7 K7 o6 hr
    go_upto_region 8 with fail
    generalize w6.setCell ⟨b, 1, none⟩ (.slice ab m.all.length kab) = w7 at HK7 HL7 ⊢
    have g2 : w7.cell? ⟨b, 2, none⟩ = some (.int .i64 m.head.size) := HL7.out.row.cell (i := 2) (by omega)
    have g3 : w7.cell? ⟨b, 3, none⟩ = some (.int .i64 m.head.root) := HL7.out.row.cell (i := 3) (by omega)
    have g4 : w7.cell? ⟨b, 4, none⟩ = some (.int .i64 m.head.time) := HL7.out.row.cell (i := 4) (by omega)
    have g5 : w7.cell? ⟨b, 5, none⟩ = some (.int .i64 m.head.sign) := HL7.out.row.cell (i := 5) (by omega)
    have g6 : w7.cell? ⟨b, 6, none⟩ = some (.int .i64 m.next.size) := HL7.out.row.cell (i := 6) (by omega)
    have g7 : w7.cell? ⟨b, 7, none⟩ = some (.int .i64 m.next.root) := HL7.out.row.cell (i := 7) (by omega)
    have g8 : w7.cell? ⟨b, 8, none⟩ = some (.int .i64 m.next.time) := HL7.out.row.cell (i := 8) (by omega)
    have g9 : w7.cell? ⟨b, 9, none⟩ = some (.int .i64 m.next.sign) := HL7.out.row.cell (i := 9) (by omega)
    have z2 := HL7.out.row.frozen 2
    have z3 := HL7.out.row.frozen 3
    have z4 := HL7.out.row.frozen 4
    have z5 := HL7.out.row.frozen 5
    have HL8 : Hid (Lay (put4 w7 b 2 m.next) B b key { { m with own := m.all } with head := m.next } (.slice ab m.all.length kab) (.slice a2 m.waits.length k2) ∧ Kept (fun k => k = b) w (put4 w7 b 2 m.next)) := ⟨HL7.out.setHead m.next, HK7.out.trans (MirDoc.kept_put4 w7 b 2 m.next) fun _ q => .inl q⟩
    unfold put4 at HL8
    simp only [Nat.reduceAdd] at HL8
    go_upto_region 9 with fail
    generalize (((w7.setCell ⟨b, 2, none⟩ (.int .i64 m.next.size)).setCell ⟨b, 3, none⟩ (.int .i64 m.next.root)).setCell ⟨b, 4, none⟩ (.int .i64 m.next.time)).setCell ⟨b, 5, none⟩ (.int .i64 m.next.sign) = w8 at HL8 ⊢
    have cF := forget_any HL8.out.1
    clear g2 g3 g4 g5 g6 g7 g8 g9 z2 z3 z4 z5 c1 f1
    go_wp2_with fail
    refine cF.mono ?_
    rintro e w9 ⟨rfl, L9, K9⟩
    clear cF
    go_wp2_with fail
    go_ret
    refine ⟨by rw [hSE]; rfl, _, _, by rw [hSM]; exact L9, HL8.out.2.trans K9 fun _ q => .inl q, ?_⟩
    rintro k (rfl | hk | hk)
    · exact .inl (.inl rfl)
    · exact .inr (HVB.out k hk)
    · simp [Value.ownBlock] at hk
  · have e1 : (rootE m.all != m.next.root) = true := by simpa using hr
    have hSE : m.settledE = 8 := if_neg hr
    have hSM : m.settled = m.forget := if_neg hr
    have cF := forget_any L6
    clear L6 hr
    go_wp2_with fail
    refine cF.mono ?_
    rintro e w9 ⟨rfl, L9, K9⟩
    clear cF
    go_wp2_with fail
    go_ret
    refine ⟨by rw [hSE]; rfl, _, _, by rw [hSM]; exact L9, (Kept.of_below (fun k => k = b) HBW.out).trans K9 fun _ q => .inl q, ?_⟩
    rintro k (rfl | hk | hk)
    · exact .inl (.inl rfl)
    · exact .inl (.inr (.inl hk))
    · simp [Value.ownBlock] at hk

end Go.Proofs.YtncddfgclpdgfagGreatDoor.WalkMirRef
