/-
  What the document's own lsm (package witref2) does: All, Flush.
-/
import Derived.Test.YtbepfeajaoaocafGreatDoorWalkMergeRef
import Derived.Laws.AppendOwnNone
namespace Go.Proofs.YtbepfeajaoaocafGreatDoor.WalkFlushRef
open Go.RowKit
open Lists (Row bt)
open Keeps (Kept owns_kept owns_row owns_base)
open Stores (Pair)
open Wides (Wide owns_wide)
open PairRows (cells)
open LsmRows (PRow LRows)
open LsmDoc (Dl In)
open Lsms (Lsm live total mergeV merged mergeE flushed flushE room)
open WalkMergeRef (DL Stays infoL one_at owns_fresh1)

/-- one slice in a new row -/
theorem lit_one (w : World) (v : Value) : (w.alloc (.cells #[v] 34)).ownsRow w.heap.size 34 1 (.slice (some ⟨w.heap.size, 0, none⟩) 1 1) 1 [v] :=
  ⟨rfl, .inr ⟨w.heap.size, 1, #[v], rfl, Nat.le_refl _, heap_alloc_new w _, Nat.le_refl _, by decide, rfl, rfl⟩⟩
/-- a slice takes one cell -/
theorem prow_cell {w : World} {v : Value} {l : List Pair} (h : PRow w v l) : v.oneCell' = true := by
  obtain ⟨a, cap, rfl, _⟩ := h
  rfl
theorem lrows_cell {w : World} {vs : List Value} {r : List (List Pair)} (h : LRows w vs r) : ∀ u ∈ vs, u.oneCell' = true := by
  intro u hu
  obtain ⟨i, hi, rfl⟩ := List.getElem_of_mem hu
  exact prow_cell (h.2 i hi (by rw [← h.1]; exact hi))
theorem row_add {w : World} {b off n cap : Nat} {xs : List Value} (h : Row w (some ⟨b, off, none⟩) n cap xs) : ∀ j u, xs[j]? = some u → w.cell? ((⟨b, off, none⟩ : Addr).add j) = some u := by
  intro j u hj
  rw [show (⟨b, off, none⟩ : Addr).add j = ⟨b, off + j, none⟩ by (unfold Addr.add; split <;> simp_all)]
  exact h.at j u hj

set_option maxHeartbeats 4000000 in
set_option maxRecDepth 100000 in
theorem all_any {w : World} {B g : Nat} {D : Nat → Prop} {x : Lsm} (h : DL w B g D x) (hz : total x.lists ≤ 1000) (hn : x.levels.length ≤ 999) :
    Calls Tryz.prog 18 #[.pointer (some ⟨g, 0, none⟩)] w fun e w' => ∃ v, e = .returned v ∧ w'.ownsRow w.heap.size 44 3 v x.all.length (cells x.all) ∧ Below w.heap.size w w' := by
  obtain ⟨yv, lv, vs, hd⟩ := h
  obtain ⟨i0, hi, hz0, hz1, hz2⟩ := info_parts infoL
  obtain ⟨a, cap, rfl, hrow, hnil⟩ := hd.levels
  have c1 : w.cell? ⟨g, 1, none⟩ = some yv := hd.lies.cell (i := 1) (by omega)
  have c2 : w.cell? ⟨g, 2, none⟩ = some (.slice a x.levels.length cap) := hd.lies.cell (i := 2) (by omega)
  have hLR : LRows w (yv :: vs) x.lists := LRows.cons hd.young hd.rows
  have hone := lrows_cell hd.rows
  have hvl : vs.length = x.levels.length := hd.rows.1
  have hgw : g < w.heap.size := (hd.foot g hd.own).2
  have HLR : Hid (LRows w (yv :: vs) x.lists) := hLR
  have HR : Hid (Row w a x.levels.length cap vs) := hrow
  have hll : x.lists.length = x.levels.length + 1 := rfl
  obtain ⟨ay, cy, rfl, _⟩ := hd.young
  clear hd hLR hrow
  have b0 : Below w.heap.size w (w.alloc (.cells #[.slice ay x.young.length cy] 34)) := (Below.refl _ _).alloc (Nat.le_refl _) _
  have o0 := lit_one w (.slice ay x.young.length cy)
  have e2 : (w.alloc (.cells #[.slice ay x.young.length cy] 34)).cell? ⟨g, 2, none⟩ = some (.slice a x.levels.length cap) := by rw [World.cell?_alloc_lt _ _ _ hgw]; exact c2
  by_cases h0 : x.levels = []
  · obtain ⟨rfl, rfl⟩ := hnil h0
    have hl0 : x.levels.length = 0 := by rw [h0]; rfl
    have hv0 : vs = [] := List.length_eq_zero_iff.1 (by omega)
    subst hv0
    rw [hl0] at c2 e2
    go_enter Tryz.func18, Tryz.ntmps18
    go_upto_region 2 with fail
    generalize w.alloc (.cells #[.slice ay x.young.length cy] 34) = w1 at b0 o0 e2 ⊢
    have cL := fun w2 (k : Below w1.heap.size w1 w2) => WalkLiveRef.live_any x.lists [.slice ay x.young.length cy] (some ⟨w.heap.size, 0, none⟩) 1 1 w2 ((Row.of_owns o0).2.below k) (HLR.out.below (bt b0 k)) hz (by omega)
    go_wp2_with (at_builtin; go_must (refine wpList_append_own_none rfl (.tmp 9) (.tmp 13) 40 rfl w.heap.size 34 i0 1 Tryz.underlying40 hi _ _ _ rfl o0 rfl ?_))
    refine (cL _ (Below.refl _ _)).mono ?_
    rintro e w3 ⟨v, rfl, o3, b3⟩
    have HO : Hid (w3.ownsRow w.heap.size 44 3 v x.all.length (cells x.all)) := owns_base o3 b0.size
    have HB : Hid (Below w.heap.size w w3) := bt b0 b3
    clear cL o3 b3
    go_wp2_with fail
    go_ret
    exact ⟨_, rfl, HO.out, HB.out⟩
  · obtain ⟨b5, off5, rfl, _⟩ := HR.out.2.2 (List.length_pos_iff.2 h0)
    go_enter Tryz.func18, Tryz.ntmps18
    go_upto_region 2 with fail
    generalize w.alloc (.cells #[.slice ay x.young.length cy] 34) = w1 at b0 o0 e2 ⊢
    have hr1 := HR.out.below b0
    have hsrc := row_add hr1
    go_wp2_with (at_builtin; go_must (refine wpList_append_own _ rfl (.tmp 9) (.tmp 13) 40 rfl w.heap.size 34 i0 (.slice none 0 0) 1 24 Tryz.underlying40 hi hz0 hz1 hz2 rfl (by decide) _ _ _ rfl o0 ⟨b5, off5, none⟩ x.levels.length cap vs rfl (by rw [hvl, Nat.mul_one]) hsrc hone (by unfold maxLen; omega) (by omega) b0.size ?_); intro v1 wn o1 g1 z1; clear z1; have bn : Below w.heap.size w wn := b0.grown g1 b0.size (fun k hk => (o0.lt k hk).1); obtain ⟨a1, c1', rfl, r1, _⟩ := owns_row o1)
    have cL := WalkLiveRef.live_any x.lists (.slice ay x.young.length cy :: vs) a1 (1 + x.levels.length) c1' wn r1 (HLR.out.below bn) hz (by omega)
    clear o1 g1 r1
    go_wp2_with fail
    refine cL.mono ?_
    rintro e w3 ⟨v, rfl, o3, b3⟩
    have HO : Hid (w3.ownsRow w.heap.size 44 3 v x.all.length (cells x.all)) := owns_base o3 bn.size
    have HB : Hid (Below w.heap.size w w3) := bt bn b3
    clear cL o3 b3
    go_wp2_with fail
    go_ret
    exact ⟨_, rfl, HO.out, HB.out⟩

theorem room_le (x : Lsm) : (room x).length ≤ 7 := by
  unfold room
  split
  · unfold mergeV
    split
    · simp
    · split <;> simp
  · omega
/-- what the two stores of Flush leave -/
theorem flush_left {w wc wn : World} {B g : Nat} {D D1 : Nat → Prop} {x : Lsm} {yv lv : Value} {vs : List Value} {a1 : Option Addr} {c1 : Nat} (hd : Dl wc B g D1 { x with levels := room x } yv lv vs) (hD1 : ∀ k, D1 k → D k ∨ w.heap.size ≤ k) (k1 : Kept (fun k => k = g) w wc) (hy : x.young ≠ [])
    (bn : Below wc.heap.size wc wn) (r1 : Row wn a1 (x.young :: room x).length c1 (yv :: vs)) (hf : ∀ ad, a1 = some ad → wc.heap.size ≤ ad.block) :
    Stays w ((wn.setCell ⟨g, 2, none⟩ (.slice a1 (x.young :: room x).length c1)).setCell ⟨g, 1, none⟩ (.slice none 0 0)) B g D (flushed x) := by
  have hdn := hd.below bn
  have hg := hd.foot g hd.own
  have hlt1 : ∀ ad, a1 = some ad → ad.block < wn.heap.size := fun ad e => by
    obtain ⟨b5, off5, h5, hc5⟩ := r1.2.2 (by simp)
    rw [e] at h5
    obtain rfl : ad = ⟨b5, off5, none⟩ := by simpa using h5
    exact Lists.block_lt (hc5 0 _ rfl)
  have hE : ∀ i, (D1 i ∨ (wc.heap.size ≤ i ∧ i < wn.heap.size)) → B ≤ i ∧ i < wn.heap.size := fun i q => by
    rcases q with q | q
    · exact hdn.foot i q
    · omega
  have hin : In (fun i => D1 i ∨ (wc.heap.size ≤ i ∧ i < wn.heap.size)) g (.slice a1 (x.young :: room x).length c1) := fun ad n c e => by
    simp only [Value.slice.injEq] at e
    have h5 := hf ad e.1
    have h6 := hlt1 ad e.1
    exact ⟨.inr ⟨h5, h6⟩, by omega⟩
  obtain ⟨hd7, k7⟩ := hdn.setLevels (E := fun i => D1 i ∨ (wc.heap.size ≤ i ∧ i < wn.heap.size)) (r := x.young :: room x) (a := a1) (cap := c1) (ws := yv :: vs) (fun _ q => .inl q) hE r1 (fun q => by cases q) hin (LRows.cons hdn.young hdn.rows) (fun v hv => by
    rcases List.mem_cons.1 hv with rfl | hv
    · exact hdn.yin.mono fun _ q => .inl q
    · exact (hdn.rin v hv).mono fun _ q => .inl q)
  obtain ⟨hd8, k8⟩ := hd7.setYoung (fun _ q => q) hd7.foot (nv := .slice none 0 0) (l := []) (PRow.nil _) (In.nil _ _)
  refine ⟨⟨fun i => D1 i ∨ (wc.heap.size ≤ i ∧ i < wn.heap.size), ?_, fun k q => ?_⟩, ((k1.then bn).trans k7 fun i q => .inl q).trans k8 fun i q => .inl q⟩
  · rw [show flushed x = { x with young := [], levels := x.young :: room x } from if_neg hy]
    exact ⟨_, _, _, hd8⟩
  · rcases q with q | q
    · exact hD1 k q
    · have := k1.size
      exact .inr (by omega)

set_option maxHeartbeats 4000000 in
set_option maxRecDepth 100000 in
theorem flush_any {w : World} {B g : Nat} {D : Nat → Prop} {x : Lsm} (h : DL w B g D x) (hz : total x.levels ≤ 1000) (hn : x.levels.length ≤ 900) :
    Calls Tryz.prog 15 #[.pointer (some ⟨g, 0, none⟩)] w fun e w' => e = .returned (.int .i64 (flushE x : Nat)) ∧ Stays w w' B g D (flushed x) := by
  obtain ⟨i0, hi, hz0, hz1, hz2⟩ := info_parts infoL
  have HD : Hid (DL w B g D x) := h
  obtain ⟨yv, lv, vs, hd⟩ := h
  obtain ⟨a, cap, rfl, _, _⟩ := hd.levels
  obtain ⟨ay, cy, rfl, _⟩ := hd.young
  have c1 : w.cell? ⟨g, 1, none⟩ = some (.slice ay x.young.length cy) := hd.lies.cell (i := 1) (by omega)
  have c2 : w.cell? ⟨g, 2, none⟩ = some (.slice a x.levels.length cap) := hd.lies.cell (i := 2) (by omega)
  clear hd
  by_cases hy : x.young = []
  · have HE : Hid (flushE x = 6) := if_pos hy
    have HF : Hid (flushed x = x) := if_pos hy
    have hl0 : x.young.length = 0 := by rw [hy]; rfl
    rw [hl0] at c1
    clear hy
    go_enter Tryz.func15, Tryz.ntmps15
    go_wp2_with fail
    go_ret
    exact ⟨by rw [HE.out]; rfl, ⟨D, by rw [HF.out]; exact HD.out, fun k q => .inl q⟩, Kept.refl _ _⟩
  · have hp : ((x.young.length : Int) == 0) = false := by
      have := List.length_pos_iff.2 hy
      rw [beq_eq_false_iff_ne]
      omega
    have HE : Hid (flushE x = 0) := if_neg hy
    have HY : Hid (x.young ≠ []) := hy
    have cM := WalkMergeRef.merge_any HD.out hz (by omega)
    clear hy
    go_enter Tryz.func15, Tryz.ntmps15
    go_upto_if 15 with fail
    go_cut [15] from 16 to 17 (fun _ wc => Stays w wc B g D { x with levels := room x })
    case first => as_aux_lemma =>
      by_cases h8 : 8 ≤ x.levels.length
      · have h8' : (8 : Int) ≤ (x.levels.length : Int) := by omega
        have HR : Hid (merged x = { x with levels := room x }) := by
          show ({ x with levels := mergeV x } : Lsm) = _
          rw [show room x = mergeV x from if_pos h8]
        clear h8
        go_wp2_with fail
        refine cM.mono ?_
        rintro e w1 ⟨rfl, hl⟩
        rw [HR.out] at hl
        clear cM
        go_wp2_with fail
        go_meet
        case rel => exact hl
      · have h8' : ¬ (8 : Int) ≤ (x.levels.length : Int) := by omega
        have HR : Hid (({ x with levels := room x } : Lsm) = x) := by
          show ({ x with levels := room x } : Lsm) = x
          rw [show room x = x.levels from if_neg h8]
        clear h8 cM
        go_wp2_with fail
        go_meet
        case rel => exact ⟨⟨D, by rw [HR.out]; exact HD.out, fun k q => .inl q⟩, Kept.refl _ _⟩
    obtain ⟨⟨D1, ⟨yv, lv, vs, hd⟩, hD1⟩, k1⟩ := hcut
    obtain ⟨a6, c6, rfl, hrow6, hnil6⟩ := hd.levels
    simp only at hrow6 hnil6
    obtain ⟨ay6, cy6, rfl, _⟩ := hd.young
    simp only at hd
    have hrl := room_le x
    have hgw : g < wc.heap.size := (hd.foot g hd.own).2
    have d1 : wc.cell? ⟨g, 1, none⟩ = some (.slice ay6 x.young.length cy6) := hd.lies.cell (i := 1) (by omega)
    have hone := lrows_cell hd.rows
    have hvl : vs.length = (room x).length := hd.rows.1
    have b0 : Below wc.heap.size wc (wc.alloc (.cells #[.slice ay6 x.young.length cy6] 34)) := (Below.refl _ _).alloc (Nat.le_refl _) _
    have o0 := lit_one wc (.slice ay6 x.young.length cy6)
    have e2 : (wc.alloc (.cells #[.slice ay6 x.young.length cy6] 34)).cell? ⟨g, 2, none⟩ = some (.slice a6 (room x).length c6) := by
      rw [World.cell?_alloc_lt _ _ _ hgw]
      exact hd.lies.cell (i := 2) (by omega)
    have HD6 : Hid (Dl wc B g D1 { x with levels := room x } (.slice ay6 x.young.length cy6) (.slice a6 (room x).length c6) vs) := hd
    clear cM c1 c2 hd hp
    by_cases h0 : room x = []
    · obtain ⟨rfl, rfl⟩ := hnil6 h0
      have hl0 : (room x).length = 0 := by rw [h0]; rfl
      have hv0 : vs = [] := List.length_eq_zero_iff.1 (by omega)
      subst hv0
      rw [hl0] at e2
      go_upto_region 6 with fail
      have HL : Hid (Stays w (((wc.alloc (.cells #[.slice ay6 x.young.length cy6] 34)).setCell ⟨g, 2, none⟩ (.slice (some ⟨wc.heap.size, 0, none⟩) 1 1)).setCell ⟨g, 1, none⟩ (.slice none 0 0)) B g D (flushed x)) := by
        have h := flush_left HD6.out hD1 k1 HY.out b0 (a1 := some ⟨wc.heap.size, 0, none⟩) (c1 := 1) (by rw [List.length_cons, hl0]; exact (Row.of_owns o0).2) (fun ad e => by cases e; exact Nat.le_refl _)
        rw [List.length_cons, hl0] at h
        exact h
      have hdn := HD6.out.below b0
      have f2 : (wc.alloc (.cells #[.slice ay6 x.young.length cy6] 34)).frozen? ⟨g, 2, none⟩ = false := hdn.lies.frozen 2
      have f1 : (wc.alloc (.cells #[.slice ay6 x.young.length cy6] 34)).frozen? ⟨g, 1, none⟩ = false := hdn.lies.frozen 1
      have e1 : (wc.alloc (.cells #[.slice ay6 x.young.length cy6] 34)).cell? ⟨g, 1, none⟩ = some (.slice ay6 x.young.length cy6) := hdn.lies.cell (i := 1) (by omega)
      clear hdn HD6 HD
      generalize wc.alloc (.cells #[.slice ay6 x.young.length cy6] 34) = w1 at b0 o0 e2 HL f2 f1 e1 ⊢
      go_wp2_with (at_builtin; go_must (refine wpList_append_own_none rfl (.tmp 24) (.tmp 28) 40 rfl wc.heap.size 34 i0 1 Tryz.underlying40 hi _ _ _ rfl o0 rfl ?_))
      go_ret
      exact ⟨by rw [HE.out]; rfl, HL.out⟩
    · obtain ⟨b5, off5, rfl, _⟩ := hrow6.2.2 (List.length_pos_iff.2 h0)
      go_upto_region 6 with fail
      have hsrc := row_add (hrow6.below b0)
      generalize wc.alloc (.cells #[.slice ay6 x.young.length cy6] 34) = w1 at b0 o0 e2 hsrc ⊢
      go_wp2_with (at_builtin; go_must (refine wpList_append_own _ rfl (.tmp 24) (.tmp 28) 40 rfl wc.heap.size 34 i0 (.slice none 0 0) 1 24 Tryz.underlying40 hi hz0 hz1 hz2 rfl (by decide) _ _ _ rfl o0 ⟨b5, off5, none⟩ (room x).length c6 vs rfl (by rw [hvl, Nat.mul_one]) hsrc hone (by unfold maxLen; omega) (by omega) b0.size ?_); intro v1 wn o1 g1 z1; clear z1; have bn : Below wc.heap.size wc wn := b0.grown g1 b0.size (fun k hk => (o0.lt k hk).1); have hfn := owns_fresh1 o1; obtain ⟨a1, c1', rfl, r1, _⟩ := owns_row o1; have hdn := HD6.out.below bn; have q2 : wn.cell? ⟨g, 2, none⟩ = some (.slice (some ⟨b5, off5, none⟩) (room x).length c6) := hdn.lies.cell (i := 2) (by omega); have q1 : wn.cell? ⟨g, 1, none⟩ = some (.slice ay6 x.young.length cy6) := hdn.lies.cell (i := 1) (by omega); have f2 := hdn.lies.frozen 2; have f1 := hdn.lies.frozen 1)
      have HL : Hid (Stays w ((wn.setCell ⟨g, 2, none⟩ (.slice a1 (1 + (room x).length) c1')).setCell ⟨g, 1, none⟩ (.slice none 0 0)) B g D (flushed x)) := by
        have h := flush_left HD6.out hD1 k1 HY.out bn (a1 := a1) (c1 := c1') (by rw [List.length_cons, Nat.add_comm]; exact r1) (fun ad e => hfn ad ⟨_, _, by rw [e]⟩)
        rw [List.length_cons, Nat.add_comm] at h
        exact h
      clear o1 g1 r1 hdn HD6 HD
      go_wp2_with fail
      go_ret
      exact ⟨by rw [HE.out]; rfl, HL.out⟩

end Go.Proofs.YtbepfeajaoaocafGreatDoor.WalkFlushRef
