/-
  The document's own lsm (package witref2), copied: Copy.
-/
import Derived.Test.YtofaegcljcpceagGreatDoorLsmRef
import Derived.Deep.AppendLies
import Derived.Deep.RegionLaw
import Derived.Deep.CutBlock
namespace Go.Proofs.YtofaegcljcpceagGreatDoor.WalkCopyRef
open Go.RowKit
open Lists (Row bt)
open Keeps (Kept owns_kept owns_row owns_base)
open Stores (Pair)
open Wides (Wide owns_wide)
open PairRows (cells)
open LsmRows (PRow LRows)
open LsmDoc (Dl In parts)
open Lsms (Lsm)
open WalkMergeRef (DL Stays infoL)

theorem infoP : (Tryz.prog.info? 31).map (fun i => (i.zero, i.size, i.bytes)) = some (some (.agg #[.string ⟨#[]⟩, .string ⟨#[]⟩, .bool false]), 3, 40) := by kernel_rfl
/-- nothing is appended to nothing -/
theorem run_append_zero {P : Program} (w : World) (t ty e : TypeId) (i : TypeInfo) (ht : P.underlying t = some (.slice e)) (hi : P.info? e = some i) (a : Option Addr) (c : Nat) :
    (Builtin.append_ #[t, t] ty #[.slice none 0 0, .slice a 0 c]).run P w = .ok (.slice none 0 0) w := by
  cases a with
  | none => simp [Builtin.append_, run_underlying ht, sizeOf, typeInfo, hi, Builtin.lenOf, Builtin.firstCells]
  | some ad => simp [Builtin.append_, run_underlying ht, sizeOf, typeInfo, hi, Builtin.lenOf, Builtin.firstCells, loadCells, loadCellsFrom]
theorem step_append_zero {P : Program} {w : World} {ops : Array Oper} {o : Oper} {a : Act} {K : Act → World → Prop} {Q : Exit → Act → World → Prop} {E : Prop} (hgd : o.guard = none) (s x : Operand) (t : TypeId)
    (ho : o.op = .call { callee := .builtin .append, args := #[s, x], argTypes := #[t, t] }) (e : TypeId) (i : TypeInfo) (ht : P.underlying t = some (.slice e)) (hi : P.info? e = some i)
    (hs : a.eval s = .slice none 0 0) (ad : Option Addr) (c : Nat) (hx : a.eval x = .slice ad 0 c) (h : K (a.put o.dst (.slice none 0 0)) w) :
    if Region.wanted o (yielded ops a.tmps) = true then Oper.wp P o a w K Q else E := by
  rw [if_pos (by simp [Region.wanted, hgd])]
  unfold Oper.wp execOp
  simp only [ho, resolve, invoke, builtin, Sem.run_bind, Sem.run_pure, Result.andThen_ok, List.map_toArray, List.map_cons, List.map_nil, hs, hx, run_append_zero w t o.type e i ht hi ad c]
  exact h

/-- a field written anew, in an object of the call's own -/
theorem parts_young {w : World} {g : Nat} {limit : Nat} {y l nv : Value} (h : w.rowIs g 41 3 (parts limit y l)) : (w.setCell ⟨g, 1, none⟩ nv).rowIs g 41 3 (parts limit nv l) :=
  (h.set 1 nv).congr fun j hj => by match j, hj with | 0, _ | 1, _ | 2, _ => rfl | j + 3, q => omega
theorem parts_levels {w : World} {g : Nat} {limit : Nat} {y l nv : Value} (h : w.rowIs g 41 3 (parts limit y l)) : (w.setCell ⟨g, 2, none⟩ nv).rowIs g 41 3 (parts limit y nv) :=
  (h.set 2 nv).congr fun j hj => by match j, hj with | 0, _ | 1, _ | 2, _ => rfl | j + 3, q => omega
theorem cells_one : ∀ (l : List Pair), ∀ u ∈ cells l, u.oneCell' = true
  | [], u, h => by cases h
  | p :: l, u, h => by
    simp only [cells, List.mem_cons] at h
    rcases h with rfl | rfl | rfl | h
    · rfl
    · rfl
    · rfl
    · exact cells_one l u h
theorem wide_add {s : Nat} {w : World} {b off n cap : Nat} {xs : List Value} (h : Wide s w (some ⟨b, off, none⟩) n cap xs) (h0 : 0 < n) : ∀ j u, xs[j]? = some u → w.cell? ((⟨b, off, none⟩ : Addr).add j) = some u := by
  obtain ⟨b', off', e, hc⟩ := h.2.2 h0
  simp only [Option.some.injEq, Addr.mk.injEq, and_true] at e
  obtain ⟨rfl, rfl⟩ := e
  intro j u hj
  have ea : (⟨b, off, none⟩ : Addr).add j = ⟨b, off + j, none⟩ := by unfold Addr.add; split <;> simp_all
  rw [ea]
  exact hc j u hj
/-- what is appended to nothing lies in a block that is made now -/
theorem new_row {w1 wn : World} {G g2 n c s B : Nat} {t : TypeId} {xs : List Value} {nv : Value} {j : Nat} (hG : G < w1.heap.size) (hgrow : w1.drew.grownBy wn (Value.slice none 0 0).ownBlock) (hown : wn.ownsRow B t s (.slice (some ⟨g2, 0, none⟩) n c) n xs) (hat : g2 = w1.heap.size) (hlt : g2 < wn.heap.size) :
    Wide s (wn.setCell ⟨G, j, none⟩ nv) (some ⟨g2, 0, none⟩) n c xs ∧ (∀ ad m k, Value.slice (some ⟨g2, 0, none⟩) n c = .slice (some ad) m k → w1.heap.size ≤ ad.block ∧ ad.block < (wn.setCell ⟨G, j, none⟩ nv).heap.size) ∧ Kept (fun k => k = G) w1 (wn.setCell ⟨G, j, none⟩ nv) := by
  have bn : Below w1.heap.size w1 wn := (Below.refl _ w1).drew.grown hgrow (Nat.le_refl _) (fun k hk => by cases hk)
  have hk : Kept (fun k => k = G) w1 (wn.setCell ⟨G, j, none⟩ nv) := (Kept.of_below (fun k => k = G) bn).setCell (p := ⟨G, j, none⟩) (.inl rfl) nv
  have kk : Kept (fun k => k = G) wn (wn.setCell ⟨G, j, none⟩ nv) := (Kept.refl (fun k => k = G) wn).setCell (p := ⟨G, j, none⟩) (.inl rfl) nv
  refine ⟨LsmDoc.wide_kept (Wide.of_owns hown).2 kk fun ad e => ?_, fun ad m k e => ?_, hk⟩
  · simp only [Option.some.injEq] at e
    subst e
    show ¬ g2 = G
    omega
  · simp only [Value.slice.injEq, Option.some.injEq] at e
    obtain ⟨rfl, _, _⟩ := e
    exact ⟨by show w1.heap.size ≤ g2; omega, by show g2 < _; simpa [World.setCell] using hlt⟩
/-- the copy, when both fields are written -/
theorem copied {w w1 wc wz : World} {B g : Nat} {D : Nat → Prop} {x : Lsm} {yv lv ny : Value} {vs : List Value} {a : Option Addr} {c : Nat} (hB : B ≤ w.heap.size) (hd : Dl w1 B g D x yv lv vs) (hD : ∀ k, D k → k < w.heap.size) (hw1 : w.heap.size < w1.heap.size) (b0 : Below w.heap.size w w1)
    (k1 : Kept (fun k => k = w.heap.size) w1 wc) (hp : PRow wc ny x.young) (hny : ∀ ad n c, ny = .slice (some ad) n c → w1.heap.size ≤ ad.block ∧ ad.block < wc.heap.size)
    (k2 : Kept (fun k => k = w.heap.size) wc wz) (hr : wz.rowIs w.heap.size 41 3 (parts x.limit ny (.slice a x.levels.length c))) (hl : Row wz a x.levels.length c vs) (hnl : x.levels = [] → a = none ∧ c = 0) (ha : ∀ ad, a = some ad → wc.heap.size ≤ ad.block ∧ ad.block < wz.heap.size) :
    DL wz B w.heap.size (fun k => D k ∨ (w.heap.size ≤ k ∧ k < wz.heap.size)) x ∧ Below w.heap.size w wz := by
  have k3 : Kept (fun k => k = w.heap.size) w1 wz := k1.trans k2 fun i q => .inl q
  have hdz := hd.kept k3 fun i q e => by have := hD i q; omega
  have s1 := k1.size
  have s2 := k2.size
  have hyz : PRow wz ny x.young := by
    obtain ⟨ay, cy, rfl, h2⟩ := hp
    refine ⟨ay, cy, rfl, LsmDoc.wide_kept h2 k2 fun ad e => ?_⟩
    have := (hny ad _ _ (by rw [e])).1
    show ¬ ad.block = w.heap.size
    omega
  refine ⟨⟨ny, .slice a x.levels.length c, vs, ⟨?_, .inr ⟨Nat.le_refl _, by omega⟩, hr, hyz, ?_, ⟨a, c, rfl, hl, hnl⟩, ?_, hdz.rows, ?_⟩⟩, b0.trans (k3.below (fun k q => by rw [q]; exact Nat.le_refl _) (by omega))⟩
  · intro k q
    rcases q with q | q
    · exact hdz.foot k q
    · exact ⟨by omega, q.2⟩
  · intro ad n c' e
    have := hny ad n c' e
    exact ⟨.inr ⟨by omega, by omega⟩, by omega⟩
  · intro ad n c' e
    simp only [Value.slice.injEq] at e
    have := ha ad e.1
    exact ⟨.inr ⟨by omega, by omega⟩, by omega⟩
  · intro v hv ad n c' e
    have h1 := hdz.rin v hv ad n c' e
    have := hD _ h1.1
    exact ⟨.inl h1.1, by omega⟩

set_option maxHeartbeats 8000000 in
set_option maxRecDepth 100000 in
theorem copy_any {w : World} {B g : Nat} {D : Nat → Prop} {x : Lsm} (h : DL w B g D x) (hB : B ≤ w.heap.size) (hy : x.young.length ≤ 900) (hn : x.levels.length ≤ 900) :
    Calls Tryz.prog 31 #[.pointer (some ⟨g, 0, none⟩)] w fun e w' => ∃ g' D', e = .returned (.pointer (some ⟨g', 0, none⟩)) ∧ w.heap.size ≤ g' ∧ DL w' B g' D' x ∧ (∀ k, D' k → D k ∨ w.heap.size ≤ k) ∧ Below w.heap.size w w' := by
  obtain ⟨yv, lv, vs, hd⟩ := h
  obtain ⟨ip, hip, hpz0, hpz1, hpz2⟩ := info_parts infoP
  obtain ⟨il, hil, hlz0, hlz1, hlz2⟩ := info_parts infoL
  have HD : Hid (Dl w B g D x yv lv vs) := hd
  have c0 : w.cell? ⟨g, 0, none⟩ = some (.int .i64 (x.limit : Int)) := hd.lies.cell (i := 0) (by omega)
  have hgw : g < w.heap.size := (hd.foot g hd.own).2
  have b0 : Below w.heap.size w (w.alloc (.cells #[.int .i64 (x.limit : Int), .slice none 0 0, .slice none 0 0] 41)) := (Below.refl _ _).alloc (Nat.le_refl _) _
  have hr0 : (w.alloc (.cells #[.int .i64 (x.limit : Int), .slice none 0 0, .slice none 0 0] 41)).rowIs w.heap.size 41 3 (parts x.limit (.slice none 0 0) (.slice none 0 0)) := World.rowIs_alloc _ _ _ _ (fun j hj => by match j, hj with | 0, _ | 1, _ | 2, _ => rfl | j + 3, h => simp at h; omega)
  obtain ⟨ay, cy, rfl, hyw⟩ := hd.young
  obtain ⟨al, cl, rfl, hrow, hnil⟩ := hd.levels
  clear hd
  go_enter Tryz.func31, Tryz.ntmps31
  go_upto_region 2 with fail
  have hG : w.heap.size < (w.alloc (.cells #[.int .i64 (x.limit : Int), .slice none 0 0, .slice none 0 0] 41)).heap.size := by simp
  generalize w.alloc (.cells #[.int .i64 (x.limit : Int), .slice none 0 0, .slice none 0 0] 41) = w1 at b0 hr0 hG ⊢
  have HD1 : Hid (Dl w1 B g D x (.slice ay x.young.length cy) (.slice al x.levels.length cl) vs) := HD.out.below b0
  have y1 : w1.cell? ⟨g, 1, none⟩ = some (.slice ay x.young.length cy) := HD1.out.lies.cell (i := 1) (by omega)
  have q1 : w1.cell? ⟨w.heap.size, 1, none⟩ = some (.slice none 0 0) := hr0.cell (i := 1) (by omega)
  have f1 := hr0.frozen 1
  have hne : w.heap.size ≠ g := by omega
  go_cut [2] from 10 to 21 (fun v2 wc => v2 = .pointer none ∧ ∃ ny, wc.rowIs w.heap.size 41 3 (parts x.limit ny (.slice none 0 0)) ∧ PRow wc ny x.young ∧ (∀ ad n c, ny = .slice (some ad) n c → w1.heap.size ≤ ad.block ∧ ad.block < wc.heap.size) ∧ Kept (fun k => k = w.heap.size) w1 wc)
  case first => as_aux_lemma =>
    by_cases h0 : x.young = []
    · have hl0 : x.young.length = 0 := by rw [h0]; rfl
      rw [hl0] at y1
      go_region_law (refine step_append_zero rfl (.tmp 14) (.tmp 18) 32 rfl 31 ip Tryz.underlying32 hip rfl ay cy rfl ?_)
      all_goals
        go_wp2_with fail
        go_meet
        case rel =>
          refine ⟨rfl, .slice none 0 0, (parts_young hr0).drew, by rw [h0]; exact LsmRows.PRow.nil _, ?_, ?_⟩
          · intro ad n c q
            cases q
          exact ((Kept.refl (fun k => k = w.heap.size) w1).setCell (p := ⟨w.heap.size, 1, none⟩) (.inl rfl) _).then (Below.refl _ _).drew
    · have hpos : 0 < x.young.length := List.length_pos_iff.2 h0
      have hyw1 := hyw.below b0
      obtain ⟨b5, off5, rfl, _⟩ := hyw1.2.2 hpos
      have hsrc := wide_add hyw1 hpos
      have hl5 := PairRows.cells_length x.young
      go_region_law (refine step_append_lies _ rfl (.tmp 14) (.tmp 18) 32 rfl w1.heap.size 31 ip (.agg #[.string ⟨#[]⟩, .string ⟨#[]⟩, .bool false]) 3 40 Tryz.underlying32 hip hpz0 hpz1 hpz2 rfl (by decide) (.slice none 0 0) 0 [] rfl (World.ownsRow_nil _ _ _ _) ⟨b5, off5, none⟩ x.young.length cy (cells x.young) rfl hl5 hsrc (cells_one _) hpos (by unfold maxLen; omega) (by omega) (Nat.le_refl _) _ rfl ?_; intro g2 cap2 wn hown hgrow hat hlt; have k1 : wn.cell? ⟨w.heap.size, 1, none⟩ = some (.slice none 0 0) := (hgrow.cell_far ⟨w.heap.size, 1, none⟩ hG (fun q => by cases q)).trans q1; have kf : wn.frozen? ⟨w.heap.size, 1, none⟩ = false := (hgrow.frozen_far ⟨w.heap.size, 1, none⟩ hG (fun q => by cases q)).trans f1)
      all_goals
        simp only [Nat.zero_add, List.nil_append] at hown ⊢
        have hg2 : g2 = w1.heap.size := by
          rcases hat with q | q
          · cases q
          · exact q
        obtain ⟨n1, n2, n3⟩ := new_row (j := 1) (nv := .slice (some ⟨g2, 0, none⟩) x.young.length cap2) hG hgrow hown hg2 hlt
        have hrn : wn.rowIs w.heap.size 41 3 (parts x.limit (.slice none 0 0) (.slice none 0 0)) := hr0.of_block (hgrow.block _ hG (fun q => by cases q))
        go_wp2_with fail
        go_meet
        case rel => exact ⟨rfl, _, parts_young hrn, ⟨_, _, rfl, n1⟩, n2, n3⟩
  obtain ⟨rfl, ny, hrc, hpc, hnyc, k1⟩ := hcut
  have hDw : ∀ k, D k → k < w.heap.size := fun k q => (HD.out.foot k q).2
  have HD2 : Hid (Dl wc B g D x (.slice ay x.young.length cy) (.slice al x.levels.length cl) vs) := HD1.out.kept k1 fun i q e => by have := hDw i q; omega
  have l2 : wc.cell? ⟨g, 2, none⟩ = some (.slice al x.levels.length cl) := HD2.out.lies.cell (i := 2) (by omega)
  have q2 : wc.cell? ⟨w.heap.size, 2, none⟩ = some (.slice none 0 0) := hrc.cell (i := 2) (by omega)
  have f2 := hrc.frozen 2
  have hGc : w.heap.size < wc.heap.size := Nat.lt_of_lt_of_le hG k1.size
  have HK : Hid (Kept (fun k => k = w.heap.size) w1 wc) := k1
  have HRC : Hid (wc.rowIs w.heap.size 41 3 (parts x.limit ny (.slice none 0 0))) := hrc
  have HPC : Hid (PRow wc ny x.young ∧ ∀ ad n c, ny = .slice (some ad) n c → w1.heap.size ≤ ad.block ∧ ad.block < wc.heap.size) := ⟨hpc, hnyc⟩
  have HB0 : Hid (Below w.heap.size w w1) := b0
  clear y1 q1 f1 hr0 c0 hyw hpz0 hpz1 hpz2 hip hpc hnyc k1 hrc b0
  by_cases h0 : x.levels = []
  · obtain ⟨rfl, rfl⟩ := hnil h0
    have hl0 : x.levels.length = 0 := by rw [h0]; rfl
    rw [hl0] at l2
    go_upto_region 3 with fail
    go_region_law (refine step_append_zero rfl (.tmp 26) (.tmp 30) 22 rfl 32 il Tryz.underlying22 hil rfl none 0 rfl ?_)
    all_goals
      have kz : Kept (fun k => k = w.heap.size) wc (wc.setCell ⟨w.heap.size, 2, none⟩ (.slice none 0 0)).drew := ((Kept.refl (fun k => k = w.heap.size) wc).setCell (p := ⟨w.heap.size, 2, none⟩) (.inl rfl) _).drew
      have hz := copied (a := none) (c := 0) hB HD1.out hDw hG HB0.out HK.out HPC.out.1 HPC.out.2 kz (by rw [hl0]; exact (parts_levels HRC.out).drew) (by rw [hl0]; have hv := HD1.out.rows.1; rw [hl0] at hv; rw [List.length_eq_zero_iff.1 hv]; exact Row.nil _ _ _) (fun _ => ⟨rfl, rfl⟩) (fun ad q => by cases q)
      have HZ : Hid (DL _ B w.heap.size _ x ∧ Below w.heap.size w _) := hz
      clear kz hz
      go_wp2_with fail
      go_ret
      exact ⟨_, rfl, Nat.le_refl _, _, HZ.out.1, fun k q => q.imp id fun q => q.1, HZ.out.2⟩
  · have hpos : 0 < x.levels.length := List.length_pos_iff.2 h0
    obtain ⟨a', cap', e', hrw, _⟩ := HD2.out.levels
    simp only [Value.slice.injEq, true_and] at e'
    obtain ⟨rfl, rfl⟩ := e'
    obtain ⟨b6, off6, rfl, _⟩ := hrw.2.2 hpos
    have hsrc := WalkFlushRef.row_add hrw
    have hone := WalkFlushRef.lrows_cell HD2.out.rows
    have hvl : vs.length = x.levels.length := HD2.out.rows.1
    go_upto_region 3 with fail
    go_region_law (refine step_append_lies _ rfl (.tmp 26) (.tmp 30) 22 rfl wc.heap.size 32 il (.slice none 0 0) 1 24 Tryz.underlying22 hil hlz0 hlz1 hlz2 rfl (by decide) (.slice none 0 0) 0 [] rfl (World.ownsRow_nil _ _ _ _) ⟨b6, off6, none⟩ x.levels.length cl vs rfl (by rw [hvl, Nat.mul_one]) hsrc hone hpos (by unfold maxLen; omega) (by omega) (Nat.le_refl _) _ rfl ?_; intro g2 cap2 wn hown hgrow hat hlt; have kk1 : wn.cell? ⟨w.heap.size, 2, none⟩ = some (.slice none 0 0) := (hgrow.cell_far ⟨w.heap.size, 2, none⟩ hGc (fun q => by cases q)).trans q2; have kkf : wn.frozen? ⟨w.heap.size, 2, none⟩ = false := (hgrow.frozen_far ⟨w.heap.size, 2, none⟩ hGc (fun q => by cases q)).trans f2)
    all_goals
      simp only [Nat.zero_add, List.nil_append] at hown ⊢
      have hg2 : g2 = wc.heap.size := by
        rcases hat with q | q
        · cases q
        · exact q
      obtain ⟨n1, n2, n3⟩ := new_row (j := 2) (nv := .slice (some ⟨g2, 0, none⟩) x.levels.length cap2) hGc hgrow hown hg2 hlt
      have hrn : wn.rowIs w.heap.size 41 3 (parts x.limit ny (.slice none 0 0)) := HRC.out.of_block (hgrow.block _ hGc (fun q => by cases q))
      have hz := copied hB HD1.out hDw hG HB0.out HK.out HPC.out.1 HPC.out.2 n3 (parts_levels hrn) (by obtain ⟨m1, m2, m3⟩ := n1; exact ⟨by rw [hvl], m2, m3⟩) (fun q => absurd q h0) (fun ad q => n2 ad _ _ (by rw [q]))
      have HZ : Hid (DL _ B w.heap.size _ x ∧ Below w.heap.size w _) := hz
      clear n1 n2 n3 hrn hz hown hgrow hat kk1 kkf
      go_wp2_with fail
      go_ret
      exact ⟨_, _, rfl, Nat.le_refl _, HZ.out.1, fun k q => q.imp id fun q => q.1, HZ.out.2⟩

end Go.Proofs.YtofaegcljcpceagGreatDoor.WalkCopyRef
