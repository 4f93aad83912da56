/-
  What the document's own lsm (package witref2) does: Put, Tables.
-/
import Derived.Test.YtbepfeajaoaocafGreatDoorWalkFlushRef
import Derived.Deep.RegionWith
import Derived.BigQuiet
import Derived.Deep.QuietTactic
namespace Go.Proofs.YtbepfeajaoaocafGreatDoor.WalkLPutRef
open Go.RowKit
open Lists (Row bt)
open Keeps (Kept owns_kept owns_row owns_base)
open Stores (Pair putE putL withP Rising)
open Wides (Wide owns_wide)
open PairRows (cells)
open LsmRows (PRow LRows)
open LsmDoc (Dl In)
open Lsms (Lsm total putted flushed)
open WalkMergeRef (DL Stays)
open WalkStoreRef (aggP sizeP)

theorem below_drewN {B : Nat} {a w : World} (h : Below B a w) (n : Nat) : Below B a (w.drewN n) := ⟨h.os, h.tape, h.output, h.size, h.block⟩
theorem with_pos (l : List Pair) (p : Pair) : 0 < (withP l p).length := by
  cases l with
  | nil => simp [withP]
  | cons q r =>
    unfold withP
    split <;> simp
/-- then goes on -/
theorem Stays.next {w w1 w2 : World} {B g : Nat} {D D1 : Nat → Prop} {x : Lsm} (hD : ∀ k, D1 k → D k ∨ w.heap.size ≤ k) (k1 : Kept (fun k => k = g) w w1) (h : Stays w1 w2 B g D1 x) : Stays w w2 B g D x := by
  obtain ⟨⟨D2, h1, h2⟩, h3⟩ := h
  refine ⟨⟨D2, h1, fun k q => ?_⟩, k1.trans h3 fun i q => .inl q⟩
  rcases h2 k q with q | q
  · exact hD k q
  · have := k1.size
    exact .inr (by omega)

set_option maxHeartbeats 4000000 in
set_option maxRecDepth 100000 in
theorem put_any {w : World} {B g : Nat} {D : Nat → Prop} {x : Lsm} (h : DL w B g D x) (p0 p1 : ByteArray) (p2 : Bool) (hris : Rising x.young) (hy : x.young.length ≤ 900) (hz : total x.levels ≤ 1000) (hn : x.levels.length ≤ 900) :
    Calls Tryz.prog 17 #[.pointer (some ⟨g, 0, none⟩), .agg #[.string p0, .string p1, .bool p2]] w fun e w' => e = .returned (.int .i64 (putE x.young ⟨p0, p1, p2⟩ : Nat)) ∧ Stays w w' B g D (putted x ⟨p0, p1, p2⟩) := by
  have a23 := aggP
  have z23 := sizeP
  obtain ⟨yv, lv, vs, hd⟩ := h
  obtain ⟨ay, cy, rfl, hwy⟩ := hd.young
  have hgw : g < w.heap.size := (hd.foot g hd.own).2
  have b0 : Below w.heap.size w (w.alloc (.cells #[.string p0, .string p1, .bool p2] 44)) := (Below.refl _ _).alloc (Nat.le_refl _) _
  have r0 : (w.alloc (.cells #[.string p0, .string p1, .bool p2] 44)).cell? ⟨w.heap.size, 0, none⟩ = some (.string p0) := by simp
  have r1 : (w.alloc (.cells #[.string p0, .string p1, .bool p2] 44)).cell? ⟨w.heap.size, 1, none⟩ = some (.string p1) := by simp
  have r2 : (w.alloc (.cells #[.string p0, .string p1, .bool p2] 44)).cell? ⟨w.heap.size, 2, none⟩ = some (.bool p2) := by simp
  have hd0 := hd.below b0
  have c1 : (w.alloc (.cells #[.string p0, .string p1, .bool p2] 44)).cell? ⟨g, 1, none⟩ = some (.slice ay x.young.length cy) := hd0.lies.cell (i := 1) (by omega)
  have HW : Hid (∀ w2, Below w.heap.size w w2 → Calls Tryz.prog 38 #[.slice ay x.young.length cy, .agg #[.string p0, .string p1, .bool p2]] w2 fun e w' => ∃ a' c', e = .returned (.tuple #[.slice a' (putL x.young ⟨p0, p1, p2⟩).length c', .int .i64 (putE x.young ⟨p0, p1, p2⟩ : Nat)]) ∧ Wide 3 w' a' (putL x.young ⟨p0, p1, p2⟩).length c' (cells (putL x.young ⟨p0, p1, p2⟩)) ∧ ((a' = ay ∧ putL x.young ⟨p0, p1, p2⟩ = x.young) ∨ ∀ y, a' = some y → w2.heap.size ≤ y.block) ∧ Below w2.heap.size w2 w') := fun w2 k2 => WalkWithRef.put_any x.young ⟨p0, p1, p2⟩ ay x.young.length cy w2 (hwy.below k2) (by omega) hris
  have HD : Hid (Dl w B g D x (.slice ay x.young.length cy) lv vs) := hd
  clear hd hd0 hwy
  go_enter Tryz.func17, Tryz.ntmps17
  go_upto_region 1 with fail
  generalize w.alloc (.cells #[.string p0, .string p1, .bool p2] 44) = w1 at b0 r0 r1 r2 c1 ⊢
  go_region_with (go_at_call 38; refine (HW.out _ b0.drew).mono ?_; rintro e w2 ⟨a', c', rfl, hw2, ha2, b2⟩)
  all_goals
    have hb2 : Below w.heap.size w w2 := b0.drew.trans (b2.mono b0.size)
    have hd2 := HD.out.below hb2
    have d1 : w2.cell? ⟨g, 1, none⟩ = some (.slice ay x.young.length cy) := hd2.lies.cell (i := 1) (by omega)
    have f1 : w2.frozen? ⟨g, 1, none⟩ = false := hd2.lies.frozen 1
    have hw1 : w.heap.size ≤ w1.heap.size := b0.size
    clear b2 b0 r0 r1 r2 c1 HW
    simp [Act.put]
    by_cases h0 : putE x.young ⟨p0, p1, p2⟩ = 0
    · have e1 : putL x.young ⟨p0, p1, p2⟩ = withP x.young ⟨p0, p1, p2⟩ := if_pos h0
      have HE : Hid (putE x.young ⟨p0, p1, p2⟩ = 0) := h0
      have HP : Hid (putted x ⟨p0, p1, p2⟩ = if x.limit ≤ (withP x.young ⟨p0, p1, p2⟩).length then flushed { x with young := withP x.young ⟨p0, p1, p2⟩ } else { x with young := withP x.young ⟨p0, p1, p2⟩ }) := if_pos h0
      have hwl := Lsms.with_le x.young ⟨p0, p1, p2⟩
      have hwp := with_pos x.young ⟨p0, p1, p2⟩
      rw [e1] at hw2 ha2 ⊢
      rw [h0]
      generalize withP x.young ⟨p0, p1, p2⟩ = Y at hw2 ha2 HP hwl hwp
      have hlt : ∀ ad, a' = some ad → ad.block < w2.heap.size := fun ad e => by
        obtain ⟨b5, off5, h5, hc5⟩ := hw2.2.2 hwp
        rw [e] at h5
        obtain rfl : ad = ⟨b5, off5, none⟩ := by simpa using h5
        have hl : 0 < (cells Y).length := by rw [PairRows.cells_length]; omega
        exact Lists.block_lt (hc5 0 _ (List.getElem?_eq_getElem hl))
      have hE : ∀ i, (D i ∨ (w.heap.size ≤ i ∧ i < w2.heap.size)) → B ≤ i ∧ i < w2.heap.size := fun i q => by
        rcases q with q | q
        · exact hd2.foot i q
        · have := (HD.out.foot g HD.out.own).1
          omega
      have hin : In (fun i => D i ∨ (w.heap.size ≤ i ∧ i < w2.heap.size)) g (.slice a' Y.length c') := fun ad n c e => by
        simp only [Value.slice.injEq] at e
        rcases ha2 with ⟨q, _⟩ | q
        · have h5 := hd2.yin ad x.young.length cy (by rw [← q, e.1])
          exact ⟨.inl h5.1, h5.2⟩
        · have h5 : w1.heap.size ≤ ad.block := q ad e.1
          have h6 := hlt ad e.1
          exact ⟨.inr ⟨by omega, h6⟩, by omega⟩
      obtain ⟨hd3, k3⟩ := hd2.setYoung (E := fun i => D i ∨ (w.heap.size ≤ i ∧ i < w2.heap.size)) (fun _ q => .inl q) hE (nv := .slice a' Y.length c') (l := Y) ⟨a', c', rfl, hw2⟩ hin
      have hk : Kept (fun k => k = g) w (w2.setCell ⟨g, 1, none⟩ (.slice a' Y.length c')) := (Kept.of_below _ hb2).trans k3 fun i q => .inl q
      have y1 : (w2.setCell ⟨g, 1, none⟩ (.slice a' Y.length c')).cell? ⟨g, 1, none⟩ = some (.slice a' Y.length c') := hd3.lies.cell (i := 1) (by omega)
      have y0 : (w2.setCell ⟨g, 1, none⟩ (.slice a' Y.length c')).cell? ⟨g, 0, none⟩ = some (.int .i64 (x.limit : Int)) := hd3.lies.cell (i := 0) (by omega)
      clear hE hin hlt hw2 ha2 hd2 k3 h0 e1
      go_upto_region 5 with fail
      generalize w2.setCell ⟨g, 1, none⟩ (.slice a' Y.length c') = w3 at hd3 hk y1 y0 ⊢
      go_quiet (fail)
      have hd4 := hd3.below (below_drewN (Below.refl _ w3) nq)
      replace hk := hk.then (below_drewN (Below.refl _ w3) nq)
      clear hd3 y1 y0
      generalize w3.drewN nq = w4 at hd4 hk ⊢
      by_cases hlim : x.limit ≤ Y.length
      · have hl2 : (x.limit : Int) ≤ (Y.length : Int) := by omega
        have cF := WalkFlushRef.flush_any (x := { x with young := Y }) ⟨_, _, _, hd4⟩ hz hn
        rw [if_pos hlim] at HP
        clear hlim
        go_wp2_with fail
        refine cF.mono ?_
        rintro e w5 ⟨rfl, hs5⟩
        have HS : Hid (Stays w w5 B g D (putted x ⟨p0, p1, p2⟩)) := by
          show Stays _ _ _ _ _ _
          rw [HP.out]
          exact Stays.next (fun k q => Or.imp id And.left q) hk hs5
        clear cF hs5 hd4
        go_wp2_with fail
        go_ret
        exact ⟨by rw [HE.out]; rfl, HS.out⟩
      · have hl2 : ¬ (x.limit : Int) ≤ (Y.length : Int) := by omega
        rw [if_neg hlim] at HP
        have HS : Hid (Stays w w4 B g D (putted x ⟨p0, p1, p2⟩)) := by
          show Stays _ _ _ _ _ _
          rw [HP.out]
          exact ⟨⟨_, ⟨_, _, _, hd4⟩, fun k q => Or.imp id And.left q⟩, hk⟩
        clear hlim hd4
        go_wp2_with fail
        go_ret
        exact ⟨by rw [HE.out]; rfl, HS.out⟩
    · have HP : Hid (putted x ⟨p0, p1, p2⟩ = x) := if_neg h0
      have hx : ((putE x.young ⟨p0, p1, p2⟩ : Int) != 0) = true := by rw [bne_iff_ne]; omega
      have HS : Hid (Stays w w2 B g D (putted x ⟨p0, p1, p2⟩)) := ⟨⟨D, by rw [HP.out]; exact ⟨_, _, _, hd2⟩, fun k q => .inl q⟩, Kept.of_below _ hb2⟩
      clear h0 hw2 ha2 hd2
      obtain ⟨E, HEe⟩ : ∃ E : Int, Hid ((putE x.young ⟨p0, p1, p2⟩ : Int) = E) := ⟨_, rfl⟩
      rw [HEe.out] at hx ⊢
      go_wp2_with fail
      go_ret
      exact ⟨by rw [HEe.out]; rfl, HS.out⟩

end Go.Proofs.YtbepfeajaoaocafGreatDoor.WalkLPutRef
