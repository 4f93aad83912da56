/-
  What the document's own lsm (package witref2) does: Merge, All.
-/
import Derived.Test.YtbepfeajaoaocafGreatDoorLsmDoc
import Derived.Test.YtbepfeajaoaocafGreatDoorWalkLiveRef
namespace Go.Proofs.YtbepfeajaoaocafGreatDoor.WalkMergeRef
open Go.RowKit
open Lists (Row bt)
open Keeps (Kept owns_kept owns_row)
open Stores (Pair)
open Wides (Wide owns_wide)
open PairRows (cells)
open LsmRows (PRow LRows)
open LsmDoc (Dl In)
open Lsms (Lsm live total mergeV merged mergeE)

theorem infoL : (Tryz.prog.info? 34).map (fun i => (i.zero, i.size, i.bytes)) = some (some (.slice none 0 0), 1, 24) := by kernel_rfl
theorem one_at (w : World) (v : Value) (t : TypeId) : ∀ j u, [v][j]? = some u → (w.alloc (.cells #[v] t)).cell? ((⟨w.heap.size, 0, none⟩ : Addr).add j) = some u := by
  intro j u hj
  match j, hj with
  | 0, hj => simp at hj; subst hj; simp [Addr.add]
theorem owns_fresh1 {w : World} {base : Nat} {e : TypeId} {v : Value} {n : Nat} {xs : List Value} (h : w.ownsRow base e 1 v n xs) : ∀ ad, (∃ m c, v = .slice (some ad) m c) → base ≤ ad.block := by
  rintro ad ⟨m, c, rfl⟩
  exact Wides.owns_fresh h ad rfl
/-- the document's lsm, wherever its parts lie -/
def DL (w : World) (B g : Nat) (D : Nat → Prop) (x : Lsm) : Prop := ∃ yv lv vs, Dl w B g D x yv lv vs
/-- what a method that writes leaves -/
def Stays (w w' : World) (B g : Nat) (D : Nat → Prop) (x : Lsm) : Prop := (∃ D', DL w' B g D' x ∧ ∀ k, D' k → D k ∨ w.heap.size ≤ k) ∧ Kept (fun k => k = g) w w'

set_option maxHeartbeats 4000000 in
set_option maxRecDepth 100000 in
theorem merge_any {w : World} {B g : Nat} {D : Nat → Prop} {x : Lsm} (h : DL w B g D x) (hz : total x.levels ≤ 1000) (hn : x.levels.length ≤ 1000) :
    Calls Tryz.prog 16 #[.pointer (some ⟨g, 0, none⟩)] w fun e w' => e = .returned (.int .i64 (mergeE x : Nat)) ∧ Stays w w' B g D (merged x) := by
  obtain ⟨yv, lv, vs, hd⟩ := h
  obtain ⟨i0, hi, hz0, hz1, hz2⟩ := info_parts infoL
  obtain ⟨a, cap, rfl, hrow, hnil⟩ := hd.levels
  have c2 : w.cell? ⟨g, 2, none⟩ = some (.slice a x.levels.length cap) := hd.lies.cell (i := 2) (by omega)
  have HD : Hid (Dl w B g D x yv (.slice a x.levels.length cap) vs) := hd
  by_cases h0 : x.levels = []
  · have HE : Hid (mergeE x = 6) := if_pos h0
    have HM : Hid (merged x = x) := by
      show ({ x with levels := mergeV x } : Lsm) = x
      rw [show mergeV x = [] from if_pos h0, ← h0]
    have hl0 : x.levels.length = 0 := by rw [h0]; rfl
    rw [hl0] at c2
    clear hd hrow hnil h0
    go_enter Tryz.func16, Tryz.ntmps16
    go_wp2_with fail
    go_ret
    exact ⟨by rw [HE.out]; rfl, ⟨D, by rw [HM.out]; exact ⟨_, _, _, HD.out⟩, fun k q => .inl q⟩, Kept.refl _ _⟩
  · have hp : ((x.levels.length : Int) == 0) = false := by
      have := List.length_pos_iff.2 h0
      rw [beq_eq_false_iff_ne]
      omega
    have HE : Hid (mergeE x = 0) := if_neg h0
    have HMv : Hid (mergeV x = if live x.levels = [] then [] else [live x.levels]) := if_neg h0
    have cL := WalkLiveRef.live_any x.levels vs a x.levels.length cap w hrow hd.rows hz hn
    generalize x.levels.length = N at *
    clear hd h0
    go_enter Tryz.func16, Tryz.ntmps16
    go_wp2_with fail
    refine cL.mono ?_
    rintro e w1 ⟨v, rfl, o1, b1⟩
    have hd1 := HD.out.below b1
    have c3 : w1.cell? ⟨g, 2, none⟩ = some (.slice a N cap) := hd1.lies.cell (i := 2) (by omega)
    have f3 : w1.frozen? ⟨g, 2, none⟩ = false := hd1.lies.frozen 2
    obtain ⟨hd2, k2⟩ := hd1.setLevels (E := D) (r := []) (a := none) (cap := 0) (ws := []) (fun _ q => q) hd1.foot (Row.nil _ _ _) (fun _ => ⟨rfl, rfl⟩) (In.nil _ _) (LRows.nil _) (fun v hv => by cases hv)
    have HD2 : Hid (Dl (w1.setCell ⟨g, 2, none⟩ (.slice none 0 0)) B g D { x with levels := [] } yv (.slice none 0 0) []) := hd2
    have HK2 : Hid (Kept (fun k => k = g) w (w1.setCell ⟨g, 2, none⟩ (.slice none 0 0))) := (Kept.of_below _ b1).trans k2 fun i q => .inl q
    have hgw : g < w.heap.size := (HD.out.foot g HD.out.own).2
    obtain ⟨aL, cL', rfl, rL⟩ := owns_wide o1
    have hfr := Wides.owns_fresh o1
    have HRL : Hid (Wide 3 (w1.setCell ⟨g, 2, none⟩ (.slice none 0 0)) aL (live x.levels).length cL' (cells (live x.levels))) := LsmDoc.wide_kept rL k2 fun ad e q => by have := hfr ad e; omega
    clear cL hd1 hd2 k2 o1 rL b1 hrow
    by_cases hlv : live x.levels = []
    · have HM : Hid (merged x = { x with levels := [] }) := by
        show ({ x with levels := mergeV x } : Lsm) = _
        rw [HMv.out, if_pos hlv]
      have hl0 : (live x.levels).length = 0 := by rw [hlv]; rfl
      rw [hl0]
      clear hlv HRL
      go_wp2_with fail
      go_ret
      exact ⟨by rw [HE.out]; rfl, ⟨D, by rw [HM.out]; exact ⟨_, _, _, HD2.out⟩, fun k q => .inl q⟩, HK2.out⟩
    · have HM : Hid (merged x = { x with levels := [live x.levels] }) := by
        show ({ x with levels := mergeV x } : Lsm) = _
        rw [HMv.out, if_neg hlv]
      have hpl : (0 : Int) < ((live x.levels).length : Int) := by
        have := List.length_pos_iff.2 hlv
        omega
      obtain ⟨L, HL⟩ : ∃ L, Hid (live x.levels = L) := ⟨_, rfl⟩
      rw [HL.out] at hpl HRL HM ⊢
      clear hlv HL
      have hdr := HD2.out.lies
      go_upto_region 6 with fail
      have c4 : (w1.setCell ⟨g, 2, none⟩ (.slice none 0 0)).cell? ⟨g, 2, none⟩ = some (.slice none 0 0) := hdr.cell (i := 2) (by omega)
      have h12 : w.heap.size ≤ (w1.setCell ⟨g, 2, none⟩ (.slice none 0 0)).heap.size := HK2.out.size
      clear hdr c3 f3
      generalize w1.setCell ⟨g, 2, none⟩ (.slice none 0 0) = w2 at HD2 HK2 HRL c4 h12 ⊢
      have c5 : (w2.alloc (.cells #[.slice aL L.length cL'] 34)).cell? ⟨g, 2, none⟩ = some (.slice none 0 0) := by rw [World.cell?_alloc_lt _ _ _ (by show g < w2.heap.size; omega)]; exact c4
      go_wp2_with (at_builtin; go_must (refine wpList_append_own _ rfl (.tmp 25) (.tmp 27) 40 rfl w2.heap.size 34 i0 (.slice none 0 0) 1 24 Tryz.underlying40 hi hz0 hz1 hz2 rfl (by decide) _ _ _ rfl (World.ownsRow_nil _ _ _ _) ⟨_, 0, none⟩ 1 1 [.slice aL L.length cL'] rfl rfl (one_at _ _ _) (fun u hu => by rw [List.mem_singleton.1 hu]; rfl) (by unfold maxLen; omega) (by omega) (by simp) ?_); intro v1 wn o1 g1 z1; clear z1; have bn : Below w2.heap.size w2 wn := ((Below.refl _ w2).alloc (Nat.le_refl _) _).grown g1 (by simp) (fun k hk => by have hk' : (none : Option Nat) = some k := hk; cases hk'); have hfn := owns_fresh1 o1; obtain ⟨a1, c1, rfl, r1, _⟩ := owns_row o1; have hdn := HD2.out.below bn; have c6 : wn.cell? ⟨g, 2, none⟩ = some (.slice none 0 0) := hdn.lies.cell (i := 2) (by omega); have f6 : wn.frozen? ⟨g, 2, none⟩ = false := hdn.lies.frozen 2)
      have hlt1 : ∀ ad, a1 = some ad → ad.block < wn.heap.size := fun ad e => by
        obtain ⟨b5, off5, h5, hc5⟩ := r1.2.2 (by omega)
        rw [e] at h5
        obtain rfl : ad = ⟨b5, off5, none⟩ := by simpa using h5
        exact Lists.block_lt (hc5 0 _ rfl)
      have hE : ∀ i, (D i ∨ (w.heap.size ≤ i ∧ i < wn.heap.size)) → B ≤ i ∧ i < wn.heap.size := fun i q => by
        rcases q with q | q
        · exact hdn.foot i q
        · have := (HD.out.foot g HD.out.own).1
          omega
      have hLlt : ∀ ad, aL = some ad → ad.block < wn.heap.size := fun ad e => by
        obtain ⟨b5, off5, h5, hc5⟩ := HRL.out.2.2 (by omega)
        rw [e] at h5
        obtain rfl : ad = ⟨b5, off5, none⟩ := by simpa using h5
        have hl : 0 < (cells L).length := by rw [PairRows.cells_length]; omega
        exact Nat.lt_of_lt_of_le (Lists.block_lt (hc5 0 _ (List.getElem?_eq_getElem hl))) bn.size
      have hin : In (fun i => D i ∨ (w.heap.size ≤ i ∧ i < wn.heap.size)) g (.slice a1 ([L] : List (List Pair)).length c1) := fun ad n c e => by
        simp only [Value.slice.injEq] at e
        have h5 := hfn ad ⟨_, _, by rw [e.1]⟩
        have h6 := hlt1 ad e.1
        exact ⟨.inr ⟨by omega, h6⟩, by omega⟩
      have hiL : In (fun i => D i ∨ (w.heap.size ≤ i ∧ i < wn.heap.size)) g (.slice aL L.length cL') := fun ad n c e => by
        simp only [Value.slice.injEq] at e
        have h5 := hfr ad e.1
        have h6 := hLlt ad e.1
        exact ⟨.inr ⟨h5, h6⟩, by omega⟩
      obtain ⟨hd7, k7⟩ := hdn.setLevels (E := fun i => D i ∨ (w.heap.size ≤ i ∧ i < wn.heap.size)) (r := [L]) (a := a1) (cap := c1) (ws := [.slice aL L.length cL']) (fun _ q => .inl q) hE r1 (fun q => by cases q) hin (LRows.cons ⟨aL, cL', rfl, HRL.out.below bn⟩ (LRows.nil _)) (fun v hv => by rw [List.mem_singleton.1 hv]; exact hiL)
      have HF : Hid (Stays w (wn.setCell ⟨g, 2, none⟩ (.slice a1 1 c1)) B g D (merged x)) := ⟨⟨fun i => D i ∨ (w.heap.size ≤ i ∧ i < wn.heap.size), by rw [HM.out]; exact ⟨_, _, _, hd7⟩, fun k q => Or.imp id And.left q⟩, (HK2.out.then bn).trans k7 fun i q => .inl q⟩
      clear hd7 k7 hin hiL hE hLlt hlt1 hdn
      go_wp2_with fail
      go_ret
      exact ⟨by rw [HE.out]; rfl, HF.out⟩

end Go.Proofs.YtbepfeajaoaocafGreatDoor.WalkMergeRef
