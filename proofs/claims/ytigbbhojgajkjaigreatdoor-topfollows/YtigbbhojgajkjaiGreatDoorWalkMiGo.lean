/-
  What the program's mirror does once all entries are there (goOn): they must have the root of the head that it heard.
-/
import Derived.Test.YtigbbhojgajkjaiGreatDoorWalkMiOne
import Derived.Deep.RegionLaw
namespace Go.Proofs.YtigbbhojgajkjaiGreatDoor.WalkMiGo
open Go.RowKit
open Lists (Row ints bt)
open Keeps (Kept owns_kept owns_base owns_row)
open Wides (Wide owns_wide)
open Heads (Head zero isKey)
open HeadVals (hv aggH sizeH)
open Entries (Entry entE entsE leafsOf)
open EntRows (cells cells_append)
open Errs (errv errv0 errv_pos)
open Mirrors (Mir Want rootE)
open MirObj (Lay fld foot put4)

/-- it has turned: what it is now, where its blocks are -/
def Turned (w : World) (B b : Nat) (key : Int) (v1 v2 : Value) (m' : Mir) (w' : World) : Prop :=
  ∃ v1' v2', Lay w' B b key m' v1' v2' ∧ Kept (foot b v1 v2) w w' ∧ ∀ k, foot b v1' v2' k → foot b v1 v2 k ∨ w.heap.size ≤ k
theorem Turned.same {w w' : World} {B b : Nat} {key : Int} {m : Mir} {v1 v2 : Value} (h : Lay w B b key m v1 v2) (k : Below w.heap.size w w') : Turned w B b key v1 v2 m w' :=
  ⟨v1, v2, h.below k, Kept.of_below _ k, fun _ q => .inl q⟩
theorem Turned.from {w w1 w' : World} {B b : Nat} {key : Int} {m' : Mir} {v1 v2 : Value} (k : Below w.heap.size w w1) (h : Turned w1 B b key v1 v2 m' w') : Turned w B b key v1 v2 m' w' := by
  obtain ⟨x, y, h1, h2, h3⟩ := h
  exact ⟨x, y, h1, (Kept.of_below _ k).trans h2 fun _ q => .inl q, fun i q => (h3 i q).imp id fun q => Nat.le_trans k.size q⟩
theorem Turned.trans {w w1 w' : World} {B b : Nat} {key : Int} {m' : Mir} {v1 v2 x1 x2 : Value} (hk : Kept (foot b v1 v2) w w1) (hf : ∀ k, foot b x1 x2 k → foot b v1 v2 k ∨ w.heap.size ≤ k) (h : Turned w1 B b key x1 x2 m' w') : Turned w B b key v1 v2 m' w' := by
  obtain ⟨x, y, h1, h2, h3⟩ := h
  refine ⟨x, y, h1, hk.trans h2 hf, fun i q => ?_⟩
  rcases h3 i q with q | q
  · exact hf i q
  · exact .inr (Nat.le_trans hk.size q)
/-- .. and its end goes on -/
theorem Turned.then {w w1 w' : World} {B b : Nat} {key : Int} {m' : Mir} {v1 v2 : Value} (h : Turned w B b key v1 v2 m' w1) (k : Below w1.heap.size w1 w') : Turned w B b key v1 v2 m' w' := by
  obtain ⟨x, y, h1, h2, h3⟩ := h
  exact ⟨x, y, h1.below k, h2.then k, h3⟩

/-- what goOn leaves of it: on an error all is as it was -/
def gone (m : Mir) : Mir := if m.settledE = 0 then m.settled else m
set_option maxHeartbeats 4000000 in
set_option maxRecDepth 100000 in
theorem goOn_any {w : World} {B b : Nat} {key : Int} {m : Mir} {v1 v2 : Value} (h : Lay w B b key m v1 v2) (hf : entsE m.all = 0) :
    Calls Tryz.prog 129 #[.pointer (some ⟨b, 0, none⟩)] w fun e w' => e = .returned (errv m.settledE) ∧ Turned w B b key v1 v2 (gone m) w' := by
  have hla := (Entries.ents_ok hf).1
  have hBw : B ≤ w.heap.size := Nat.le_of_lt (Nat.lt_of_le_of_lt h.above h.row.lt)
  have HL : Hid (Lay w B b key m v1 v2) := h
  have HF : Hid (entsE m.all = 0) := hf
  have hfl : [m.own, m.waits].flatten = m.all := by simp [Mir.all]
  have HC : Hid (∀ (w' : World) (g : Nat), Below w.heap.size w w' → w'.cell? ⟨g, 0, none⟩ = some v1 → w'.cell? ⟨g, 1, none⟩ = some v2 → Calls Tryz.prog 142 #[.slice (some ⟨g, 0, none⟩) 2 2] w' fun e w'' => WalkMiLists.Fresh m.all w' e w'') := fun w' g hb h0 h1 => by
    have hl := HL.out.below hb
    have hr : Row w' (some ⟨g, 0, none⟩) 2 2 [v1, v2] := ⟨rfl, Nat.le_refl _, fun _ => ⟨g, 0, rfl, fun j u hj => by
      match j, hj with
      | 0, hj => simp at hj; subst hj; exact h0
      | 1, hj => simp at hj; subst hj; exact h1⟩⟩
    have ho : WalkMiLists.Owns w' [v1, v2] [m.own, m.waits] := ⟨rfl, fun i v l hv hl' => by
      match i, hv, hl' with
      | 0, hv, hl' => simp at hv hl'; subst hv; subst hl'; exact ⟨B, hl.own⟩
      | 1, hv, hl' => simp at hv hl'; subst hv; subst hl'; exact ⟨B, hl.waits⟩⟩
    have hc := WalkMiLists.concat_any [v1, v2] [m.own, m.waits] (some ⟨g, 0, none⟩) 2 2 w' hr ho (by omega) (by unfold WalkMiLists.total; rw [hfl]; omega)
    rw [hfl] at hc
    exact hc
  have d1 : w.cell? ⟨b, 1, none⟩ = some v1 := h.row.cell (i := 1) (by omega)
  have d2 : w.cell? ⟨b, 2, none⟩ = some v2 := h.row.cell (i := 2) (by omega)
  obtain ⟨a1, k1, rfl, _⟩ := owns_wide h.own
  obtain ⟨a2, k2, rfl, _⟩ := owns_wide h.waits
  have HS : Hid (∀ w', Below w.heap.size w w' → w'.cell? ⟨b, 1, none⟩ = some (.slice a1 m.own.length k1) ∧ w'.cell? ⟨b, 2, none⟩ = some (.slice a2 m.waits.length k2)) := fun w' hb => ⟨(HL.out.below hb).row.cell (i := 1) (by omega), (HL.out.below hb).row.cell (i := 2) (by omega)⟩
  clear h hf hfl hla
  go_enter Tryz.func129, Tryz.ntmps129
  go_upto_region 1 with fail
  have HCA : Hid (Calls Tryz.prog 142 #[.slice (some ⟨w.heap.size, 0, none⟩) 2 2] (w.alloc (.cells #[.slice a1 m.own.length k1, .slice a2 m.waits.length k2] 22)).drew fun e w'' => ∃ v, e = .returned v ∧ w''.ownsRow w.heap.size 65 2 v m.all.length (cells m.all) ∧ Below w.heap.size w w'') := by
    have hb : Below w.heap.size w (w.alloc (.cells #[.slice a1 m.own.length k1, .slice a2 m.waits.length k2] 22)).drew := ((Below.refl _ w).alloc (Nat.le_refl _) _).drew
    refine (HC.out _ w.heap.size hb (by simp) (by simp)).mono ?_
    rintro e w3 ⟨v3, rfl, o3, b3⟩
    exact ⟨v3, rfl, owns_base o3 hb.size, hb.trans (b3.mono hb.size)⟩
  clear HC
  go_region_held (fun w' => w'.cell? ⟨b, 1, none⟩ = some (.slice a1 m.own.length k1) ∧ w'.cell? ⟨b, 2, none⟩ = some (.slice a2 m.waits.length k2)) (go_keep)
    (first | (go_at_call 142; refine HCA.out.mono ?_; rintro e w3 ⟨v3, rfl, o3, b3⟩; have HB3 : Hid (Below w.heap.size w w3) := b3; have HO3 : Hid (w3.ownsRow w.heap.size 65 2 v3 m.all.length (cells m.all)) := o3; obtain ⟨d1, d2⟩ := HS.out _ HB3.out; clear b3 o3))
  clear d1 d2 HCA
  obtain ⟨a3, k3, rfl, w3r⟩ := owns_wide HO3.out
  have HRO : Hid (∀ w', Below w3.heap.size w3 w' → Calls Tryz.prog 140 #[.slice a3 m.all.length k3] w' fun e w'' => e = .returned (.int .i64 (rootE m.all)) ∧ Below w'.heap.size w' w'') := fun w' hb => WalkMiOne.rootOf_any m.all a3 m.all.length k3 w' (w3r.below hb) HF.out
  have HS4 : Hid (∀ w', Below w3.heap.size w3 w' → w'.cell? ⟨b, 4, none⟩ = some (.int .i64 m.next.root)) := fun w' hb => (HL.out.below (bt HB3.out hb)).row.cell (i := 4) (by omega)
  clear w3r HS
  go_upto_region 2 with fail
  have e4 := HS4.out _ (Below.refl _ w3)
  go_region_held (fun w' => w'.cell? ⟨b, 4, none⟩ = some (.int .i64 m.next.root)) (go_keep)
    (first | (go_at_call 140; refine (HRO.out _ (Below.refl _ w3).drew).mono ?_; rintro e w4 ⟨rfl, b4⟩; have HB4 : Hid (Below w3.heap.size w3 w4) := bt (Below.refl _ w3).drew b4; have e4 := HS4.out _ HB4.out; clear b4))
  clear e4 HRO HS4
  have HBW : Hid (Below w.heap.size w w4) := bt HB3.out HB4.out
  have L4 := HL.out.below HBW.out
  by_cases hr : rootE m.all = m.next.root
  · have e1 : (rootE m.all != m.next.root) = false := by rw [hr]; simp
    have HSE : Hid (m.settledE = 0 ∧ gone m = ⟨m.all, m.next, zero, []⟩) := by
      have h0 : m.settledE = 0 := if_pos hr
      refine ⟨h0, ?_⟩
      show (if m.settledE = 0 then m.settled else m) = _
      rw [if_pos h0]
      exact if_pos hr
    have HVB : Hid (∀ k, (Value.slice a3 m.all.length k3).ownBlock = some k → w.heap.size ≤ k) := fun k hk => (HO3.out.lt k hk).1
    have o4 : w4.ownsRow B 65 2 (.slice a3 m.all.length k3) m.all.length (cells m.all) := owns_base (owns_kept HO3.out (Kept.of_below (fun _ => False) HB4.out) fun _ _ q => q) hBw
    have nb : (Value.slice a3 m.all.length k3).ownBlock ≠ some b := fun e => by have h1 := HVB.out b e; have h2 := HL.out.row.lt; omega
    have nv : ∀ k, (Value.slice a3 m.all.length k3).ownBlock = some k → (Value.slice a2 m.waits.length k2).ownBlock ≠ some k := fun k hk e => by have h1 := HVB.out k hk; have h2 := (HL.out.foot_lt k (.inr (.inr e))).2; omega
    have L7 := L4.setOwn m.all _ o4 nb nv
    have K7 : Kept (fun k => k = b) w (w4.setCell ⟨b, 1, none⟩ (.slice a3 m.all.length k3)) := (Kept.of_below (fun k => k = b) HBW.out).setCell (.inl rfl) _
    have HK7 : Hid (Kept (fun k => k = b) w (w4.setCell ⟨b, 1, none⟩ (.slice a3 m.all.length k3))) := K7
    have HL7 : Hid (Lay (w4.setCell ⟨b, 1, none⟩ (.slice a3 m.all.length k3)) B b key { m with own := m.all } (.slice a3 m.all.length k3) (.slice a2 m.waits.length k2)) := L7
    have c1 : w4.cell? ⟨b, 1, none⟩ = some (.slice a1 m.own.length k1) := L4.row.cell (i := 1) (by omega)
    have f1 := L4.row.frozen 1
    have n3 : w4.cell? ⟨b, 3, none⟩ = some (.int .i64 m.next.size) := L4.row.cell (i := 3) (by omega)
    have n4 : w4.cell? ⟨b, 4, none⟩ = some (.int .i64 m.next.root) := L4.row.cell (i := 4) (by omega)
    have n5 : w4.cell? ⟨b, 5, none⟩ = some (.int .i64 m.next.time) := L4.row.cell (i := 5) (by omega)
    have n6 : w4.cell? ⟨b, 6, none⟩ = some (.int .i64 m.next.sign) := L4.row.cell (i := 6) (by omega)
    have g7 : (w4.setCell ⟨b, 1, none⟩ (.slice a3 m.all.length k3)).cell? ⟨b, 7, none⟩ = some (.int .i64 m.head.size) := L7.row.cell (i := 7) (by omega)
    have g8 : (w4.setCell ⟨b, 1, none⟩ (.slice a3 m.all.length k3)).cell? ⟨b, 8, none⟩ = some (.int .i64 m.head.root) := L7.row.cell (i := 8) (by omega)
    have g9 : (w4.setCell ⟨b, 1, none⟩ (.slice a3 m.all.length k3)).cell? ⟨b, 9, none⟩ = some (.int .i64 m.head.time) := L7.row.cell (i := 9) (by omega)
    have g10 : (w4.setCell ⟨b, 1, none⟩ (.slice a3 m.all.length k3)).cell? ⟨b, 10, none⟩ = some (.int .i64 m.head.sign) := L7.row.cell (i := 10) (by omega)
    have z7 := L7.row.frozen 7
    have z8 := L7.row.frozen 8
    have z9 := L7.row.frozen 9
    have z10 := L7.row.frozen 10
    have HL8 : Hid (Lay (put4 (w4.setCell ⟨b, 1, none⟩ (.slice a3 m.all.length k3)) b 7 m.next) B b key { { m with own := m.all } with head := m.next } (.slice a3 m.all.length k3) (.slice a2 m.waits.length k2) ∧ Kept (fun k => k = b) w (put4 (w4.setCell ⟨b, 1, none⟩ (.slice a3 m.all.length k3)) b 7 m.next)) := ⟨HL7.out.setHead m.next, HK7.out.trans (MirObj.kept_put4 _ b 7 m.next) fun _ q => .inl q⟩
    have aH := aggH
    have zH := sizeH
    unfold put4 at HL8
    simp only [Nat.reduceAdd] at HL8
    clear hr L4 L7 K7 o4 nb nv d1 d2 e4 HB3 HB4 HO3
    go_upto_region 5 with fail
    generalize ((((w4.setCell ⟨b, 1, none⟩ (.slice a3 m.all.length k3)).setCell ⟨b, 7, none⟩ (.int .i64 m.next.size)).setCell ⟨b, 8, none⟩ (.int .i64 m.next.root)).setCell ⟨b, 9, none⟩ (.int .i64 m.next.time)).setCell ⟨b, 10, none⟩ (.int .i64 m.next.sign) = w8 at HL8 ⊢
    have cF := WalkMiOne.forget_any HL8.out.1
    clear n3 n4 n5 n6 g7 g8 g9 g10 z7 z8 z9 z10 c1 f1 HL7 HK7
    go_wp2_with fail
    refine cF.mono ?_
    rintro e w9 ⟨rfl, L9, K9⟩
    clear cF
    go_wp2_with fail
    go_ret
    refine ⟨by rw [HSE.out.1]; rfl, _, _, by rw [HSE.out.2]; exact L9, (HL8.out.2.trans K9 fun _ q => .inl q).mono fun k q => .inl q, ?_⟩
    rintro k (rfl | hk | hk)
    · exact .inl (.inl rfl)
    · exact .inr (HVB.out k hk)
    · simp [Value.ownBlock] at hk
  · have e1 : (rootE m.all != m.next.root) = true := by simpa using hr
    have HSE : Hid (m.settledE = 8 ∧ gone m = m) := by
      have h8 : m.settledE = 8 := if_neg hr
      exact ⟨h8, if_neg (by rw [h8]; simp)⟩
    have HFIN : Hid (Turned w B b key (.slice a1 m.own.length k1) (.slice a2 m.waits.length k2) m w4) := Turned.same HL.out HBW.out
    clear L4 hr
    go_wp2_with fail
    go_ret
    refine ⟨by rw [HSE.out.1]; rfl, by rw [HSE.out.2]; exact HFIN.out⟩

end Go.Proofs.YtigbbhojgajkjaiGreatDoor.WalkMiGo
