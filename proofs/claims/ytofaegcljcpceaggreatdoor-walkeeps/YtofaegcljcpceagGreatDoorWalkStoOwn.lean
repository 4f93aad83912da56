/-
  What package store keeps of a pair: check, ownCopy.
-/
import Derived.Test.YtofaegcljcpceagGreatDoorWalkClone
import Derived.Test.YtofaegcljcpceagGreatDoorWalkStoFind
import Derived.Test.YtofaegcljcpceagGreatDoorErrs
import Derived.Deep.RegionHeld
import Derived.Deep.OwnRows
import Derived.Laws.ResultCell
import Derived.BigRegion
namespace Go.Proofs.YtofaegcljcpceagGreatDoor.WalkStoOwn
open Go.RowKit
open Lists (bt)
open Stores (Pair keyE)
open Errs (errv errv0 errv_pos)
open WalkStoFind (aggP sizeP)

theorem empty_yes {x : ByteArray} (h : x.size = 0) : (x.toList == []) = true := by
  have : x = ⟨#[]⟩ := ByteArray.ext (Array.size_eq_zero_iff.1 h)
  rw [this, ByteArray.toList_eq]
  rfl
theorem empty_no {x : ByteArray} (h : x.size ≠ 0) : (x.toList == []) = false := by
  rw [beq_eq_false_iff_ne, ByteArray.toList_eq]
  intro e
  have := congrArg List.length e
  simp at this
  exact h (by show x.data.size = 0; rw [this]; rfl)

/-- what is wrong with a pair by itself -/
def pairE (x y : ByteArray) : Nat := if x.size = 0 then 2 else if 200 < x.size ∨ 200 < y.size then 4 else 0

theorem check_any (x y : ByteArray) (z : Bool) (w : World) (hx : x.size ≤ maxLen) (hy : y.size ≤ maxLen) :
    Calls Tryz.prog 97 #[.agg #[.string x, .string y, .bool z]] w fun e w' => e = .returned (errv (pairE x y)) ∧ Below w.heap.size w w' := by
  have b0 : Below w.heap.size w (w.alloc (.cells #[.string x, .string y, .bool z] 31)) := (Below.refl _ _).alloc (Nat.le_refl _) _
  have m1 : (x.size : Int) ≤ 9223372036854775807 := by unfold maxLen at hx; omega
  have m2 : (y.size : Int) ≤ 9223372036854775807 := by unfold maxLen at hy; omega
  clear hx hy
  by_cases h0 : x.size = 0
  · have HV : Hid (pairE x y = 2) := if_pos h0
    have e0 := empty_yes h0
    clear h0
    go_enter Tryz.func97, Tryz.ntmps97
    go_wp2_with fail
    go_ret
    exact ⟨by rw [HV.out]; rfl, b0⟩
  · have e0 := empty_no h0
    by_cases h1 : 200 < x.size
    · have HV : Hid (pairE x y = 4) := by show _ = _; unfold pairE; rw [if_neg h0, if_pos (.inl h1)]
      have i1 : (200 : Int) < (x.size : Int) := by omega
      clear h0 h1
      go_enter Tryz.func97, Tryz.ntmps97
      go_wp2_with fail
      go_ret
      exact ⟨by rw [HV.out]; rfl, b0⟩
    · have i1 : ¬ (200 : Int) < (x.size : Int) := by omega
      by_cases h2 : 200 < y.size
      · have HV : Hid (pairE x y = 4) := by show _ = _; unfold pairE; rw [if_neg h0, if_pos (.inr h2)]
        have i2 : (200 : Int) < (y.size : Int) := by omega
        clear h0 h1 h2
        go_enter Tryz.func97, Tryz.ntmps97
        go_wp2_with fail
        go_ret
        exact ⟨by rw [HV.out]; rfl, b0⟩
      · have HV : Hid (pairE x y = 0) := by show _ = _; unfold pairE; rw [if_neg h0, if_neg (by omega)]
        have i2 : ¬ (200 : Int) < (y.size : Int) := by omega
        clear h0 h1 h2
        go_enter Tryz.func97, Tryz.ntmps97
        go_wp2_with fail
        go_ret
        exact ⟨by rw [HV.out]; rfl, b0⟩

/-- a row of three cells, written out -/
theorem row_three {w : World} {g : Nat} {t : TypeId} {f : Nat → Value} (h : w.rowIs g t 3 f) : w.heap[g]? = some (.cells #[f 0, f 1, f 2] t (0, 0)) := by
  obtain ⟨c, hb, hn, hc⟩ := h
  have : c = #[f 0, f 1, f 2] := by
    apply Array.ext_getElem?
    intro i
    match i with
    | 0 => rw [hc 0 (by omega)]; rfl
    | 1 => rw [hc 1 (by omega)]; rfl
    | 2 => rw [hc 2 (by omega)]; rfl
    | i + 3 => rw [Array.getElem?_eq_none (by omega), Array.getElem?_eq_none (by simp)]
  rw [hb, this]
theorem size_three : (Tryz.prog.info? 31).map (·.size) = some 3 := by kernel_rfl
theorem ret_copy {w : World} {g : Nat} {x y z : Value} (tmps : Array Value) (hp : tmps.getD 2 undef = .pointer (some ⟨g, 0, none⟩)) (h : w.heap[g]? = some (.cells #[x, y, z] 31 (0, 0))) :
    (results Tryz.f99 tmps).run Tryz.prog w = .ok (.agg #[x, y, z]) w :=
  results_cell_row rfl tmps w g _ #[x, y, z] (0, 0) _ hp h Tryz.underlying31 rfl size_three

set_option maxHeartbeats 8000000 in
set_option maxRecDepth 100000 in
theorem copy_any (x y : ByteArray) (z : Bool) (w : World) (hx : x.size ≤ 200) (hy : y.size ≤ 200) :
    Calls Tryz.prog 99 #[.agg #[.string x, .string y, .bool z]] w fun e w' => e = .returned (.agg #[.string x, .string y, .bool z]) ∧ Below w.heap.size w w' := by
  have a26 := aggP
  have z26 := sizeP
  have HX : Hid (∀ w1, Calls Tryz.prog 107 #[.string x] w1 fun e w' => e = .returned (.string x) ∧ Below w1.heap.size w1 w') := fun w1 => WalkClone.clone_any x w1 (by omega)
  have HY : Hid (∀ w1, Calls Tryz.prog 107 #[.string y] w1 fun e w' => e = .returned (.string y) ∧ Below w1.heap.size w1 w') := fun w1 => WalkClone.clone_any y w1 (by omega)
  clear hx hy
  go_enter Tryz.func99, Tryz.ntmps99
  go_upto_region 1 with fail
  have b0 : Below w.heap.size w ((w.alloc (.cells #[.string x, .string y, .bool z] 31)).alloc (.cells #[.string ⟨#[]⟩, .string ⟨#[]⟩, .bool false] 31)) := ((Below.refl _ _).alloc (Nat.le_refl _) _).alloc (by simp) _
  have k0 : ((w.alloc (.cells #[.string x, .string y, .bool z] 31)).alloc (.cells #[.string ⟨#[]⟩, .string ⟨#[]⟩, .bool false] 31)).cell? ⟨w.heap.size, 0, none⟩ = some (.string x) := by rw [World.cell?_alloc_past _ _ _ (by simp)]; simp
  have k1 : ((w.alloc (.cells #[.string x, .string y, .bool z] 31)).alloc (.cells #[.string ⟨#[]⟩, .string ⟨#[]⟩, .bool false] 31)).cell? ⟨w.heap.size, 1, none⟩ = some (.string y) := by rw [World.cell?_alloc_past _ _ _ (by simp)]; simp
  have k2 : ((w.alloc (.cells #[.string x, .string y, .bool z] 31)).alloc (.cells #[.string ⟨#[]⟩, .string ⟨#[]⟩, .bool false] 31)).cell? ⟨w.heap.size, 2, none⟩ = some (.bool z) := by rw [World.cell?_alloc_past _ _ _ (by simp)]; simp
  have r0 : ((w.alloc (.cells #[.string x, .string y, .bool z] 31)).alloc (.cells #[.string ⟨#[]⟩, .string ⟨#[]⟩, .bool false] 31)).rowIs (w.heap.size + 1) 31 3 (fun j => if j = 0 then .string ⟨#[]⟩ else if j = 1 then .string ⟨#[]⟩ else .bool false) := by
    have := World.rowIs_alloc (w.alloc (.cells #[.string x, .string y, .bool z] 31)) #[.string ⟨#[]⟩, .string ⟨#[]⟩, .bool false] 31 (fun j => if j = 0 then .string ⟨#[]⟩ else if j = 1 then .string ⟨#[]⟩ else .bool false) (by intro i hi; match i, hi with | 0, _ => rfl | 1, _ => rfl | 2, _ => rfl)
    simpa using this
  generalize (w.alloc (.cells #[.string x, .string y, .bool z] 31)).alloc (.cells #[.string ⟨#[]⟩, .string ⟨#[]⟩, .bool false] 31) = w1 at b0 k0 k1 k2 r0 ⊢
  have HB0 : Hid (Below w.heap.size w w1) := b0
  have HC : Hid (∀ w', Below w1.heap.size w1 w' → (w'.cell? ⟨w.heap.size, 0, none⟩ = some (.string x) ∧ w'.cell? ⟨w.heap.size, 1, none⟩ = some (.string y) ∧ w'.cell? ⟨w.heap.size, 2, none⟩ = some (.bool z)) ∧ w'.rowIs (w.heap.size + 1) 31 3 (fun j => if j = 0 then .string ⟨#[]⟩ else if j = 1 then .string ⟨#[]⟩ else .bool false)) := fun w' b => ⟨⟨Lists.cell_below b k0, Lists.cell_below b k1, Lists.cell_below b k2⟩, r0.of_block (b.block _ r0.lt)⟩
  have d0 : w1.drew.cell? ⟨w.heap.size, 0, none⟩ = some (.string x) := k0
  have d1 : w1.drew.cell? ⟨w.heap.size, 1, none⟩ = some (.string y) := k1
  have d2 : w1.drew.cell? ⟨w.heap.size, 2, none⟩ = some (.bool z) := k2
  clear k0 k1 k2 b0 r0
  go_region_held (fun w' => w'.cell? ⟨w.heap.size, 0, none⟩ = some (.string x) ∧ w'.cell? ⟨w.heap.size, 1, none⟩ = some (.string y) ∧ w'.cell? ⟨w.heap.size, 2, none⟩ = some (.bool z)) (go_keep)
    (first | (go_at_call 107; refine (HX.out _).mono ?_; rintro e w4 ⟨rfl, b4⟩; have HB4 : Hid (Below w1.heap.size w1 w4) := bt (Below.refl _ w1).drew b4; obtain ⟨⟨c0, c1, c2⟩, HQ⟩ := HC.out _ HB4.out; clear b4 HQ) | (go_at_call 107; refine (HY.out _).mono ?_; rintro e w5 ⟨rfl, b5⟩; have HB5 : Hid (Below w1.heap.size w1 w5) := bt HB4.out b5; obtain ⟨⟨c0, c1, c2⟩, HQ⟩ := HC.out _ HB5.out; have q0 := HQ.cell (i := 0) (by omega); have q1 := HQ.cell (i := 1) (by omega); have q2 := HQ.cell (i := 2) (by omega); have f0 := HQ.frozen 0; have f1 := HQ.frozen 1; have f2 := HQ.frozen 2; clear b5 HQ))
  have HQ := (HC.out _ HB5.out).2
  have HR : Hid ((((w5.setCell ⟨w.heap.size + 1, 0, none⟩ (.string x)).setCell ⟨w.heap.size + 1, 1, none⟩ (.string y)).setCell ⟨w.heap.size + 1, 2, none⟩ (.bool z)).heap[w.heap.size + 1]? = some (.cells #[.string x, .string y, .bool z] 31 (0, 0))) := row_three (((HQ.set 0 (.string x)).set 1 (.string y)).set 2 (.bool z))
  have HE : Hid (Below w.heap.size w (((w5.setCell ⟨w.heap.size + 1, 0, none⟩ (.string x)).setCell ⟨w.heap.size + 1, 1, none⟩ (.string y)).setCell ⟨w.heap.size + 1, 2, none⟩ (.bool z))) := (((bt HB0.out HB5.out).setCell (by simp) _).setCell (by simp) _).setCell (by simp) _
  go_wp2_with fail
  refine bodyPost_ret (ret_copy _ rfl HR.out) rfl ⟨rfl, HE.out⟩

end Go.Proofs.YtofaegcljcpceagGreatDoor.WalkStoOwn
