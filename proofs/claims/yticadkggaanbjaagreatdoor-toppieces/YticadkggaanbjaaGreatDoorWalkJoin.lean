/-
  What the program's joinLast does to a list that the call owns.
-/
import Derived.Test.YticadkggaanbjaaGreatDoorWalkPeaks
namespace Go.Proofs.YticadkggaanbjaaGreatDoor.WalkJoin
open Go.RowKit
open Lists (Row ints bt)
open Keeps (Kept owns_kept owns_open owns_set owns_take owns_row owns_base)

set_option maxHeartbeats 1000000 in
theorem joinLast_any (xs : List Int) (v : Value) (m B : Nat) (w : World) (hx : xs.length = m + 2) (hm : m ≤ 1000) (hown : w.ownsRow B 3 1 v (m + 2) (ints xs)) (hv : ∀ x ∈ xs, Nums.valid x = true) :
    Calls Tryz.prog 90 #[v] w fun e w' => ∃ v', e = .returned v' ∧ w'.ownsRow B 3 1 v' (m + 1) (ints (Peaks.joinLast xs)) ∧ v'.ownBlock = v.ownBlock ∧ Kept (fun k => v.ownBlock = some k) w w' := by
  obtain ⟨g, cap, rfl, hob, hg, hgl, hcap, hmax, hcell, hfr⟩ := owns_open hown (by omega)
  have c0 := hcell m _ (Lists.ints_at (by omega))
  have c1 := hcell (m + 1) _ (Lists.ints_at (by omega))
  have f0 := hfr m
  have a0 : Nums.valid (xs.getD m 0) = true := hv _ (by rw [List.getD_eq_getElem?_getD, List.getElem?_eq_getElem (by omega)]; exact List.getElem_mem _)
  have a1 : Nums.valid (xs.getD (m + 1) 0) = true := hv _ (by rw [List.getD_eq_getElem?_getD, List.getElem?_eq_getElem (by omega)]; exact List.getElem_mem _)
  have HJ : Hid (ints (Peaks.joinLast xs) = ((ints xs).set m (.int .i64 (Peaks.node (xs.getD m 0) (xs.getD (m + 1) 0)))).take (m + 1)) := by
    show _ = _
    rw [Peaks.joinLast, hx, show m + 2 - 2 = m by omega, show m + 2 - 1 = m + 1 by omega]
    simp only [ints, List.map_append, List.map_take, List.map_cons, List.map_nil]
    rw [List.take_succ_eq_append_getElem (by simp; omega), List.take_set_of_le (Nat.le_refl m)]
    simp
  have cN : ∀ w1 : World, Calls Tryz.prog 79 #[.int .i64 (xs.getD m 0), .int .i64 (xs.getD (m + 1) 0)] w1 fun e w' => e = .returned (.tuple #[.int .i64 (Peaks.node (xs.getD m 0) (xs.getD (m + 1) 0)), .nilIface]) ∧ Below w1.heap.size w1 w' := fun w1 => WalkMix.node_yes _ _ w1 a0 a1
  have HO : Hid (w.ownsRow B 3 1 (.slice (some ⟨g, 0, none⟩) (m + 2) cap) (m + 2) (ints xs)) := hown
  generalize xs.getD m 0 = x at c0 HJ cN
  generalize xs.getD (m + 1) 0 = y at c1 HJ cN
  clear hcell hfr hv a0 a1 hown hob
  go_enter Tryz.func90, Tryz.ntmps90
  go_wp2_with fail
  generalize hq : (m : Int) + 2 - 1 = q
  have j2 : 0 ≤ q := by omega
  have j3 : q < (m : Int) + 2 := by omega
  have e0 : IntKind.i64.wrap (q - 1) = (m : Int) := by
    rw [show q - 1 = (m : Int) by omega]
    simp only [IntKind.wrap, IntKind.signed, IntKind.bits]
    simp
    omega
  have e1 : q.toNat = m + 1 := by omega
  have i0 : (0 : Int) ≤ (m : Int) := by omega
  have i1 : (m : Int) < (m : Int) + 2 := by omega
  have HQ : Hid (q = (m : Int) + 1) := by show _ = _; omega
  clear hq
  go_region_with (go_at_call 79; refine (cN _).mono ?_; rintro e w1 ⟨rfl, b1⟩; have k0 := Lists.cell_below b1 c0; have k1 := Lists.cell_below b1 c1; have kf : w1.frozen? ⟨g, m, none⟩ = false := (b1.frozen (p := ⟨g, m, none⟩) hgl).trans f0)
  all_goals
    have o2 : (w1.setCell ⟨g, m, none⟩ (.int .i64 (Peaks.node x y))).ownsRow B 3 1 (.slice (some ⟨g, 0, none⟩) (m + 1) cap) (m + 1) (ints (Peaks.joinLast xs)) := by
      rw [HJ.out]
      exact owns_take (owns_set (owns_kept HO.out (Kept.of_below (fun _ => False) (show Below w.heap.size w w1 from (Below.refl _ w).drew.trans b1)) fun _ _ q => q) m _) (m + 1) (by omega)
    have kk : Kept (fun k => (Value.slice (some ⟨g, 0, none⟩) (m + 2) cap).ownBlock = some k) w (w1.setCell ⟨g, m, none⟩ (.int .i64 (Peaks.node x y))) :=
      Kept.setCell (p := ⟨g, m, none⟩) ((Kept.refl (fun k => (Value.slice (some ⟨g, 0, none⟩) (m + 2) cap).ownBlock = some k) w).then ((Below.refl _ w).drew.trans b1)) (Or.inl (show (Value.slice (some ⟨g, 0, none⟩) (m + 2) cap).ownBlock = some g from rfl)) _
    have i3 : q ≤ (cap : Int) := by omega
    clear HO HJ cN b1 k0 k1 kf c0 c1 f0
    go_wp2_with fail
    go_ret
    exact ⟨_, rfl, o2, rfl, kk⟩

end Go.Proofs.YticadkggaanbjaaGreatDoor.WalkJoin
