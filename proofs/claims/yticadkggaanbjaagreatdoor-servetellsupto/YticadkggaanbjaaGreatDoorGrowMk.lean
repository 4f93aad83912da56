/-
  What the program's grow.Make returns, for all leafs and every two numbers.
-/
import Derived.Test.YticadkggaanbjaaGreatDoorGrowRun
import Derived.Test.YticadkggaanbjaaGreatDoorTreeRun
import Derived.Deep.DeepMust
import Derived.Maps.AppendAt
namespace Go.Proofs.YticadkggaanbjaaGreatDoor.WalkGrowMake
open Go.RowKit
open Lists (Row ints bt)
open Keeps (Kept owns_kept owns_row)
open Climbs (rootAt)
open GrowWays (parts)
open WalkGrowClimb (climb_any within_any inGrow_yes)
open GrowsE (inGrow inGrow_of gmakeE gmakeL gmake_of)
open WalkCheck (errv errv0 errv_pos)

theorem info3 : (Tryz.prog.info? 3).map (fun i => (i.zero, i.size, i.bytes)) = some (some (.int .i64 0), 1, 8) := by kernel_rfl

/-- where the making stands: the leafs and the proof lie in variables of the call's own; the roots of the parts that were told are there -/
structure Inv (w : World) (l : List Int) (a : Option Addr) (n cap : Nat) (ps : List (Nat × Nat)) (w1 : World) : Prop where
  leafs : w1.cell? ⟨w.heap.size, 0, none⟩ = some (.slice a n cap)
  val : ∃ v, w1.cell? ⟨w.heap.size + 1, 0, none⟩ = some v ∧ w1.ownsRow (w.heap.size + 2) 3 1 v ps.length (ints (ps.map (rootAt l)))
  free : w1.frozen? ⟨w.heap.size + 1, 0, none⟩ = false
  size : w.heap.size + 2 ≤ w1.heap.size
  below : Below w.heap.size w w1

theorem Inv.later {w : World} {l : List Int} {a : Option Addr} {n cap : Nat} {ps : List (Nat × Nat)} {w1 w2 : World} (h : Inv w l a n cap ps w1) (b : Below w1.heap.size w1 w2) : Inv w l a n cap ps w2 := by
  obtain ⟨v, hv, ho⟩ := h.val
  have hs := h.size
  exact ⟨Lists.cell_below b h.leafs, ⟨v, Lists.cell_below b hv, owns_kept ho (Kept.of_below (fun _ => False) b) fun _ _ q => q⟩, (b.frozen (p := ⟨w.heap.size + 1, 0, none⟩) (by show w.heap.size + 1 < _; omega)).trans h.free, Nat.le_trans h.size b.size, bt h.below b⟩

theorem grown_facts {w : World} {w2 wn : World} {v : Value} {o : Obj} {n : Nat} {xs : List Value} {u : Value} (hs : w.heap.size + 2 ≤ w2.heap.size) (hc : w2.cell? ⟨w.heap.size, 0, none⟩ = some u) (hv : w2.cell? ⟨w.heap.size + 1, 0, none⟩ = some v) (hf : w2.frozen? ⟨w.heap.size + 1, 0, none⟩ = false)
    (ho : w2.ownsRow (w.heap.size + 2) 3 1 v n xs) (g : (w2.alloc o).grownBy wn v.ownBlock) :
    wn.cell? ⟨w.heap.size, 0, none⟩ = some u ∧ wn.cell? ⟨w.heap.size + 1, 0, none⟩ = some v ∧ wn.frozen? ⟨w.heap.size + 1, 0, none⟩ = false := by
  have hne : ∀ j, j < w.heap.size + 2 → some j ≠ v.ownBlock := fun j hj h => by have := ho.lt j h.symm; omega
  refine ⟨g.cell ((World.cell?_alloc_past _ _ _ (by omega)).trans hc) (hne w.heap.size (by omega)), g.cell ((World.cell?_alloc_past _ _ _ (by omega)).trans hv) (hne (w.heap.size + 1) (by omega)), ?_⟩
  rw [World.frozen?_of_block (w := w2.alloc o) (g.block (w.heap.size + 1) (by simp; omega) (hne _ (by omega)))]
  exact (World.frozen?_alloc_past _ _ _ (by omega)).trans hf

theorem Inv.push {w : World} {l : List Int} {a : Option Addr} {n cap : Nat} {ps : List (Nat × Nat)} {w2 wn : World} {v v1 : Value} {o : Obj} {p : Nat × Nat} {x : Int} (hs : w.heap.size + 2 ≤ w2.heap.size) (hb : Below w.heap.size w w2)
    (hc : w2.cell? ⟨w.heap.size, 0, none⟩ = some (.slice a n cap)) (hv : w2.cell? ⟨w.heap.size + 1, 0, none⟩ = some v) (hf : w2.frozen? ⟨w.heap.size + 1, 0, none⟩ = false)
    (ho : w2.ownsRow (w.heap.size + 2) 3 1 v ps.length (ints (ps.map (rootAt l)))) (g : (w2.alloc o).grownBy wn v.ownBlock) (hx : rootAt l p = x)
    (oN : wn.ownsRow (w.heap.size + 2) 3 1 v1 (ps.length + 1) (ints (ps.map (rootAt l)) ++ [.int .i64 x])) : Inv w l a n cap (ps ++ [p]) (wn.setCell ⟨w.heap.size + 1, 0, none⟩ v1) := by
  obtain ⟨c0, c1, f1⟩ := grown_facts hs hc hv hf ho g
  have e1 : (ps ++ [p]).length = ps.length + 1 := by simp
  have e2 : ints ((ps ++ [p]).map (rootAt l)) = ints (ps.map (rootAt l)) ++ [.int .i64 x] := by simp [ints, hx]
  refine ⟨(World.cell?_setCell_other _ _ _ _ (by simp)).trans c0, ⟨v1, World.cell?_setCell_same _ _ _ c1, ?_⟩, (World.frozen?_setCell _ _ _ _).trans f1, ?_, ?_⟩
  · rw [e1, e2]
    exact ownsRow_setCell_below oN (by show w.heap.size + 1 < w.heap.size + 2; omega) _
  · have := g.size; simp [World.setCell] at this ⊢; omega
  · exact ((hb.alloc hb.size o).grown g (by simp; omega) (fun j hj => by have := (ho.lt j hj).1; omega)).setCell (by show w.heap.size ≤ w.heap.size + 1; omega) _

theorem enters : Enters Tryz.prog 115 := enters_of Tryz.func115 (by kernel_rfl) rfl

theorem at_part {l : List Int} {a b : Nat} (h0 : Trees.leafsE l = 0) (h1 : a ≤ b) (h2 : b ≤ l.length) : Trees.atE l a b = 0 ∧ Trees.atV l a b = rootAt l (a, b) := by
  have e : Trees.atE l a b = 0 := by
    unfold Trees.atE
    rw [if_pos h0, show Trees.atBad l.length a b = false from decide_eq_false (by omega)]
    rfl
  refine ⟨e, ?_⟩
  unfold Trees.atV rootAt
  rw [if_pos e, Int.toNat_natCast, Int.toNat_natCast]

set_option maxHeartbeats 1000000 in
set_option maxRecDepth 100000 in
theorem told (w : World) (l : List Int) (a : Option Addr) (n cap : Nat) (P : List (Nat × Nat)) (hP : ∀ p ∈ P, p.1 < p.2 ∧ p.2 ≤ l.length) (hl : P.length ≤ 300) (h0 : Trees.leafsE l = 0) (hr : Row w a n cap (ints l)) :
    ∀ ps (x y : Nat) (A B : Int) w1, A = x → B = y → (ps ++ [(x, y)]) <+: P → Inv w l a n cap ps w1 →
      Calls Tryz.prog 115 (#[.int .i64 A, .int .i64 B] ++ #[.pointer (some ⟨w.heap.size, 0, none⟩), .pointer (some ⟨w.heap.size + 1, 0, none⟩)]) w1 fun e w' => e = .returned (.tuple #[]) ∧ Inv w l a n cap (ps ++ [(x, y)]) w' := by
  intro ps x y A B w1 hA hB hp hI
  have hpl := hp.length_le
  rw [List.length_append] at hpl
  obtain ⟨q1, q2⟩ := hP (x, y) (hp.subset (by simp))
  obtain ⟨e1, e2⟩ := at_part (a := x) (b := y) h0 (by simp only at q1; omega) q2
  have cA := WalkCheck.at_any l a n cap A B w1 (hr.below hI.below)
  rw [hA, hB, e1, e2, errv0, ← hA, ← hB] at cA
  have hl1 := hI.leafs
  obtain ⟨i0, hi, hz0, hz1, hz2⟩ := info_parts info3
  have HI : Hid (Inv w l a n cap ps w1) := hI
  generalize hX : rootAt l (x, y) = X at cA
  have HX : Hid (rootAt l (x, y) = X) := hX
  have pl : ps.length ≤ 300 := by simp at hpl; omega
  show Calls Tryz.prog 115 #[.int .i64 A, .int .i64 B, .pointer (some ⟨w.heap.size, 0, none⟩), .pointer (some ⟨w.heap.size + 1, 0, none⟩)] w1 _
  clear hX hI hp hpl q1 q2 e1 e2 hA hB hr hP h0 hl
  go_enter Tryz.func115, Tryz.ntmps115
  go_wp2_with fail
  refine cA.mono ?_
  rintro e w2 ⟨rfl, b2⟩
  have J := HI.out.later b2
  obtain ⟨v, hv, ho⟩ := J.val
  have hs := J.size
  have HJ : Hid (Inv w l a n cap ps w2) := J
  have HO : Hid (w2.ownsRow (w.heap.size + 2) 3 1 v ps.length (ints (ps.map (rootAt l)))) := ho
  clear J ho cA b2 HI hl1
  go_wp2_with (at_builtin; go_must (refine wpList_append_own _ rfl (.tmp 15) (.tmp 17) 45 rfl (w.heap.size + 2) 3 i0 (.int .i64 0) 1 8 Tryz.underlying45 hi hz0 hz1 hz2 rfl (by decide) v ps.length (ints (ps.map (rootAt l))) rfl (HO.out.alloc _) ⟨w2.heap.size, 0, none⟩ 1 1 [.int .i64 X] rfl rfl (cell_one_new _ _ _) (fun u hu => by rw [List.mem_singleton.1 hu]; rfl) (by unfold maxLen; omega) (by omega) (by simp; omega) ?_); intro v1 wn oN g1 z1; clear z1; obtain ⟨s1, s2, s3⟩ := grown_facts hs HJ.out.leafs hv HJ.out.free HO.out g1; have HP := Inv.push hs HJ.out.below HJ.out.leafs hv HJ.out.free HO.out g1 HX.out oN; obtain ⟨a1, cp1, rfl, z2, z3⟩ := owns_row oN; clear z2 z3 oN g1)
  go_end0
  exact ⟨rfl, HP⟩

theorem make_bad (l : List Int) (a : Option Addr) (n cap : Nat) (o m : Int) (w : World) (hr : Row w a n cap (ints l)) (h : gmakeE l o m ≠ 0) :
    Calls Tryz.prog 55 #[.slice a n cap, .int .i64 o, .int .i64 m] w fun e w' => e = .returned (.tuple #[.slice none 0 0, errv (gmakeE l o m)]) ∧ Below w.heap.size w w' := by
  have hln : l.length = n := by rw [← hr.1, Lists.ints_length]
  have hr1 : Row (w.alloc (.cells #[.slice a n cap] 45)) a n cap (ints l) := hr.below ((Below.refl _ w).alloc (Nat.le_refl _) _)
  have cC := WalkCheck.check_any l a n cap _ hr1
  by_cases h0 : Trees.leafsE l = 0
  · have e1 : gmakeE l o m = 1 := by
      unfold gmakeE at h ⊢
      rw [if_pos h0] at h ⊢
      split at h
      · exact absurd rfl h
      · rw [if_neg (by assumption)]
    have hi : inGrow o m n = false := by
      unfold gmakeE at h
      rw [if_pos h0, hln] at h
      split at h
      · exact absurd rfl h
      · simpa using ‹¬ inGrow o m n = true›
    rw [h0, errv0] at cC
    rw [e1, errv_pos 1 (by decide)]
    clear hr hr1 h h0 e1
    go_enter Tryz.func55, Tryz.ntmps55
    go_wp2_with fail
    refine cC.mono ?_
    rintro e w1 ⟨rfl, rfl⟩
    go_wp2_with fail
    refine (within_any _ _ _ _).mono ?_
    rintro e w1 ⟨rfl, rfl⟩
    rw [hi]
    go_wp2_with fail
    go_ret2
    exact ⟨rfl, (Below.refl _ _).alloc (Nat.le_refl _) _⟩
  · have e1 : gmakeE l o m = Trees.leafsE l := if_neg h0
    rw [errv_pos _ h0] at cC
    rw [e1, errv_pos _ h0]
    clear hr hr1 h h0 e1
    go_enter Tryz.func55, Tryz.ntmps55
    go_wp2_with fail
    refine cC.mono ?_
    rintro e w1 ⟨rfl, rfl⟩
    go_wp2_with fail
    go_ret2
    exact ⟨rfl, (Below.refl _ _).alloc (Nat.le_refl _) _⟩

theorem make_yes (l : List Int) (a : Option Addr) (n cap : Nat) (o m : Nat) (O M : Int) (w : World) (hO : O = o) (hM : M = m) (hr : Row w a n cap (ints l)) (h0 : Trees.leafsE l = 0) (h1 : 1 ≤ o) (h2 : o ≤ m) (hm : m ≤ n) :
    Calls Tryz.prog 55 #[.slice a n cap, .int .i64 O, .int .i64 M] w fun e w' => ∃ v, e = .returned (.tuple #[v, .nilIface]) ∧ w'.ownsRow w.heap.size 3 1 v (Grows.grow (l.take m) o true).length (ints (Grows.grow (l.take m) o true)) ∧ Below w.heap.size w w' := by
  have hln : l.length = n := by rw [← hr.1, Lists.ints_length]
  have n2 : n ≤ 200 := (GrowsE.leafs_ok hln h0).1
  have hr1 : Row (w.alloc (.cells #[.slice a n cap] 45)) a n cap (ints l) := hr.below ((Below.refl _ w).alloc (Nat.le_refl _) _)
  have cC := WalkCheck.check_any l a n cap _ hr1
  rw [h0, errv0] at cC
  have hb : inGrow O M n = true := by rw [hO, hM]; exact inGrow_yes h1 h2 (by omega)
  have bi := GrowWays.parts_in m o 0 m (by omega) h1 h2
  have bl := GrowWays.parts_length o m h1 h2
  have sl := Grows.gsteps_le o m true
  have wy := GrowWays.grow_of l o m h1 h2 (by omega)
  have C := fun w1 => climb_any 115 #[.pointer (some ⟨w.heap.size, 0, none⟩), .pointer (some ⟨w.heap.size + 1, 0, none⟩)] enters (parts o 0 m) (Inv w l a n cap) (told w l a n cap _ (fun p hp => by have := bi p hp; omega) (by omega) h0 hr) (m + 1) o 0 m O 0 M w1 [] hO rfl hM (by omega) h1 h2 (by omega) (by rw [List.nil_append]; exact List.prefix_refl _)
  rw [List.nil_append] at C
  have HW : Hid ((parts o 0 m).map (rootAt l) = Grows.grow (l.take m) o true) := wy
  have HL : Hid ((parts o 0 m).length = (Grows.grow (l.take m) o true).length) := by show _ = _; rw [← HW.out, List.length_map]
  clear hr hr1 h0 hO hM bi bl sl wy
  go_enter Tryz.func55, Tryz.ntmps55
  go_wp2_with fail
  refine cC.mono ?_
  rintro e w1 ⟨rfl, rfl⟩
  go_wp2_with fail
  refine (within_any _ _ _ _).mono ?_
  rintro e w1 ⟨rfl, rfl⟩
  rw [hb]
  go_wp2_with fail
  refine (C _ ⟨by rw [World.cell?_alloc_past _ _ _ (by simp)]; simp, ⟨.slice none 0 0, by (have e : w.heap.size + 1 = (w.alloc (.cells #[.slice a n cap] 45)).heap.size := by simp); rw [e]; simp, World.ownsRow_nil _ _ _ _⟩, by (have e : w.heap.size + 1 = (w.alloc (.cells #[.slice a n cap] 45)).heap.size := by simp); rw [e]; simp, by simp, ((Below.refl _ w).alloc (Nat.le_refl _) _).alloc (by simp) _⟩).mono ?_
  rintro e w2 ⟨rfl, J⟩
  obtain ⟨v, hv, ho⟩ := J.val
  clear C cC
  go_wp2_with fail
  go_ret2
  exact ⟨v, rfl, by rw [← HL.out, ← HW.out]; exact Keeps.owns_base ho (by omega), J.below⟩

/-- what the program makes of any leafs and sizes -/
theorem make_any (l : List Int) (a : Option Addr) (n cap : Nat) (O M : Int) (w : World) (hr : Row w a n cap (ints l)) :
    Calls Tryz.prog 55 #[.slice a n cap, .int .i64 O, .int .i64 M] w fun e w' => ∃ v, e = .returned (.tuple #[v, errv (gmakeE l O M)]) ∧ w'.ownsRow w.heap.size 3 1 v (gmakeL l O M).length (ints (gmakeL l O M)) ∧ Below w.heap.size w w' := by
  have hln : l.length = n := by rw [← hr.1, Lists.ints_length]
  by_cases h : gmakeE l O M = 0
  · obtain ⟨h0, h1⟩ := gmake_of h
    rw [hln] at h1
    obtain ⟨o, m, hO, hM, h2, h3, h4⟩ := inGrow_of h1
    have c := make_yes l a n cap o m O M w hO hM hr h0 h2 h3 (by omega)
    rw [show gmakeL l O M = Grows.grow (l.take m) o true by unfold gmakeL; rw [if_pos h, hO, hM, Int.toNat_natCast, Int.toNat_natCast], h, errv0]
    exact c
  · refine (make_bad l a n cap O M w hr h).mono ?_
    rintro e w' ⟨rfl, b⟩
    refine ⟨_, rfl, ?_, b⟩
    rw [show gmakeL l O M = [] from if_neg h]
    exact World.ownsRow_nil _ _ _ _

end Go.Proofs.YticadkggaanbjaaGreatDoor.WalkGrowMake

/-
  What the program's grow.Make and grow.Check return, in one spelling of the errors.
-/
namespace Go.Proofs.YticadkggaanbjaaGreatDoor.WalkGrow
open Go.RowKit
open Lists (Row ints)
open WalkCheck (errv)

theorem make_any (l : List Int) (a : Option Addr) (n cap : Nat) (O N : Int) (w : World) (hr : Row w a n cap (ints l)) :
    Calls Tryz.prog 55 #[.slice a n cap, .int .i64 O, .int .i64 N] w fun e w' => ∃ v, e = .returned (.tuple #[v, errv (GrowsE.gmakeE l O N)]) ∧ w'.ownsRow w.heap.size 3 1 v (GrowsE.gmakeL l O N).length (ints (GrowsE.gmakeL l O N)) ∧ Below w.heap.size w w' :=
  WalkGrowMake.make_any l a n cap O N w hr
theorem check_any (ra O rb N : Int) (p : List Int) (a : Option Addr) (m cap : Nat) (w : World) (hr : Row w a m cap (ints p)) (hm : m ≤ 17592186043904) :
    Calls Tryz.prog 18 #[.int .i64 ra, .int .i64 O, .int .i64 rb, .int .i64 N, .slice a m cap] w fun e w' => e = .returned (errv (GrowsE.growE ra O rb N p)) ∧ Below w.heap.size w w' :=
  WalkGrowCheck.check_any ra O rb N p a m cap w hr hm

end Go.Proofs.YticadkggaanbjaaGreatDoor.WalkGrow

