/-
  What the program's batch.Make returns, for all leafs and places.
-/
import Derived.Test.YtndhbimgicnhkaaDoorWalkBaOne
import Derived.Deep.DeepMust
import Derived.Maps.AppendAt
namespace Go.Proofs.YtndhbimgicnhkaaDoor.WalkBaMake
open Go.RowKit
open Lists (Row ints bt)
open Keeps (Kept owns_kept owns_row)
open Errs (errv errv0 errv_pos)
open BatchFaults (placesE makeE makeL)
open BatchSets (rising)
open BatchTrips
open WalkBaWalk (walk_any)
open WalkBaOne (places_any)

theorem info3 : (Tryd.prog.info? 3).map (fun i => (i.zero, i.size, i.bytes)) = some (some (.int .i64 0), 1, 8) := by kernel_rfl

/-- where the making stands: the leafs and the proof lie in variables of the call's own (the first at b0, the other at b0 + d); the sums that were told are there -/
structure Inv (w : World) (p q : Nat) (a : Option Addr) (n cap : Nat) (s : List Int) (w1 : World) : Prop where
  leafs : w1.cell? ⟨p, 0, none⟩ = some (.slice a n cap)
  val : ∃ v, w1.cell? ⟨q, 0, none⟩ = some v ∧ w1.ownsRow (q + 1) 3 1 v s.length (ints s)
  free : w1.frozen? ⟨q, 0, none⟩ = false
  size : q + 1 ≤ w1.heap.size
  below : Below w.heap.size w w1

theorem Inv.later {w : World} {p q : Nat} {a : Option Addr} {n cap : Nat} {s : List Int} {w1 w2 : World} (h : Inv w p q a n cap s w1) (b : Below w1.heap.size w1 w2) : Inv w p q a n cap s w2 := by
  obtain ⟨v, hv, ho⟩ := h.val
  have hs := h.size
  exact ⟨Lists.cell_below b h.leafs, ⟨v, Lists.cell_below b hv, owns_kept ho (Kept.of_below (fun _ => False) b) fun _ _ q => q⟩, (b.frozen (p := ⟨q, 0, none⟩) (by show q < _; omega)).trans h.free, Nat.le_trans h.size b.size, bt h.below b⟩

theorem grown_facts {p q : Nat} {w2 wn : World} {v : Value} {o : Obj} {n : Nat} {xs : List Value} {u : Value} (hpq : p < q) (hs : q + 1 ≤ w2.heap.size) (hc : w2.cell? ⟨p, 0, none⟩ = some u) (hv : w2.cell? ⟨q, 0, none⟩ = some v) (hf : w2.frozen? ⟨q, 0, none⟩ = false)
    (ho : w2.ownsRow (q + 1) 3 1 v n xs) (g : (w2.alloc o).grownBy wn v.ownBlock) :
    wn.cell? ⟨p, 0, none⟩ = some u ∧ wn.cell? ⟨q, 0, none⟩ = some v ∧ wn.frozen? ⟨q, 0, none⟩ = false := by
  have hne : ∀ j, j < q + 1 → some j ≠ v.ownBlock := fun j hj h => by have := ho.lt j h.symm; omega
  refine ⟨g.cell ((World.cell?_alloc_past _ _ _ (by omega)).trans hc) (hne p (by omega)), g.cell ((World.cell?_alloc_past _ _ _ (by omega)).trans hv) (hne q (by omega)), ?_⟩
  rw [World.frozen?_of_block (w := w2.alloc o) (g.block q (by simp; omega) (hne _ (by omega)))]
  exact (World.frozen?_alloc_past _ _ _ (by omega)).trans hf

theorem Inv.push {w : World} {p q : Nat} {a : Option Addr} {n cap : Nat} {s t : List Int} {w2 wn : World} {v v1 : Value} {o : Obj} {x : Int} (hw : w.heap.size ≤ q) (hpq : p < q) (hI : Inv w p q a n cap s w2) (hv : w2.cell? ⟨q, 0, none⟩ = some v)
    (ho : w2.ownsRow (q + 1) 3 1 v s.length (ints s)) (g : (w2.alloc o).grownBy wn v.ownBlock) (hx : t = s ++ [x])
    (oN : wn.ownsRow (q + 1) 3 1 v1 (s.length + 1) (ints s ++ [.int .i64 x])) : Inv w p q a n cap t (wn.setCell ⟨q, 0, none⟩ v1) := by
  have hs := hI.size
  obtain ⟨c0, c1, f1⟩ := grown_facts hpq hs hI.leafs hv hI.free ho g
  subst hx
  have e1 : (s ++ [x]).length = s.length + 1 := by simp
  have e2 : ints (s ++ [x]) = ints s ++ [.int .i64 x] := by simp [ints]
  have hne : (⟨p, 0, none⟩ : Addr) ≠ ⟨q, 0, none⟩ := fun h => by have := congrArg Addr.block h; simp only at this; omega
  refine ⟨(World.cell?_setCell_other _ _ _ _ (by first | exact hne | exact hne.symm)).trans c0, ⟨v1, World.cell?_setCell_same _ _ _ c1, ?_⟩, (World.frozen?_setCell _ _ _ _).trans f1, ?_, ?_⟩
  · rw [e1, e2]
    exact ownsRow_setCell_below oN (by show q < q + 1; omega) _
  · have := g.size; simp [World.setCell] at this ⊢; omega
  · exact ((hI.below.alloc hI.below.size o).grown g (by simp; omega) (fun j hj => by have := (ho.lt j hj).1; omega)).setCell (by show w.heap.size ≤ q; omega) _

theorem enters : Enters Tryd.prog 22 := enters_of Tryd.func22 (by kernel_rfl) rfl

theorem at_part {l : List Int} {a b : Nat} (h0 : Trees.leafsE l = 0) (h1 : a ≤ b) (h2 : b ≤ l.length) : Trees.atE l a b = 0 ∧ Trees.atV l a b = Trees.root ((l.drop a).take (b - a)) := by
  have e : Trees.atE l a b = 0 := by
    unfold Trees.atE
    rw [if_pos h0, show Trees.atBad l.length a b = false from decide_eq_false (by omega)]
    rfl
  refine ⟨e, ?_⟩
  unfold Trees.atV
  rw [if_pos e, Int.toNat_natCast, Int.toNat_natCast, List.drop_take]

set_option maxHeartbeats 2000000 in
set_option maxRecDepth 100000 in
theorem told (w : World) (p q : Nat) (hw : w.heap.size ≤ q) (hpq : p < q) (l : List Int) (a : Option Addr) (n cap : Nat) (h0 : Trees.leafsE l = 0) (hr : Row w a n cap (ints l)) (lo hi c : Nat) (L H C : Int) (s t : List Int) (w1 : World) (hA : L = lo) (hB : H = hi) (hC : C = c) (h : Tells l lo hi c s t) (hI : Inv w p q a n cap s w1) :
    Calls Tryd.prog 22 (#[.int .i64 L, .int .i64 H, .int .i64 C] ++ #[.pointer (some ⟨p, 0, none⟩), .pointer (some ⟨q, 0, none⟩)]) w1 fun e w' => e = .returned (.tuple #[]) ∧ Inv w p q a n cap t w' := by
  obtain ⟨h1, h2, h3, h4⟩ := h
  show Calls Tryd.prog 22 #[.int .i64 L, .int .i64 H, .int .i64 C, .pointer (some ⟨p, 0, none⟩), .pointer (some ⟨q, 0, none⟩)] w1 _
  by_cases hz : c = 0
  · have i1 : (C == 0) = true := by rw [beq_iff_eq]; omega
    rw [if_pos hz] at h4
    obtain ⟨e1, e2⟩ := at_part (a := lo) (b := hi) h0 (by omega) h3
    have cA := WalkCheck.at_any l a n cap L H w1 (hr.below hI.below)
    rw [hA, hB, e1, e2, WalkCheck.errv0, ← hA, ← hB] at cA
    have hl1 := hI.leafs
    obtain ⟨i0, hi, hz0, hz1, hz2⟩ := info_parts info3
    have HI : Hid (Inv w p q a n cap s w1) := hI
    generalize Trees.root ((l.drop lo).take (_ - lo)) = X at cA h4
    have HX : Hid (t = s ++ [X]) := h4
    clear hI e1 e2 hA hB hC hr h0 hz h2 h3 h4
    go_enter Tryd.func22, Tryd.ntmps22
    go_wp2_with fail
    refine cA.mono ?_
    rintro e w2 ⟨rfl, b2⟩
    have J := HI.out.later b2
    obtain ⟨v, hv, ho⟩ := J.val
    have hs := J.size
    have HJ : Hid (Inv w p q a n cap s w2) := J
    have HO : Hid (w2.ownsRow (q + 1) 3 1 v s.length (ints s)) := ho
    clear J ho cA b2 HI hl1
    go_wp2_with (at_builtin; go_must (refine wpList_append_own _ rfl (.tmp 19) (.tmp 21) 22 rfl (q + 1) 3 i0 (.int .i64 0) 1 8 Tryd.underlying22 hi hz0 hz1 hz2 rfl (by decide) v s.length (ints s) rfl (HO.out.alloc _) ⟨w2.heap.size, 0, none⟩ 1 1 [.int .i64 X] rfl rfl (cell_one_new _ _ _) (fun u hu => by rw [List.mem_singleton.1 hu]; rfl) (by unfold maxLen; omega) (by omega) (by simp; omega) ?_); intro v1 wn oN g1 z1; clear z1; obtain ⟨s1, s2, s3⟩ := grown_facts hpq hs HJ.out.leafs hv HJ.out.free HO.out g1; have HP := Inv.push hw hpq HJ.out hv HO.out g1 HX.out oN; obtain ⟨a1, cp1, rfl, z2, z3⟩ := owns_row oN; clear z2 z3 oN g1)
    go_end0
    exact ⟨rfl, HP⟩
  · have i1 : (C == 0) = false := by rw [beq_eq_false_iff_ne]; omega
    rw [if_neg hz] at h4
    have HN : Hid (Inv w p q a n cap t w1) := by rw [h4]; exact hI
    clear hI h4 hz hC hr
    go_enter Tryd.func22, Tryd.ntmps22
    go_wp2_with fail
    go_end0
    exact ⟨rfl, HN.out⟩

theorem start {w w0 w1 : World} {a : Option Addr} {n cap : Nat} (hw : w0 = w.alloc (.cells #[.slice a n cap] 22)) (b : Below w0.heap.size w0 w1) : Inv w w.heap.size w1.heap.size a n cap [] (w1.alloc (.cells #[.slice none 0 0] 22)) := by
  have b0 : Below w.heap.size w w0 := by rw [hw]; exact (Below.refl _ w).alloc (Nat.le_refl _) _
  have s0 : w.heap.size < w1.heap.size := by have := b.size; rw [hw] at this; simp at this; omega
  refine ⟨?_, ⟨.slice none 0 0, by simp, World.ownsRow_nil _ _ _ _⟩, by simp, by simp, (bt b0 b).alloc (Nat.le_of_lt s0) _⟩
  rw [World.cell?_alloc_past _ _ _ s0]
  refine Lists.cell_below b ?_
  rw [hw]
  simp

set_option maxHeartbeats 2000000 in
set_option maxRecDepth 100000 in
theorem make_any (l : List Int) (y : Option Addr) (ml cl : Nat) (a : List Int) (x : Option Addr) (m cap : Nat) (w : World) (hl : Row w y ml cl (ints l)) (hr : Row w x m cap (ints a)) (hm : m ≤ 17592186043904) : Calls Tryd.prog 7 #[.slice y ml cl, .slice x m cap] w fun e w' => ∃ v, e = .returned (.tuple #[v, errv (makeE l a)]) ∧ w'.ownsRow w.heap.size 3 1 v (makeL l a).length (ints (makeL l a)) ∧ Below w.heap.size w w' := by
  have hln : l.length = ml := by rw [← hl.1, Lists.ints_length]
  have hlm : a.length = m := by rw [← hr.1, Lists.ints_length]
  have b0 : Below w.heap.size w (w.alloc (.cells #[.slice y ml cl] 22)) := (Below.refl _ w).alloc (Nat.le_refl _) _
  have hl1 := hl.below b0
  have hr1 := hr.below b0
  have cC := WalkCheck.check_any l y ml cl _ hl1
  have nil : makeE l a ≠ 0 → makeL l a = [] := fun h => if_neg h
  by_cases h0 : ¬ Trees.leafsE l = 0
  · have e1 : makeE l a = Trees.leafsE l := if_pos h0
    rw [nil (by rw [e1]; exact h0), e1, errv_pos _ h0]
    rw [WalkCheck.errv_pos _ h0] at cC
    clear hl hr hl1 hr1 e1 nil h0 hln hlm
    go_enter Tryd.func7, Tryd.ntmps7
    go_wp2_with fail
    refine cC.mono ?_
    rintro e w1 ⟨rfl, rfl⟩
    go_wp2_with fail
    go_ret2
    exact ⟨_, rfl, World.ownsRow_nil _ _ _ _, b0⟩
  replace h0 := Decidable.not_not.1 h0
  rw [h0, WalkCheck.errv0] at cC
  have cP := places_any a x m cap (ml : Int) _ hm hr1
  by_cases h1 : ¬ placesE ml a = 0
  · have e1 : makeE l a = placesE ml a := by
      unfold BatchFaults.makeE
      rw [if_neg (fun z => z h0), hln, if_pos h1]
    rw [nil (by rw [e1]; exact h1), e1, errv_pos _ h1]
    rw [errv_pos _ h1] at cP
    clear hl hr hl1 hr1 e1 nil h1 h0 hln hlm
    go_enter Tryd.func7, Tryd.ntmps7
    go_wp2_with fail
    refine cC.mono ?_
    rintro e w1 ⟨rfl, rfl⟩
    go_wp2_with fail
    refine cP.mono ?_
    rintro e w1 ⟨rfl, b1⟩
    have b2 := bt b0 b1
    clear cP cC b1 b0
    go_wp2_with fail
    go_ret2
    exact ⟨_, rfl, World.ownsRow_nil _ _ _ _, b2⟩
  replace h1 := Decidable.not_not.1 h1
  rw [h1, errv0] at cP
  have kc : ∀ w1, Below (w.alloc (.cells #[.slice y ml cl] 22)).heap.size (w.alloc (.cells #[.slice y ml cl] 22)) w1 → w1.cell? ⟨w.heap.size, 0, none⟩ = some (.slice y ml cl) := fun w1 b => Lists.cell_below b (by simp)
  by_cases h2 : ml = 0
  · have e1 : makeE l a = 3 := by
      unfold BatchFaults.makeE
      rw [if_neg (fun z => z h0), hln, if_neg (fun z => z h1), if_pos h2]
    rw [nil (by rw [e1]; decide), e1, errv_pos 3 (by decide)]
    have i1 : ((ml : Int) == 0) = true := by rw [beq_iff_eq]; omega
    clear hl hr hl1 hr1 e1 nil h1 h0 hln hlm h2
    go_enter Tryd.func7, Tryd.ntmps7
    go_wp2_with fail
    refine cC.mono ?_
    rintro e w1 ⟨rfl, rfl⟩
    go_wp2_with fail
    refine cP.mono ?_
    rintro e w1 ⟨rfl, b1⟩
    have b2 := bt b0 b1
    have k1 := kc w1 b1
    clear cP cC b1 b0 kc
    go_wp2_with fail
    go_ret2
    exact ⟨_, rfl, World.ownsRow_nil _ _ _ _, b2⟩
  · have e1 : makeE l a = 0 := by
      unfold BatchFaults.makeE
      rw [if_neg (fun z => z h0), hln, if_neg (fun z => z h1), if_neg h2]
    have e2 : makeL l a = Batches.several l a 0 l.length := if_pos e1
    rw [e1, errv0]
    have n2 : l.length ≤ 200 := by
      unfold Trees.leafsE at h0
      split at h0
      · cases h0
      · omega
    rw [← hln] at h1
    obtain ⟨p1, p2, p3⟩ := BatchFaults.placesE_ok h1
    have T := trip_tells p3 (l := l) (by omega) n2 p2
    rw [← e2, hln] at T
    have i1 : ((ml : Int) == 0) = false := by rw [beq_eq_false_iff_ne]; omega
    have C := fun (w1 : World) (b : Below (w.alloc (.cells #[.slice y ml cl] 22)).heap.size (w.alloc (.cells #[.slice y ml cl] 22)) w1) => walk_any 22 #[.pointer (some ⟨w.heap.size, 0, none⟩), .pointer (some ⟨w1.heap.size, 0, none⟩)] enters w (Tells l) (Inv w w.heap.size w1.heap.size y ml cl) (fun _ _ h => h.below)
      (told w w.heap.size w1.heap.size (bt b0 b).size (by have := b.size; simp at this; omega) l y ml cl h0 hl) T 0 (ml : Int) x m cap _ rfl rfl (by omega) (by omega) p3 hr (start rfl b)
    generalize makeL l a = r at C
    clear hl hr hl1 hr1 e1 nil h1 h0 hlm h2 e2 p1 p2 p3 T
    go_enter Tryd.func7, Tryd.ntmps7
    go_wp2_with fail
    refine cC.mono ?_
    rintro e w1 ⟨rfl, rfl⟩
    go_wp2_with fail
    refine cP.mono ?_
    rintro e w1 ⟨rfl, b1⟩
    have b2 := bt b0 b1
    have k1 := kc w1 b1
    have C1 := C w1 b1
    have sz : w.heap.size ≤ w1.heap.size + 1 := by have := b2.size; omega
    have k2 : (w1.alloc (.cells #[.slice none 0 0] 22)).cell? ⟨w.heap.size, 0, none⟩ = some (.slice y ml cl) := Lists.cell_below ((Below.refl _ _).alloc (Nat.le_refl _) _) k1
    clear cP cC b1 b0 kc C
    go_wp2_with fail
    refine C1.mono ?_
    rintro e w2 ⟨rfl, J⟩
    obtain ⟨v, hv, ho⟩ := J.val
    have jb := J.below
    clear C1 J
    go_wp2_with fail
    go_ret2
    exact ⟨v, rfl, Keeps.owns_base ho sz, jb⟩

end Go.Proofs.YtndhbimgicnhkaaDoor.WalkBaMake
