/-
  What the program's climb does: it tells each part beside the way up, in turn, to the function that it was handed.
-/
import Derived.Test.YticadkggaanbjaaGreatDoorTreeRun
import Derived.Test.YticadkggaanbjaaGreatDoorGrowPlain
import Derived.Shelf.Abstract
import Derived.Test.YticadkggaanbjaaGreatDoorListRows
import Derived.Deep.DeepMust
import Derived.Maps.AppendAt
namespace Go.Proofs.YticadkggaanbjaaGreatDoor.WalkClimb
open Go.RowKit
open Climbs (beside beside_one beside_left beside_right)
open Trees (half half_lt half_pos)

theorem prefix_left {α : Type} {a b c : List α} (h : (a ++ b) <+: c) : a <+: c := (List.prefix_append a b).trans h

set_option maxHeartbeats 1000000 in
set_option maxRecDepth 100000 in
/-- what is told keeps Inv, of what was told by then: so does climb -/
theorem climb_any (g : FuncId) (caps : Array Value) (hg : Enters Tryz.prog g) (P : List (Nat × Nat)) (Inv : List (Nat × Nat) → World → Prop)
    (hT : ∀ ps (a b : Nat) (A B : Int) w, A = a → B = b → (ps ++ [(a, b)]) <+: P → Inv ps w →
      Calls Tryz.prog g (#[.int .i64 A, .int .i64 B] ++ caps) w fun e w' => e = .returned (.tuple #[]) ∧ Inv (ps ++ [(a, b)]) w') :
    ∀ (f i lo hi : Nat) (I L H : Int) (w : World) (ps : List (Nat × Nat)), I = i → L = lo → H = hi → hi - lo < f → lo ≤ i → i < hi → hi ≤ 200 → (ps ++ beside i lo hi) <+: P → Inv ps w →
      Calls Tryz.prog 101 #[.int .i64 I, .int .i64 L, .int .i64 H, .func (.func g) #[] caps] w fun e w' => e = .returned (.tuple #[]) ∧ Inv (ps ++ beside i lo hi) w'
  | 0, _, _, _, _, _, _, _, _, _, _, _, h, _, _, _, _, _ => by omega
  | f + 1, i, lo, hi, I, L, H, w, ps, hI, hL, hH, hf, h1, h2, h3, hP, hInv => by
    have b0 : 0 ≤ L := by omega
    have b1 : L < H := by omega
    have b2 : H ≤ 200 := by omega
    by_cases hd : hi - lo = 1
    · rw [beside_one i lo hi (by omega), List.append_nil]
      have i1 : (H - L == 1) = true := by rw [beq_iff_eq]; omega
      have HI : Hid (Inv ps w) := hInv
      clear hI hL hH hf hP hInv hT h1 h2 h3 hd
      go_enter Tryz.func101, Tryz.ntmps101
      go_wp2_with fail
      (try simp only [Exit.inBlock, Exit.then]); refine bodyPost_ret (results_none rfl _ _ _) rfl ?_
      exact ⟨rfl, HI.out⟩
    · have hd2 : 2 ≤ hi - lo := by omega
      have kl := half_lt (hi - lo) hd2
      have kp := half_pos (hi - lo)
      have i1 : (H - L == 1) = false := by rw [beq_eq_false_iff_ne]; omega
      have cS := fun w => WalkSplit.split_yes (H - L) (hi - lo) w (by omega) hd2 (by omega)
      generalize hk : half (hi - lo) = k at kl kp cS
      by_cases hlt : i < lo + k
      · have e := beside_left i lo hi k hd2 hk hlt
        rw [e, ← List.append_assoc] at hP
        have c1 := climb_any g caps hg P Inv hT f i lo (lo + k) I L (L + (k : Int)) w ps hI hL (by omega) (by omega) h1 hlt (by omega) (prefix_left hP) hInv
        have c2 := fun w1 (h : Inv (ps ++ beside i lo (lo + k)) w1) => hT (ps ++ beside i lo (lo + k)) (lo + k) hi (L + (k : Int)) H w1 (by omega) hH hP h
        rw [e, ← List.append_assoc]
        have i2 : I < L + (k : Int) := by omega
        have i3 : L + (k : Int) < H := by omega
        clear hI hL hH hf hP hInv hT h1 h2 h3 hd e hk kl hlt
        generalize ps ++ beside i lo (lo + k) = qs at c1 c2 ⊢
        go_enter Tryz.func101, Tryz.ntmps101
        go_wp2_with fail
        refine (cS _).mono ?_
        rintro e w1 ⟨rfl, rfl⟩
        go_wp2_with fail
        refine c1.mono ?_
        rintro e w2 ⟨rfl, h2⟩
        have c3 := c2 w2 h2
        clear c1 c2
        go_wp2_with fail
        rw [hg, Oper.upon_enter]
        refine c3.mono ?_
        rintro e w3 ⟨rfl, h3⟩
        clear c3
        go_wp2_with fail
        go_end0
        exact ⟨rfl, h3⟩
      · have e := beside_right i lo hi k hd2 hk hlt
        rw [e, ← List.append_assoc] at hP
        have c1 := climb_any g caps hg P Inv hT f i (lo + k) hi I (L + (k : Int)) H w ps hI (by omega) hH (by omega) (by omega) h2 (by omega) (prefix_left hP) hInv
        have c2 := fun w1 (h : Inv (ps ++ beside i (lo + k) hi) w1) => hT (ps ++ beside i (lo + k) hi) lo (lo + k) L (L + (k : Int)) w1 hL (by omega) hP h
        rw [e, ← List.append_assoc]
        have i2 : ¬ I < L + (k : Int) := by omega
        have i3 : L + (k : Int) < H := by omega
        clear hI hL hH hf hP hInv hT h1 h2 h3 hd e hk kl hlt
        generalize ps ++ beside i (lo + k) hi = qs at c1 c2 ⊢
        go_enter Tryz.func101, Tryz.ntmps101
        go_wp2_with fail
        refine (cS _).mono ?_
        rintro e w1 ⟨rfl, rfl⟩
        go_wp2_with fail
        refine c1.mono ?_
        rintro e w2 ⟨rfl, h2⟩
        have c3 := c2 w2 h2
        clear c1 c2
        go_wp2_with fail
        rw [hg, Oper.upon_enter]
        refine c3.mono ?_
        rintro e w3 ⟨rfl, h3⟩
        clear c3
        go_wp2_with fail
        go_end0
        exact ⟨rfl, h3⟩

end Go.Proofs.YticadkggaanbjaaGreatDoor.WalkClimb

/-
  What the program's proof.Steps returns, for every two numbers.
-/
namespace Go.Proofs.YticadkggaanbjaaGreatDoor.WalkSteps
open Go.RowKit
open Keeps (Kept)
open Climbs (beside)
open WalkClimb (climb_any)

/-- is the i-th one of the first n, of at most m? -/
def inside (i n m : Int) : Bool := decide (0 ≤ i ∧ i < n ∧ n ≤ m)
theorem within_any (i n m : Int) (w : World) :
    Calls Tryz.prog 100 #[.int .i64 i, .int .i64 n, .int .i64 m] w fun e w' => e = .returned (.bool (inside i n m)) ∧ w' = w := by
  by_cases h0 : 0 ≤ i
  · by_cases h1 : i < n
    · by_cases h2 : n ≤ m
      · have HH : Hid (inside i n m = true) := decide_eq_true ⟨h0, h1, h2⟩
        go_enter Tryz.func100, Tryz.ntmps100
        go_wp2_with fail
        go_ret
        exact ⟨by rw [HH.out]; rfl, rfl⟩
      · have HH : Hid (inside i n m = false) := decide_eq_false fun h => h2 h.2.2
        go_enter Tryz.func100, Tryz.ntmps100
        go_wp2_with fail
        go_ret
        exact ⟨by rw [HH.out]; rfl, rfl⟩
    · have HH : Hid (inside i n m = false) := decide_eq_false fun h => h1 h.2.1
      go_enter Tryz.func100, Tryz.ntmps100
      go_wp2_with fail
      go_ret
      exact ⟨by rw [HH.out]; rfl, rfl⟩
  · have HH : Hid (inside i n m = false) := decide_eq_false fun h => h0 h.1
    go_enter Tryz.func100, Tryz.ntmps100
    go_wp2_with fail
    go_ret
    exact ⟨by rw [HH.out]; rfl, rfl⟩

theorem count_any (A B : Int) (p : Addr) (c : Nat) (w : World) (hc : w.cell? p = some (.int .i64 (c : Int))) (hf : w.frozen? p = false) (hl : c ≤ 200) :
    Calls Tryz.prog 125 #[.int .i64 A, .int .i64 B, .pointer (some p)] w fun e w' => e = .returned (.tuple #[]) ∧ w' = w.setCell p (.int .i64 ((c + 1 : Nat) : Int)) := by
  go_enter Tryz.func125, Tryz.ntmps125
  go_wp2_with fail
  go_end0
  exact ⟨rfl, by congr 2⟩

theorem enters : Enters Tryz.prog 125 := enters_of Tryz.func125 (by kernel_rfl) rfl

/-- as many as were told are counted -/
def Inv (w0 : World) (b : Nat) (ps : List (Nat × Nat)) (w : World) : Prop := w.cell? ⟨b, 0, none⟩ = some (.int .i64 (ps.length : Int)) ∧ w.frozen? ⟨b, 0, none⟩ = false ∧ Kept (fun k => k = b) w0 w

theorem told (w0 : World) (b : Nat) (P : List (Nat × Nat)) (hP : P.length ≤ 200) : ∀ ps (a c : Nat) (A B : Int) w, A = a → B = c → (ps ++ [(a, c)]) <+: P → Inv w0 b ps w →
      Calls Tryz.prog 125 (#[.int .i64 A, .int .i64 B] ++ #[.pointer (some ⟨b, 0, none⟩)]) w fun e w' => e = .returned (.tuple #[]) ∧ Inv w0 b (ps ++ [(a, c)]) w' := by
  intro ps a c A B w _ _ hp ⟨h1, h2, h3⟩
  have hl := hp.length_le
  rw [List.length_append] at hl
  refine (count_any A B ⟨b, 0, none⟩ ps.length w h1 h2 (by omega)).mono ?_
  rintro e w' ⟨rfl, rfl⟩
  refine ⟨rfl, ?_, (World.frozen?_setCell _ _ _ _).trans h2, h3.setCell (p := ⟨b, 0, none⟩) (Or.inl rfl) _⟩
  rw [World.cell?_setCell_same _ _ _ h1]
  simp

theorem steps_no (i n : Int) (w : World) (h : inside i n 200 = false) :
    Calls Tryz.prog 70 #[.int .i64 i, .int .i64 n] w fun e w' => e = .returned (.tuple #[.int .i64 0, .iface 99 (.int .i64 1)]) ∧ w' = w := by
  go_enter Tryz.func70, Tryz.ntmps70
  go_wp2_with (go_at_call 100; refine (within_any _ _ _ _).mono ?_; rintro e w' ⟨rfl, rfl⟩; rw [h])
  go_ret2
  exact ⟨rfl, rfl⟩

theorem inside_yes {i n : Nat} {m : Int} (h : i < n) (hn : (n : Int) ≤ m) : inside i n m = true := decide_eq_true ⟨by omega, by omega, hn⟩
theorem inside_of {I N m : Int} (h : inside I N m = true) : ∃ i n : Nat, I = i ∧ N = n ∧ i < n ∧ (n : Int) ≤ m := by
  have h' := of_decide_eq_true h
  obtain ⟨i, rfl⟩ := Int.eq_ofNat_of_zero_le h'.1
  obtain ⟨n, rfl⟩ := Int.eq_ofNat_of_zero_le (show 0 ≤ N by omega)
  exact ⟨i, n, rfl, rfl, by omega, h'.2.2⟩

theorem steps_yes (i n : Nat) (I N : Int) (w : World) (hI : I = i) (hN : N = n) (h : i < n) (hn : n ≤ 200) :
    Calls Tryz.prog 70 #[.int .i64 I, .int .i64 N] w fun e w' => e = .returned (.tuple #[.int .i64 (Ways.steps i n : Nat), .nilIface]) ∧ Below w.heap.size w w' := by
  have hb : inside I N 200 = true := by rw [hI, hN]; exact inside_yes h (by omega)
  have hl := Climbs.beside_len i n h
  have hs := Ways.steps_le n i n (Nat.le_refl _)
  have C := fun (w1 : World) => climb_any 125 #[.pointer (some ⟨w.heap.size, 0, none⟩)] enters (beside i 0 n) (Inv w1 w.heap.size) (told w1 w.heap.size _ (by omega)) (n + 1) i 0 n I 0 N w1 [] hI rfl hN (by omega) (by omega) h hn (by rw [List.nil_append]; exact List.prefix_refl _)
  rw [List.nil_append] at C
  have HLn : Hid ((beside i 0 n).length = Ways.steps i n) := hl
  clear hI hN hl hs
  go_enter Tryz.func70, Tryz.ntmps70
  go_wp2_with fail
  refine (within_any _ _ _ _).mono ?_
  rintro e w1 ⟨rfl, rfl⟩
  rw [hb]
  go_wp2_with fail
  refine (C _ ⟨by simp, by simp, Kept.refl _ _⟩).mono ?_
  rintro e w2 ⟨rfl, h1, h2, h3⟩
  clear C
  go_wp2_with fail
  go_ret2
  exact ⟨by rw [← HLn.out]; rfl, ((Below.refl _ w1).alloc (Nat.le_refl _) _).trans (h3.below (fun k hk => by omega) (by simp))⟩

end Go.Proofs.YticadkggaanbjaaGreatDoor.WalkSteps

/-
  What the program's proof.Make returns, for all leafs and every two numbers.
-/
namespace Go.Proofs.YticadkggaanbjaaGreatDoor.WalkMake
open Go.RowKit
open Lists (Row ints bt)
open Keeps (Kept owns_kept owns_row)
open Climbs (beside rootAt)
open WalkClimb (climb_any)
open WalkSteps (inside within_any)
open WalkCheck (errv errv0 errv_pos)

theorem info3 : (Tryz.prog.info? 3).map (fun i => (i.zero, i.size, i.bytes)) = some (some (.int .i64 0), 1, 8) := by kernel_rfl

/-- where the making stands: the leafs and the proof lie in variables of the call's own; the roots of the parts that were told are there -/
structure Inv (w : World) (l : List Int) (a : Option Addr) (n cap : Nat) (ps : List (Nat × Nat)) (w1 : World) : Prop where
  leafs : w1.cell? ⟨w.heap.size, 0, none⟩ = some (.slice a n cap)
  val : ∃ v, w1.cell? ⟨w.heap.size + 1, 0, none⟩ = some v ∧ w1.ownsRow (w.heap.size + 2) 3 1 v ps.length (ints (ps.map (rootAt l)))
  free : w1.frozen? ⟨w.heap.size + 1, 0, none⟩ = false
  size : w.heap.size + 2 ≤ w1.heap.size
  below : Below w.heap.size w w1

theorem Inv.later {w : World} {l : List Int} {a : Option Addr} {n cap : Nat} {ps : List (Nat × Nat)} {w1 w2 : World} (h : Inv w l a n cap ps w1) (b : Below w1.heap.size w1 w2) : Inv w l a n cap ps w2 := by
  obtain ⟨v, hv, ho⟩ := h.val
  have hs := h.size
  exact ⟨Lists.cell_below b h.leafs, ⟨v, Lists.cell_below b hv, owns_kept ho (Kept.of_below (fun _ => False) b) fun _ _ q => q⟩, (b.frozen (p := ⟨w.heap.size + 1, 0, none⟩) (by show w.heap.size + 1 < _; omega)).trans h.free, Nat.le_trans h.size b.size, bt h.below b⟩

theorem grown_facts {w : World} {w2 wn : World} {v : Value} {o : Obj} {n : Nat} {xs : List Value} {u : Value} (hs : w.heap.size + 2 ≤ w2.heap.size) (hc : w2.cell? ⟨w.heap.size, 0, none⟩ = some u) (hv : w2.cell? ⟨w.heap.size + 1, 0, none⟩ = some v) (hf : w2.frozen? ⟨w.heap.size + 1, 0, none⟩ = false)
    (ho : w2.ownsRow (w.heap.size + 2) 3 1 v n xs) (g : (w2.alloc o).grownBy wn v.ownBlock) :
    wn.cell? ⟨w.heap.size, 0, none⟩ = some u ∧ wn.cell? ⟨w.heap.size + 1, 0, none⟩ = some v ∧ wn.frozen? ⟨w.heap.size + 1, 0, none⟩ = false := by
  have hne : ∀ j, j < w.heap.size + 2 → some j ≠ v.ownBlock := fun j hj h => by have := ho.lt j h.symm; omega
  refine ⟨g.cell ((World.cell?_alloc_past _ _ _ (by omega)).trans hc) (hne w.heap.size (by omega)), g.cell ((World.cell?_alloc_past _ _ _ (by omega)).trans hv) (hne (w.heap.size + 1) (by omega)), ?_⟩
  rw [World.frozen?_of_block (w := w2.alloc o) (g.block (w.heap.size + 1) (by simp; omega) (hne _ (by omega)))]
  exact (World.frozen?_alloc_past _ _ _ (by omega)).trans hf

theorem Inv.push {w : World} {l : List Int} {a : Option Addr} {n cap : Nat} {ps : List (Nat × Nat)} {w2 wn : World} {v v1 : Value} {o : Obj} {p : Nat × Nat} {x : Int} (hs : w.heap.size + 2 ≤ w2.heap.size) (hb : Below w.heap.size w w2)
    (hc : w2.cell? ⟨w.heap.size, 0, none⟩ = some (.slice a n cap)) (hv : w2.cell? ⟨w.heap.size + 1, 0, none⟩ = some v) (hf : w2.frozen? ⟨w.heap.size + 1, 0, none⟩ = false)
    (ho : w2.ownsRow (w.heap.size + 2) 3 1 v ps.length (ints (ps.map (rootAt l)))) (g : (w2.alloc o).grownBy wn v.ownBlock) (hx : rootAt l p = x)
    (oN : wn.ownsRow (w.heap.size + 2) 3 1 v1 (ps.length + 1) (ints (ps.map (rootAt l)) ++ [.int .i64 x])) : Inv w l a n cap (ps ++ [p]) (wn.setCell ⟨w.heap.size + 1, 0, none⟩ v1) := by
  obtain ⟨c0, c1, f1⟩ := grown_facts hs hc hv hf ho g
  have e1 : (ps ++ [p]).length = ps.length + 1 := by simp
  have e2 : ints ((ps ++ [p]).map (rootAt l)) = ints (ps.map (rootAt l)) ++ [.int .i64 x] := by simp [ints, hx]
  refine ⟨(World.cell?_setCell_other _ _ _ _ (by simp)).trans c0, ⟨v1, World.cell?_setCell_same _ _ _ c1, ?_⟩, (World.frozen?_setCell _ _ _ _).trans f1, ?_, ?_⟩
  · rw [e1, e2]
    exact ownsRow_setCell_below oN (by show w.heap.size + 1 < w.heap.size + 2; omega) _
  · have := g.size; simp [World.setCell] at this ⊢; omega
  · exact ((hb.alloc hb.size o).grown g (by simp; omega) (fun j hj => by have := (ho.lt j hj).1; omega)).setCell (by show w.heap.size ≤ w.heap.size + 1; omega) _

theorem enters : Enters Tryz.prog 102 := enters_of Tryz.func102 (by kernel_rfl) rfl

theorem at_part {l : List Int} {a b : Nat} (h0 : Trees.leafsE l = 0) (h1 : a ≤ b) (h2 : b ≤ l.length) : Trees.atE l a b = 0 ∧ Trees.atV l a b = rootAt l (a, b) := by
  have e : Trees.atE l a b = 0 := by
    unfold Trees.atE
    rw [if_pos h0, show Trees.atBad l.length a b = false from decide_eq_false (by omega)]
    rfl
  refine ⟨e, ?_⟩
  unfold Trees.atV rootAt
  rw [if_pos e, Int.toNat_natCast, Int.toNat_natCast]

set_option maxHeartbeats 1000000 in
set_option maxRecDepth 100000 in
theorem told (w : World) (l : List Int) (a : Option Addr) (n cap : Nat) (P : List (Nat × Nat)) (hP : ∀ p ∈ P, p.1 < p.2 ∧ p.2 ≤ l.length) (hl : P.length ≤ 200) (h0 : Trees.leafsE l = 0) (hr : Row w a n cap (ints l)) :
    ∀ ps (x y : Nat) (A B : Int) w1, A = x → B = y → (ps ++ [(x, y)]) <+: P → Inv w l a n cap ps w1 →
      Calls Tryz.prog 102 (#[.int .i64 A, .int .i64 B] ++ #[.pointer (some ⟨w.heap.size, 0, none⟩), .pointer (some ⟨w.heap.size + 1, 0, none⟩)]) w1 fun e w' => e = .returned (.tuple #[]) ∧ Inv w l a n cap (ps ++ [(x, y)]) w' := by
  intro ps x y A B w1 hA hB hp hI
  have hpl := hp.length_le
  rw [List.length_append] at hpl
  obtain ⟨q1, q2⟩ := hP (x, y) (hp.subset (by simp))
  obtain ⟨e1, e2⟩ := at_part (a := x) (b := y) h0 (by simp only at q1; omega) q2
  have cA := WalkCheck.at_any l a n cap A B w1 (hr.below hI.below)
  rw [hA, hB, e1, e2, errv0, ← hA, ← hB] at cA
  have hl1 := hI.leafs
  obtain ⟨i0, hi, hz0, hz1, hz2⟩ := info_parts info3
  have HI : Hid (Inv w l a n cap ps w1) := hI
  generalize hX : rootAt l (x, y) = X at cA
  have HX : Hid (rootAt l (x, y) = X) := hX
  have pl : ps.length ≤ 200 := by simp at hpl; omega
  show Calls Tryz.prog 102 #[.int .i64 A, .int .i64 B, .pointer (some ⟨w.heap.size, 0, none⟩), .pointer (some ⟨w.heap.size + 1, 0, none⟩)] w1 _
  clear hX hI hp hpl q1 q2 e1 e2 hA hB hr hP h0 hl
  go_enter Tryz.func102, Tryz.ntmps102
  go_wp2_with fail
  refine cA.mono ?_
  rintro e w2 ⟨rfl, b2⟩
  have J := HI.out.later b2
  obtain ⟨v, hv, ho⟩ := J.val
  have hs := J.size
  have HJ : Hid (Inv w l a n cap ps w2) := J
  have HO : Hid (w2.ownsRow (w.heap.size + 2) 3 1 v ps.length (ints (ps.map (rootAt l)))) := ho
  clear J ho cA b2 HI hl1
  go_wp2_with (at_builtin; go_must (refine wpList_append_own _ rfl (.tmp 15) (.tmp 17) 45 rfl (w.heap.size + 2) 3 i0 (.int .i64 0) 1 8 Tryz.underlying45 hi hz0 hz1 hz2 rfl (by decide) v ps.length (ints (ps.map (rootAt l))) rfl (HO.out.alloc _) ⟨w2.heap.size, 0, none⟩ 1 1 [.int .i64 X] rfl rfl (cell_one_new _ _ _) (fun u hu => by rw [List.mem_singleton.1 hu]; rfl) (by unfold maxLen; omega) (by omega) (by simp; omega) ?_); intro v1 wn oN g1 z1; clear z1; obtain ⟨s1, s2, s3⟩ := grown_facts hs HJ.out.leafs hv HJ.out.free HO.out g1; have HP := Inv.push hs HJ.out.below HJ.out.leafs hv HJ.out.free HO.out g1 HX.out oN; obtain ⟨a1, cp1, rfl, z2, z3⟩ := owns_row oN; clear z2 z3 oN g1)
  go_end0
  exact ⟨rfl, HP⟩

/-- what is wrong with what is asked for -/
def makeE (l : List Int) (i n : Int) : Nat := if Trees.leafsE l = 0 then (if inside i n l.length = true then 0 else 1) else Trees.leafsE l

theorem make_bad (l : List Int) (a : Option Addr) (n cap : Nat) (i m : Int) (w : World) (hr : Row w a n cap (ints l)) (h : makeE l i m ≠ 0) :
    Calls Tryz.prog 35 #[.slice a n cap, .int .i64 i, .int .i64 m] w fun e w' => e = .returned (.tuple #[.slice none 0 0, errv (makeE l i m)]) ∧ Below w.heap.size w w' := by
  have hln : l.length = n := by rw [← hr.1, Lists.ints_length]
  have hr1 : Row (w.alloc (.cells #[.slice a n cap] 45)) a n cap (ints l) := hr.below ((Below.refl _ w).alloc (Nat.le_refl _) _)
  have cC := WalkCheck.check_any l a n cap _ hr1
  by_cases h0 : Trees.leafsE l = 0
  · have e1 : makeE l i m = 1 := by
      unfold makeE at h ⊢
      rw [if_pos h0] at h ⊢
      split at h
      · exact absurd rfl h
      · rw [if_neg (by assumption)]
    have hi : inside i m n = false := by
      unfold makeE at h
      rw [if_pos h0, hln] at h
      split at h
      · exact absurd rfl h
      · simpa using ‹¬ inside i m n = true›
    rw [h0, errv0] at cC
    rw [e1, errv_pos 1 (by decide)]
    clear hr hr1 h h0 e1
    go_enter Tryz.func35, Tryz.ntmps35
    go_wp2_with fail
    refine cC.mono ?_
    rintro e w1 ⟨rfl, rfl⟩
    go_wp2_with fail
    refine (within_any _ _ _ _).mono ?_
    rintro e w1 ⟨rfl, rfl⟩
    rw [hi]
    go_wp2_with fail
    go_ret2
    exact ⟨rfl, (Below.refl _ _).alloc (Nat.le_refl _) _⟩
  · have e1 : makeE l i m = Trees.leafsE l := if_neg h0
    rw [errv_pos _ h0] at cC
    rw [e1, errv_pos _ h0]
    clear hr hr1 h h0 e1
    go_enter Tryz.func35, Tryz.ntmps35
    go_wp2_with fail
    refine cC.mono ?_
    rintro e w1 ⟨rfl, rfl⟩
    go_wp2_with fail
    go_ret2
    exact ⟨rfl, (Below.refl _ _).alloc (Nat.le_refl _) _⟩

theorem make_yes (l : List Int) (a : Option Addr) (n cap : Nat) (i m : Nat) (I M : Int) (w : World) (hI : I = i) (hM : M = m) (hr : Row w a n cap (ints l)) (h0 : Trees.leafsE l = 0) (hi : i < m) (hm : m ≤ n) :
    Calls Tryz.prog 35 #[.slice a n cap, .int .i64 I, .int .i64 M] w fun e w' => ∃ v, e = .returned (.tuple #[v, .nilIface]) ∧ w'.ownsRow w.heap.size 3 1 v (Ways.way (l.take m) i).length (ints (Ways.way (l.take m) i)) ∧ Below w.heap.size w w' := by
  have hln : l.length = n := by rw [← hr.1, Lists.ints_length]
  have n2 : n ≤ 200 := by
    unfold Trees.leafsE at h0
    rw [hln] at h0
    split at h0
    · cases h0
    · omega
  have hr1 : Row (w.alloc (.cells #[.slice a n cap] 45)) a n cap (ints l) := hr.below ((Below.refl _ w).alloc (Nat.le_refl _) _)
  have cC := WalkCheck.check_any l a n cap _ hr1
  rw [h0, errv0] at cC
  have hb : inside I M n = true := by rw [hI, hM]; exact WalkSteps.inside_yes hi (by omega)
  have bi := Climbs.beside_in m i 0 m (by omega)
  have bl := Climbs.beside_len i m hi
  have sl := Ways.steps_le _ i m (Nat.le_refl _)
  have wy := Climbs.way_of l i m hi (by omega)
  have C := fun w1 => climb_any 102 #[.pointer (some ⟨w.heap.size, 0, none⟩), .pointer (some ⟨w.heap.size + 1, 0, none⟩)] enters (beside i 0 m) (Inv w l a n cap) (told w l a n cap _ (fun p hp => by have := bi p hp; omega) (by omega) h0 hr) (m + 1) i 0 m I 0 M w1 [] hI rfl hM (by omega) (by omega) hi (by omega) (by rw [List.nil_append]; exact List.prefix_refl _)
  rw [List.nil_append] at C
  have HW : Hid ((beside i 0 m).map (rootAt l) = Ways.way (l.take m) i) := wy
  have HL : Hid ((beside i 0 m).length = (Ways.way (l.take m) i).length) := by show _ = _; rw [← HW.out, List.length_map]
  clear hr hr1 h0 hI hM bi bl sl wy
  go_enter Tryz.func35, Tryz.ntmps35
  go_wp2_with fail
  refine cC.mono ?_
  rintro e w1 ⟨rfl, rfl⟩
  go_wp2_with fail
  refine (within_any _ _ _ _).mono ?_
  rintro e w1 ⟨rfl, rfl⟩
  rw [hb]
  go_wp2_with fail
  refine (C _ ⟨by rw [World.cell?_alloc_past _ _ _ (by simp)]; simp, ⟨.slice none 0 0, by (have e : w.heap.size + 1 = (w.alloc (.cells #[.slice a n cap] 45)).heap.size := by simp); rw [e]; simp, World.ownsRow_nil _ _ _ _⟩, by (have e : w.heap.size + 1 = (w.alloc (.cells #[.slice a n cap] 45)).heap.size := by simp); rw [e]; simp, by simp, ((Below.refl _ w).alloc (Nat.le_refl _) _).alloc (by simp) _⟩).mono ?_
  rintro e w2 ⟨rfl, J⟩
  obtain ⟨v, hv, ho⟩ := J.val
  clear C cC
  go_wp2_with fail
  go_ret2
  exact ⟨v, rfl, by rw [← HL.out, ← HW.out]; exact Keeps.owns_base ho (by omega), J.below⟩

/-- the proof that is made -/
def makeL (l : List Int) (i n : Int) : List Int := if makeE l i n = 0 then Ways.way (l.take n.toNat) i.toNat else []
theorem make_of {l : List Int} {i n : Int} (h : makeE l i n = 0) : Trees.leafsE l = 0 ∧ inside i n l.length = true := by
  unfold makeE at h
  split at h
  · rename_i h0
    refine ⟨h0, ?_⟩
    split at h
    · assumption
    · cases h
  · rename_i h0
    exact absurd h h0
theorem make_any (l : List Int) (a : Option Addr) (n cap : Nat) (I M : Int) (w : World) (hr : Row w a n cap (ints l)) :
    Calls Tryz.prog 35 #[.slice a n cap, .int .i64 I, .int .i64 M] w fun e w' => ∃ v, e = .returned (.tuple #[v, errv (makeE l I M)]) ∧ w'.ownsRow w.heap.size 3 1 v (makeL l I M).length (ints (makeL l I M)) ∧ Below w.heap.size w w' := by
  have hln : l.length = n := by rw [← hr.1, Lists.ints_length]
  by_cases h : makeE l I M = 0
  · obtain ⟨h0, h1⟩ := make_of h
    rw [hln] at h1
    obtain ⟨i, m, hI, hM, hi, hm⟩ := WalkSteps.inside_of h1
    have c := make_yes l a n cap i m I M w hI hM hr h0 hi (by omega)
    rw [show makeL l I M = Ways.way (l.take m) i by unfold makeL; rw [if_pos h, hI, hM, Int.toNat_natCast, Int.toNat_natCast], h, errv0]
    exact c
  · refine (make_bad l a n cap I M w hr h).mono ?_
    rintro e w' ⟨rfl, b⟩
    refine ⟨_, rfl, ?_, b⟩
    rw [show makeL l I M = [] from if_neg h]
    exact World.ownsRow_nil _ _ _ _
theorem makeL_len (l : List Int) (i n : Int) : (makeL l i n).length ≤ 200 := by
  unfold makeL
  split
  · rename_i h
    obtain ⟨h0, h1⟩ := make_of h
    have n2 : l.length ≤ 200 := by
      unfold Trees.leafsE at h0
      split at h0
      · cases h0
      · omega
    rw [Ways.way_len, List.length_take]
    have := Ways.steps_le _ i.toNat (min n.toNat l.length) (Nat.le_refl _)
    omega
  · exact Nat.zero_le _

end Go.Proofs.YticadkggaanbjaaGreatDoor.WalkMake

