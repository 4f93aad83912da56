/-
  What grow's climb does: it tells each part that a proof has the root of, in turn, to the function that it was handed; and what its within and its steps return.
-/
import Derived.Test.YticadkggaanbjaaGreatDoorTreeRun
import Derived.Test.YticadkggaanbjaaGreatDoorGrowPlain
import Derived.Test.YticadkggaanbjaaGreatDoorListRows
import Derived.Shelf.Abstract
import Derived.Test.YticadkggaanbjaaGreatDoorMixRun
import Derived.Deep.RegionWith
import Derived.Test.YticadkggaanbjaaGreatDoorErrs
namespace Go.Proofs.YticadkggaanbjaaGreatDoor.WalkGrowClimb
open Go.RowKit
open Keeps (Kept)
open GrowWays (parts parts_first parts_same parts_left parts_right)
open Trees (half half_lt half_pos)

theorem prefix_left {α : Type} {a b c : List α} (h : (a ++ b) <+: c) : a <+: c := (List.prefix_append a b).trans h

set_option maxHeartbeats 1000000 in
set_option maxRecDepth 100000 in
/-- what is told keeps Inv, of what was told by then: so does climb -/
theorem climb_any (g : FuncId) (caps : Array Value) (hg : Enters Tryz.prog g) (P : List (Nat × Nat)) (Inv : List (Nat × Nat) → World → Prop)
    (hT : ∀ ps (a b : Nat) (A B : Int) w, A = a → B = b → (ps ++ [(a, b)]) <+: P → Inv ps w →
      Calls Tryz.prog g (#[.int .i64 A, .int .i64 B] ++ caps) w fun e w' => e = .returned (.tuple #[]) ∧ Inv (ps ++ [(a, b)]) w') :
    ∀ (f o lo hi : Nat) (O L H : Int) (w : World) (ps : List (Nat × Nat)), O = o → L = lo → H = hi → hi - lo < f → lo < o → o ≤ hi → hi ≤ 200 → (ps ++ parts o lo hi) <+: P → Inv ps w →
      Calls Tryz.prog 114 #[.int .i64 O, .int .i64 L, .int .i64 H, .func (.func g) #[] caps] w fun e w' => e = .returned (.tuple #[]) ∧ Inv (ps ++ parts o lo hi) w'
  | 0, _, _, _, _, _, _, _, _, _, _, _, h, _, _, _, _, _ => by omega
  | f + 1, o, lo, hi, O, L, H, w, ps, hO, hL, hH, hf, h1, h2, h3, hP, hInv => by
    have b0 : 0 ≤ L := by omega
    have b1 : L < H := by omega
    have b2 : H ≤ 200 := by omega
    rcases Nat.lt_or_ge o hi with hd | hd
    · have hd2 : 2 ≤ hi - lo := by omega
      have kl := half_lt (hi - lo) hd2
      have kp := half_pos (hi - lo)
      have i1 : (O == H) = false := by rw [beq_eq_false_iff_ne]; omega
      have cS := fun w => WalkSplit.split_yes (H - L) (hi - lo) w (by omega) hd2 (by omega)
      generalize hk : half (hi - lo) = k at kl kp cS
      by_cases hlt : o ≤ lo + k
      · have e := parts_left o lo hi k h1 hd hk hlt
        rw [e, ← List.append_assoc] at hP
        have c1 := climb_any g caps hg P Inv hT f o lo (lo + k) O L (L + (k : Int)) w ps hO hL (by omega) (by omega) h1 hlt (by omega) (prefix_left hP) hInv
        have c2 := fun w1 (h : Inv (ps ++ parts o lo (lo + k)) w1) => hT (ps ++ parts o lo (lo + k)) (lo + k) hi (L + (k : Int)) H w1 (by omega) hH hP h
        rw [e, ← List.append_assoc]
        have i2 : O ≤ L + (k : Int) := by omega
        have i3 : L + (k : Int) < H := by omega
        clear hO hL hH hf hP hInv hT h1 h2 h3 hd e hk kl hlt
        generalize ps ++ parts o lo (lo + k) = qs at c1 c2 ⊢
        go_enter Tryz.func114, Tryz.ntmps114
        go_wp2_with fail
        refine (cS _).mono ?_
        rintro e w1 ⟨rfl, rfl⟩
        go_wp2_with fail
        refine c1.mono ?_
        rintro e w2 ⟨rfl, h2⟩
        have c3 := c2 w2 h2
        clear c1 c2
        go_wp2_with fail
        rw [hg, Oper.upon_enter]
        refine c3.mono ?_
        rintro e w3 ⟨rfl, h3⟩
        clear c3
        go_wp2_with fail
        go_end0
        exact ⟨rfl, h3⟩
      · have e := parts_right o lo hi k h1 hd hk hlt
        rw [e, ← List.append_assoc] at hP
        have c1 := climb_any g caps hg P Inv hT f o (lo + k) hi O (L + (k : Int)) H w ps hO (by omega) hH (by omega) (by omega) h2 (by omega) (prefix_left hP) hInv
        have c2 := fun w1 (h : Inv (ps ++ parts o (lo + k) hi) w1) => hT (ps ++ parts o (lo + k) hi) lo (lo + k) L (L + (k : Int)) w1 hL (by omega) hP h
        rw [e, ← List.append_assoc]
        have i2 : ¬ O ≤ L + (k : Int) := by omega
        have i3 : L + (k : Int) < H := by omega
        clear hO hL hH hf hP hInv hT h1 h2 h3 hd e hk kl hlt
        generalize ps ++ parts o (lo + k) hi = qs at c1 c2 ⊢
        go_enter Tryz.func114, Tryz.ntmps114
        go_wp2_with fail
        refine (cS _).mono ?_
        rintro e w1 ⟨rfl, rfl⟩
        go_wp2_with fail
        refine c1.mono ?_
        rintro e w2 ⟨rfl, h2⟩
        have c3 := c2 w2 h2
        clear c1 c2
        go_wp2_with fail
        rw [hg, Oper.upon_enter]
        refine c3.mono ?_
        rintro e w3 ⟨rfl, h3⟩
        clear c3
        go_wp2_with fail
        go_end0
        exact ⟨rfl, h3⟩
    · obtain rfl : o = hi := by omega
      have i1 : (O == H) = true := by rw [beq_iff_eq]; omega
      rcases Nat.eq_zero_or_pos lo with h4 | h4
      · subst h4
        rw [parts_first o h1, List.append_nil]
        have i2 : ¬ L > 0 := by omega
        have HI : Hid (Inv ps w) := hInv
        clear hO hL hH hf hP hInv hT h1 h2 h3 hd
        go_enter Tryz.func114, Tryz.ntmps114
        go_wp2_with fail
        (try simp only [Exit.inBlock, Exit.then]); refine bodyPost_ret (results_none rfl _ _ _) rfl ?_
        exact ⟨rfl, HI.out⟩
      · rw [parts_same o lo h1 h4] at hP ⊢
        have c3 := hT ps lo o L H w hL hH hP hInv
        have i2 : L > 0 := by omega
        clear hO hL hH hf hP hInv hT h1 h2 h3 hd
        go_enter Tryz.func114, Tryz.ntmps114
        go_wp2_with fail
        rw [hg, Oper.upon_enter]
        refine c3.mono ?_
        rintro e w3 ⟨rfl, h3⟩
        clear c3
        go_wp2_with fail
        (try simp only [Exit.inBlock, Exit.then]); refine bodyPost_ret (results_none rfl _ _ _) rfl ?_
        exact ⟨rfl, h3⟩

open GrowsE (inGrow)
theorem within_any (o n m : Int) (w : World) :
    Calls Tryz.prog 75 #[.int .i64 o, .int .i64 n, .int .i64 m] w fun e w' => e = .returned (.bool (inGrow o n m)) ∧ w' = w := by
  by_cases h0 : 1 ≤ o
  · by_cases h1 : o ≤ n
    · by_cases h2 : n ≤ m
      · have HH : Hid (inGrow o n m = true) := decide_eq_true ⟨h0, h1, h2⟩
        go_enter Tryz.func75, Tryz.ntmps75
        go_wp2_with fail
        go_ret
        exact ⟨by rw [HH.out]; rfl, rfl⟩
      · have HH : Hid (inGrow o n m = false) := decide_eq_false fun h => h2 h.2.2
        go_enter Tryz.func75, Tryz.ntmps75
        go_wp2_with fail
        go_ret
        exact ⟨by rw [HH.out]; rfl, rfl⟩
    · have HH : Hid (inGrow o n m = false) := decide_eq_false fun h => h1 h.2.1
      go_enter Tryz.func75, Tryz.ntmps75
      go_wp2_with fail
      go_ret
      exact ⟨by rw [HH.out]; rfl, rfl⟩
  · have HH : Hid (inGrow o n m = false) := decide_eq_false fun h => h0 h.1
    go_enter Tryz.func75, Tryz.ntmps75
    go_wp2_with fail
    go_ret
    exact ⟨by rw [HH.out]; rfl, rfl⟩
theorem inGrow_yes {o n : Nat} {m : Int} (h1 : 1 ≤ o) (h2 : o ≤ n) (hn : (n : Int) ≤ m) : inGrow o n m = true := decide_eq_true ⟨by omega, by omega, hn⟩

theorem count_any (A B : Int) (p : Addr) (c : Nat) (w : World) (hc : w.cell? p = some (.int .i64 (c : Int))) (hf : w.frozen? p = false) (hl : c ≤ 300) :
    Calls Tryz.prog 128 #[.int .i64 A, .int .i64 B, .pointer (some p)] w fun e w' => e = .returned (.tuple #[]) ∧ w' = w.setCell p (.int .i64 ((c + 1 : Nat) : Int)) := by
  go_enter Tryz.func128, Tryz.ntmps128
  go_wp2_with fail
  go_end0
  exact ⟨rfl, by congr 2⟩

theorem enters : Enters Tryz.prog 128 := enters_of Tryz.func128 (by kernel_rfl) rfl

/-- as many as were told are counted -/
def Inv (w0 : World) (b : Nat) (ps : List (Nat × Nat)) (w : World) : Prop := w.cell? ⟨b, 0, none⟩ = some (.int .i64 (ps.length : Int)) ∧ w.frozen? ⟨b, 0, none⟩ = false ∧ Kept (fun k => k = b) w0 w

theorem told (w0 : World) (b : Nat) (P : List (Nat × Nat)) (hP : P.length ≤ 300) : ∀ ps (a c : Nat) (A B : Int) w, A = a → B = c → (ps ++ [(a, c)]) <+: P → Inv w0 b ps w →
      Calls Tryz.prog 128 (#[.int .i64 A, .int .i64 B] ++ #[.pointer (some ⟨b, 0, none⟩)]) w fun e w' => e = .returned (.tuple #[]) ∧ Inv w0 b (ps ++ [(a, c)]) w' := by
  intro ps a c A B w _ _ hp ⟨h1, h2, h3⟩
  have hl := hp.length_le
  rw [List.length_append] at hl
  refine (count_any A B ⟨b, 0, none⟩ ps.length w h1 h2 (by omega)).mono ?_
  rintro e w' ⟨rfl, rfl⟩
  refine ⟨rfl, ?_, (World.frozen?_setCell _ _ _ _).trans h2, h3.setCell (p := ⟨b, 0, none⟩) (Or.inl rfl) _⟩
  rw [World.cell?_setCell_same _ _ _ h1]
  simp

theorem steps_any (o n : Nat) (O N : Int) (w : World) (hO : O = o) (hN : N = n) (h1 : 1 ≤ o) (h2 : o ≤ n) (hn : n ≤ 200) :
    Calls Tryz.prog 77 #[.int .i64 O, .int .i64 N] w fun e w' => e = .returned (.int .i64 (Grows.gsteps o n true : Nat)) ∧ Below w.heap.size w w' := by
  have hl := GrowWays.parts_length o n h1 h2
  have hs := Grows.gsteps_le o n true
  have C := fun (w1 : World) => climb_any 128 #[.pointer (some ⟨w.heap.size, 0, none⟩)] enters (parts o 0 n) (Inv w1 w.heap.size) (told w1 w.heap.size _ (by omega)) (n + 1) o 0 n O 0 N w1 [] hO rfl hN (by omega) h1 h2 hn (by rw [List.nil_append]; exact List.prefix_refl _)
  rw [List.nil_append] at C
  have HLn : Hid ((parts o 0 n).length = Grows.gsteps o n true) := hl
  clear hO hN hl hs
  go_enter Tryz.func77, Tryz.ntmps77
  go_wp2_with fail
  refine (C _ ⟨by simp, by simp, Kept.refl _ _⟩).mono ?_
  rintro e w2 ⟨rfl, h1, h2, h3⟩
  clear C
  go_wp2_with fail
  go_ret
  exact ⟨by rw [← HLn.out]; rfl, ((Below.refl _ w).alloc (Nat.le_refl _) _).trans (h3.below (fun k hk => by omega) (by simp))⟩

end Go.Proofs.YticadkggaanbjaaGreatDoor.WalkGrowClimb

/-
  What the program's rootsFrom returns: the old root and the new one that come of an old root and a proof as long as it must be.
-/
namespace Go.Proofs.YticadkggaanbjaaGreatDoor.WalkGrowFrom
open Go.RowKit
open Lists (Row ints bt)
open GrowWays (parts cur cur_all cur_snoc cur_valid turn)
open WalkGrowClimb (climb_any)
open Grows (gsteps oldOf newOf)

/-- the variables of the call's own: the old size, the proof, both roots that have come, and how many sums were met -/
structure Box (w : World) (O : Int) (a : Option Addr) (m cap : Nat) (x y : Int) (k : Nat) (w1 : World) : Prop where
  old : w1.cell? ⟨w.heap.size, 0, none⟩ = some (.int .i64 O)
  proof : w1.cell? ⟨w.heap.size + 1, 0, none⟩ = some (.slice a m cap)
  bef : w1.cell? ⟨w.heap.size + 2, 0, none⟩ = some (.int .i64 x)
  befFree : w1.frozen? ⟨w.heap.size + 2, 0, none⟩ = false
  aft : w1.cell? ⟨w.heap.size + 3, 0, none⟩ = some (.int .i64 y)
  aftFree : w1.frozen? ⟨w.heap.size + 3, 0, none⟩ = false
  met : w1.cell? ⟨w.heap.size + 4, 0, none⟩ = some (.int .i64 (k : Int))
  metFree : w1.frozen? ⟨w.heap.size + 4, 0, none⟩ = false
  size : w.heap.size + 5 ≤ w1.heap.size
  below : Below w.heap.size w w1

theorem Box.later {w : World} {O : Int} {a : Option Addr} {m cap : Nat} {x y : Int} {k : Nat} {w1 w2 : World} (h : Box w O a m cap x y k w1) (b : Below w1.heap.size w1 w2) : Box w O a m cap x y k w2 := by
  have hs := h.size
  have bs := b.size
  exact ⟨Lists.cell_below b h.old, Lists.cell_below b h.proof, Lists.cell_below b h.bef, (b.frozen (p := ⟨w.heap.size + 2, 0, none⟩) (by show w.heap.size + 2 < _; omega)).trans h.befFree, Lists.cell_below b h.aft, (b.frozen (p := ⟨w.heap.size + 3, 0, none⟩) (by show w.heap.size + 3 < _; omega)).trans h.aftFree, Lists.cell_below b h.met, (b.frozen (p := ⟨w.heap.size + 4, 0, none⟩) (by show w.heap.size + 4 < _; omega)).trans h.metFree, by omega, bt h.below b⟩
theorem Box.setBef {w : World} {O : Int} {a : Option Addr} {m cap : Nat} {x y : Int} {k : Nat} {w1 : World} (h : Box w O a m cap x y k w1) (v : Int) : Box w O a m cap v y k (w1.setCell ⟨w.heap.size + 2, 0, none⟩ (.int .i64 v)) := by
  refine ⟨?_, ?_, World.cell?_setCell_same _ _ _ h.bef, ?_, ?_, ?_, ?_, ?_, ?_, h.below.setCell (by show w.heap.size ≤ w.heap.size + 2; omega) _⟩
  · rw [World.cell?_setCell_other _ _ _ _ (by simp)]; exact h.old
  · rw [World.cell?_setCell_other _ _ _ _ (by simp)]; exact h.proof
  · rw [World.frozen?_setCell]; exact h.befFree
  · rw [World.cell?_setCell_other _ _ _ _ (by simp)]; exact h.aft
  · rw [World.frozen?_setCell]; exact h.aftFree
  · rw [World.cell?_setCell_other _ _ _ _ (by simp)]; exact h.met
  · rw [World.frozen?_setCell]; exact h.metFree
  · have := h.size; simp [World.setCell]; omega
theorem Box.setAft {w : World} {O : Int} {a : Option Addr} {m cap : Nat} {x y : Int} {k : Nat} {w1 : World} (h : Box w O a m cap x y k w1) (v : Int) : Box w O a m cap x v k (w1.setCell ⟨w.heap.size + 3, 0, none⟩ (.int .i64 v)) := by
  refine ⟨?_, ?_, ?_, ?_, World.cell?_setCell_same _ _ _ h.aft, ?_, ?_, ?_, ?_, h.below.setCell (by show w.heap.size ≤ w.heap.size + 3; omega) _⟩
  · rw [World.cell?_setCell_other _ _ _ _ (by simp)]; exact h.old
  · rw [World.cell?_setCell_other _ _ _ _ (by simp)]; exact h.proof
  · rw [World.cell?_setCell_other _ _ _ _ (by simp)]; exact h.bef
  · rw [World.frozen?_setCell]; exact h.befFree
  · rw [World.frozen?_setCell]; exact h.aftFree
  · rw [World.cell?_setCell_other _ _ _ _ (by simp)]; exact h.met
  · rw [World.frozen?_setCell]; exact h.metFree
  · have := h.size; simp [World.setCell]; omega
theorem Box.setMet {w : World} {O : Int} {a : Option Addr} {m cap : Nat} {x y : Int} {k : Nat} {w1 : World} (h : Box w O a m cap x y k w1) : Box w O a m cap x y (k + 1) (w1.setCell ⟨w.heap.size + 4, 0, none⟩ (.int .i64 ((k : Int) + 1))) := by
  refine ⟨?_, ?_, ?_, ?_, ?_, ?_, ?_, ?_, ?_, h.below.setCell (by show w.heap.size ≤ w.heap.size + 4; omega) _⟩
  · rw [World.cell?_setCell_other _ _ _ _ (by simp)]; exact h.old
  · rw [World.cell?_setCell_other _ _ _ _ (by simp)]; exact h.proof
  · rw [World.cell?_setCell_other _ _ _ _ (by simp)]; exact h.bef
  · rw [World.frozen?_setCell]; exact h.befFree
  · rw [World.cell?_setCell_other _ _ _ _ (by simp)]; exact h.aft
  · rw [World.frozen?_setCell]; exact h.aftFree
  · rw [World.cell?_setCell_same _ _ _ h.met]; simp
  · rw [World.frozen?_setCell]; exact h.metFree
  · have := h.size; simp [World.setCell]; omega

/-- where it stands -/
def Inv (w : World) (o : Nat) (s : Int) (p : List Int) (a : Option Addr) (m cap : Nat) (ps : List (Nat × Nat)) (w1 : World) : Prop := Box w (o : Int) a m cap (cur o s p ps).1 (cur o s p ps).2 ps.length w1

theorem enters : Enters Tryz.prog 129 := enters_of Tryz.func129 (by kernel_rfl) rfl

set_option maxHeartbeats 4000000 in
set_option maxRecDepth 100000 in
theorem told (w : World) (o : Nat) (s : Int) (p : List Int) (a : Option Addr) (m cap : Nat) (P : List (Nat × Nat)) (hl : P.length = m) (hm : m ≤ 300) (hr : Row w a m cap (ints p)) (hv : ∀ x ∈ p, Nums.valid x = true) (hs : Nums.valid s = true) :
    ∀ ps (x y : Nat) (A B : Int) w1, A = x → B = y → (ps ++ [(x, y)]) <+: P → Inv w o s p a m cap ps w1 →
      Calls Tryz.prog 129 (#[.int .i64 A, .int .i64 B] ++ #[.pointer (some ⟨w.heap.size + 1, 0, none⟩), .pointer (some ⟨w.heap.size + 4, 0, none⟩), .pointer (some ⟨w.heap.size, 0, none⟩), .pointer (some ⟨w.heap.size + 2, 0, none⟩), .pointer (some ⟨w.heap.size + 3, 0, none⟩)]) w1 fun e w' =>
        e = .returned (.tuple #[]) ∧ Inv w o s p a m cap (ps ++ [(x, y)]) w' := by
  intro ps x y A B w1 hA hB hp hI
  have hpl := hp.length_le
  rw [List.length_append, hl] at hpl
  have hpm : ps.length < m := by simp at hpl; omega
  have hln : p.length = m := by rw [← hr.1, Lists.ints_length]
  obtain ⟨b, off, rfl, hc⟩ := (hr.below hI.below).2.2 (by omega)
  have c4 := hc ps.length _ (Lists.ints_at (by omega))
  have hsn := cur_snoc o s p ps (x, y) (by omega)
  have vy : Nums.valid (p.getD ps.length 0) = true := hv _ (by rw [List.getD_eq_getElem?_getD, List.getElem?_eq_getElem (by omega)]; exact List.getElem_mem _)
  obtain ⟨v1, v2⟩ := cur_valid o s p ps hs hv
  unfold Inv at hI ⊢
  rw [hsn, List.length_append]
  show Calls _ _ _ _ fun e w' => e = .returned (.tuple #[]) ∧ Box w (o : Int) (some ⟨b, off, none⟩) m cap _ _ (ps.length + 1) w'
  clear hsn
  generalize cur o s p ps = S at hI v1 v2 ⊢
  obtain ⟨C, D⟩ := S
  simp only at hI v1 v2
  generalize p.getD ps.length 0 = Y at c4 vy ⊢
  generalize ps.length = k at c4 hI hpm ⊢
  have c0 := hI.old
  have c1 := hI.proof
  have c2 := hI.bef
  have f2 := hI.befFree
  have c3 := hI.aft
  have f3 := hI.aftFree
  have c5 := hI.met
  have f5 := hI.metFree
  have sz := hI.size
  have HI : Hid (Box w (o : Int) (some ⟨b, off, none⟩) m cap C D k w1) := hI
  have j0 : (0 : Int) ≤ (k : Int) := by omega
  have j1 : (k : Int) < (m : Int) := by omega
  have HM : Hid (Box w (o : Int) (some ⟨b, off, none⟩) m cap C D (k + 1) (w1.setCell ⟨w.heap.size + 4, 0, none⟩ (.int .i64 ((k : Int) + 1)))) := hI.setMet
  clear hc hp hpl hr hv hs hl hln hI
  show Calls Tryz.prog 129 #[.int .i64 A, .int .i64 B, .pointer (some ⟨w.heap.size + 1, 0, none⟩), .pointer (some ⟨w.heap.size + 4, 0, none⟩), .pointer (some ⟨w.heap.size, 0, none⟩), .pointer (some ⟨w.heap.size + 2, 0, none⟩), .pointer (some ⟨w.heap.size + 3, 0, none⟩)] w1 _
  by_cases h1 : y = o
  · rw [show turn o (C, D) Y (x, y) = (Y, Y) from if_pos h1]
    have i1 : (B == (o : Int)) = true := by rw [beq_iff_eq]; omega
    have HF : Hid (Box w (o : Int) (some ⟨b, off, none⟩) m cap Y Y (k + 1) (((w1.setCell ⟨w.heap.size + 4, 0, none⟩ (.int .i64 ((k : Int) + 1))).setCell ⟨w.heap.size + 2, 0, none⟩ (.int .i64 Y)).setCell ⟨w.heap.size + 3, 0, none⟩ (.int .i64 Y))) := (HM.out.setBef Y).setAft Y
    clear h1 hA hB vy v1 v2
    go_enter Tryz.func129, Tryz.ntmps129
    go_wp2_with fail
    go_end0
    exact ⟨rfl, HF.out⟩
  have i1 : (B == (o : Int)) = false := by rw [beq_eq_false_iff_ne]; omega
  by_cases h2 : o < y
  · rw [show turn o (C, D) Y (x, y) = (C, Sums.sum (Nums.nodeBytes D Y)) by unfold turn; rw [if_neg h1, if_pos h2]; rfl]
    have i2 : B > (o : Int) := by omega
    have cN := fun w => WalkMix.node_yes D Y w v2 vy
    generalize Sums.sum (Nums.nodeBytes D Y) = X at cN ⊢
    clear h1 h2 hA hB vy v1 v2
    go_enter Tryz.func129, Tryz.ntmps129
    go_wp2_with fail
    refine (cN _).mono ?_
    rintro e w2 ⟨rfl, b2⟩
    have M2 := HM.out.later b2
    have k3 := M2.aft
    have g3 := M2.aftFree
    have HF : Hid (Box w (o : Int) (some ⟨b, off, none⟩) m cap C X (k + 1) (w2.setCell ⟨w.heap.size + 3, 0, none⟩ (.int .i64 X))) := M2.setAft X
    clear M2 b2 cN
    go_wp2_with fail
    go_end0
    exact ⟨rfl, HF.out⟩
  · rw [show turn o (C, D) Y (x, y) = (Sums.sum (Nums.nodeBytes Y C), Sums.sum (Nums.nodeBytes Y D)) by unfold turn; rw [if_neg h1, if_neg h2]; rfl]
    have i2 : ¬ B > (o : Int) := by omega
    have cN := fun w => WalkMix.node_yes Y C w vy v1
    have cM := fun w => WalkMix.node_yes Y D w vy v2
    generalize Sums.sum (Nums.nodeBytes Y C) = X at cN ⊢
    generalize Sums.sum (Nums.nodeBytes Y D) = Z at cM ⊢
    clear h1 h2 hA hB vy v1 v2
    go_enter Tryz.func129, Tryz.ntmps129
    go_wp2_with fail
    refine (cN _).mono ?_
    rintro e w2 ⟨rfl, b2⟩
    have M2 := HM.out.later b2
    have k2 := M2.bef
    have g2 := M2.befFree
    have k3 := M2.aft
    have HF : Hid (Box w (o : Int) (some ⟨b, off, none⟩) m cap X D (k + 1) (w2.setCell ⟨w.heap.size + 2, 0, none⟩ (.int .i64 X))) := M2.setBef X
    clear M2 b2 cN
    go_wp2_with fail
    refine (cM _).mono ?_
    rintro e w3 ⟨rfl, b3⟩
    have M3 := HF.out.later b3
    have q3 := M3.aft
    have r3 := M3.aftFree
    have HG : Hid (Box w (o : Int) (some ⟨b, off, none⟩) m cap X Z (k + 1) (w3.setCell ⟨w.heap.size + 3, 0, none⟩ (.int .i64 Z))) := M3.setAft Z
    clear M3 b3 cM
    go_wp2_with fail
    go_end0
    exact ⟨rfl, HG.out⟩

theorem cell_new (w : World) (v : Value) (t : TypeId) (b : Nat) (h : b = w.heap.size) : (w.alloc (.cells #[v] t)).cell? ⟨b, 0, none⟩ = some v := by subst h; simp
theorem free_new (w : World) (v : Value) (t : TypeId) (b : Nat) (h : b = w.heap.size) : (w.alloc (.cells #[v] t)).frozen? ⟨b, 0, none⟩ = false := by subst h; simp

theorem start (w : World) (o : Nat) (s : Int) (p : List Int) (a : Option Addr) (m cap : Nat) :
    Inv w o s p a m cap [] (((((w.alloc (.cells #[.int .i64 (o : Int)] 3)).alloc (.cells #[.slice a m cap] 45)).alloc (.cells #[.int .i64 s] 3)).alloc (.cells #[.int .i64 s] 3)).alloc (.cells #[.int .i64 0] 3)) := by
  refine ⟨?_, ?_, ?_, ?_, ?_, ?_, ?_, ?_, by simp, ((((((Below.refl _ w).alloc (Nat.le_refl _) _).alloc (by simp) _).alloc (by simp; omega) _).alloc (by simp; omega) _).alloc (by simp; omega) _)⟩
  · rw [World.cell?_alloc_past _ _ _ (by simp <;> omega), World.cell?_alloc_past _ _ _ (by simp <;> omega), World.cell?_alloc_past _ _ _ (by simp <;> omega), World.cell?_alloc_past _ _ _ (by simp)]; exact cell_new _ _ _ _ rfl
  · rw [World.cell?_alloc_past _ _ _ (by simp <;> omega), World.cell?_alloc_past _ _ _ (by simp <;> omega), World.cell?_alloc_past _ _ _ (by simp)]; exact cell_new _ _ _ _ (by simp)
  · rw [World.cell?_alloc_past _ _ _ (by simp <;> omega), World.cell?_alloc_past _ _ _ (by simp)]; exact cell_new _ _ _ _ (by simp)
  · rw [World.frozen?_alloc_past _ _ _ (by simp <;> omega), World.frozen?_alloc_past _ _ _ (by simp)]; exact free_new _ _ _ _ (by simp)
  · rw [World.cell?_alloc_past _ _ _ (by simp)]; exact cell_new _ _ _ _ (by simp)
  · rw [World.frozen?_alloc_past _ _ _ (by simp)]; exact free_new _ _ _ _ (by simp)
  · exact cell_new _ _ _ _ (by simp)
  · exact free_new _ _ _ _ (by simp)

/-- both results lie in variables of the call's own -/
theorem ret_two {w : World} {p q : Addr} {x y : Int} (tmps : Array Value) (hp : tmps.getD 8 undef = .pointer (some p)) (hq : tmps.getD 9 undef = .pointer (some q)) (c1 : w.cell? p = some (.int .i64 x)) (c2 : w.cell? q = some (.int .i64 y)) :
    (results Tryz.f78 tmps).run Tryz.prog w = .ok (.tuple #[.int .i64 x, .int .i64 y]) w := by
  have h : Tryz.f78.results = #[.cell 8 3, .cell 9 3] := rfl
  have hp' : tmps[8]?.getD undef = .pointer (some p) := by rw [← Array.getD_eq_getD_getElem?]; exact hp
  have hq' : tmps[9]?.getD undef = .pointer (some q) := by rw [← Array.getD_eq_getD_getElem?]; exact hq
  simp only [results, h]
  simp [Sem.run_bind, hp', hq', asAddr, loadVar, isAgg, underlying, Tryz.underlying3, c1, c2, Result.andThen]

set_option maxHeartbeats 1000000 in
set_option maxRecDepth 100000 in
theorem rootsFrom_any (o n : Nat) (O N s : Int) (p : List Int) (a : Option Addr) (m cap : Nat) (w : World) (hO : O = o) (hN : N = n) (h1 : 1 ≤ o) (h2 : o ≤ n) (hn : n ≤ 200) (hm : m = gsteps o n true) (hr : Row w a m cap (ints p)) (hv : ∀ x ∈ p, Nums.valid x = true) (hs : Nums.valid s = true) :
    Calls Tryz.prog 78 #[.int .i64 s, .int .i64 O, .int .i64 N, .slice a m cap] w fun e w' => e = .returned (.tuple #[.int .i64 (oldOf s o n p true), .int .i64 (newOf s o n p true)]) ∧ Below w.heap.size w w' := by
  have hln : p.length = m := by rw [← hr.1, Lists.ints_length]
  have bl := GrowWays.parts_length o n h1 h2
  have sl := Grows.gsteps_le o n true
  have C := fun w1 => climb_any 129 #[.pointer (some ⟨w.heap.size + 1, 0, none⟩), .pointer (some ⟨w.heap.size + 4, 0, none⟩), .pointer (some ⟨w.heap.size, 0, none⟩), .pointer (some ⟨w.heap.size + 2, 0, none⟩), .pointer (some ⟨w.heap.size + 3, 0, none⟩)] enters (parts o 0 n) (Inv w o s p a m cap) (told w o s p a m cap _ (by omega) (by omega) hr hv hs) (n + 1) o 0 n O 0 N w1 [] hO rfl hN (by omega) h1 h2 hn (by rw [List.nil_append]; exact List.prefix_refl _)
  rw [List.nil_append] at C
  have HE : Hid (cur o s p (parts o 0 n) = (oldOf s o n p true, newOf s o n p true)) := cur_all o n s p h1 h2 (by omega)
  subst hO
  clear hr hv hs hN bl sl hln hm
  go_enter Tryz.func78, Tryz.ntmps78
  go_wp2_with fail
  refine (C _ (start w o s p a m cap)).mono ?_
  rintro e w2 ⟨rfl, J⟩
  unfold Inv at J
  rw [HE.out] at J
  have k2 := J.bef
  have g2 := J.befFree
  have k3 := J.aft
  have g3 := J.aftFree
  have HJ : Hid (Box w (o : Int) a m cap (oldOf s o n p true) (newOf s o n p true) (parts o 0 n).length ((w2.setCell ⟨w.heap.size + 2, 0, none⟩ (.int .i64 (oldOf s o n p true))).setCell ⟨w.heap.size + 3, 0, none⟩ (.int .i64 (newOf s o n p true)))) := (J.setBef _).setAft _
  clear C J
  go_wp2_with fail
  go_region
  all_goals
    go_wp2_with fail
    (try simp only [Exit.inBlock, Exit.then]); refine bodyPost_ret (ret_two _ rfl rfl HJ.out.bef HJ.out.aft) rfl ?_
    exact ⟨rfl, HJ.out.below.drew⟩

end Go.Proofs.YticadkggaanbjaaGreatDoor.WalkGrowFrom

/-
  What the program's grow.Check returns, for every two roots, two sizes and proof.
-/
namespace Go.Proofs.YticadkggaanbjaaGreatDoor.WalkGrowCheck
open Go.RowKit
open Lists (Row ints bt)
open WalkGrowClimb (within_any)
open Errs (errv errv0 errv_pos)
open GrowsE (inGrow inGrow_of growE)
open Grows (gsteps oldOf newOf grownE)

theorem notSum_any (n : Int) (w : World) :
    Calls Tryz.prog 76 #[.int .i64 n] w fun e w' => e = .returned (.bool (!Nums.valid n)) ∧ w' = w := by
  cases h : Nums.valid n
  · have hh : Hid (Nums.valid n = false) := h
    clear h
    go_enter Tryz.func76, Tryz.ntmps76
    go_wp2_with (go_at_call 71; refine (WalkMix.isSum_no _ _ hh.out).mono ?_; rintro e w' ⟨rfl, rfl⟩)
    go_ret
    exact ⟨rfl, rfl⟩
  · have hh : Hid (Nums.valid n = true) := h
    clear h
    go_enter Tryz.func76, Tryz.ntmps76
    go_wp2_with (go_at_call 71; refine (WalkMix.isSum_yes _ _ hh.out).mono ?_; rintro e w' ⟨rfl, rfl⟩)
    go_ret
    exact ⟨rfl, rfl⟩

set_option maxHeartbeats 1000000 in
theorem indexBad_any (l : List Int) (a : Option Addr) (n cap : Nat) (w : World) (hn : n ≤ 17592186043904) (hr : Row w a n cap (ints l)) :
    Calls Tryz.prog 126 #[.slice a n cap, .func (.func 76) #[] #[]] w fun e w' =>
      ∃ i : Int, e = .returned (.int .i64 i) ∧ (Trees.allOk l = true → i = -1) ∧ (Trees.allOk l = false → 0 ≤ i) ∧ w' = w := by
  have hln : l.length = n := by rw [← hr.1, Lists.ints_length]
  have HR : Hid (Row w a n cap (ints l)) := hr
  clear hr
  go_enter Tryz.func126, Tryz.ntmps126
  go_wp2_with fail
  go_loop [8] (fun i => ∃ k : Nat, k ≤ n ∧ i = .int .i64 k ∧ Hid (Trees.allOk (l.take k) = true)) (fun i => n - (intOf i).toNat)
  case atStart => exact ⟨0, Nat.zero_le _, rfl, rfl⟩
  case round =>
    obtain ⟨k, hk, rfl, HA⟩ := hrel
    by_cases hlt : k < n
    · obtain ⟨b, off, rfl, hc⟩ := HR.out.2.2 (by omega)
      have hcell := hc k _ (Lists.ints_at (by omega))
      clear hc
      have HS : Hid (Trees.allOk (l.take (k + 1)) = (Trees.allOk (l.take k) && Nums.valid (l.getD k 0))) := Trees.allOk_snoc l k (by omega)
      have HN : Hid (Nums.valid (l.getD k 0) = false → Trees.allOk l = false) := Trees.allOk_no l k (by omega)
      generalize l.getD k 0 = x at hcell HS HN
      cases hx : Nums.valid x
      · have hx' : Hid (Nums.valid x = false) := hx
        have hb : (!Nums.valid x) = true := by rw [hx]; rfl
        clear hx
        go_wp2_with (go_at_call 76; refine (notSum_any _ _).mono ?_; rintro e w' ⟨rfl, rfl⟩; rw [hb])
        go_ret
        exact ⟨_, rfl, fun h => (by rw [HN.out hx'.out] at h; cases h), fun _ => by omega, rfl⟩
      · have hx' : Hid (Nums.valid x = true) := hx
        have hb : (!Nums.valid x) = false := by rw [hx]; rfl
        clear hx
        go_wp2_with (go_at_call 76; refine (notSum_any _ _).mono ?_; rintro e w' ⟨rfl, rfl⟩; rw [hb])
        go_round
        case rel => exact ⟨k + 1, by omega, by go_num, by rw [HS.out, HA.out, hx'.out]; rfl⟩
        case measure => simp [intOf]; omega
    · go_wp2_with fail
      go_ret
      exact ⟨_, rfl, fun _ => rfl, fun h => (by rw [← hln] at hlt; have := HA.out; rw [List.take_of_length_le (by omega), h] at this; cases this), rfl⟩

theorem contains_any (l : List Int) (a : Option Addr) (n cap : Nat) (w : World) (hn : n ≤ 17592186043904) (hr : Row w a n cap (ints l)) :
    Calls Tryz.prog 72 #[.slice a n cap, .func (.func 76) #[] #[]] w fun e w' => e = .returned (.bool (!Trees.allOk l)) ∧ w' = w := by
  have HR : Hid (Row w a n cap (ints l)) := hr
  clear hr
  go_enter Tryz.func72, Tryz.ntmps72
  go_wp2_with fail
  refine (indexBad_any l a n cap w hn HR.out).mono ?_
  rintro e w' ⟨i, rfl, hy, hno, rfl⟩
  cases h : Trees.allOk l
  · have h0 := hno h
    have H : Hid (Trees.allOk l = false) := h
    clear hy hno h
    go_wp2_with fail
    go_ret
    exact ⟨by rw [H.out]; rfl, rfl⟩
  · have h0 := hy h
    subst h0
    have H : Hid (Trees.allOk l = true) := h
    clear hy hno h
    go_wp2_with fail
    go_ret
    exact ⟨by rw [H.out]; rfl, rfl⟩

theorem check_range (ra O rb N : Int) (p : List Int) (a : Option Addr) (m cap : Nat) (w : World) (h : inGrow O N 200 = false) :
    Calls Tryz.prog 18 #[.int .i64 ra, .int .i64 O, .int .i64 rb, .int .i64 N, .slice a m cap] w fun e w' => e = .returned (errv (growE ra O rb N p)) ∧ Below w.heap.size w w' := by
  rw [show growE ra O rb N p = 1 by unfold growE; rw [if_neg (by rw [h]; simp)], errv_pos 1 (by decide)]
  go_enter Tryz.func18, Tryz.ntmps18
  go_wp2_with fail
  refine (within_any _ _ _ _).mono ?_
  rintro e w1 ⟨rfl, rfl⟩
  rw [h]
  go_wp2_with fail
  go_ret
  exact ⟨rfl, Below.refl _ _⟩

set_option maxHeartbeats 1000000 in
set_option maxRecDepth 100000 in
theorem check_bad (ra O rb N : Int) (p : List Int) (a : Option Addr) (m cap : Nat) (w : World) (hr : Row w a m cap (ints p)) (hm : m ≤ 17592186043904) (h : inGrow O N 200 = true) (hb : ¬ (Nums.valid ra = true ∧ Nums.valid rb = true ∧ Trees.allOk p = true)) :
    Calls Tryz.prog 18 #[.int .i64 ra, .int .i64 O, .int .i64 rb, .int .i64 N, .slice a m cap] w fun e w' => e = .returned (errv (growE ra O rb N p)) ∧ Below w.heap.size w w' := by
  rw [show growE ra O rb N p = 1 by unfold growE; rw [if_neg (fun k => hb k.2)], errv_pos 1 (by decide)]
  cases h1 : Nums.valid ra
  · have H1 : Hid (Nums.valid ra = false) := h1
    clear h1 hb hr
    go_enter Tryz.func18, Tryz.ntmps18
    go_wp2_with fail
    refine (within_any _ _ _ _).mono ?_
    rintro e w1 ⟨rfl, rfl⟩
    rw [h]
    go_wp2_with fail
    refine (WalkMix.isSum_no _ _ H1.out).mono ?_
    rintro e w2 ⟨rfl, rfl⟩
    go_wp2_with fail
    go_ret
    exact ⟨rfl, Below.refl _ _⟩
  cases h2 : Nums.valid rb
  · have H1 : Hid (Nums.valid ra = true) := h1
    have H2 : Hid (Nums.valid rb = false) := h2
    clear h1 h2 hb hr
    go_enter Tryz.func18, Tryz.ntmps18
    go_wp2_with fail
    refine (within_any _ _ _ _).mono ?_
    rintro e w1 ⟨rfl, rfl⟩
    rw [h]
    go_wp2_with fail
    refine (WalkMix.isSum_yes _ _ H1.out).mono ?_
    rintro e w2 ⟨rfl, rfl⟩
    go_wp2_with fail
    refine (WalkMix.isSum_no _ _ H2.out).mono ?_
    rintro e w2 ⟨rfl, rfl⟩
    go_wp2_with fail
    go_ret
    exact ⟨rfl, Below.refl _ _⟩
  · have h3 : Trees.allOk p = false := by
      cases h3 : Trees.allOk p
      · rfl
      · exact absurd ⟨h1, h2, h3⟩ hb
    have H1 : Hid (Nums.valid ra = true) := h1
    have H2 : Hid (Nums.valid rb = true) := h2
    have H3 : Hid (Trees.allOk p = false) := h3
    have HR : Hid (Row w a m cap (ints p)) := hr
    clear h1 h2 h3 hb hr
    go_enter Tryz.func18, Tryz.ntmps18
    go_wp2_with fail
    refine (within_any _ _ _ _).mono ?_
    rintro e w1 ⟨rfl, rfl⟩
    rw [h]
    go_wp2_with fail
    refine (WalkMix.isSum_yes _ _ H1.out).mono ?_
    rintro e w2 ⟨rfl, rfl⟩
    go_wp2_with fail
    refine (WalkMix.isSum_yes _ _ H2.out).mono ?_
    rintro e w2 ⟨rfl, rfl⟩
    go_wp2_with fail
    refine (contains_any p a m cap _ hm HR.out).mono ?_
    rintro e w2 ⟨rfl, rfl⟩
    rw [H3.out]
    go_wp2_with fail
    go_ret
    exact ⟨rfl, Below.refl _ _⟩

set_option maxHeartbeats 1000000 in
set_option maxRecDepth 100000 in
theorem check_good (ra O rb N : Int) (p : List Int) (a : Option Addr) (m cap : Nat) (w : World) (hr : Row w a m cap (ints p)) (hm : m ≤ 17592186043904) (h : inGrow O N 200 = true) (h1 : Nums.valid ra = true) (h2 : Nums.valid rb = true) (h3 : Trees.allOk p = true) :
    Calls Tryz.prog 18 #[.int .i64 ra, .int .i64 O, .int .i64 rb, .int .i64 N, .slice a m cap] w fun e w' => e = .returned (errv (growE ra O rb N p)) ∧ Below w.heap.size w w' := by
  have hln : p.length = m := by rw [← hr.1, Lists.ints_length]
  obtain ⟨o, n, hO, hN, q1, q2, q3⟩ := inGrow_of h
  have n2 : n ≤ 200 := by omega
  have e0 : growE ra O rb N p = grownE ra rb o n p := GrowsE.growE_is hO hN q1 q2 n2 h1 h2 (Trees.allOk_mem h3)
  rw [e0]
  unfold grownE
  have cS := WalkGrowClimb.steps_any o n O N w hO hN q1 q2 n2
  have H1 : Hid (Nums.valid ra = true) := h1
  have H2 : Hid (Nums.valid rb = true) := h2
  have H3 : Hid (Trees.allOk p = true) := h3
  have HR : Hid (Row w a m cap (ints p)) := hr
  have sl := Grows.gsteps_le o n true
  by_cases hl : p.length = gsteps o n true
  · rw [if_pos hl]
    have cF := fun w1 (b1 : Below w.heap.size w w1) => WalkGrowFrom.rootsFrom_any o n O N ra p a m cap w1 hO hN q1 q2 n2 (by omega) (hr.below b1) (Trees.allOk_mem h3) h1
    have hq : ((m : Int) != (gsteps o n true : Nat)) = false := by rw [← hl, hln]; simp
    generalize gsteps o n true = k at cS hq sl
    clear h1 h2 h3 hr e0 hO hN hl hln q1 q2 q3
    generalize oldOf ra o n p true = A at cF ⊢
    generalize newOf ra o n p true = B at cF ⊢
    by_cases hA : A = ra
    · by_cases hB : B = rb
      · rw [if_pos ⟨hA, hB⟩, errv0]
        have x1 : (A != ra) = false := by rw [hA]; simp
        have x2 : (B != rb) = false := by rw [hB]; simp
        clear hA hB
        go_enter Tryz.func18, Tryz.ntmps18
        go_wp2_with fail
        refine (within_any _ _ _ _).mono ?_
        rintro e w1 ⟨rfl, rfl⟩
        rw [h]
        go_wp2_with fail
        refine (WalkMix.isSum_yes _ _ H1.out).mono ?_
        rintro e w2 ⟨rfl, rfl⟩
        go_wp2_with fail
        refine (WalkMix.isSum_yes _ _ H2.out).mono ?_
        rintro e w2 ⟨rfl, rfl⟩
        go_wp2_with fail
        refine (contains_any p a m cap _ hm HR.out).mono ?_
        rintro e w2 ⟨rfl, rfl⟩
        rw [H3.out]
        go_wp2_with fail
        refine cS.mono ?_
        rintro e w2 ⟨rfl, b1⟩
        go_wp2_with fail
        refine (cF _ b1).mono ?_
        rintro e w3 ⟨rfl, b3⟩
        clear cF cS
        go_wp2_with fail
        go_ret
        exact ⟨rfl, bt b1 b3⟩
      · rw [if_neg (fun k => hB k.2), errv_pos 8 (by decide)]
        have x1 : (A != ra) = false := by rw [hA]; simp
        have x2 : (B != rb) = true := by rw [bne_iff_ne]; exact hB
        clear hA hB
        go_enter Tryz.func18, Tryz.ntmps18
        go_wp2_with fail
        refine (within_any _ _ _ _).mono ?_
        rintro e w1 ⟨rfl, rfl⟩
        rw [h]
        go_wp2_with fail
        refine (WalkMix.isSum_yes _ _ H1.out).mono ?_
        rintro e w2 ⟨rfl, rfl⟩
        go_wp2_with fail
        refine (WalkMix.isSum_yes _ _ H2.out).mono ?_
        rintro e w2 ⟨rfl, rfl⟩
        go_wp2_with fail
        refine (contains_any p a m cap _ hm HR.out).mono ?_
        rintro e w2 ⟨rfl, rfl⟩
        rw [H3.out]
        go_wp2_with fail
        refine cS.mono ?_
        rintro e w2 ⟨rfl, b1⟩
        go_wp2_with fail
        refine (cF _ b1).mono ?_
        rintro e w3 ⟨rfl, b3⟩
        clear cF cS
        go_wp2_with fail
        go_ret
        exact ⟨rfl, bt b1 b3⟩
    · rw [if_neg (fun k => hA k.1), errv_pos 8 (by decide)]
      have x1 : (A != ra) = true := by rw [bne_iff_ne]; exact hA
      clear hA
      go_enter Tryz.func18, Tryz.ntmps18
      go_wp2_with fail
      refine (within_any _ _ _ _).mono ?_
      rintro e w1 ⟨rfl, rfl⟩
      rw [h]
      go_wp2_with fail
      refine (WalkMix.isSum_yes _ _ H1.out).mono ?_
      rintro e w2 ⟨rfl, rfl⟩
      go_wp2_with fail
      refine (WalkMix.isSum_yes _ _ H2.out).mono ?_
      rintro e w2 ⟨rfl, rfl⟩
      go_wp2_with fail
      refine (contains_any p a m cap _ hm HR.out).mono ?_
      rintro e w2 ⟨rfl, rfl⟩
      rw [H3.out]
      go_wp2_with fail
      refine cS.mono ?_
      rintro e w2 ⟨rfl, b1⟩
      go_wp2_with fail
      refine (cF _ b1).mono ?_
      rintro e w3 ⟨rfl, b3⟩
      clear cF cS
      go_wp2_with fail
      go_ret
      exact ⟨rfl, bt b1 b3⟩
  · rw [if_neg hl, errv_pos 3 (by decide)]
    have hq : ((m : Int) != (gsteps o n true : Nat)) = true := by rw [bne_iff_ne]; omega
    generalize gsteps o n true = k at cS hq sl
    clear h1 h2 h3 hr e0 hO hN hl hln q1 q2 q3
    go_enter Tryz.func18, Tryz.ntmps18
    go_wp2_with fail
    refine (within_any _ _ _ _).mono ?_
    rintro e w1 ⟨rfl, rfl⟩
    rw [h]
    go_wp2_with fail
    refine (WalkMix.isSum_yes _ _ H1.out).mono ?_
    rintro e w2 ⟨rfl, rfl⟩
    go_wp2_with fail
    refine (WalkMix.isSum_yes _ _ H2.out).mono ?_
    rintro e w2 ⟨rfl, rfl⟩
    go_wp2_with fail
    refine (contains_any p a m cap _ hm HR.out).mono ?_
    rintro e w2 ⟨rfl, rfl⟩
    rw [H3.out]
    go_wp2_with fail
    refine cS.mono ?_
    rintro e w2 ⟨rfl, b1⟩
    go_wp2_with fail
    go_ret
    exact ⟨rfl, b1⟩

/-- what the program says of any proof -/
theorem check_any (ra O rb N : Int) (p : List Int) (a : Option Addr) (m cap : Nat) (w : World) (hr : Row w a m cap (ints p)) (hm : m ≤ 17592186043904) :
    Calls Tryz.prog 18 #[.int .i64 ra, .int .i64 O, .int .i64 rb, .int .i64 N, .slice a m cap] w fun e w' => e = .returned (errv (growE ra O rb N p)) ∧ Below w.heap.size w w' := by
  cases h : inGrow O N 200
  · exact check_range ra O rb N p a m cap w h
  · by_cases hb : Nums.valid ra = true ∧ Nums.valid rb = true ∧ Trees.allOk p = true
    · exact check_good ra O rb N p a m cap w hr hm h hb.1 hb.2.1 hb.2.2
    · exact check_bad ra O rb N p a m cap w hr hm h hb

end Go.Proofs.YticadkggaanbjaaGreatDoor.WalkGrowCheck

