/-
  What the program's rootsFrom returns: the old root and the new one that come of an old root and a proof as long as it must be.
-/
import Derived.Test.YtofaegcljcpceagGreatWalkGrowClimb
import Derived.Test.YtofaegcljcpceagGreatWalkMix
import Derived.Deep.RegionWith
namespace Go.Proofs.YtofaegcljcpceagGreat.WalkGrowFrom
open Go.RowKit
open Lists (Row ints bt)
open GrowWays (parts cur cur_all cur_snoc cur_valid turn)
open WalkGrowClimb (climb_any)
open Grows (gsteps oldOf newOf)

/-- the variables of the call's own: the old size, the proof, both roots that have come, and how many sums were met -/
structure Box (w : World) (O : Int) (a : Option Addr) (m cap : Nat) (x y : Int) (k : Nat) (w1 : World) : Prop where
  old : w1.cell? ⟨w.heap.size, 0, none⟩ = some (.int .i64 O)
  proof : w1.cell? ⟨w.heap.size + 1, 0, none⟩ = some (.slice a m cap)
  bef : w1.cell? ⟨w.heap.size + 2, 0, none⟩ = some (.int .i64 x)
  befFree : w1.frozen? ⟨w.heap.size + 2, 0, none⟩ = false
  aft : w1.cell? ⟨w.heap.size + 3, 0, none⟩ = some (.int .i64 y)
  aftFree : w1.frozen? ⟨w.heap.size + 3, 0, none⟩ = false
  met : w1.cell? ⟨w.heap.size + 4, 0, none⟩ = some (.int .i64 (k : Int))
  metFree : w1.frozen? ⟨w.heap.size + 4, 0, none⟩ = false
  size : w.heap.size + 5 ≤ w1.heap.size
  below : Below w.heap.size w w1

theorem Box.later {w : World} {O : Int} {a : Option Addr} {m cap : Nat} {x y : Int} {k : Nat} {w1 w2 : World} (h : Box w O a m cap x y k w1) (b : Below w1.heap.size w1 w2) : Box w O a m cap x y k w2 := by
  have hs := h.size
  have bs := b.size
  exact ⟨Lists.cell_below b h.old, Lists.cell_below b h.proof, Lists.cell_below b h.bef, (b.frozen (p := ⟨w.heap.size + 2, 0, none⟩) (by show w.heap.size + 2 < _; omega)).trans h.befFree, Lists.cell_below b h.aft, (b.frozen (p := ⟨w.heap.size + 3, 0, none⟩) (by show w.heap.size + 3 < _; omega)).trans h.aftFree, Lists.cell_below b h.met, (b.frozen (p := ⟨w.heap.size + 4, 0, none⟩) (by show w.heap.size + 4 < _; omega)).trans h.metFree, by omega, bt h.below b⟩
theorem Box.setBef {w : World} {O : Int} {a : Option Addr} {m cap : Nat} {x y : Int} {k : Nat} {w1 : World} (h : Box w O a m cap x y k w1) (v : Int) : Box w O a m cap v y k (w1.setCell ⟨w.heap.size + 2, 0, none⟩ (.int .i64 v)) := by
  refine ⟨?_, ?_, World.cell?_setCell_same _ _ _ h.bef, ?_, ?_, ?_, ?_, ?_, ?_, h.below.setCell (by show w.heap.size ≤ w.heap.size + 2; omega) _⟩
  · rw [World.cell?_setCell_other _ _ _ _ (by simp)]; exact h.old
  · rw [World.cell?_setCell_other _ _ _ _ (by simp)]; exact h.proof
  · rw [World.frozen?_setCell]; exact h.befFree
  · rw [World.cell?_setCell_other _ _ _ _ (by simp)]; exact h.aft
  · rw [World.frozen?_setCell]; exact h.aftFree
  · rw [World.cell?_setCell_other _ _ _ _ (by simp)]; exact h.met
  · rw [World.frozen?_setCell]; exact h.metFree
  · have := h.size; simp [World.setCell]; omega
theorem Box.setAft {w : World} {O : Int} {a : Option Addr} {m cap : Nat} {x y : Int} {k : Nat} {w1 : World} (h : Box w O a m cap x y k w1) (v : Int) : Box w O a m cap x v k (w1.setCell ⟨w.heap.size + 3, 0, none⟩ (.int .i64 v)) := by
  refine ⟨?_, ?_, ?_, ?_, World.cell?_setCell_same _ _ _ h.aft, ?_, ?_, ?_, ?_, h.below.setCell (by show w.heap.size ≤ w.heap.size + 3; omega) _⟩
  · rw [World.cell?_setCell_other _ _ _ _ (by simp)]; exact h.old
  · rw [World.cell?_setCell_other _ _ _ _ (by simp)]; exact h.proof
  · rw [World.cell?_setCell_other _ _ _ _ (by simp)]; exact h.bef
  · rw [World.frozen?_setCell]; exact h.befFree
  · rw [World.frozen?_setCell]; exact h.aftFree
  · rw [World.cell?_setCell_other _ _ _ _ (by simp)]; exact h.met
  · rw [World.frozen?_setCell]; exact h.metFree
  · have := h.size; simp [World.setCell]; omega
theorem Box.setMet {w : World} {O : Int} {a : Option Addr} {m cap : Nat} {x y : Int} {k : Nat} {w1 : World} (h : Box w O a m cap x y k w1) : Box w O a m cap x y (k + 1) (w1.setCell ⟨w.heap.size + 4, 0, none⟩ (.int .i64 ((k : Int) + 1))) := by
  refine ⟨?_, ?_, ?_, ?_, ?_, ?_, ?_, ?_, ?_, h.below.setCell (by show w.heap.size ≤ w.heap.size + 4; omega) _⟩
  · rw [World.cell?_setCell_other _ _ _ _ (by simp)]; exact h.old
  · rw [World.cell?_setCell_other _ _ _ _ (by simp)]; exact h.proof
  · rw [World.cell?_setCell_other _ _ _ _ (by simp)]; exact h.bef
  · rw [World.frozen?_setCell]; exact h.befFree
  · rw [World.cell?_setCell_other _ _ _ _ (by simp)]; exact h.aft
  · rw [World.frozen?_setCell]; exact h.aftFree
  · rw [World.cell?_setCell_same _ _ _ h.met]; simp
  · rw [World.frozen?_setCell]; exact h.metFree
  · have := h.size; simp [World.setCell]; omega

/-- where it stands -/
def Inv (w : World) (o : Nat) (s : Int) (p : List Int) (a : Option Addr) (m cap : Nat) (ps : List (Nat × Nat)) (w1 : World) : Prop := Box w (o : Int) a m cap (cur o s p ps).1 (cur o s p ps).2 ps.length w1

theorem enters : Enters Tryz.prog 81 := enters_of Tryz.func81 (by kernel_rfl) rfl

set_option maxHeartbeats 4000000 in
set_option maxRecDepth 100000 in
theorem told (w : World) (o : Nat) (s : Int) (p : List Int) (a : Option Addr) (m cap : Nat) (P : List (Nat × Nat)) (hl : P.length = m) (hm : m ≤ 300) (hr : Row w a m cap (ints p)) (hv : ∀ x ∈ p, Nums.valid x = true) (hs : Nums.valid s = true) :
    ∀ ps (x y : Nat) (A B : Int) w1, A = x → B = y → (ps ++ [(x, y)]) <+: P → Inv w o s p a m cap ps w1 →
      Calls Tryz.prog 81 (#[.int .i64 A, .int .i64 B] ++ #[.pointer (some ⟨w.heap.size + 1, 0, none⟩), .pointer (some ⟨w.heap.size + 4, 0, none⟩), .pointer (some ⟨w.heap.size, 0, none⟩), .pointer (some ⟨w.heap.size + 2, 0, none⟩), .pointer (some ⟨w.heap.size + 3, 0, none⟩)]) w1 fun e w' =>
        e = .returned (.tuple #[]) ∧ Inv w o s p a m cap (ps ++ [(x, y)]) w' := by
  intro ps x y A B w1 hA hB hp hI
  have hpl := hp.length_le
  rw [List.length_append, hl] at hpl
  have hpm : ps.length < m := by simp at hpl; omega
  have hln : p.length = m := by rw [← hr.1, Lists.ints_length]
  obtain ⟨b, off, rfl, hc⟩ := (hr.below hI.below).2.2 (by omega)
  have c4 := hc ps.length _ (Lists.ints_at (by omega))
  have hsn := cur_snoc o s p ps (x, y) (by omega)
  have vy : Nums.valid (p.getD ps.length 0) = true := hv _ (by rw [List.getD_eq_getElem?_getD, List.getElem?_eq_getElem (by omega)]; exact List.getElem_mem _)
  obtain ⟨v1, v2⟩ := cur_valid o s p ps hs hv
  unfold Inv at hI ⊢
  rw [hsn, List.length_append]
  show Calls _ _ _ _ fun e w' => e = .returned (.tuple #[]) ∧ Box w (o : Int) (some ⟨b, off, none⟩) m cap _ _ (ps.length + 1) w'
  clear hsn
  generalize cur o s p ps = S at hI v1 v2 ⊢
  obtain ⟨C, D⟩ := S
  simp only at hI v1 v2
  generalize p.getD ps.length 0 = Y at c4 vy ⊢
  generalize ps.length = k at c4 hI hpm ⊢
  have c0 := hI.old
  have c1 := hI.proof
  have c2 := hI.bef
  have f2 := hI.befFree
  have c3 := hI.aft
  have f3 := hI.aftFree
  have c5 := hI.met
  have f5 := hI.metFree
  have sz := hI.size
  have HI : Hid (Box w (o : Int) (some ⟨b, off, none⟩) m cap C D k w1) := hI
  have j0 : (0 : Int) ≤ (k : Int) := by omega
  have j1 : (k : Int) < (m : Int) := by omega
  have HM : Hid (Box w (o : Int) (some ⟨b, off, none⟩) m cap C D (k + 1) (w1.setCell ⟨w.heap.size + 4, 0, none⟩ (.int .i64 ((k : Int) + 1)))) := hI.setMet
  clear hc hp hpl hr hv hs hl hln hI
  show Calls Tryz.prog 81 #[.int .i64 A, .int .i64 B, .pointer (some ⟨w.heap.size + 1, 0, none⟩), .pointer (some ⟨w.heap.size + 4, 0, none⟩), .pointer (some ⟨w.heap.size, 0, none⟩), .pointer (some ⟨w.heap.size + 2, 0, none⟩), .pointer (some ⟨w.heap.size + 3, 0, none⟩)] w1 _
  by_cases h1 : y = o
  · rw [show turn o (C, D) Y (x, y) = (Y, Y) from if_pos h1]
    have i1 : (B == (o : Int)) = true := by rw [beq_iff_eq]; omega
    have HF : Hid (Box w (o : Int) (some ⟨b, off, none⟩) m cap Y Y (k + 1) (((w1.setCell ⟨w.heap.size + 4, 0, none⟩ (.int .i64 ((k : Int) + 1))).setCell ⟨w.heap.size + 2, 0, none⟩ (.int .i64 Y)).setCell ⟨w.heap.size + 3, 0, none⟩ (.int .i64 Y))) := (HM.out.setBef Y).setAft Y
    clear h1 hA hB vy v1 v2
    go_enter Tryz.func81, Tryz.ntmps81
    go_wp2_with fail
    go_end0
    exact ⟨rfl, HF.out⟩
  have i1 : (B == (o : Int)) = false := by rw [beq_eq_false_iff_ne]; omega
  by_cases h2 : o < y
  · rw [show turn o (C, D) Y (x, y) = (C, Sums.sum (Nums.nodeBytes D Y)) by unfold turn; rw [if_neg h1, if_pos h2]; rfl]
    have i2 : B > (o : Int) := by omega
    have cN := fun w => WalkMix.node_yes D Y w v2 vy
    generalize Sums.sum (Nums.nodeBytes D Y) = X at cN ⊢
    clear h1 h2 hA hB vy v1 v2
    go_enter Tryz.func81, Tryz.ntmps81
    go_wp2_with fail
    refine (cN _).mono ?_
    rintro e w2 ⟨rfl, b2⟩
    have M2 := HM.out.later b2
    have k3 := M2.aft
    have g3 := M2.aftFree
    have HF : Hid (Box w (o : Int) (some ⟨b, off, none⟩) m cap C X (k + 1) (w2.setCell ⟨w.heap.size + 3, 0, none⟩ (.int .i64 X))) := M2.setAft X
    clear M2 b2 cN
    go_wp2_with fail
    go_end0
    exact ⟨rfl, HF.out⟩
  · rw [show turn o (C, D) Y (x, y) = (Sums.sum (Nums.nodeBytes Y C), Sums.sum (Nums.nodeBytes Y D)) by unfold turn; rw [if_neg h1, if_neg h2]; rfl]
    have i2 : ¬ B > (o : Int) := by omega
    have cN := fun w => WalkMix.node_yes Y C w vy v1
    have cM := fun w => WalkMix.node_yes Y D w vy v2
    generalize Sums.sum (Nums.nodeBytes Y C) = X at cN ⊢
    generalize Sums.sum (Nums.nodeBytes Y D) = Z at cM ⊢
    clear h1 h2 hA hB vy v1 v2
    go_enter Tryz.func81, Tryz.ntmps81
    go_wp2_with fail
    refine (cN _).mono ?_
    rintro e w2 ⟨rfl, b2⟩
    have M2 := HM.out.later b2
    have k2 := M2.bef
    have g2 := M2.befFree
    have k3 := M2.aft
    have HF : Hid (Box w (o : Int) (some ⟨b, off, none⟩) m cap X D (k + 1) (w2.setCell ⟨w.heap.size + 2, 0, none⟩ (.int .i64 X))) := M2.setBef X
    clear M2 b2 cN
    go_wp2_with fail
    refine (cM _).mono ?_
    rintro e w3 ⟨rfl, b3⟩
    have M3 := HF.out.later b3
    have q3 := M3.aft
    have r3 := M3.aftFree
    have HG : Hid (Box w (o : Int) (some ⟨b, off, none⟩) m cap X Z (k + 1) (w3.setCell ⟨w.heap.size + 3, 0, none⟩ (.int .i64 Z))) := M3.setAft Z
    clear M3 b3 cM
    go_wp2_with fail
    go_end0
    exact ⟨rfl, HG.out⟩

theorem cell_new (w : World) (v : Value) (t : TypeId) (b : Nat) (h : b = w.heap.size) : (w.alloc (.cells #[v] t)).cell? ⟨b, 0, none⟩ = some v := by subst h; simp
theorem free_new (w : World) (v : Value) (t : TypeId) (b : Nat) (h : b = w.heap.size) : (w.alloc (.cells #[v] t)).frozen? ⟨b, 0, none⟩ = false := by subst h; simp

theorem start (w : World) (o : Nat) (s : Int) (p : List Int) (a : Option Addr) (m cap : Nat) :
    Inv w o s p a m cap [] (((((w.alloc (.cells #[.int .i64 (o : Int)] 3)).alloc (.cells #[.slice a m cap] 24)).alloc (.cells #[.int .i64 s] 3)).alloc (.cells #[.int .i64 s] 3)).alloc (.cells #[.int .i64 0] 3)) := by
  refine ⟨?_, ?_, ?_, ?_, ?_, ?_, ?_, ?_, by simp, ((((((Below.refl _ w).alloc (Nat.le_refl _) _).alloc (by simp) _).alloc (by simp; omega) _).alloc (by simp; omega) _).alloc (by simp; omega) _)⟩
  · rw [World.cell?_alloc_past _ _ _ (by simp <;> omega), World.cell?_alloc_past _ _ _ (by simp <;> omega), World.cell?_alloc_past _ _ _ (by simp <;> omega), World.cell?_alloc_past _ _ _ (by simp)]; exact cell_new _ _ _ _ rfl
  · rw [World.cell?_alloc_past _ _ _ (by simp <;> omega), World.cell?_alloc_past _ _ _ (by simp <;> omega), World.cell?_alloc_past _ _ _ (by simp)]; exact cell_new _ _ _ _ (by simp)
  · rw [World.cell?_alloc_past _ _ _ (by simp <;> omega), World.cell?_alloc_past _ _ _ (by simp)]; exact cell_new _ _ _ _ (by simp)
  · rw [World.frozen?_alloc_past _ _ _ (by simp <;> omega), World.frozen?_alloc_past _ _ _ (by simp)]; exact free_new _ _ _ _ (by simp)
  · rw [World.cell?_alloc_past _ _ _ (by simp)]; exact cell_new _ _ _ _ (by simp)
  · rw [World.frozen?_alloc_past _ _ _ (by simp)]; exact free_new _ _ _ _ (by simp)
  · exact cell_new _ _ _ _ (by simp)
  · exact free_new _ _ _ _ (by simp)

/-- both results lie in variables of the call's own -/
theorem ret_two {w : World} {p q : Addr} {x y : Int} (tmps : Array Value) (hp : tmps.getD 8 undef = .pointer (some p)) (hq : tmps.getD 9 undef = .pointer (some q)) (c1 : w.cell? p = some (.int .i64 x)) (c2 : w.cell? q = some (.int .i64 y)) :
    (results Tryz.f45 tmps).run Tryz.prog w = .ok (.tuple #[.int .i64 x, .int .i64 y]) w := by
  have h : Tryz.f45.results = #[.cell 8 3, .cell 9 3] := rfl
  have hp' : tmps[8]?.getD undef = .pointer (some p) := by rw [← Array.getD_eq_getD_getElem?]; exact hp
  have hq' : tmps[9]?.getD undef = .pointer (some q) := by rw [← Array.getD_eq_getD_getElem?]; exact hq
  simp only [results, h]
  simp [Sem.run_bind, hp', hq', asAddr, loadVar, isAgg, underlying, Tryz.underlying3, c1, c2, Result.andThen]

set_option maxHeartbeats 1000000 in
set_option maxRecDepth 100000 in
theorem rootsFrom_any (o n : Nat) (O N s : Int) (p : List Int) (a : Option Addr) (m cap : Nat) (w : World) (hO : O = o) (hN : N = n) (h1 : 1 ≤ o) (h2 : o ≤ n) (hn : n ≤ 200) (hm : m = gsteps o n true) (hr : Row w a m cap (ints p)) (hv : ∀ x ∈ p, Nums.valid x = true) (hs : Nums.valid s = true) :
    Calls Tryz.prog 45 #[.int .i64 s, .int .i64 O, .int .i64 N, .slice a m cap] w fun e w' => e = .returned (.tuple #[.int .i64 (oldOf s o n p true), .int .i64 (newOf s o n p true)]) ∧ Below w.heap.size w w' := by
  have hln : p.length = m := by rw [← hr.1, Lists.ints_length]
  have bl := GrowWays.parts_length o n h1 h2
  have sl := Grows.gsteps_le o n true
  have C := fun w1 => climb_any 81 #[.pointer (some ⟨w.heap.size + 1, 0, none⟩), .pointer (some ⟨w.heap.size + 4, 0, none⟩), .pointer (some ⟨w.heap.size, 0, none⟩), .pointer (some ⟨w.heap.size + 2, 0, none⟩), .pointer (some ⟨w.heap.size + 3, 0, none⟩)] enters (parts o 0 n) (Inv w o s p a m cap) (told w o s p a m cap _ (by omega) (by omega) hr hv hs) (n + 1) o 0 n O 0 N w1 [] hO rfl hN (by omega) h1 h2 hn (by rw [List.nil_append]; exact List.prefix_refl _)
  rw [List.nil_append] at C
  have HE : Hid (cur o s p (parts o 0 n) = (oldOf s o n p true, newOf s o n p true)) := cur_all o n s p h1 h2 (by omega)
  subst hO
  clear hr hv hs hN bl sl hln hm
  go_enter Tryz.func45, Tryz.ntmps45
  go_wp2_with fail
  refine (C _ (start w o s p a m cap)).mono ?_
  rintro e w2 ⟨rfl, J⟩
  unfold Inv at J
  rw [HE.out] at J
  have k2 := J.bef
  have g2 := J.befFree
  have k3 := J.aft
  have g3 := J.aftFree
  have HJ : Hid (Box w (o : Int) a m cap (oldOf s o n p true) (newOf s o n p true) (parts o 0 n).length ((w2.setCell ⟨w.heap.size + 2, 0, none⟩ (.int .i64 (oldOf s o n p true))).setCell ⟨w.heap.size + 3, 0, none⟩ (.int .i64 (newOf s o n p true)))) := (J.setBef _).setAft _
  clear C J
  go_wp2_with fail
  go_region
  all_goals
    go_wp2_with fail
    (try simp only [Exit.inBlock, Exit.then]); refine bodyPost_ret (ret_two _ rfl rfl HJ.out.bef HJ.out.aft) rfl ?_
    exact ⟨rfl, HJ.out.below.drew⟩

end Go.Proofs.YtofaegcljcpceagGreat.WalkGrowFrom
