/-
  What the program's rootFrom returns: the root that comes of a sum and a proof as long as it must be.
-/
import Derived.Test.YticadkggaanbjaaGreatDoorProofMake
import Derived.Test.YticadkggaanbjaaGreatDoorTreeRun
import Derived.Deep.RegionWith
namespace Go.Proofs.YticadkggaanbjaaGreatDoor.WalkFrom
open Go.RowKit
open Lists (Row ints bt)
open Climbs (beside)
open WalkClimb (climb_any)

/-- does a part stand on the left of the way? -/
def side (i : Nat) (q : Nat × Nat) : Bool := !decide (i < q.1)
/-- what has come by then -/
def cur (i : Nat) (s : Int) (p : List Int) (ps : List (Nat × Nat)) : Int := Ways.upL s (p.take ps.length) (ps.map (side i))
theorem cur_nil (i : Nat) (s : Int) (p : List Int) : cur i s p [] = s := rfl
theorem cur_valid (i : Nat) (s : Int) (p : List Int) (ps : List (Nat × Nat)) (hs : Nums.valid s = true) : Nums.valid (cur i s p ps) = true := Ways.upL_valid _ _ s hs
theorem cur_snoc (i : Nat) (s : Int) (p : List Int) (ps : List (Nat × Nat)) (q : Nat × Nat) (h : ps.length < p.length) : cur i s p (ps ++ [q]) = Ways.up1 (cur i s p ps) (p.getD ps.length 0) (side i q) := by
  unfold cur
  rw [List.length_append, List.map_append, show ([q] : List (Nat × Nat)).length = 1 from rfl, List.take_succ_eq_append_getElem h, List.getD_eq_getElem?_getD, List.getElem?_eq_getElem h]
  exact Ways.upL_append (p.take ps.length) (ps.map (side i)) s _ _ (by simp; omega)
theorem cur_all (i n : Nat) (s : Int) (p : List Int) (h : i < n) (hp : p.length = Ways.steps i n) : cur i s p (beside i 0 n) = Ways.upL s p (Ways.turns i n) := by
  unfold cur
  rw [Climbs.beside_len i n h, ← hp, List.take_of_length_le (Nat.le_refl _), ← Climbs.turns_of i n h]
  rfl

/-- where it stands -/
structure Inv (w : World) (i : Nat) (s : Int) (p : List Int) (a : Option Addr) (m cap : Nat) (ps : List (Nat × Nat)) (w1 : World) : Prop where
  place : w1.cell? ⟨w.heap.size, 0, none⟩ = some (.int .i64 (i : Int))
  sum : w1.cell? ⟨w.heap.size + 1, 0, none⟩ = some (.int .i64 (cur i s p ps))
  sumFree : w1.frozen? ⟨w.heap.size + 1, 0, none⟩ = false
  proof : w1.cell? ⟨w.heap.size + 2, 0, none⟩ = some (.slice a m cap)
  met : w1.cell? ⟨w.heap.size + 3, 0, none⟩ = some (.int .i64 (ps.length : Int))
  metFree : w1.frozen? ⟨w.heap.size + 3, 0, none⟩ = false
  size : w.heap.size + 4 ≤ w1.heap.size
  below : Below w.heap.size w w1

theorem enters : Enters Tryz.prog 127 := enters_of Tryz.func127 (by kernel_rfl) rfl

theorem Inv.next {w : World} {i : Nat} {s : Int} {p : List Int} {a : Option Addr} {m cap : Nat} {ps : List (Nat × Nat)} {q : Nat × Nat} {w1 w2 : World} {x : Int} (h : Inv w i s p a m cap ps w1) (b : Below w1.heap.size w1 w2) (hx : cur i s p (ps ++ [q]) = x) :
    Inv w i s p a m cap (ps ++ [q]) ((w2.setCell ⟨w.heap.size + 1, 0, none⟩ (.int .i64 x)).setCell ⟨w.heap.size + 3, 0, none⟩ (.int .i64 ((ps.length : Int) + 1))) := by
  have hs := h.size
  have c0 := Lists.cell_below b h.place
  have c1 := Lists.cell_below b h.sum
  have c2 := Lists.cell_below b h.proof
  have c3 := Lists.cell_below b h.met
  have f1 := (b.frozen (p := ⟨w.heap.size + 1, 0, none⟩) (by show w.heap.size + 1 < _; omega)).trans h.sumFree
  have f3 := (b.frozen (p := ⟨w.heap.size + 3, 0, none⟩) (by show w.heap.size + 3 < _; omega)).trans h.metFree
  have bs := b.size
  refine ⟨?_, ?_, ?_, ?_, ?_, ?_, ?_, ?_⟩
  · rw [World.cell?_setCell_other _ _ _ _ (by simp), World.cell?_setCell_other _ _ _ _ (by simp)]; exact c0
  · rw [World.cell?_setCell_other _ _ _ _ (by simp), World.cell?_setCell_same _ _ _ c1, hx]
  · rw [World.frozen?_setCell, World.frozen?_setCell]; exact f1
  · rw [World.cell?_setCell_other _ _ _ _ (by simp), World.cell?_setCell_other _ _ _ _ (by simp)]; exact c2
  · have c3' : (w2.setCell ⟨w.heap.size + 1, 0, none⟩ (.int .i64 x)).cell? ⟨w.heap.size + 3, 0, none⟩ = some (.int .i64 (ps.length : Int)) := by rw [World.cell?_setCell_other _ _ _ _ (by simp)]; exact c3
    rw [World.cell?_setCell_same _ _ _ c3']
    simp
  · rw [World.frozen?_setCell, World.frozen?_setCell]; exact f3
  · simp [World.setCell]; omega
  · exact ((bt h.below b).setCell (by show w.heap.size ≤ w.heap.size + 1; omega) _).setCell (by show w.heap.size ≤ w.heap.size + 3; omega) _

set_option maxHeartbeats 4000000 in
set_option maxRecDepth 100000 in
theorem told (w : World) (i : Nat) (s : Int) (p : List Int) (a : Option Addr) (m cap : Nat) (P : List (Nat × Nat)) (hl : P.length = m) (hm : m ≤ 200) (hr : Row w a m cap (ints p)) (hv : ∀ x ∈ p, Nums.valid x = true) (hs : Nums.valid s = true) :
    ∀ ps (x y : Nat) (A B : Int) w1, A = x → B = y → (ps ++ [(x, y)]) <+: P → Inv w i s p a m cap ps w1 →
      Calls Tryz.prog 127 (#[.int .i64 A, .int .i64 B] ++ #[.pointer (some ⟨w.heap.size, 0, none⟩), .pointer (some ⟨w.heap.size + 1, 0, none⟩), .pointer (some ⟨w.heap.size + 2, 0, none⟩), .pointer (some ⟨w.heap.size + 3, 0, none⟩)]) w1 fun e w' =>
        e = .returned (.tuple #[]) ∧ Inv w i s p a m cap (ps ++ [(x, y)]) w' := by
  intro ps x y A B w1 hA hB hp hI
  have hpl := hp.length_le
  rw [List.length_append, hl] at hpl
  have hpm : ps.length < m := by simp at hpl; omega
  have hln : p.length = m := by rw [← hr.1, Lists.ints_length]
  obtain ⟨b, off, rfl, hc⟩ := (hr.below hI.below).2.2 (by omega)
  have c4 := hc ps.length _ (Lists.ints_at (by omega))
  have hsn := cur_snoc i s p ps (x, y) (by omega)
  have vy : Nums.valid (p.getD ps.length 0) = true := hv _ (by rw [List.getD_eq_getElem?_getD, List.getElem?_eq_getElem (by omega)]; exact List.getElem_mem _)
  have vc := cur_valid i s p ps hs
  have c0 := hI.place
  have c1 := hI.sum
  have f1 := hI.sumFree
  have c2 := hI.proof
  have c3 := hI.met
  have f3 := hI.metFree
  have sz := hI.size
  have lt1 : w.heap.size + 1 < w1.heap.size := by omega
  have lt3 : w.heap.size + 3 < w1.heap.size := by omega
  have HI : Hid (Inv w i s p (some ⟨b, off, none⟩) m cap ps w1) := hI
  generalize hcur : cur i s p ps = C at c1 hsn vc
  generalize p.getD ps.length 0 = Y at c4 hsn vy
  have j0 : (0 : Int) ≤ (ps.length : Int) := by omega
  have j1 : (ps.length : Int) < (m : Int) := by omega
  show Calls Tryz.prog 127 #[.int .i64 A, .int .i64 B, .pointer (some ⟨w.heap.size, 0, none⟩), .pointer (some ⟨w.heap.size + 1, 0, none⟩), .pointer (some ⟨w.heap.size + 2, 0, none⟩), .pointer (some ⟨w.heap.size + 3, 0, none⟩)] w1 _
  by_cases hlt : i < x
  · have i1 : (i : Int) < A := by omega
    have HX : Hid (cur i s p (ps ++ [(x, y)]) = Sums.sum (Nums.nodeBytes C Y)) := by
      show _ = _
      rw [hsn, show side i (x, y) = false by simp [side, hlt]]; rfl
    have cN := fun w => WalkMix.node_yes C Y w vc vy
    generalize Sums.sum (Nums.nodeBytes C Y) = X at HX cN
    generalize hq : ps.length = k at c3 c4 j0 j1 hpm
    have HQ : Hid (ps.length = k) := hq
    clear hcur hsn hA hB hp hpl hr hv hs hI hc vy vc hl hln hlt hq
    go_enter Tryz.func127, Tryz.ntmps127
    go_wp2_with fail
    go_region_with (go_at_call 79; refine (cN _).mono ?_; rintro e w2 ⟨rfl, b2⟩; have k0 := Lists.cell_below b2 c0; have k1 := Lists.cell_below b2 c1; have k2 := Lists.cell_below b2 c2; have k3 := Lists.cell_below b2 c3; have g1 : w2.frozen? ⟨w.heap.size + 1, 0, none⟩ = false := (b2.frozen (p := ⟨w.heap.size + 1, 0, none⟩) lt1).trans f1; have g3 : w2.frozen? ⟨w.heap.size + 3, 0, none⟩ = false := (b2.frozen (p := ⟨w.heap.size + 3, 0, none⟩) lt3).trans f3)
    all_goals
      have N := Inv.next (q := (x, y)) HI.out ((Below.refl _ w1).drew.trans b2) HX.out
      rw [HQ.out] at N
      have HN : Hid (Inv w i s p (some ⟨b, off, none⟩) m cap (ps ++ [(x, y)]) ((w2.setCell ⟨w.heap.size + 1, 0, none⟩ (.int .i64 X)).setCell ⟨w.heap.size + 3, 0, none⟩ (.int .i64 ((k : Int) + 1)))) := N
      clear N HI b2 c0 c1 c2 c3 c4 f1 f3 k0 k1 k2 cN
      go_wp2_with fail
      go_end0
      exact ⟨rfl, HN.out⟩
  · have i1 : ¬ (i : Int) < A := by omega
    have HX : Hid (cur i s p (ps ++ [(x, y)]) = Sums.sum (Nums.nodeBytes Y C)) := by
      show _ = _
      rw [hsn, show side i (x, y) = true by simp [side, hlt]]; rfl
    have cN := fun w => WalkMix.node_yes Y C w vy vc
    generalize Sums.sum (Nums.nodeBytes Y C) = X at HX cN
    generalize hq : ps.length = k at c3 c4 j0 j1 hpm
    have HQ : Hid (ps.length = k) := hq
    clear hcur hsn hA hB hp hpl hr hv hs hI hc vy vc hl hln hlt hq
    go_enter Tryz.func127, Tryz.ntmps127
    go_wp2_with fail
    go_region_with (go_at_call 79; refine (cN _).mono ?_; rintro e w2 ⟨rfl, b2⟩; have k0 := Lists.cell_below b2 c0; have k1 := Lists.cell_below b2 c1; have k2 := Lists.cell_below b2 c2; have k3 := Lists.cell_below b2 c3; have g1 : w2.frozen? ⟨w.heap.size + 1, 0, none⟩ = false := (b2.frozen (p := ⟨w.heap.size + 1, 0, none⟩) lt1).trans f1; have g3 : w2.frozen? ⟨w.heap.size + 3, 0, none⟩ = false := (b2.frozen (p := ⟨w.heap.size + 3, 0, none⟩) lt3).trans f3)
    all_goals
      have N := Inv.next (q := (x, y)) HI.out ((Below.refl _ w1).drew.trans b2) HX.out
      rw [HQ.out] at N
      have HN : Hid (Inv w i s p (some ⟨b, off, none⟩) m cap (ps ++ [(x, y)]) ((w2.setCell ⟨w.heap.size + 1, 0, none⟩ (.int .i64 X)).setCell ⟨w.heap.size + 3, 0, none⟩ (.int .i64 ((k : Int) + 1)))) := N
      clear N HI b2 c0 c1 c2 c3 c4 f1 f3 k0 k1 k2 cN
      go_wp2_with fail
      go_end0
      exact ⟨rfl, HN.out⟩

theorem cell_new (w : World) (v : Value) (t : TypeId) (b : Nat) (h : b = w.heap.size) : (w.alloc (.cells #[v] t)).cell? ⟨b, 0, none⟩ = some v := by subst h; simp
theorem free_new (w : World) (v : Value) (t : TypeId) (b : Nat) (h : b = w.heap.size) : (w.alloc (.cells #[v] t)).frozen? ⟨b, 0, none⟩ = false := by subst h; simp
theorem start (w : World) (i : Nat) (s : Int) (p : List Int) (a : Option Addr) (m cap : Nat) :
    Inv w i s p a m cap [] ((((w.alloc (.cells #[.int .i64 (i : Int)] 3)).alloc (.cells #[.int .i64 s] 3)).alloc (.cells #[.slice a m cap] 45)).alloc (.cells #[.int .i64 0] 3)) := by
  refine ⟨?_, ?_, ?_, ?_, ?_, ?_, by simp, (((((Below.refl _ w).alloc (Nat.le_refl _) _).alloc (by simp) _).alloc (by simp; omega) _).alloc (by simp; omega) _)⟩
  · rw [World.cell?_alloc_past _ _ _ (by simp; omega), World.cell?_alloc_past _ _ _ (by simp; omega), World.cell?_alloc_past _ _ _ (by simp)]; exact cell_new _ _ _ _ rfl
  · rw [World.cell?_alloc_past _ _ _ (by simp), World.cell?_alloc_past _ _ _ (by simp)]; exact cell_new _ _ _ _ (by simp)
  · rw [World.frozen?_alloc_past _ _ _ (by simp), World.frozen?_alloc_past _ _ _ (by simp)]; exact free_new _ _ _ _ (by simp)
  · rw [World.cell?_alloc_past _ _ _ (by simp)]; exact cell_new _ _ _ _ (by simp)
  · exact cell_new _ _ _ _ (by simp)
  · exact free_new _ _ _ _ (by simp)

set_option maxHeartbeats 1000000 in
set_option maxRecDepth 100000 in
theorem rootFrom_any (i n : Nat) (I N s : Int) (p : List Int) (a : Option Addr) (m cap : Nat) (w : World) (hI : I = i) (hN : N = n) (hi : i < n) (hn : n ≤ 200) (hm : m = Ways.steps i n) (hr : Row w a m cap (ints p)) (hv : ∀ x ∈ p, Nums.valid x = true) (hs : Nums.valid s = true) :
    Calls Tryz.prog 74 #[.int .i64 N, .int .i64 I, .int .i64 s, .slice a m cap] w fun e w' => e = .returned (.int .i64 (Ways.upL s p (Ways.turns i n))) ∧ Below w.heap.size w w' := by
  have hln : p.length = m := by rw [← hr.1, Lists.ints_length]
  have bl := Climbs.beside_len i n hi
  have sl := Ways.steps_le _ i n (Nat.le_refl _)
  have C := fun w1 => climb_any 127 #[.pointer (some ⟨w.heap.size, 0, none⟩), .pointer (some ⟨w.heap.size + 1, 0, none⟩), .pointer (some ⟨w.heap.size + 2, 0, none⟩), .pointer (some ⟨w.heap.size + 3, 0, none⟩)] enters (beside i 0 n) (Inv w i s p a m cap) (told w i s p a m cap _ (by omega) (by omega) hr hv hs) (n + 1) i 0 n I 0 N w1 [] hI rfl hN (by omega) (by omega) hi hn (by rw [List.nil_append]; exact List.prefix_refl _)
  rw [List.nil_append] at C
  have HE : Hid (cur i s p (beside i 0 n) = Ways.upL s p (Ways.turns i n)) := cur_all i n s p hi (by omega)
  subst hI
  clear hr hv hs hN bl sl hln hm
  go_enter Tryz.func74, Tryz.ntmps74
  go_wp2_with fail
  refine (C _ (start w i s p a m cap)).mono ?_
  rintro e w2 ⟨rfl, J⟩
  have c1 := J.sum
  rw [HE.out] at c1
  have HB : Hid (Below w.heap.size w w2) := J.below
  clear C J
  go_wp2_with fail
  go_ret
  exact ⟨rfl, HB.out⟩

end Go.Proofs.YticadkggaanbjaaGreatDoor.WalkFrom

/-
  What the program's proof.Check returns, for every root, size, place, sum and proof.
-/
namespace Go.Proofs.YticadkggaanbjaaGreatDoor.WalkProofCheck
open Go.RowKit
open Lists (Row ints bt)
open WalkSteps (inside)
open WalkCheck (errv errv0 errv_pos)

theorem notSum_any (n : Int) (w : World) :
    Calls Tryz.prog 73 #[.int .i64 n] w fun e w' => e = .returned (.bool (!Nums.valid n)) ∧ w' = w := by
  cases h : Nums.valid n
  · have hh : Hid (Nums.valid n = false) := h
    clear h
    go_enter Tryz.func73, Tryz.ntmps73
    go_wp2_with (go_at_call 71; refine (WalkMix.isSum_no _ _ hh.out).mono ?_; rintro e w' ⟨rfl, rfl⟩)
    go_ret
    exact ⟨rfl, rfl⟩
  · have hh : Hid (Nums.valid n = true) := h
    clear h
    go_enter Tryz.func73, Tryz.ntmps73
    go_wp2_with (go_at_call 71; refine (WalkMix.isSum_yes _ _ hh.out).mono ?_; rintro e w' ⟨rfl, rfl⟩)
    go_ret
    exact ⟨rfl, rfl⟩

set_option maxHeartbeats 1000000 in
theorem indexBad_any (l : List Int) (a : Option Addr) (n cap : Nat) (w : World) (hn : n ≤ 17592186043904) (hr : Row w a n cap (ints l)) :
    Calls Tryz.prog 126 #[.slice a n cap, .func (.func 73) #[] #[]] w fun e w' =>
      ∃ i : Int, e = .returned (.int .i64 i) ∧ (Trees.allOk l = true → i = -1) ∧ (Trees.allOk l = false → 0 ≤ i) ∧ w' = w := by
  have hln : l.length = n := by rw [← hr.1, Lists.ints_length]
  have HR : Hid (Row w a n cap (ints l)) := hr
  clear hr
  go_enter Tryz.func126, Tryz.ntmps126
  go_wp2_with fail
  go_loop [8] (fun i => ∃ k : Nat, k ≤ n ∧ i = .int .i64 k ∧ Hid (Trees.allOk (l.take k) = true)) (fun i => n - (intOf i).toNat)
  case atStart => exact ⟨0, Nat.zero_le _, rfl, rfl⟩
  case round =>
    obtain ⟨k, hk, rfl, HA⟩ := hrel
    by_cases hlt : k < n
    · obtain ⟨b, off, rfl, hc⟩ := HR.out.2.2 (by omega)
      have hcell := hc k _ (Lists.ints_at (by omega))
      clear hc
      have HS : Hid (Trees.allOk (l.take (k + 1)) = (Trees.allOk (l.take k) && Nums.valid (l.getD k 0))) := Trees.allOk_snoc l k (by omega)
      have HN : Hid (Nums.valid (l.getD k 0) = false → Trees.allOk l = false) := Trees.allOk_no l k (by omega)
      generalize l.getD k 0 = x at hcell HS HN
      cases hx : Nums.valid x
      · have hx' : Hid (Nums.valid x = false) := hx
        have hb : (!Nums.valid x) = true := by rw [hx]; rfl
        clear hx
        go_wp2_with (go_at_call 73; refine (notSum_any _ _).mono ?_; rintro e w' ⟨rfl, rfl⟩; rw [hb])
        go_ret
        exact ⟨_, rfl, fun h => (by rw [HN.out hx'.out] at h; cases h), fun _ => by omega, rfl⟩
      · have hx' : Hid (Nums.valid x = true) := hx
        have hb : (!Nums.valid x) = false := by rw [hx]; rfl
        clear hx
        go_wp2_with (go_at_call 73; refine (notSum_any _ _).mono ?_; rintro e w' ⟨rfl, rfl⟩; rw [hb])
        go_round
        case rel => exact ⟨k + 1, by omega, by go_num, by rw [HS.out, HA.out, hx'.out]; rfl⟩
        case measure => simp [intOf]; omega
    · go_wp2_with fail
      go_ret
      exact ⟨_, rfl, fun _ => rfl, fun h => (by rw [← hln] at hlt; have := HA.out; rw [List.take_of_length_le (by omega), h] at this; cases this), rfl⟩

theorem contains_any (l : List Int) (a : Option Addr) (n cap : Nat) (w : World) (hn : n ≤ 17592186043904) (hr : Row w a n cap (ints l)) :
    Calls Tryz.prog 72 #[.slice a n cap, .func (.func 73) #[] #[]] w fun e w' => e = .returned (.bool (!Trees.allOk l)) ∧ w' = w := by
  have HR : Hid (Row w a n cap (ints l)) := hr
  clear hr
  go_enter Tryz.func72, Tryz.ntmps72
  go_wp2_with fail
  refine (indexBad_any l a n cap w hn HR.out).mono ?_
  rintro e w' ⟨i, rfl, hy, hno, rfl⟩
  cases h : Trees.allOk l
  · have h0 := hno h
    have H : Hid (Trees.allOk l = false) := h
    clear hy hno h
    go_wp2_with fail
    go_ret
    exact ⟨by rw [H.out]; rfl, rfl⟩
  · have h0 := hy h
    subst h0
    have H : Hid (Trees.allOk l = true) := h
    clear hy hno h
    go_wp2_with fail
    go_ret
    exact ⟨by rw [H.out]; rfl, rfl⟩

/-- what is wrong with a proof -/
def upE (root : Int) (n i : Nat) (sum : Int) (p : List Int) : Nat := if Ways.upL sum p (Ways.turns i n) = root then 0 else 8
def checkE (root N I sum : Int) (p : List Int) : Nat :=
  if inside I N 200 = true then
    (if Nums.valid root = true ∧ Nums.valid sum = true ∧ Trees.allOk p = true then (if p.length = Ways.steps I.toNat N.toNat then upE root N.toNat I.toNat sum p else 3) else 1)
  else 1

theorem check_range (root N I sum : Int) (p : List Int) (a : Option Addr) (m cap : Nat) (w : World) (h : inside I N 200 = false) :
    Calls Tryz.prog 16 #[.int .i64 root, .int .i64 N, .int .i64 I, .int .i64 sum, .slice a m cap] w fun e w' => e = .returned (errv (checkE root N I sum p)) ∧ Below w.heap.size w w' := by
  rw [show checkE root N I sum p = 1 by unfold checkE; rw [if_neg (by rw [h]; decide)], errv_pos 1 (by decide)]
  go_enter Tryz.func16, Tryz.ntmps16
  go_wp2_with (go_at_call 70; refine (WalkSteps.steps_no _ _ _ h).mono ?_; rintro e w1 ⟨rfl, rfl⟩)
  go_ret
  exact ⟨rfl, Below.refl _ _⟩

set_option maxHeartbeats 1000000 in
set_option maxRecDepth 100000 in
theorem check_bad (root N I sum : Int) (p : List Int) (a : Option Addr) (m cap : Nat) (w : World) (hr : Row w a m cap (ints p)) (hm : m ≤ 17592186043904) (h : inside I N 200 = true) (hb : ¬ (Nums.valid root = true ∧ Nums.valid sum = true ∧ Trees.allOk p = true)) :
    Calls Tryz.prog 16 #[.int .i64 root, .int .i64 N, .int .i64 I, .int .i64 sum, .slice a m cap] w fun e w' => e = .returned (errv (checkE root N I sum p)) ∧ Below w.heap.size w w' := by
  rw [show checkE root N I sum p = 1 by unfold checkE; rw [if_pos h, if_neg hb], errv_pos 1 (by decide)]
  obtain ⟨i, n, hI, hN, hi, hn⟩ := WalkSteps.inside_of h
  have cS := WalkSteps.steps_yes i n I N w hI hN hi (by omega)
  generalize Ways.steps i n = k at cS
  clear hI hN hi hn h
  cases h1 : Nums.valid root
  · have H1 : Hid (Nums.valid root = false) := h1
    clear h1 hb hr
    go_enter Tryz.func16, Tryz.ntmps16
    go_wp2_with fail
    refine cS.mono ?_
    rintro e w1 ⟨rfl, b1⟩
    go_wp2_with fail
    refine (WalkMix.isSum_no _ _ H1.out).mono ?_
    rintro e w2 ⟨rfl, rfl⟩
    go_wp2_with fail
    go_ret
    exact ⟨rfl, b1⟩
  cases h2 : Nums.valid sum
  · have H1 : Hid (Nums.valid root = true) := h1
    have H2 : Hid (Nums.valid sum = false) := h2
    clear h1 h2 hb hr
    go_enter Tryz.func16, Tryz.ntmps16
    go_wp2_with fail
    refine cS.mono ?_
    rintro e w1 ⟨rfl, b1⟩
    go_wp2_with fail
    refine (WalkMix.isSum_yes _ _ H1.out).mono ?_
    rintro e w2 ⟨rfl, rfl⟩
    go_wp2_with fail
    refine (WalkMix.isSum_no _ _ H2.out).mono ?_
    rintro e w2 ⟨rfl, rfl⟩
    go_wp2_with fail
    go_ret
    exact ⟨rfl, b1⟩
  · have h3 : Trees.allOk p = false := by
      cases h3 : Trees.allOk p
      · rfl
      · exact absurd ⟨h1, h2, h3⟩ hb
    have H1 : Hid (Nums.valid root = true) := h1
    have H2 : Hid (Nums.valid sum = true) := h2
    have H3 : Hid (Trees.allOk p = false) := h3
    have HR : Hid (Row w a m cap (ints p)) := hr
    clear h1 h2 h3 hb hr
    go_enter Tryz.func16, Tryz.ntmps16
    go_wp2_with fail
    refine cS.mono ?_
    rintro e w1 ⟨rfl, b1⟩
    go_wp2_with fail
    refine (WalkMix.isSum_yes _ _ H1.out).mono ?_
    rintro e w2 ⟨rfl, rfl⟩
    go_wp2_with fail
    refine (WalkMix.isSum_yes _ _ H2.out).mono ?_
    rintro e w2 ⟨rfl, rfl⟩
    go_wp2_with fail
    refine (contains_any p a m cap _ hm (HR.out.below b1)).mono ?_
    rintro e w2 ⟨rfl, rfl⟩
    rw [H3.out]
    go_wp2_with fail
    go_ret
    exact ⟨rfl, b1⟩

set_option maxHeartbeats 1000000 in
set_option maxRecDepth 100000 in
theorem check_good (root N I sum : Int) (p : List Int) (a : Option Addr) (m cap : Nat) (w : World) (hr : Row w a m cap (ints p)) (hm : m ≤ 17592186043904) (h : inside I N 200 = true) (h1 : Nums.valid root = true) (h2 : Nums.valid sum = true) (h3 : Trees.allOk p = true) :
    Calls Tryz.prog 16 #[.int .i64 root, .int .i64 N, .int .i64 I, .int .i64 sum, .slice a m cap] w fun e w' => e = .returned (errv (checkE root N I sum p)) ∧ Below w.heap.size w w' := by
  have hln : p.length = m := by rw [← hr.1, Lists.ints_length]
  have e0 : checkE root N I sum p = if p.length = Ways.steps I.toNat N.toNat then upE root N.toNat I.toNat sum p else 3 := by unfold checkE; rw [if_pos h, if_pos ⟨h1, h2, h3⟩]
  rw [e0]
  obtain ⟨i, n, hI, hN, hi, hn⟩ := WalkSteps.inside_of h
  rw [hI, hN, Int.toNat_natCast, Int.toNat_natCast, ← hI, ← hN]
  have n2 : n ≤ 200 := by omega
  have cS := WalkSteps.steps_yes i n I N w hI hN hi n2
  have H1 : Hid (Nums.valid root = true) := h1
  have H2 : Hid (Nums.valid sum = true) := h2
  have H3 : Hid (Trees.allOk p = true) := h3
  have HR : Hid (Row w a m cap (ints p)) := hr
  by_cases hl : p.length = Ways.steps i n
  · rw [if_pos hl]
    have cF := fun w1 (b1 : Below w.heap.size w w1) => WalkFrom.rootFrom_any i n I N sum p a m cap w1 hI hN hi n2 (by omega) (hr.below b1) (Trees.allOk_mem h3) h2
    have sl := Ways.steps_le _ i n (Nat.le_refl _)
    have hq : ((m : Int) != (Ways.steps i n : Nat)) = false := by rw [← hl, hln]; simp
    generalize Ways.steps i n = k at cS hq sl
    clear h h1 h2 h3 hr e0 hI hN hl hln hi hn
    by_cases he : Ways.upL sum p (Ways.turns i n) = root
    · rw [show upE root n i sum p = 0 from if_pos he, errv0]
      rw [he] at cF
      have hx : (root != root) = false := by simp
      clear he
      go_enter Tryz.func16, Tryz.ntmps16
      go_wp2_with fail
      refine cS.mono ?_
      rintro e w1 ⟨rfl, b1⟩
      go_wp2_with fail
      refine (WalkMix.isSum_yes _ _ H1.out).mono ?_
      rintro e w2 ⟨rfl, rfl⟩
      go_wp2_with fail
      refine (WalkMix.isSum_yes _ _ H2.out).mono ?_
      rintro e w2 ⟨rfl, rfl⟩
      go_wp2_with fail
      refine (contains_any p a m cap _ hm (HR.out.below b1)).mono ?_
      rintro e w2 ⟨rfl, rfl⟩
      rw [H3.out]
      go_wp2_with fail
      refine (cF _ b1).mono ?_
      rintro e w3 ⟨rfl, b3⟩
      clear cF
      go_wp2_with fail
      go_ret
      exact ⟨rfl, bt b1 b3⟩
    · rw [show upE root n i sum p = 8 from if_neg he, errv_pos 8 (by decide)]
      have hx : (Ways.upL sum p (Ways.turns i n) != root) = true := by rw [bne_iff_ne]; exact he
      generalize Ways.upL sum p (Ways.turns i n) = U at cF hx
      clear he
      go_enter Tryz.func16, Tryz.ntmps16
      go_wp2_with fail
      refine cS.mono ?_
      rintro e w1 ⟨rfl, b1⟩
      go_wp2_with fail
      refine (WalkMix.isSum_yes _ _ H1.out).mono ?_
      rintro e w2 ⟨rfl, rfl⟩
      go_wp2_with fail
      refine (WalkMix.isSum_yes _ _ H2.out).mono ?_
      rintro e w2 ⟨rfl, rfl⟩
      go_wp2_with fail
      refine (contains_any p a m cap _ hm (HR.out.below b1)).mono ?_
      rintro e w2 ⟨rfl, rfl⟩
      rw [H3.out]
      go_wp2_with fail
      refine (cF _ b1).mono ?_
      rintro e w3 ⟨rfl, b3⟩
      clear cF
      go_wp2_with fail
      go_ret
      exact ⟨rfl, bt b1 b3⟩
  · rw [if_neg hl, errv_pos 3 (by decide)]
    have sl := Ways.steps_le _ i n (Nat.le_refl _)
    have hq : ((m : Int) != (Ways.steps i n : Nat)) = true := by rw [bne_iff_ne]; omega
    generalize Ways.steps i n = k at cS hq sl
    clear h h1 h2 h3 hr e0 hI hN hl hln hi hn
    go_enter Tryz.func16, Tryz.ntmps16
    go_wp2_with fail
    refine cS.mono ?_
    rintro e w1 ⟨rfl, b1⟩
    go_wp2_with fail
    refine (WalkMix.isSum_yes _ _ H1.out).mono ?_
    rintro e w2 ⟨rfl, rfl⟩
    go_wp2_with fail
    refine (WalkMix.isSum_yes _ _ H2.out).mono ?_
    rintro e w2 ⟨rfl, rfl⟩
    go_wp2_with fail
    refine (contains_any p a m cap _ hm (HR.out.below b1)).mono ?_
    rintro e w2 ⟨rfl, rfl⟩
    rw [H3.out]
    go_wp2_with fail
    go_ret
    exact ⟨rfl, b1⟩

/-- what the program says of any proof -/
theorem check_any (root N I sum : Int) (p : List Int) (a : Option Addr) (m cap : Nat) (w : World) (hr : Row w a m cap (ints p)) (hm : m ≤ 17592186043904) :
    Calls Tryz.prog 16 #[.int .i64 root, .int .i64 N, .int .i64 I, .int .i64 sum, .slice a m cap] w fun e w' => e = .returned (errv (checkE root N I sum p)) ∧ Below w.heap.size w w' := by
  cases h : inside I N 200
  · exact check_range root N I sum p a m cap w h
  · by_cases hb : Nums.valid root = true ∧ Nums.valid sum = true ∧ Trees.allOk p = true
    · exact check_good root N I sum p a m cap w hr hm h hb.1 hb.2.1 hb.2.2
    · exact check_bad root N I sum p a m cap w hr hm h hb

end Go.Proofs.YticadkggaanbjaaGreatDoor.WalkProofCheck

