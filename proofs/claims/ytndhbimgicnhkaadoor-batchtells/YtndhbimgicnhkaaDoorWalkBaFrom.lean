/-
  What the program's batch.rootFrom returns: the root that comes of as many sums as there are places, and of a proof as long as it must be.
-/
import Derived.Test.YtndhbimgicnhkaaDoorWalkBaOne
import Derived.Deep.DeepMust
import Derived.Deep.RegionWith
import Derived.Maps.AppendAt
import Derived.Lib.QuietBelow
import Derived.Deep.RegionLaw
namespace Go.Proofs.YtndhbimgicnhkaaDoor.WalkBaFrom
open Go.RowKit
open Go.Sort (grow)
open Lists (Row ints bt)
open Keeps (Kept owns_kept owns_row owns_open owns_take)
open BatchSets (rising)
open BatchTrips
open WalkBaWalk (walk_any)

theorem info3 : (Tryd.prog.info? 3).map (fun i => (i.zero, i.size, i.bytes)) = some (some (.int .i64 0), 1, 8) := by kernel_rfl

/-- where it stands: sums and proof lie in the first two variables, what is left of them; the third holds the roots whose node is not made yet -/
structure Inv (w : World) (q : Pile) (w1 : World) : Prop where
  sums : ∃ a n cap, w1.cell? ⟨w.heap.size, 0, none⟩ = some (.slice a n cap) ∧ Row w a n cap (ints q.sums)
  proof : ∃ a n cap, w1.cell? ⟨w.heap.size + 1, 0, none⟩ = some (.slice a n cap) ∧ Row w a n cap (ints q.proof)
  roots : ∃ v, w1.cell? ⟨w.heap.size + 2, 0, none⟩ = some v ∧ w1.ownsRow (w.heap.size + 3) 3 1 v q.roots.length (ints q.roots)
  sumsFree : w1.frozen? ⟨w.heap.size, 0, none⟩ = false
  proofFree : w1.frozen? ⟨w.heap.size + 1, 0, none⟩ = false
  rootsFree : w1.frozen? ⟨w.heap.size + 2, 0, none⟩ = false
  size : w.heap.size + 3 ≤ w1.heap.size
  below : Below w.heap.size w w1

theorem enters : Enters Tryd.prog 41 := enters_of Tryd.func41 (by kernel_rfl) rfl

/-- the rest of a row -/
theorem row_rest {w : World} {b off n cap : Nat} {x : Int} {r : List Int} (h : Row w (some ⟨b, off, none⟩) n cap (ints (x :: r))) : Row w (if cap = 1 then some ⟨b, off, none⟩ else some ⟨b, off + 1, none⟩) (n - 1) (cap - 1) (ints r) := by
  have h1 := h.cut 1 n (by have := h.1; simp [ints] at this; omega) (Nat.le_refl _)
  rw [show (ints (x :: r)).take n = ints (x :: r) by rw [← h.1, List.take_length]] at h1
  have e : (ints (x :: r)).drop 1 = ints r := rfl
  rw [e] at h1
  by_cases hc : cap = 1
  · rw [if_pos hc] at h1 ⊢
    exact h1
  · rw [if_neg hc] at h1 ⊢
    exact h1

/-- what stays when the roots grow by one behind those that are there -/
theorem grown_facts {B : Nat} {w2 wn : World} {v : Value} {o : Obj} {n : Nat} {xs : List Value} (hs : B + 3 ≤ w2.heap.size) (ho : w2.ownsRow (B + 3) 3 1 v n xs) (g : (w2.alloc o).grownBy wn v.ownBlock) (j : Nat) (hj : j < B + 3) :
    (∀ u, w2.cell? ⟨j, 0, none⟩ = some u → wn.cell? ⟨j, 0, none⟩ = some u) ∧ (w2.frozen? ⟨j, 0, none⟩ = false → wn.frozen? ⟨j, 0, none⟩ = false) := by
  have hne : some j ≠ v.ownBlock := fun h => by have := ho.lt j h.symm; omega
  refine ⟨fun u hu => g.cell ((World.cell?_alloc_past _ _ _ (by omega)).trans hu) hne, fun hf => ?_⟩
  rw [World.frozen?_of_block (w := w2.alloc o) (g.block j (by simp; omega) hne)]
  exact (World.frozen?_alloc_past _ _ _ (by omega)).trans hf

theorem addr_ne {a b : Nat} (h : a ≠ b) : (⟨a, 0, none⟩ : Addr) ≠ ⟨b, 0, none⟩ := fun e => h (congrArg Addr.block e)

/-- the roots are written anew -/
theorem Inv.put {w : World} {q : Pile} {w2 : World} {o : Obj} {wn : World} {v v0 v1 : Value} {n m : Nat} {xs : List Value} {t : List Int} (hI : Inv w q w2) (hv : w2.cell? ⟨w.heap.size + 2, 0, none⟩ = some v0) (ho : w2.ownsRow (w.heap.size + 3) 3 1 v n xs) (g : (w2.alloc o).grownBy wn v.ownBlock)
    (hm : m = t.length) (oN : wn.ownsRow (w.heap.size + 3) 3 1 v1 m (ints t)) : Inv w ⟨t, q.sums, q.proof⟩ (wn.setCell ⟨w.heap.size + 2, 0, none⟩ v1) := by
  subst hm
  have hs := hI.size
  obtain ⟨a1, n1, c1, s1, s2⟩ := hI.sums
  obtain ⟨a2, n2, c2, p1, p2⟩ := hI.proof
  have k0 := grown_facts (B := w.heap.size) hs ho g w.heap.size (by omega)
  have k1 := grown_facts (B := w.heap.size) hs ho g (w.heap.size + 1) (by omega)
  have k2 := grown_facts (B := w.heap.size) hs ho g (w.heap.size + 2) (by omega)
  refine ⟨⟨a1, n1, c1, (World.cell?_setCell_other _ _ _ _ (by first | exact addr_ne (by omega) | exact (addr_ne (by omega)).symm)).trans (k0.1 _ s1), s2⟩, ⟨a2, n2, c2, (World.cell?_setCell_other _ _ _ _ (by first | exact addr_ne (by omega) | exact (addr_ne (by omega)).symm)).trans (k1.1 _ p1), p2⟩,
    ⟨v1, World.cell?_setCell_same _ _ _ (k2.1 _ hv), ownsRow_setCell_below oN (by show w.heap.size + 2 < w.heap.size + 3; omega) _⟩, (World.frozen?_setCell _ _ _ _).trans (k0.2 hI.sumsFree), (World.frozen?_setCell _ _ _ _).trans (k1.2 hI.proofFree), (World.frozen?_setCell _ _ _ _).trans (k2.2 hI.rootsFree), ?_, ?_⟩
  · have := g.size; simp [World.setCell] at this ⊢; omega
  · exact ((hI.below.alloc hI.below.size o).grown g (by simp; omega) (fun j hj => by have := (ho.lt j hj).1; omega)).setCell (by show w.heap.size ≤ w.heap.size + 2; omega) _
/-- the first of the proof is taken -/
theorem Inv.cutProof {w : World} {q : Pile} {w2 : World} {r : List Int} (hI : Inv w q w2) {a : Option Addr} {n cap : Nat} (hr : Row w a n cap (ints r)) : Inv w ⟨q.roots, q.sums, r⟩ (w2.setCell ⟨w.heap.size + 1, 0, none⟩ (.slice a n cap)) := by
  have hs := hI.size
  obtain ⟨a1, n1, c1, s1, s2⟩ := hI.sums
  obtain ⟨a2, n2, c2, p1, p2⟩ := hI.proof
  obtain ⟨v, hv, ho⟩ := hI.roots
  exact ⟨⟨a1, n1, c1, (World.cell?_setCell_other _ _ _ _ (by first | exact addr_ne (by omega) | exact (addr_ne (by omega)).symm)).trans s1, s2⟩, ⟨a, n, cap, World.cell?_setCell_same _ _ _ p1, hr⟩,
    ⟨v, (World.cell?_setCell_other _ _ _ _ (by first | exact addr_ne (by omega) | exact (addr_ne (by omega)).symm)).trans hv, ownsRow_setCell_below ho (by show w.heap.size + 1 < w.heap.size + 3; omega) _⟩, (World.frozen?_setCell _ _ _ _).trans hI.sumsFree, (World.frozen?_setCell _ _ _ _).trans hI.proofFree, (World.frozen?_setCell _ _ _ _).trans hI.rootsFree,
    by simp [World.setCell]; omega, hI.below.setCell (by show w.heap.size ≤ w.heap.size + 1; omega) _⟩
theorem Inv.cutSums {w : World} {q : Pile} {w2 : World} {r : List Int} (hI : Inv w q w2) {a : Option Addr} {n cap : Nat} (hr : Row w a n cap (ints r)) : Inv w ⟨q.roots, r, q.proof⟩ (w2.setCell ⟨w.heap.size, 0, none⟩ (.slice a n cap)) := by
  have hs := hI.size
  obtain ⟨a1, n1, c1, s1, s2⟩ := hI.sums
  obtain ⟨a2, n2, c2, p1, p2⟩ := hI.proof
  obtain ⟨v, hv, ho⟩ := hI.roots
  exact ⟨⟨a, n, cap, World.cell?_setCell_same _ _ _ s1, hr⟩, ⟨a2, n2, c2, (World.cell?_setCell_other _ _ _ _ (by first | exact addr_ne (by omega) | exact (addr_ne (by omega)).symm)).trans p1, p2⟩,
    ⟨v, (World.cell?_setCell_other _ _ _ _ (by first | exact addr_ne (by omega) | exact (addr_ne (by omega)).symm)).trans hv, ownsRow_setCell_below ho (by show w.heap.size < w.heap.size + 3; omega) _⟩, (World.frozen?_setCell _ _ _ _).trans hI.sumsFree, (World.frozen?_setCell _ _ _ _).trans hI.proofFree, (World.frozen?_setCell _ _ _ _).trans hI.rootsFree,
    by simp [World.setCell]; omega, hI.below.setCell (by show w.heap.size ≤ w.heap.size; omega) _⟩
theorem Inv.later {w : World} {q : Pile} {w1 w2 : World} (h : Inv w q w1) (b : Below w1.heap.size w1 w2) : Inv w q w2 := by
  have hs := h.size
  obtain ⟨a1, n1, c1, s1, s2⟩ := h.sums
  obtain ⟨a2, n2, c2, p1, p2⟩ := h.proof
  obtain ⟨v, hv, ho⟩ := h.roots
  exact ⟨⟨a1, n1, c1, Lists.cell_below b s1, s2⟩, ⟨a2, n2, c2, Lists.cell_below b p1, p2⟩, ⟨v, Lists.cell_below b hv, owns_kept ho (Kept.of_below (fun _ => False) b) fun _ _ q => q⟩,
    (b.frozen (p := ⟨w.heap.size, 0, none⟩) (by show w.heap.size < _; omega)).trans h.sumsFree, (b.frozen (p := ⟨w.heap.size + 1, 0, none⟩) (by show w.heap.size + 1 < _; omega)).trans h.proofFree, (b.frozen (p := ⟨w.heap.size + 2, 0, none⟩) (by show w.heap.size + 2 < _; omega)).trans h.rootsFree, Nat.le_trans hs b.size, bt h.below b⟩

/-- append onto a slice of the call's own, as one step of a region that draws -/
theorem step_append_own {P : Program} {ops : Array Oper} {o : Oper} {a : Act} {w : World} {K : Act → World → Prop} {Q : Exit → Act → World → Prop} {E : Prop} (hgd : o.guard = none) (s x : Operand) (t : TypeId)
    (ho : o.op = .call { callee := .builtin .append, args := #[s, x], argTypes := #[t, t] })
    (base : Nat) (e : TypeId) (i : TypeInfo) (z : Value) (size bytes : Nat) (ht : P.underlying t = some (.slice e)) (hi : P.info? e = some i) (hz : i.zero = some z)
    (hsize : i.size = size) (hby : i.bytes = bytes) (hzs : z.cells.size = size) (hsz : 0 < size)
    (v : Value) (n : Nat) (xs : List Value) (hs : a.eval s = v) (hown : w.ownsRow base e size v n xs)
    (ad : Addr) (m c : Nat) (news : List Value) (hx : a.eval x = .slice (some ad) m c) (hl : news.length = m * size) (hnews : ∀ j u, news[j]? = some u → w.cell? (ad.add j) = some u) (h1 : ∀ u ∈ news, u.oneCell' = true)
    (h63 : n + m ≤ maxLen) (hbytes : (n + m) * bytes ≤ 140737488355328) (hbase : base ≤ w.heap.size)
    (h : ∀ v' w', w'.ownsRow base e size v' (n + m) (xs ++ news) → w.grownBy w' v.ownBlock → K (a.put o.dst v') w') : if Region.wanted o (yielded ops a.tmps) = true then Oper.wp P o a w K Q else E := by
  rw [if_pos (by simp [Region.wanted, hgd])]
  exact wp_append_own w s x t ho base e i z size bytes ht hi hz hsize hby hzs hsz v n xs hs hown ad m c news hx hl hnews h1 h63 hbytes hbase fun v' w' h2 h3 _ => h v' w' h2 h3

/-- behind an append to the roots -/
theorem after_push {w w2 wn : World} {q : Pile} {a1 : Option Addr} {cp m : Nat} {v0 v1 : Value} {ob : Obj} {o : List Int} {x : Int} (HI : Inv w q w2) (hv : w2.cell? ⟨w.heap.size + 2, 0, none⟩ = some v0) (ho : w2.ownsRow (w.heap.size + 3) 3 1 (.slice a1 m cp) m (ints o)) (hm : m = o.length)
    (g : (w2.alloc ob).grownBy wn (Value.slice a1 m cp).ownBlock) (oN : wn.ownsRow (w.heap.size + 3) 3 1 v1 (m + 1) (ints o ++ [.int .i64 x])) :
    ∃ a3 c3, v1 = .slice a3 (m + 1) c3 ∧ (∀ u, w2.cell? ⟨w.heap.size, 0, none⟩ = some u → wn.cell? ⟨w.heap.size, 0, none⟩ = some u) ∧ (∀ u, w2.cell? ⟨w.heap.size + 1, 0, none⟩ = some u → wn.cell? ⟨w.heap.size + 1, 0, none⟩ = some u) ∧ wn.cell? ⟨w.heap.size + 2, 0, none⟩ = some v0 ∧
      wn.frozen? ⟨w.heap.size, 0, none⟩ = false ∧ wn.frozen? ⟨w.heap.size + 1, 0, none⟩ = false ∧ wn.frozen? ⟨w.heap.size + 2, 0, none⟩ = false ∧ Inv w ⟨o ++ [x], q.sums, q.proof⟩ (wn.setCell ⟨w.heap.size + 2, 0, none⟩ (.slice a3 (m + 1) c3)) := by
  have hs := HI.size
  have k0 := grown_facts (B := w.heap.size) hs ho g w.heap.size (by omega)
  have k1 := grown_facts (B := w.heap.size) hs ho g (w.heap.size + 1) (by omega)
  have k2 := grown_facts (B := w.heap.size) hs ho g (w.heap.size + 2) (by omega)
  obtain ⟨a3, c3, rfl, _, _⟩ := owns_row oN
  have e : ints o ++ [.int .i64 x] = ints (o ++ [x]) := by simp [ints]
  rw [e] at oN
  exact ⟨a3, c3, rfl, k0.1, k1.1, k2.1 _ hv, k0.2 HI.sumsFree, k1.2 HI.proofFree, k2.2 HI.rootsFree, Inv.put HI hv ho g (by simp [hm]) oN⟩
theorem ints_snoc (o : List Int) (x : Int) : ints o ++ [.int .i64 x] = ints (o ++ [x]) := by simp [ints]

set_option maxHeartbeats 4000000 in
set_option maxRecDepth 100000 in
theorem told_told (w : World) (L H : Int) (o s p : List Int) (x : Int) (w1 : World) (h1 : o.length ≤ 400) (hI : Inv w ⟨o, s, x :: p⟩ w1) :
    Calls Tryd.prog 41 #[.int .i64 L, .int .i64 H, .int .i64 0, .pointer (some ⟨w.heap.size + 2, 0, none⟩), .pointer (some ⟨w.heap.size + 1, 0, none⟩), .pointer (some ⟨w.heap.size, 0, none⟩)] w1 fun e w' => e = .returned (.tuple #[]) ∧ Inv w ⟨o ++ [x], s, p⟩ w' := by
  obtain ⟨v, hv, ho⟩ := hI.roots
  obtain ⟨a2, n2, c2, p1, p2⟩ := hI.proof
  have hn2 : n2 = p.length + 1 := by rw [← p2.1, Lists.ints_length]; rfl
  obtain ⟨b, off, rfl, hc⟩ := (p2.below hI.below).2.2 (by omega)
  have cx := hc 0 _ (Lists.ints_at (l := x :: p) (by simp))
  rw [Nat.add_zero] at cx
  change w1.cell? ⟨b, off, none⟩ = some (.int .i64 x) at cx
  have HR : Hid (Row w (if c2 = 1 then some ⟨b, off, none⟩ else some ⟨b, off + 1, none⟩) (n2 - 1) (c2 - 1) (ints p)) := row_rest p2
  have hcap := p2.2.1
  obtain ⟨i0, hi, hz0, hz1, hz2⟩ := info_parts info3
  have HI : Hid (Inv w ⟨o, s, x :: p⟩ w1.drew) := hI.later (Below.refl _ _).drew
  have HO : Hid (w1.ownsRow (w.heap.size + 3) 3 1 v o.length (ints o)) := ho
  have hs := hI.size
  have f1 := hI.proofFree
  have f2 := hI.rootsFree
  have k0 : 0 < n2 := by omega
  obtain ⟨a1, cp, rfl, _, _⟩ := owns_row ho
  have hv' : (w1.alloc (.cells #[.int .i64 x] 3)).cell? ⟨w.heap.size + 2, 0, none⟩ = some (.slice a1 o.length cp) := Lists.cell_below ((Below.refl _ _).alloc (Nat.le_refl _) _) hv
  clear hI hc p2 ho hn2
  go_enter Tryd.func41, Tryd.ntmps41
  go_wp2_with fail
  go_region_law (refine step_append_own rfl (.tmp 38) (.tmp 42) 22 rfl (w.heap.size + 3) 3 i0 (.int .i64 0) 1 8 Tryd.underlying22 hi hz0 hz1 hz2 rfl (by decide) (.slice a1 o.length cp) o.length (ints o) rfl (HO.out.drew.alloc _) ⟨w1.heap.size, 0, none⟩ 1 1 [.int .i64 x] rfl rfl (cell_one_new _ _ _) (fun u hu => by rw [List.mem_singleton.1 hu]; rfl) (by unfold maxLen; omega) (by omega) (by simp; omega) ?_; intro v1 wn oN g0; obtain ⟨a3, c3, rfl, y0, y1, y2, z0, z1, z2, HP⟩ := after_push (w2 := w1.drew) HI.out hv HO.out.drew rfl g0 oN; clear oN g0)
  all_goals
    have q1 := y1 _ p1
    have q2 : (wn.setCell ⟨w.heap.size + 2, 0, none⟩ (.slice a3 (o.length + 1) c3)).cell? ⟨w.heap.size + 1, 0, none⟩ = some (.slice (some ⟨b, off, none⟩) n2 c2) := (World.cell?_setCell_other _ _ _ _ (by first | exact addr_ne (by omega) | exact (addr_ne (by omega)).symm)).trans q1
    have q3 : (wn.setCell ⟨w.heap.size + 2, 0, none⟩ (.slice a3 (o.length + 1) c3)).frozen? ⟨w.heap.size + 1, 0, none⟩ = false := (World.frozen?_setCell _ _ _ _).trans z1
    clear y0 y1 y2 z0 z1 z2 q1 p1 cx hv hv' HO HI f1 f2
    generalize wn.setCell ⟨w.heap.size + 2, 0, none⟩ (.slice a3 (o.length + 1) c3) = w2 at q2 q3 HP ⊢
    by_cases hc2 : c2 = 1
    · obtain rfl : n2 = 1 := by omega
      subst hc2
      have HQ : Hid (Inv w ⟨o ++ [x], s, p⟩ (w2.setCell ⟨w.heap.size + 1, 0, none⟩ (.slice (some ⟨b, off, none⟩) 0 0))) := Inv.cutProof HP HR.out
      clear HP HR
      go_wp2_with fail
      go_end0
      exact ⟨rfl, HQ.out⟩
    · have hr := HR.out
      rw [if_neg hc2] at hr
      have HQ : Hid (Inv w ⟨o ++ [x], s, p⟩ (w2.setCell ⟨w.heap.size + 1, 0, none⟩ (.slice (some ⟨b, off + 1, none⟩) (n2 - 1) (c2 - 1)))) := Inv.cutProof HP hr
      clear HP HR hr
      go_wp2_with fail
      go_end0
      exact ⟨rfl, HQ.out⟩

set_option maxHeartbeats 4000000 in
set_option maxRecDepth 100000 in
theorem told_one (w : World) (L H C : Int) (o s p : List Int) (x : Int) (w1 : World) (i1 : (C == 0) = false) (i2 : (H - L == 1) = true) (i3 : -1000 ≤ H - L) (i4 : H - L ≤ 1000) (h1 : o.length ≤ 400) (hI : Inv w ⟨o, x :: s, p⟩ w1) :
    Calls Tryd.prog 41 #[.int .i64 L, .int .i64 H, .int .i64 C, .pointer (some ⟨w.heap.size + 2, 0, none⟩), .pointer (some ⟨w.heap.size + 1, 0, none⟩), .pointer (some ⟨w.heap.size, 0, none⟩)] w1 fun e w' => e = .returned (.tuple #[]) ∧ Inv w ⟨o ++ [x], s, p⟩ w' := by
  obtain ⟨v, hv, ho⟩ := hI.roots
  obtain ⟨a2, n2, c2, p1, p2⟩ := hI.sums
  have hn2 : n2 = s.length + 1 := by rw [← p2.1, Lists.ints_length]; rfl
  obtain ⟨b, off, rfl, hc⟩ := (p2.below hI.below).2.2 (by omega)
  have cx := hc 0 _ (Lists.ints_at (l := x :: s) (by simp))
  rw [Nat.add_zero] at cx
  change w1.cell? ⟨b, off, none⟩ = some (.int .i64 x) at cx
  have HR : Hid (Row w (if c2 = 1 then some ⟨b, off, none⟩ else some ⟨b, off + 1, none⟩) (n2 - 1) (c2 - 1) (ints s)) := row_rest p2
  have hcap := p2.2.1
  obtain ⟨i0, hi, hz0, hz1, hz2⟩ := info_parts info3
  have HI : Hid (Inv w ⟨o, x :: s, p⟩ w1.drew) := hI.later (Below.refl _ _).drew
  have HO : Hid (w1.ownsRow (w.heap.size + 3) 3 1 v o.length (ints o)) := ho
  have hs := hI.size
  have f1 := hI.sumsFree
  have f2 := hI.rootsFree
  have k0 : 0 < n2 := by omega
  obtain ⟨a1, cp, rfl, _, _⟩ := owns_row ho
  have hv' : (w1.alloc (.cells #[.int .i64 x] 3)).cell? ⟨w.heap.size + 2, 0, none⟩ = some (.slice a1 o.length cp) := Lists.cell_below ((Below.refl _ _).alloc (Nat.le_refl _) _) hv
  clear hI hc p2 ho hn2
  go_enter Tryd.func41, Tryd.ntmps41
  go_wp2_with fail
  go_region_law (refine step_append_own rfl (.tmp 51) (.tmp 55) 22 rfl (w.heap.size + 3) 3 i0 (.int .i64 0) 1 8 Tryd.underlying22 hi hz0 hz1 hz2 rfl (by decide) (.slice a1 o.length cp) o.length (ints o) rfl (HO.out.drew.alloc _) ⟨w1.heap.size, 0, none⟩ 1 1 [.int .i64 x] rfl rfl (cell_one_new _ _ _) (fun u hu => by rw [List.mem_singleton.1 hu]; rfl) (by unfold maxLen; omega) (by omega) (by simp; omega) ?_; intro v1 wn oN g0; obtain ⟨a3, c3, rfl, y0, y1, y2, z0, z1, z2, HP⟩ := after_push (w2 := w1.drew) HI.out hv HO.out.drew rfl g0 oN; clear oN g0)
  all_goals
    have q1 := y0 _ p1
    have q2 : (wn.setCell ⟨w.heap.size + 2, 0, none⟩ (.slice a3 (o.length + 1) c3)).cell? ⟨w.heap.size, 0, none⟩ = some (.slice (some ⟨b, off, none⟩) n2 c2) := (World.cell?_setCell_other _ _ _ _ (by first | exact addr_ne (by omega) | exact (addr_ne (by omega)).symm)).trans q1
    have q3 : (wn.setCell ⟨w.heap.size + 2, 0, none⟩ (.slice a3 (o.length + 1) c3)).frozen? ⟨w.heap.size, 0, none⟩ = false := (World.frozen?_setCell _ _ _ _).trans z0
    clear y0 y1 y2 z0 z1 z2 q1 p1 cx hv hv' HO HI f1 f2
    generalize wn.setCell ⟨w.heap.size + 2, 0, none⟩ (.slice a3 (o.length + 1) c3) = w2 at q2 q3 HP ⊢
    by_cases hc2 : c2 = 1
    · obtain rfl : n2 = 1 := by omega
      subst hc2
      have HQ : Hid (Inv w ⟨o ++ [x], s, p⟩ (w2.setCell ⟨w.heap.size, 0, none⟩ (.slice (some ⟨b, off, none⟩) 0 0))) := Inv.cutSums HP HR.out
      clear HP HR
      go_wp2_with fail
      go_end0
      exact ⟨rfl, HQ.out⟩
    · have hr := HR.out
      rw [if_neg hc2] at hr
      have HQ : Hid (Inv w ⟨o ++ [x], s, p⟩ (w2.setCell ⟨w.heap.size, 0, none⟩ (.slice (some ⟨b, off + 1, none⟩) (n2 - 1) (c2 - 1)))) := Inv.cutSums HP hr
      clear HP HR hr
      go_wp2_with fail
      go_end0
      exact ⟨rfl, HQ.out⟩

set_option maxHeartbeats 4000000 in
set_option maxRecDepth 100000 in
theorem told_both (w : World) (L H C : Int) (o s p : List Int) (x y : Int) (w1 : World) (i1 : (C == 0) = false) (i2 : (H - L == 1) = false) (i3 : -1000 ≤ H - L) (i4 : H - L ≤ 1000) (h1 : o.length ≤ 400) (hx : Nums.valid x = true) (hy : Nums.valid y = true) (hI : Inv w ⟨o ++ [x, y], s, p⟩ w1) :
    Calls Tryd.prog 41 #[.int .i64 L, .int .i64 H, .int .i64 C, .pointer (some ⟨w.heap.size + 2, 0, none⟩), .pointer (some ⟨w.heap.size + 1, 0, none⟩), .pointer (some ⟨w.heap.size, 0, none⟩)] w1 fun e w' => e = .returned (.tuple #[]) ∧ Inv w ⟨o ++ [Ways.node x y], s, p⟩ w' := by
  obtain ⟨v, hv, ho⟩ := hI.roots
  have hlen : (o ++ [x, y]).length = o.length + 2 := by simp
  rw [hlen] at ho
  obtain ⟨g, cap, rfl, hob, hg, hgl, hcap, hmax, hcell, hfr⟩ := owns_open ho (by omega)
  have c0 : w1.cell? ⟨g, o.length, none⟩ = some (.int .i64 x) := hcell o.length _ (by simp [ints])
  have c1 : w1.cell? ⟨g, o.length + 1, none⟩ = some (.int .i64 y) := hcell (o.length + 1) _ (by simp [ints])
  have HT : Hid (∀ w2, Below w1.heap.size w1 w2 → w2.ownsRow (w.heap.size + 3) 3 1 (.slice (some ⟨g, 0, none⟩) o.length cap) o.length (ints o)) := fun w2 b => by
    have := owns_take (owns_kept ho (Kept.of_below (fun _ => False) b) fun _ _ q => q) o.length (by omega)
    rw [show (ints (o ++ [x, y])).take o.length = ints o by rw [← Lists.ints_take, List.take_left]] at this
    exact this
  have HI : Hid (Inv w ⟨o ++ [x, y], s, p⟩ w1) := hI
  have cN : ∀ d os, Calls Tryd.prog 42 #[.int .i64 x, .int .i64 y] (grow (redrawn w1 d) os) fun e w'' => e = .returned (.tuple #[.int .i64 (Ways.node x y), .nilIface]) ∧ ∃ p : Regrown, w'' = grow (redrawn w1 p.d) p.os := fun d os => Calls.regrown_of (WalkMix.node_yes _ _ _ hx hy)
  obtain ⟨i0, hi, hz0, hz1, hz2⟩ := info_parts info3
  have hs := hI.size
  generalize hN : o.length = N at *
  have HN : Hid (N = o.length) := hN.symm
  have e0 : IntKind.i64.wrap ((N : Int) + 2 - 1 - 1) = (N : Int) := by
    rw [show (N : Int) + 2 - 1 - 1 = (N : Int) by omega]
    simp only [IntKind.wrap, IntKind.signed, IntKind.bits]
    simp
    omega
  have j0 : (0 : Int) ≤ (N : Int) := by omega
  have j1 : (N : Int) < (N : Int) + 2 := by omega
  have j2 : (N : Int) + 2 - 1 < (N : Int) + 2 := by omega
  have j3 : (0 : Int) ≤ (N : Int) + 2 - 1 := by omega
  have j4 : ((N : Int) + 2 - 1).toNat = N + 1 := by omega
  clear hI ho hob hcell hfr hx hy hlen hN
  go_enter Tryd.func41, Tryd.ntmps41
  go_wp2_with fail
  have j6 : (1 : Int) ≤ (N : Int) + 2 := by omega
  have kv := fun (d : Nat) (os : Array Obj) => Lists.cell_below (below_regrown w1 d os) hv
  have kc0 := fun (d : Nat) (os : Array Obj) => Lists.cell_below (below_regrown w1 d os) c0
  have kc1 := fun (d : Nat) (os : Array Obj) => Lists.cell_below (below_regrown w1 d os) c1
  refine wp_region_quiet_below (by kernel_rfl) (by kernel_rfl) ?_
  repeat (quiet_step (fail))
  quiet_step (exact cN _ _)
  repeat (quiet_step (fail))
  refine wpQuiet_nil ?_
  intro _ hw'
  obtain ⟨⟨dq, osq⟩, hw''⟩ := hw'
  subst hw''
  have b2 : Below w1.heap.size w1 (grow (redrawn w1 dq) osq) := below_regrown _ dq osq
  have J := HI.out.later b2
  have HO := HT.out _ b2
  have hv2 := Lists.cell_below b2 hv
  have hs2 := J.size
  have HJ : Hid (Inv w ⟨o ++ [x, y], s, p⟩ (grow (redrawn w1 dq) osq)) := J
  have HO2 : Hid ((grow (redrawn w1 dq) osq).ownsRow (w.heap.size + 3) 3 1 (.slice (some ⟨g, 0, none⟩) N cap) N (ints o)) := HO
  clear J HO HT HI b2 hv c0 c1 hgl cN kv kc0 kc1
  generalize grow (redrawn w1 dq) osq = w2 at hv2 hs2 HJ HO2 ⊢
  have j5 : (N : Int) ≤ (cap : Int) := by omega
  go_wp2_with (at_builtin; go_must (refine wpList_append_own _ rfl (.tmp 31) (.tmp 33) 22 rfl (w.heap.size + 3) 3 i0 (.int .i64 0) 1 8 Tryd.underlying22 hi hz0 hz1 hz2 rfl (by decide) (.slice (some ⟨g, 0, none⟩) N cap) N (ints o) rfl (HO2.out.alloc _) ⟨w2.heap.size, 0, none⟩ 1 1 [.int .i64 (Ways.node x y)] rfl rfl (cell_one_new _ _ _) (fun u hu => by rw [List.mem_singleton.1 hu]; rfl) (by unfold maxLen; omega) (by omega) (by simp; omega) ?_); intro v1 wn oN g1 z1; clear z1; obtain ⟨a3, c3, rfl, y0, y1, y2, z0, z1, z2, HP⟩ := after_push (w2 := w2) HJ.out hv2 HO2.out HN.out g1 oN; clear y0 y1 z0 z1 oN g1)
  go_end0
  exact ⟨rfl, HP⟩

theorem told (w : World) (lo hi c : Nat) (L H C : Int) (q r : Pile) (w1 : World) (hL : L = lo) (hH : H = hi) (hC : C = c) (hb : lo ≤ 200 ∧ hi ≤ 200) (h : Ups lo hi c q r) (hI : Inv w q w1) :
    Calls Tryd.prog 41 (#[.int .i64 L, .int .i64 H, .int .i64 C] ++ #[.pointer (some ⟨w.heap.size + 2, 0, none⟩), .pointer (some ⟨w.heap.size + 1, 0, none⟩), .pointer (some ⟨w.heap.size, 0, none⟩)]) w1 fun e w' => e = .returned (.tuple #[]) ∧ Inv w r w' := by
  show Calls Tryd.prog 41 #[.int .i64 L, .int .i64 H, .int .i64 C, .pointer (some ⟨w.heap.size + 2, 0, none⟩), .pointer (some ⟨w.heap.size + 1, 0, none⟩), .pointer (some ⟨w.heap.size, 0, none⟩)] w1 _
  cases h with
  | told h1 =>
    rw [show C = 0 by omega]
    exact told_told w L H _ _ _ _ w1 h1 hI
  | one h0 h1 h2 => exact told_one w L H C _ _ _ _ w1 (by rw [beq_eq_false_iff_ne]; omega) (by rw [beq_iff_eq]; omega) (by omega) (by omega) h2 hI
  | both h0 h1 h2 hx hy => exact told_both w L H C _ _ _ _ _ w1 (by rw [beq_eq_false_iff_ne]; omega) (by rw [beq_eq_false_iff_ne]; omega) (by omega) (by omega) h2 hx hy hI

theorem cell_new (w : World) (v : Value) (t : TypeId) (b : Nat) (h : b = w.heap.size) : (w.alloc (.cells #[v] t)).cell? ⟨b, 0, none⟩ = some v := by subst h; simp
theorem free_new (w : World) (v : Value) (t : TypeId) (b : Nat) (h : b = w.heap.size) : (w.alloc (.cells #[v] t)).frozen? ⟨b, 0, none⟩ = false := by subst h; simp
theorem start {w : World} {s p : List Int} {a1 a2 : Option Addr} {n1 c1 n2 c2 : Nat} (h1 : Row w a1 n1 c1 (ints s)) (h2 : Row w a2 n2 c2 (ints p)) :
    Inv w ⟨[], s, p⟩ (((w.alloc (.cells #[.slice a1 n1 c1] 22)).alloc (.cells #[.slice a2 n2 c2] 22)).alloc (.cells #[.slice none 0 0] 22)) := by
  refine ⟨⟨a1, n1, c1, ?_, h1⟩, ⟨a2, n2, c2, ?_, h2⟩, ⟨.slice none 0 0, ?_, World.ownsRow_nil _ _ _ _⟩, ?_, ?_, ?_, by simp, ((((Below.refl _ w).alloc (Nat.le_refl _) _).alloc (by simp) _).alloc (by simp; omega) _)⟩
  · rw [World.cell?_alloc_past _ _ _ (by simp; omega), World.cell?_alloc_past _ _ _ (by simp)]; exact cell_new _ _ _ _ rfl
  · rw [World.cell?_alloc_past _ _ _ (by simp)]; exact cell_new _ _ _ _ (by simp)
  · exact cell_new _ _ _ _ (by simp)
  · rw [World.frozen?_alloc_past _ _ _ (by simp; omega), World.frozen?_alloc_past _ _ _ (by simp)]; exact free_new _ _ _ _ rfl
  · rw [World.frozen?_alloc_past _ _ _ (by simp)]; exact free_new _ _ _ _ (by simp)
  · exact free_new _ _ _ _ (by simp)

set_option maxHeartbeats 2000000 in
set_option maxRecDepth 100000 in
theorem rootFrom_any (n : Nat) (a s p : List Int) (x : Option Addr) (m cap : Nat) (xs : Option Addr) (ms cs : Nat) (xp : Option Addr) (mp cp : Nat) (w : World) (h1 : 1 ≤ n) (hn : n ≤ 200) (hr : Row w x m cap (ints a)) (hs : Row w xs ms cs (ints s)) (hp : Row w xp mp cp (ints p))
    (hm : m ≤ 400) (hris : rising a) (hin : ∀ z ∈ a, 0 ≤ z ∧ z < (n : Int)) (vs : allSums s) (vp : allSums p) (e1 : a.length = s.length) (e2 : Batches.long a 0 n = p.length) :
    Calls Tryd.prog 29 #[.int .i64 (n : Int), .slice x m cap, .slice xs ms cs, .slice xp mp cp] w fun e w' => e = .returned (.int .i64 (Batches.up a 0 n s p)) ∧ Below w.heap.size w w' := by
  have T := trip_ups hris h1 hn hin vs vp e1 e2
  have T' : Trip (fun lo hi c q r => (lo ≤ 200 ∧ hi ≤ 200) ∧ Ups lo hi c q r) 0 n a ⟨[], s, p⟩ ⟨[Batches.up a 0 n s p], [], []⟩ := trip_within T hn
  have C := walk_any 41 #[.pointer (some ⟨w.heap.size + 2, 0, none⟩), .pointer (some ⟨w.heap.size + 1, 0, none⟩), .pointer (some ⟨w.heap.size, 0, none⟩)] enters w _ (Inv w) (fun _ _ h => h.below) (fun lo hi c L H C q r w1 hL hH hC h hI => told w lo hi c L H C q r w1 hL hH hC h.1 h.2 hI) T' 0 (n : Int) x m cap _ rfl rfl hn hm hris hr (start hs hp)
  generalize Batches.up a 0 n s p = r at C
  clear T T' hr hs hp vs vp e1 e2 hin hris
  go_enter Tryd.func29, Tryd.ntmps29
  go_wp2_with fail
  refine C.mono ?_
  rintro e w2 ⟨rfl, J⟩
  obtain ⟨v, hv, ho⟩ := J.roots
  have HB : Hid (Below w.heap.size w w2) := J.below
  obtain ⟨g, cap2, rfl, _, _, _, _, _, hcell, _⟩ := owns_open ho (by simp)
  have c0 : w2.cell? ⟨g, 0, none⟩ = some (.int .i64 r) := hcell 0 _ rfl
  have hv2 : w2.cell? ⟨w.heap.size + 2, 0, none⟩ = some (.slice (some ⟨g, 0, none⟩) 1 cap2) := hv
  clear C J ho hcell hv
  go_wp2_with fail
  go_ret
  exact ⟨rfl, HB.out⟩

end Go.Proofs.YtndhbimgicnhkaaDoor.WalkBaFrom
