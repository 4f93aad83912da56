/-
  What the law keeps beside a tree: of each place the sum that is known, or -1, and its proof.
-/
import Derived.Test.YtlibjdkofajahaaDoorWalkPrObj
namespace Go.Proofs.YtlibjdkofajahaaDoor.WalkPrMarks
open Go.RowKit
open Lists (Row ints bt)
open Keeps (Kept owns_kept owns_set)
open WalkPrObj (row_kept)
open Prunes

def mark : Option (Int × List Int) → Int
  | none => -1
  | some v => v.1
def marks (k : Known) : List Int := k.map mark
theorem marks_length (k : Known) : (marks k).length = k.length := by simp [marks]
theorem marks_set (k : Known) (Z : Nat) (v : Option (Int × List Int)) : marks (k.set Z v) = (marks k).set Z (mark v) := by unfold marks; rw [List.map_set]
theorem ints_set (l : List Int) (Z : Nat) (x : Int) : ints (l.set Z x) = (ints l).set Z (.int .i64 x) := by unfold ints; rw [List.map_set]
theorem mark_at {k : Known} {Z : Nat} (h : Z < k.length) : (ints (marks k))[Z]? = some (.int .i64 (mark (k.getD Z none))) := by
  unfold ints marks
  rw [List.getElem?_map, List.getElem?_map, List.getElem?_eq_getElem h, List.getD_eq_getElem?_getD, List.getElem?_eq_getElem h]
  rfl

/-- a proof that lies apart from the law's own two lists and from the tree's blocks -/
structure LiesOff (w : World) (gk gp : Nat) (F : Nat → Prop) (p : List Int) (v : Value) : Prop where
  core : ∃ a c, v = .slice a p.length c ∧ Row w a p.length c (ints p) ∧ (0 < p.length → ∀ g off, a = some ⟨g, off, none⟩ → g < w.heap.size ∧ g ≠ gk ∧ g ≠ gp ∧ ¬ F g)
theorem LiesOff.kept {S F F' : Nat → Prop} {w w' : World} {gk gp : Nat} {p : List Int} {v : Value} (h : LiesOff w gk gp F p v) (q : Kept S w w') (hS : ∀ g, g ≠ gk → g ≠ gp → ¬ F g → ¬ S g) (hF : ∀ j, F' j → F j ∨ w.heap.size ≤ j) : LiesOff w' gk gp F' p v := by
  obtain ⟨a, c, h1, h2, h3⟩ := h.core
  refine ⟨a, c, h1, row_kept h2 q (fun h0 g off e => ?_), fun h0 g off e => ?_⟩
  · obtain ⟨_, z1, z2, z3⟩ := h3 h0 g off e
    exact hS g z1 z2 z3
  · obtain ⟨z0, z1, z2, z3⟩ := h3 h0 g off e
    exact ⟨Nat.lt_of_lt_of_le z0 q.size, z1, z2, fun z => by rcases hF g z with y | y; exact z3 y; omega⟩
theorem LiesOff.below {F : Nat → Prop} {w w' : World} {gk gp : Nat} {p : List Int} {v : Value} (h : LiesOff w gk gp F p v) (q : Below w.heap.size w w') : LiesOff w' gk gp F p v :=
  h.kept (Kept.of_below (fun _ => False) q) (fun _ _ _ _ z => z) fun _ z => .inl z
theorem off_old {F : Nat → Prop} {w' : World} {B gk gp : Nat} {a : Option Addr} {n c : Nat} {p : List Int} (r : Row w' a n c (ints p)) (hB : ∀ g off, 0 < n → a = some ⟨g, off, none⟩ → g < B) (hw : B ≤ w'.heap.size) (hk : B ≤ gk) (hp : B ≤ gp) (hF : ∀ j, F j → B ≤ j) : LiesOff w' gk gp F p (.slice a n c) := by
  have hl : p.length = n := by rw [← r.1, Lists.ints_length]
  subst hl
  refine ⟨a, c, rfl, r, fun h0 g off e => ?_⟩
  have := hB g off h0 e
  exact ⟨by omega, by omega, by omega, fun z => by have := hF g z; omega⟩
theorem off_new {F : Nat → Prop} {w w' : World} {gk gp : Nat} {p : List Int} {v : Value} (o : w'.ownsRow w.heap.size 3 1 v p.length (ints p)) (hk : gk < w.heap.size) (hp : gp < w.heap.size) (hF : ∀ j, F j → j < w.heap.size) : LiesOff w' gk gp F p v := by
  obtain ⟨a, c, rfl, r, z⟩ := Keeps.owns_row o
  refine ⟨a, c, rfl, r, fun h0 g off e => ?_⟩
  have := o.lt g (by rw [e]; rfl)
  exact ⟨this.2, by omega, by omega, fun z => by have := hF g z; omega⟩

/-- the law's two lists, at gk and gp, tell what is known -/
structure Mk (w : World) (B gk gp : Nat) (F : Nat → Prop) (k : Known) (vs : List Value) : Prop where
  known : w.ownsRow B 3 1 (.slice (some ⟨gk, 0, none⟩) k.length k.length) k.length (ints (marks k))
  proofs : w.ownsRow B 22 1 (.slice (some ⟨gp, 0, none⟩) k.length k.length) k.length vs
  apart : ¬ F gk ∧ ¬ F gp ∧ gk ≠ gp
  lies : gk < w.heap.size ∧ gp < w.heap.size
  rows : ∀ (Z : Nat) (s : Int) (p : List Int), k.getD Z none = some (s, p) → ∃ v, vs[Z]? = some v ∧ LiesOff w gk gp F p v
  good : ∀ (Z : Nat) (s : Int) (p : List Int), k.getD Z none = some (s, p) → 0 ≤ s ∧ p.length ≤ 200
theorem Mk.kept {S F F' : Nat → Prop} {w w' : World} {B gk gp : Nat} {k : Known} {vs : List Value} (h : Mk w B gk gp F k vs) (q : Kept S w w') (hS : ∀ g, S g → F g) (hF : ∀ j, F' j → F j ∨ w.heap.size ≤ j) : Mk w' B gk gp F' k vs := by
  obtain ⟨a1, a2, a3⟩ := h.apart
  obtain ⟨l1, l2⟩ := h.lies
  refine ⟨owns_kept h.known q fun i hi z => ?_, owns_kept h.proofs q fun i hi z => ?_, ⟨fun z => ?_, fun z => ?_, a3⟩, ⟨Nat.lt_of_lt_of_le l1 q.size, Nat.lt_of_lt_of_le l2 q.size⟩, fun Z s p e => ?_, h.good⟩
  · simp only [Value.ownBlock, Option.some.injEq] at hi
    exact a1 (hS _ (hi ▸ z))
  · simp only [Value.ownBlock, Option.some.injEq] at hi
    exact a2 (hS _ (hi ▸ z))
  · rcases hF _ z with y | y
    · exact a1 y
    · omega
  · rcases hF _ z with y | y
    · exact a2 y
    · omega
  · obtain ⟨v, e1, e2⟩ := h.rows Z s p e
    exact ⟨v, e1, e2.kept q (fun g _ _ z3 y => z3 (hS g y)) hF⟩
theorem Mk.below {F : Nat → Prop} {w w' : World} {B gk gp : Nat} {k : Known} {vs : List Value} (h : Mk w B gk gp F k vs) (q : Below w.heap.size w w') : Mk w' B gk gp F k vs :=
  h.kept (Kept.of_below (fun _ => False) q) (fun _ z => z.elim) fun _ z => .inl z
theorem Mk.sum {F : Nat → Prop} {w : World} {B gk gp : Nat} {k : Known} {vs : List Value} (h : Mk w B gk gp F k vs) {Z : Nat} (hZ : Z < k.length) : w.cell? ⟨gk, Z, none⟩ = some (.int .i64 (mark (k.getD Z none))) ∧ w.frozen? ⟨gk, Z, none⟩ = false ∧ ∃ v, vs[Z]? = some v ∧ w.cell? ⟨gp, Z, none⟩ = some v ∧ w.frozen? ⟨gp, Z, none⟩ = false := by
  obtain ⟨_, _, e1, _, _, _, _, _, c1, f1⟩ := Keeps.owns_open h.known (by omega)
  obtain ⟨_, _, e2, _, _, _, _, _, c2, f2⟩ := Keeps.owns_open h.proofs (by omega)
  simp only [Value.slice.injEq, Option.some.injEq, Addr.mk.injEq, and_true, true_and] at e1 e2
  obtain ⟨rfl, rfl⟩ := e1
  obtain ⟨rfl, rfl⟩ := e2
  have hl : vs.length = k.length := by have := h.proofs.1; omega
  exact ⟨c1 Z _ (mark_at hZ), f1 Z, vs[Z]'(by omega), List.getElem?_eq_getElem (by omega), c2 Z _ (List.getElem?_eq_getElem (by omega)), f2 Z⟩
theorem Mk.mark_neg {F : Nat → Prop} {w : World} {B gk gp : Nat} {k : Known} {vs : List Value} (h : Mk w B gk gp F k vs) (Z : Nat) : (has k Z = true → mark (k.getD Z none) = sumOf k Z ∧ 0 ≤ sumOf k Z) ∧ (has k Z = false → mark (k.getD Z none) = -1) := by
  refine ⟨fun e => ?_, fun e => by rw [(not_has e).1]; rfl⟩
  obtain ⟨s, p, e1⟩ := has_iff.1 e
  rw [(sum_of e1).1, e1]
  exact ⟨rfl, (h.good Z s p e1).1⟩

/-- a sum and a proof are laid down -/
theorem Mk.put {F : Nat → Prop} {w : World} {B gk gp : Nat} {k : Known} {vs : List Value} (h : Mk w B gk gp F k vs) {Z : Nat} (hZ : Z < k.length) {s : Int} (hs : 0 ≤ s) {p : List Int} (hp : p.length ≤ 200) {v : Value} (hv : LiesOff w gk gp F p v) :
    Mk ((w.setCell ⟨gk, Z, none⟩ (.int .i64 s)).setCell ⟨gp, Z, none⟩ v) B gk gp F (k.set Z (some (s, p))) (vs.set Z v) := by
  have hl : vs.length = k.length := by have := h.proofs.1; omega
  have q : Kept (fun j => j = gk ∨ j = gp) w ((w.setCell ⟨gk, Z, none⟩ (.int .i64 s)).setCell ⟨gp, Z, none⟩ v) := ((Kept.refl _ w).setCell (p := ⟨gk, Z, none⟩) (.inl (.inl rfl)) _).setCell (p := ⟨gp, Z, none⟩) (.inl (.inr rfl)) _
  have hne : ∀ g, g ≠ gk → g ≠ gp → ¬ F g → ¬ (g = gk ∨ g = gp) := fun g z1 z2 _ z => z.elim z1 z2
  refine ⟨?_, ?_, h.apart, ⟨Nat.lt_of_lt_of_le h.lies.1 q.size, Nat.lt_of_lt_of_le h.lies.2 q.size⟩, fun Z' s' p' e => ?_, fun Z' s' p' e => ?_⟩
  · rw [List.length_set, marks_set, ints_set]
    refine owns_kept (owns_set h.known Z (.int .i64 s)) ((Kept.refl (fun j => j = gp) _).setCell (p := ⟨gp, Z, none⟩) (.inl rfl) _) fun i hi z => ?_
    simp only [Value.ownBlock, Option.some.injEq] at hi
    exact h.apart.2.2 (hi.trans z)
  · rw [List.length_set]
    refine owns_set (owns_kept h.proofs ((Kept.refl (fun j => j = gk) _).setCell (p := ⟨gk, Z, none⟩) (.inl rfl) _) fun i hi z => ?_) Z v
    simp only [Value.ownBlock, Option.some.injEq] at hi
    exact h.apart.2.2 (z.symm.trans hi.symm)
  · by_cases hz : Z = Z'
    · subst hz
      rw [set_at k hZ] at e
      injection e with e
      injection e with e1 e2
      subst e1 e2
      exact ⟨v, List.getElem?_set_self (by omega), hv.kept q hne fun _ z => .inl z⟩
    · rw [set_other k hz] at e
      obtain ⟨u, u1, u2⟩ := h.rows Z' s' p' e
      exact ⟨u, by rw [List.getElem?_set_ne hz]; exact u1, u2.kept q hne fun _ z => .inl z⟩
  · by_cases hz : Z = Z'
    · subst hz
      rw [set_at k hZ] at e
      injection e with e
      injection e with e1 e2
      subst e1 e2
      exact ⟨hs, hp⟩
    · rw [set_other k hz] at e
      exact h.good Z' s' p' e
/-- a sum is struck -/
theorem Mk.drop {F : Nat → Prop} {w : World} {B gk gp : Nat} {k : Known} {vs : List Value} (h : Mk w B gk gp F k vs) {Z : Nat} (hZ : Z < k.length) : Mk (w.setCell ⟨gk, Z, none⟩ (.int .i64 (-1))) B gk gp F (k.set Z none) vs := by
  have q : Kept (fun j => j = gk) w (w.setCell ⟨gk, Z, none⟩ (.int .i64 (-1))) := (Kept.refl (fun j => j = gk) w).setCell (p := ⟨gk, Z, none⟩) (.inl rfl) _
  refine ⟨?_, ?_, h.apart, ⟨Nat.lt_of_lt_of_le h.lies.1 q.size, Nat.lt_of_lt_of_le h.lies.2 q.size⟩, fun Z' s' p' e => ?_, fun Z' s' p' e => ?_⟩
  · rw [List.length_set, marks_set, ints_set]
    exact owns_set h.known Z (.int .i64 (-1))
  · rw [List.length_set]
    refine owns_kept h.proofs q fun i hi z => ?_
    simp only [Value.ownBlock, Option.some.injEq] at hi
    exact h.apart.2.2 (z.symm.trans hi.symm)
  · by_cases hz : Z = Z'
    · subst hz
      rw [set_at k hZ] at e
      cases e
    · rw [set_other k hz] at e
      obtain ⟨u, u1, u2⟩ := h.rows Z' s' p' e
      exact ⟨u, u1, u2.kept q (fun g z1 _ _ z => z1 z) fun _ z => .inl z⟩
  · by_cases hz : Z = Z'
    · subst hz
      rw [set_at k hZ] at e
      cases e
    · rw [set_other k hz] at e
      exact h.good Z' s' p' e

/-- what is told of a place, as the law's lists have it -/
theorem Mk.told {F : Nat → Prop} {w : World} {B gk gp : Nat} {k : Known} {vs : List Value} (h : Mk w B gk gp F k vs) {Z : Nat} (hh : has k Z = true) : ∃ a c, vs[Z]? = some (.slice a (proofOf k Z).length c) ∧ Row w a (proofOf k Z).length c (ints (proofOf k Z)) ∧ (proofOf k Z).length ≤ 200 := by
  obtain ⟨s, p, e⟩ := has_iff.1 hh
  obtain ⟨v, v1, v2⟩ := h.rows Z s p e
  obtain ⟨a, c, rfl, r, _⟩ := v2.core
  rw [(sum_of e).2]
  exact ⟨a, c, v1, r, (h.good Z s p e).2⟩
theorem Mk.long {F : Nat → Prop} {w : World} {B gk gp : Nat} {k : Known} {vs : List Value} (h : Mk w B gk gp F k vs) (i : Int) : (proveV k i).length ≤ 200 := by
  unfold proveV
  split
  · rename_i e
    obtain ⟨_, _, q⟩ := findE_zero e
    obtain ⟨_, _, _, _, z⟩ := h.told q
    exact z
  · exact Nat.zero_le _

end Go.Proofs.YtlibjdkofajahaaDoor.WalkPrMarks
