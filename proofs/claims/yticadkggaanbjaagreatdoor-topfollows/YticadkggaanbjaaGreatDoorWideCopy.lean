/-
  Laws of no program: copy within rows whose elements take more than one cell, append of zero values, and an element put among others.
-/
import Derived.Test.YticadkggaanbjaaGreatDoorListRows
import Derived.Laws.CopyRow
import Derived.Laws.OwnMore
import Derived.Lib.AppendZerosOnto
import Derived.Lib.Overlaps
namespace Go.Proofs.YticadkggaanbjaaGreatDoor.WideCopy
open Go.RowKit
open Keeps (Kept)
variable {P : Program}

/-- a row in a block, plain memory -/
abbrev Lies (w : World) (g : Nat) (e : TypeId) (R : List Value) : Prop := w.heap[g]? = some (.cells R.toArray e (0, 0))
theorem Lies.lt {w : World} {g : Nat} {e : TypeId} {R : List Value} (h : Lies w g e R) : g < w.heap.size := (Array.getElem?_eq_some_iff.1 h).1
theorem Lies.cell {w : World} {g : Nat} {e : TypeId} {R : List Value} (h : Lies w g e R) (j : Nat) : w.cell? ⟨g, j, none⟩ = R[j]? := by
  rw [cell_of_row w g j R.toArray e (0, 0) h]
  simp
theorem Lies.frozen {w : World} {g : Nat} {e : TypeId} {R : List Value} (h : Lies w g e R) (j : Nat) : w.frozen? ⟨g, j, none⟩ = false := frozen_of_row w g j R.toArray e h
theorem Lies.kept {S : Nat → Prop} {w w' : World} {g : Nat} {e : TypeId} {R : List Value} (h : Lies w g e R) (k : Kept S w w') (hS : ¬ S g) : Lies w' g e R := by
  show w'.heap[g]? = _
  rw [k.block g h.lt hS]
  exact h
theorem Lies.shape {w : World} {g : Nat} {e : TypeId} {R : List Value} (h : Lies w g e R) : w.shape? g = some (e, R.length) := by
  simp [World.shape?, h]
theorem add_at (g o j : Nat) : (⟨g, o, none⟩ : Addr).add j = ⟨g, o + j, none⟩ := by unfold Addr.add; split <;> simp_all

/-- a row that the call owns, opened -/
theorem owns_lies {w : World} {base sz n : Nat} {e : TypeId} {v : Value} {xs : List Value} (h : w.ownsRow base e sz v n xs) (hn : 0 < n) :
    ∃ g cap R, v = .slice (some ⟨g, 0, none⟩) n cap ∧ base ≤ g ∧ Lies w g e R ∧ n ≤ cap ∧ cap ≤ maxLen ∧ R.length = cap * sz ∧ R.take (n * sz) = xs := by
  rcases h.2 with ⟨_, rfl⟩ | ⟨g, cap, cur, hv, hg, hh, hc, hm, hs, ht⟩
  · omega
  · exact ⟨g, cap, cur.toList, hv, hg, by simpa [Lies] using hh, hc, hm, by simpa using hs, ht⟩
theorem owns_of_lies {w : World} {base sz n : Nat} {e : TypeId} {g cap : Nat} {R xs : List Value} (hg : base ≤ g) (h : Lies w g e R) (hc : n ≤ cap) (hm : cap ≤ maxLen) (hl : R.length = cap * sz) (ht : R.take (n * sz) = xs) :
    w.ownsRow base e sz (.slice (some ⟨g, 0, none⟩) n cap) n xs := by
  refine ⟨?_, .inr ⟨g, cap, R.toArray, rfl, hg, h, hc, hm, by simpa using hl, ht⟩⟩
  rw [← ht, List.length_take, hl]
  have := Nat.mul_le_mul_right sz hc
  omega
theorem kept_setRow (w : World) (g : Nat) (R : Array Value) : Kept (fun k => k = g) w (w.setRow g R) := ⟨rfl, rfl, rfl, by simp, fun k _ hk => setRow_other w g k R hk⟩

/-- copy, of elements of sz cells each, into a row -/
theorem run_copy_wide (w : World) (dT sT elem e : TypeId) (sz g o : Nat) (a : Addr) (R cs : List Value) (m : Nat)
    (hu : P.underlying dT = some (.slice elem)) (hs : (P.info? elem).map (·.size) = some sz) (hg : Lies w g e R) (hn : cs.length = m * sz)
    (hsrc : ∀ j v, cs[j]? = some v → w.cell? (a.add j) = some v) (hfit : o + cs.length ≤ R.length) (h1 : ∀ v ∈ cs, v.oneCell' = true) :
    ∃ w', (∀ ty dLen dCap sLen sCap, Nat.min sLen dLen = m → (Builtin.copy_ #[dT, sT] ty #[.slice (some ⟨g, o, none⟩) dLen dCap, .slice (some a) sLen sCap]).run P w = .ok (goInt m) w') ∧
      Lies w' g e (R.take o ++ cs ++ R.drop (o + cs.length)) ∧ Kept (fun k => k = g) w w' := by
  have hst := run_storeCells_at P g o e cs 0 R.toArray w hg (by simpa using hfit) h1
  simp only [Nat.add_zero] at hst
  cases hq : P.info? elem with
  | none => simp [hq] at hs
  | some i =>
    have hi : i.size = sz := by simpa [hq] using hs
    refine ⟨w.setRow g (R.take o ++ cs ++ R.drop (o + cs.length)).toArray, fun ty dLen dCap sLen sCap hm => ?_, setRow_heap w g R.toArray _ e _ hg, kept_setRow _ _ _⟩
    have hf := run_firstCells_some (P := P) w sz m a sLen sCap cs hn hsrc
    simp [Builtin.copy_, run_underlying hu, Builtin.lenOf, sizeOf, typeInfo, hq, hi, hm, hf, hst]

/-! an element put among others -/
theorem take_three {α : Type} (a b c : List α) (n : Nat) (h : a.length + b.length = n) : (a ++ b ++ c).take n = a ++ b := by
  rw [← h, ← List.length_append, List.take_left]
/-- first those from a on move up by s, then the new one is laid there -/
theorem shift_list {α : Type} (cur xs vs : List α) (a m s : Nat) (hc : cur.take m = xs) (hroom : m + s ≤ cur.length) (ha : a ≤ m) (hv : vs.length = s) :
    let R1 := cur.take (a + s) ++ xs.drop a ++ cur.drop (a + s + (xs.drop a).length)
    (R1.take a ++ vs ++ R1.drop (a + vs.length)).take (m + s) = xs.take a ++ vs ++ xs.drop a ∧ (R1.take a ++ vs ++ R1.drop (a + vs.length)).length = cur.length ∧ R1.length = cur.length := by
  have hx : xs.length = m := by rw [← hc, List.length_take]; omega
  have hd : (xs.drop a).length = m - a := by rw [List.length_drop, hx]
  have hl : (cur.take (a + s)).length = a + s := by rw [List.length_take]; omega
  intro R1
  have hR1 : R1.length = cur.length := by
    show (cur.take (a + s) ++ xs.drop a ++ cur.drop (a + s + (xs.drop a).length)).length = _
    rw [List.length_append, List.length_append, hl, hd, List.length_drop]
    omega
  have h1 : R1.take a = xs.take a := by
    show (cur.take (a + s) ++ xs.drop a ++ cur.drop (a + s + (xs.drop a).length)).take a = _
    rw [List.append_assoc, List.take_append_of_le_length (by omega), List.take_take, ← hc, List.take_take]
    congr 1
    omega
  have h2 : R1.drop (a + s) = xs.drop a ++ cur.drop (a + s + (xs.drop a).length) := by
    show (cur.take (a + s) ++ xs.drop a ++ cur.drop (a + s + (xs.drop a).length)).drop (a + s) = _
    rw [List.append_assoc, List.drop_left' hl]
  refine ⟨?_, ?_, hR1⟩
  · rw [h1, hv, h2, ← List.append_assoc]
    exact take_three _ _ _ _ (by rw [List.length_append, List.length_take, hd, hv, hx]; omega)
  · rw [List.length_append, List.length_append, List.length_take, List.length_drop, hR1, hv]
    omega
/-- a new row: those ahead, room, and then the new one and those behind laid into it -/
theorem grow_list {α : Type} (Z xs vs : List α) (a m s N : Nat) (hx : xs.length = m) (ha : a ≤ m) (hv : vs.length = s) (hz : Z.length = N) (hN : m + s ≤ N) (hZ : Z.take a = xs.take a) :
    let R1 := Z.take a ++ vs ++ Z.drop (a + vs.length)
    (R1.take (a + s) ++ xs.drop a ++ R1.drop (a + s + (xs.drop a).length)).take (m + s) = xs.take a ++ vs ++ xs.drop a ∧ (R1.take (a + s) ++ xs.drop a ++ R1.drop (a + s + (xs.drop a).length)).length = N ∧ R1.length = N := by
  have hd : (xs.drop a).length = m - a := by rw [List.length_drop, hx]
  have hl : (xs.take a).length = a := by rw [List.length_take]; omega
  intro R1
  have hR1 : R1.length = N := by
    show (Z.take a ++ vs ++ Z.drop (a + vs.length)).length = _
    rw [List.length_append, List.length_append, hZ, hl, List.length_drop, hz, hv]
    omega
  have h1 : R1.take (a + s) = xs.take a ++ vs := by
    show (Z.take a ++ vs ++ Z.drop (a + vs.length)).take (a + s) = _
    rw [hZ]
    exact take_three _ _ _ _ (by rw [hl, hv])
  refine ⟨?_, ?_, hR1⟩
  · rw [h1]
    exact take_three _ _ _ _ (by rw [List.length_append, hl, hv, hd]; omega)
  · rw [h1, List.length_append, List.length_append, List.length_append, hl, hv, hd, List.length_drop, hR1]
    omega

/-- append of zero values where there is no room: a new row -/
theorem run_zeros_wide (w : World) (t tn ty e : TypeId) (i : TypeInfo) (z : Value) (kq kn : IntKind) (sz : Nat) (ht : P.underlying t = some (.slice e)) (htn : P.underlying tn = some (.int kn)) (hi : P.info? e = some i) (hz : i.zero = some z) (hsz : i.size = sz) (hb : i.bytes ≤ 1000) (hzs : z.cells.size = sz) (hp : 0 < sz)
    (g n cap : Nat) (xs : List Value) (hl : xs.length = n * sz) (hsrc : ∀ j v, xs[j]? = some v → w.cell? ⟨g, j, none⟩ = some v)
    (k : Nat) (h0 : 0 < k) (hroom : cap < n + k) (hbig : n + k ≤ 1000000) :
    ∃ w' c' R, (Builtin.append_ #[t, tn] ty #[.slice (some ⟨g, 0, none⟩) n cap, .int kq k]).run P w = .ok (.slice (some ⟨w.heap.size, 0, none⟩) (n + k) c') w' ∧
      Lies w' w.heap.size e R ∧ n + k ≤ c' ∧ c' ≤ maxLen ∧ R.length = c' * sz ∧ R.take (n * sz) = xs ∧ Below w.heap.size w w' := by
  have hold : (Builtin.firstCells i.size n (.slice (some ⟨g, 0, none⟩) n cap)).run P w.drew = .ok xs.toArray w.drew := by
    rw [hsz]
    exact run_firstCells_some w.drew sz n ⟨g, 0, none⟩ n cap xs hl (fun j v hj => by rw [add_at, Nat.zero_add]; exact hsrc j v hj)
  have hnext : Builtin.nextslicecap (n + k) cap * i.bytes ≤ 281474976710656 := by
    have h1 : Builtin.nextslicecap (n + k) cap * 1000 ≤ 281474976710656 := growslice_fits (by omega) (by omega)
    exact Nat.le_trans (Nat.mul_le_mul_left _ hb) h1
  have hkb : k * i.bytes ≤ 281474976710656 := Nat.le_trans (Nat.mul_le_mul (show k ≤ 1000000 by omega) hb) (by decide)
  have hr := Lib.run_append_grow_zeros w t tn ty e i z kq kn ht htn hi hz (some ⟨g, 0, none⟩) n cap xs hold k h0 (by omega) hroom (by omega) hkb hnext
  have hge := grownCap_ge w (n + k) cap e
  refine ⟨_, _, xs ++ (Builtin.zeroCells z.cells k).toList ++ (Builtin.zeroCells z.cells (grownCap w (n + k) cap e - (n + k))).toList, hr, ?_, hge, grownCap_le_maxLen w _ _ _ (by unfold maxLen; omega), ?_, ?_, ((Below.refl _ w).drew).alloc (Nat.le_refl _) _⟩
  · show (w.drew.alloc _).heap[w.drew.heap.size]? = _
    rw [heap_alloc_new]
    simp [List.append_assoc]
  · simp only [List.length_append, Array.length_toList, size_zeroCells, hzs, hl]
    rw [← Nat.add_mul, ← Nat.add_mul]
    congr 1
    omega
  · rw [List.append_assoc, ← hl, List.take_left]

end Go.Proofs.YticadkggaanbjaaGreatDoor.WideCopy
