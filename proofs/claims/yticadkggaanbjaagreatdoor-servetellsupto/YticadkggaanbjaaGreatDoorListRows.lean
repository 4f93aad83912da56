/-
  What the walks are told of a slice whose elements take one cell each: how many there are, and what each is.
-/
import Derived.WalkKit
import Derived.Below
import Derived.ChangeSlices
import Derived.SliceStrings
import Derived.Deep.OwnRows
import Derived.Maps.AppendAt
import Derived.Test.YticadkggaanbjaaGreatDoorMirPlain
import Derived.Deep.SlicePairs
namespace Go.Proofs.YticadkggaanbjaaGreatDoor.Lists
open Go.RowKit

/-- the slice at a, of n elements, holds xs -/
def Row (w : World) (a : Option Addr) (n cap : Nat) (xs : List Value) : Prop :=
  xs.length = n ∧ n ≤ cap ∧ (0 < n → ∃ b off, a = some ⟨b, off, none⟩ ∧ ∀ j u, xs[j]? = some u → w.cell? ⟨b, off + j, none⟩ = some u)

def ints (l : List Int) : List Value := l.map (Value.int .i64)
def strs (l : List ByteArray) : List Value := l.map Value.string
theorem ints_length (l : List Int) : (ints l).length = l.length := by simp [ints]
theorem strs_length (l : List ByteArray) : (strs l).length = l.length := by simp [strs]
theorem ints_take (l : List Int) (k : Nat) : ints (l.take k) = (ints l).take k := by simp [ints]
theorem ints_drop (l : List Int) (k : Nat) : ints (l.drop k) = (ints l).drop k := by simp [ints]
theorem strs_take (l : List ByteArray) (k : Nat) : strs (l.take k) = (strs l).take k := by simp [strs]
theorem strs_drop (l : List ByteArray) (k : Nat) : strs (l.drop k) = (strs l).drop k := by simp [strs]
theorem ints_at {l : List Int} {j : Nat} (h : j < l.length) : (ints l)[j]? = some (.int .i64 (l.getD j 0)) := by simp [ints, h]
theorem strs_at {l : List ByteArray} {j : Nat} (h : j < l.length) : (strs l)[j]? = some (.string (l.getD j ByteArray.empty)) := by simp [strs, h]

theorem Row.nil (w : World) (a : Option Addr) (cap : Nat) : Row w a 0 cap [] := ⟨rfl, Nat.zero_le _, fun h => by omega⟩

theorem block_lt {w : World} {p : Addr} {u : Value} (h : w.cell? p = some u) : p.block < w.heap.size := by
  rcases Nat.lt_or_ge p.block w.heap.size with g | g
  · exact g
  · simp [World.cell?, Array.getElem?_eq_none g] at h

theorem cell_below {w w' : World} (b : Below w.heap.size w w') {p : Addr} {u : Value} (h : w.cell? p = some u) : w'.cell? p = some u := by
  rw [b.cell (block_lt h)]; exact h

theorem Row.below {w w' : World} {a : Option Addr} {n cap : Nat} {xs : List Value} (h : Row w a n cap xs) (b : Below w.heap.size w w') : Row w' a n cap xs := by
  refine ⟨h.1, h.2.1, fun h0 => ?_⟩
  obtain ⟨k, off, ha, hc⟩ := h.2.2 h0
  exact ⟨k, off, ha, fun j u hj => cell_below b (hc j u hj)⟩

theorem Row.at {w : World} {b off n cap : Nat} {xs : List Value} (h : Row w (some ⟨b, off, none⟩) n cap xs) (j : Nat) (u : Value) (hj : xs[j]? = some u) : w.cell? ⟨b, off + j, none⟩ = some u := by
  have hl : j < n := by
    rw [← h.1]; exact (List.getElem?_eq_some_iff.1 hj).1
  obtain ⟨k, o, ha, hc⟩ := h.2.2 (by omega)
  obtain ⟨rfl, rfl⟩ : b = k ∧ off = o := by simpa using ha
  exact hc j u hj

/-- the first k -/
theorem Row.take {w : World} {a : Option Addr} {n cap : Nat} {xs : List Value} (h : Row w a n cap xs) (k : Nat) (hk : k ≤ n) : Row w a k cap (xs.take k) := by
  have h1 := h.1
  have h2 := h.2.1
  refine ⟨by simp; omega, by omega, fun h0 => ?_⟩
  obtain ⟨b, off, ha, hc⟩ := h.2.2 (by omega)
  exact ⟨b, off, ha, fun j u hj => hc j u (by rw [List.getElem?_take] at hj; split at hj; exact hj; cases hj)⟩

/-- those from k on -/
theorem Row.drop {w : World} {b off n cap : Nat} {xs : List Value} (h : Row w (some ⟨b, off, none⟩) n cap xs) (k : Nat) (hk : k ≤ n) : Row w (some ⟨b, off + k, none⟩) (n - k) (cap - k) (xs.drop k) := by
  have h1 := h.1
  have h2 := h.2.1
  refine ⟨by simp; omega, by omega, fun h0 => ⟨b, off + k, rfl, fun j u hj => ?_⟩⟩
  rw [List.getElem?_drop] at hj
  have := h.at (k + j) u hj
  rw [Nat.add_assoc]
  exact this

/-- those from lo to below hi, as the slice expression spells them -/
theorem Row.cut {w : World} {a : Option Addr} {n cap : Nat} {xs : List Value} (h : Row w a n cap xs) (lo hi : Nat) (h0 : lo ≤ hi) (h1 : hi ≤ n) :
    Row w (if cap = lo then a else a.map (·.add lo)) (hi - lo) (cap - lo) ((xs.take hi).drop lo) := by
  have e1 := h.1
  have e2 := h.2.1
  refine ⟨by simp; omega, by omega, fun hn => ?_⟩
  obtain ⟨b, off, rfl, hc⟩ := h.2.2 (by omega)
  refine ⟨b, off + lo, ?_, fun j u hj => ?_⟩
  · rw [if_neg (by omega)]
    by_cases hz : lo = 0
    · subst hz; rfl
    · simp [Addr.add, hz]
  · rw [List.getElem?_drop, List.getElem?_take] at hj
    split at hj
    · rw [Nat.add_assoc]; exact hc _ _ hj
    · cases hj

/-- what the call itself owns -/
theorem Row.of_owns {w : World} {base : Nat} {e : TypeId} {a : Option Addr} {n m cap : Nat} {xs : List Value} (h : w.ownsRow base e 1 (.slice a m cap) n xs) : m = n ∧ Row w a m cap xs := by
  obtain ⟨hl, h'⟩ := h
  rw [Nat.mul_one] at hl
  rcases h' with ⟨hv, rfl⟩ | ⟨g, cap', cur, hv, _, hh, hn, hm, hs, ht⟩
  · obtain ⟨rfl, rfl, rfl⟩ : a = none ∧ m = 0 ∧ cap = 0 := by simpa using hv
    exact ⟨rfl, hl, by omega, fun h => by omega⟩
  · obtain ⟨rfl, rfl, rfl⟩ : a = some ⟨g, 0, none⟩ ∧ m = n ∧ cap = cap' := by simpa using hv
    refine ⟨rfl, hl, hn, fun _ => ⟨g, 0, rfl, fun j u hj => ?_⟩⟩
    rw [cell_of_row _ _ _ cur e (0, 0) hh]
    rw [Nat.mul_one] at ht
    rw [← ht, List.getElem?_take] at hj
    split at hj
    · simpa using hj
    · cases hj

/-- an argument, as the reading opens it -/
theorem row_ints {w : World} {x : Addr} {len cap : Nat} {zs : List Int} (hl : len ≤ zs.length) (hc : len ≤ cap) (h : ∀ i, i < zs.length → w.cell? (x.add i) = some (.int .i64 (zs.getD i 0))) : Row w (some x) len cap (ints (zs.take len)) := by
  refine ⟨by simp [ints]; omega, hc, fun h0 => ?_⟩
  obtain ⟨b, off, spot⟩ := x
  have hspot : spot = none := by simpa [Addr.add] using World.cell?_spot (h 0 (by omega))
  subst hspot
  refine ⟨b, off, rfl, fun j u hj => ?_⟩
  have hj' : j < len := by have := (List.getElem?_eq_some_iff.1 hj).1; simp [ints] at this; omega
  have := h j (by omega)
  rw [show (⟨b, off, none⟩ : Addr).add j = ⟨b, off + j, none⟩ by (unfold Addr.add; split <;> simp_all)] at this
  rw [this]
  simp [ints, hj'] at hj
  obtain ⟨y, hy, rfl⟩ := hj
  rw [List.getD_eq_getElem?_getD, hy]; rfl
theorem row_strs {w : World} {x : Addr} {len cap : Nat} {zs : List ByteArray} (hl : len ≤ zs.length) (hc : len ≤ cap) (h : ∀ i, i < zs.length → w.cell? (x.add i) = some (.string (zs.getD i ByteArray.empty))) : Row w (some x) len cap (strs (zs.take len)) := by
  refine ⟨by simp [strs]; omega, hc, fun h0 => ?_⟩
  obtain ⟨b, off, spot⟩ := x
  have hspot : spot = none := by simpa [Addr.add] using World.cell?_spot (h 0 (by omega))
  subst hspot
  refine ⟨b, off, rfl, fun j u hj => ?_⟩
  have hj' : j < len := by have := (List.getElem?_eq_some_iff.1 hj).1; simp [strs] at this; omega
  have := h j (by omega)
  rw [show (⟨b, off, none⟩ : Addr).add j = ⟨b, off + j, none⟩ by (unfold Addr.add; split <;> simp_all)] at this
  rw [this]
  simp [strs, hj'] at hj
  obtain ⟨y, hy, rfl⟩ := hj
  rw [List.getD_eq_getElem?_getD, hy]; rfl

theorem bt {w a b : World} (h : Below w.heap.size w a) (k : Below a.heap.size a b) : Below w.heap.size w b := h.trans (k.mono h.size)

end Go.Proofs.YticadkggaanbjaaGreatDoor.Lists

/-
  What stays when an object of the call's own is written: all blocks but some. And what the walks are told of a row that the call owns.
-/
namespace Go.Proofs.YticadkggaanbjaaGreatDoor.Keeps
open Go.RowKit
open Lists (Row ints)

/-- of the blocks that were there all stay as they were, but for those of S -/
structure Kept (S : Nat → Prop) (w w' : World) : Prop where
  os : w'.os = w.os
  tape : w'.tape = w.tape
  output : w'.output = w.output
  size : w.heap.size ≤ w'.heap.size
  block : ∀ k, k < w.heap.size → ¬ S k → w'.heap[k]? = w.heap[k]?

theorem Kept.refl (S : Nat → Prop) (w : World) : Kept S w w := ⟨rfl, rfl, rfl, Nat.le_refl _, fun _ _ _ => rfl⟩
theorem Kept.trans {S T : Nat → Prop} {a b c : World} (h : Kept S a b) (k : Kept T b c) (hT : ∀ i, T i → S i ∨ a.heap.size ≤ i) : Kept S a c :=
  ⟨k.os.trans h.os, k.tape.trans h.tape, k.output.trans h.output, Nat.le_trans h.size k.size, fun i hi hS =>
    (k.block i (Nat.lt_of_lt_of_le hi h.size) (fun ht => by rcases hT i ht with q | q; exact hS q; omega)).trans (h.block i hi hS)⟩
theorem Kept.mono {S T : Nat → Prop} {a b : World} (h : Kept S a b) (hT : ∀ i, S i → T i) : Kept T a b :=
  ⟨h.os, h.tape, h.output, h.size, fun i hi hS => h.block i hi fun q => hS (hT i q)⟩
theorem Kept.of_below {w w' : World} (S : Nat → Prop) (b : Below w.heap.size w w') : Kept S w w' := ⟨b.os, b.tape, b.output, b.size, fun k hk _ => b.block k hk⟩
theorem Kept.then {S : Nat → Prop} {a b c : World} (h : Kept S a b) (k : Below b.heap.size b c) : Kept S a c := h.trans (Kept.of_below S k) fun _ q => .inl q
theorem Kept.below {S : Nat → Prop} {w w' : World} {B : Nat} (h : Kept S w w') (hS : ∀ k, S k → B ≤ k) (hB : B ≤ w.heap.size) : Below B w w' :=
  ⟨h.os, h.tape, h.output, h.size, fun k hk => h.block k (by omega) fun q => by have := hS k q; omega⟩
theorem Kept.alloc {S : Nat → Prop} {a w : World} (h : Kept S a w) (o : Obj) : Kept S a (w.alloc o) := h.then ((Below.refl _ _).alloc (Nat.le_refl _) o)
theorem Kept.drew {S : Nat → Prop} {a w : World} (h : Kept S a w) : Kept S a w.drew := h.then (Below.refl _ _).drew
theorem Kept.setCell {S : Nat → Prop} {a w : World} (h : Kept S a w) {p : Addr} (hp : S p.block ∨ a.heap.size ≤ p.block) (u : Value) : Kept S a (w.setCell p u) :=
  h.trans (T := fun k => k = p.block) ⟨rfl, rfl, rfl, by simp [World.setCell], fun k _ hk => Below.heap_setCell _ _ _ _ hk⟩ (by rintro i rfl; exact hp)
theorem Kept.grown {S : Nat → Prop} {a w w' : World} {row : Option Nat} (h : Kept S a w) (hg : w.grownBy w' row) (hr : ∀ k, row = some k → S k ∨ a.heap.size ≤ k) : Kept S a w' :=
  h.trans (T := fun k => row = some k) ⟨hg.os, hg.tape, hg.output, hg.size, fun k hk hn => hg.block k hk fun e => hn e.symm⟩ hr
theorem Kept.cell {S : Nat → Prop} {w w' : World} (h : Kept S w w') {p : Addr} (hp : p.block < w.heap.size) (hS : ¬ S p.block) : w'.cell? p = w.cell? p := World.cell?_of_block (w := w) (h.block _ hp hS)

/-- what the call owns stays, if it is none of S -/
theorem owns_kept {S : Nat → Prop} {w w' : World} {base : Nat} {e : TypeId} {sz : Nat} {v : Value} {n : Nat} {xs : List Value} (h : w.ownsRow base e sz v n xs) (k : Kept S w w') (hS : ∀ i, v.ownBlock = some i → ¬ S i) : w'.ownsRow base e sz v n xs := by
  refine ⟨h.1, ?_⟩
  rcases h.2 with h2 | ⟨g, cap, cur, hv, hg, hh, r⟩
  · exact .inl h2
  · refine .inr ⟨g, cap, cur, hv, hg, ?_, r⟩
    rw [k.block g (Array.getElem?_eq_some_iff.1 hh).1 (hS g (by rw [hv]; rfl))]
    exact hh
theorem owns_base {w : World} {base base' : Nat} {e : TypeId} {sz : Nat} {v : Value} {n : Nat} {xs : List Value} (h : w.ownsRow base e sz v n xs) (hb : base' ≤ base) : w.ownsRow base' e sz v n xs := by
  refine ⟨h.1, ?_⟩
  rcases h.2 with h2 | ⟨g, cap, cur, hv, hg, r⟩
  · exact .inl h2
  · exact .inr ⟨g, cap, cur, hv, by omega, r⟩

/-- a row that the call owns, as the walk reads it: at its own block's head, its cells, none frozen -/
theorem owns_open {w : World} {base : Nat} {e : TypeId} {v : Value} {n : Nat} {xs : List Value} (h : w.ownsRow base e 1 v n xs) (hn : 0 < n) :
    ∃ g cap, v = .slice (some ⟨g, 0, none⟩) n cap ∧ v.ownBlock = some g ∧ base ≤ g ∧ g < w.heap.size ∧ n ≤ cap ∧ cap ≤ maxLen ∧ (∀ j u, xs[j]? = some u → w.cell? ⟨g, j, none⟩ = some u) ∧ ∀ j, w.frozen? ⟨g, j, none⟩ = false := by
  obtain ⟨hl, h2⟩ := h
  rw [Nat.mul_one] at hl
  rcases h2 with ⟨_, rfl⟩ | ⟨g, cap, cur, hv, hg, hh, hc, hm, hs, ht⟩
  · omega
  · refine ⟨g, cap, hv, by rw [hv]; rfl, hg, (Array.getElem?_eq_some_iff.1 hh).1, hc, hm, fun j u hj => ?_, fun j => by simp [World.frozen?, hh]⟩
    rw [Nat.mul_one] at ht
    rw [cell_of_row w g j cur e (0, 0) hh]
    rw [← ht, List.getElem?_take] at hj
    split at hj
    · simpa using hj
    · cases hj
/-- one element is written -/
theorem owns_set {w : World} {base g : Nat} {e : TypeId} {n cap : Nat} {xs : List Value} (h : w.ownsRow base e 1 (.slice (some ⟨g, 0, none⟩) n cap) n xs) (j : Nat) (u : Value) :
    (w.setCell ⟨g, j, none⟩ u).ownsRow base e 1 (.slice (some ⟨g, 0, none⟩) n cap) n (xs.set j u) := by
  obtain ⟨hl, h2⟩ := h
  rw [Nat.mul_one] at hl
  refine ⟨by simp [hl], ?_⟩
  rcases h2 with ⟨hv, _⟩ | ⟨g', cap', cur, hv, hg, hh, hc, hm, hs, ht⟩
  · cases hv
  · obtain ⟨rfl, rfl⟩ : g = g' ∧ cap = cap' := by simpa using hv
    refine .inr ⟨g, cap, cur.setIfInBounds j u, rfl, hg, ?_, hc, hm, by simpa using hs, ?_⟩
    · simp [World.setCell, Array.getElem?_modify, hh]
    · rw [Nat.mul_one] at ht ⊢
      rw [Array.toList_setIfInBounds, List.take_set, ht]
/-- the first ones alone -/
theorem owns_take {w : World} {base g : Nat} {e : TypeId} {n cap : Nat} {xs : List Value} (h : w.ownsRow base e 1 (.slice (some ⟨g, 0, none⟩) n cap) n xs) (m : Nat) (hm : m ≤ n) :
    w.ownsRow base e 1 (.slice (some ⟨g, 0, none⟩) m cap) m (xs.take m) := by
  obtain ⟨hl, h2⟩ := h
  rw [Nat.mul_one] at hl
  refine ⟨by simp [hl]; omega, ?_⟩
  rcases h2 with ⟨hv, _⟩ | ⟨g', cap', cur, hv, hg, hh, hc, hmx, hs, ht⟩
  · cases hv
  · obtain ⟨rfl, rfl⟩ : g = g' ∧ cap = cap' := by simpa using hv
    refine .inr ⟨g, cap, cur, rfl, hg, hh, by omega, hmx, hs, ?_⟩
    rw [Nat.mul_one] at ht ⊢
    rw [← ht, List.take_take, Nat.min_eq_left hm]
theorem owns_row {w : World} {base : Nat} {e : TypeId} {v : Value} {n : Nat} {xs : List Value} (h : w.ownsRow base e 1 v n xs) : ∃ a c, v = .slice a n c ∧ Row w a n c xs ∧ (∀ k, a = some ⟨k, 0, none⟩ → v.ownBlock = some k) := by
  rcases h.2 with ⟨rfl, rfl⟩ | ⟨g, cap, cur, rfl, _⟩
  · exact ⟨none, 0, rfl, (Row.of_owns h).2, fun k hk => by cases hk⟩
  · exact ⟨_, _, rfl, (Row.of_owns h).2, fun k hk => by simp only [Option.some.injEq, Addr.mk.injEq] at hk; rw [← hk.1]; rfl⟩

end Go.Proofs.YticadkggaanbjaaGreatDoor.Keeps

/-
  What the walks are told of a slice whose elements take more than one cell each: how many there are, and what each cell is.
-/
namespace Go.Proofs.YticadkggaanbjaaGreatDoor.Wides
open Go.RowKit
open Lists (Row cell_below)

/-- the slice at a, of n elements of s cells each, holds the cells xs -/
def Wide (s : Nat) (w : World) (a : Option Addr) (n cap : Nat) (xs : List Value) : Prop :=
  xs.length = n * s ∧ n ≤ cap ∧ (0 < n → ∃ b off, a = some ⟨b, off, none⟩ ∧ ∀ j u, xs[j]? = some u → w.cell? ⟨b, off + j, none⟩ = some u)

theorem Wide.nil (s : Nat) (w : World) (a : Option Addr) (cap : Nat) : Wide s w a 0 cap [] := ⟨by simp, Nat.zero_le _, fun h => by omega⟩
theorem Wide.below {s : Nat} {w w' : World} {a : Option Addr} {n cap : Nat} {xs : List Value} (h : Wide s w a n cap xs) (b : Below w.heap.size w w') : Wide s w' a n cap xs := by
  refine ⟨h.1, h.2.1, fun h0 => ?_⟩
  obtain ⟨k, off, ha, hc⟩ := h.2.2 h0
  exact ⟨k, off, ha, fun j u hj => cell_below b (hc j u hj)⟩
/-- what the call itself owns -/
theorem Wide.of_owns {s : Nat} {w : World} {base : Nat} {e : TypeId} {a : Option Addr} {n m cap : Nat} {xs : List Value} (h : w.ownsRow base e s (.slice a m cap) n xs) : m = n ∧ Wide s w a m cap xs := by
  obtain ⟨hl, h'⟩ := h
  rcases h' with ⟨hv, rfl⟩ | ⟨g, cap', cur, hv, _, hh, hn, hm, hs, ht⟩
  · obtain ⟨rfl, rfl, rfl⟩ : a = none ∧ m = 0 ∧ cap = 0 := by simpa using hv
    exact ⟨rfl, hl, by omega, fun h => by omega⟩
  · obtain ⟨rfl, rfl, rfl⟩ : a = some ⟨g, 0, none⟩ ∧ m = n ∧ cap = cap' := by simpa using hv
    refine ⟨rfl, hl, hn, fun _ => ⟨g, 0, rfl, fun j u hj => ?_⟩⟩
    rw [cell_of_row _ _ _ cur e (0, 0) hh]
    rw [← ht, List.getElem?_take] at hj
    split at hj
    · simpa using hj
    · cases hj
theorem owns_wide {s : Nat} {w : World} {base : Nat} {e : TypeId} {v : Value} {n : Nat} {xs : List Value} (h : w.ownsRow base e s v n xs) : ∃ a c, v = .slice a n c ∧ Wide s w a n c xs := by
  rcases h.2 with ⟨rfl, rfl⟩ | ⟨g, cap, cur, rfl, _⟩
  · exact ⟨none, 0, rfl, (Wide.of_owns h).2⟩
  · exact ⟨_, _, rfl, (Wide.of_owns h).2⟩
theorem Wide.len {s : Nat} {w : World} {a : Option Addr} {n cap : Nat} {xs : List Value} (h : Wide s w a n cap xs) : xs.length = n * s := h.1

/-- where what the call owns lies -/
theorem owns_fresh {s : Nat} {w : World} {base : Nat} {e : TypeId} {a : Option Addr} {m n c : Nat} {xs : List Value} (h : w.ownsRow base e s (.slice a m c) n xs) : ∀ x, a = some x → base ≤ x.block := by
  rintro x rfl
  rcases h.2 with ⟨h2, _⟩ | ⟨g, cap, cur, hv, hg, _⟩
  · cases h2
  · simp only [Value.slice.injEq, Option.some.injEq] at hv
    rw [hv.1]
    exact hg

end Go.Proofs.YticadkggaanbjaaGreatDoor.Wides

/-
  What the walks are told of a slice of entries: two cells each; and how an argument of that type is read.
-/
namespace Go.Proofs.YticadkggaanbjaaGreatDoor.EntRows
open Go.RowKit
open Wides (Wide)
open Entries (Entry)

def cells : List Entry → List Value
  | [] => []
  | e :: l => .int .i64 e.1 :: .string e.2 :: cells l
theorem cells_length : ∀ l : List Entry, (cells l).length = l.length * 2
  | [] => rfl
  | e :: l => by simp [cells, cells_length l]; omega
theorem cells_append : ∀ a b : List Entry, cells (a ++ b) = cells a ++ cells b
  | [], b => rfl
  | e :: a, b => by simp [cells, cells_append a b]
theorem cells_at : ∀ (l : List Entry) (j : Nat) (h : j < l.length), (cells l)[j * 2]? = some (.int .i64 (l[j]).1) ∧ (cells l)[j * 2 + 1]? = some (.string (l[j]).2)
  | e :: l, 0, _ => ⟨rfl, rfl⟩
  | e :: l, j + 1, h => by
    have q : (j + 1) * 2 = j * 2 + 2 := by omega
    rw [q]
    exact cells_at l j (by simpa using h)
/-- the two cells of one -/
theorem at_two {w : World} {b off n cap : Nat} {l : List Entry} (h : Wide 2 w (some ⟨b, off, none⟩) n cap (cells l)) (j : Nat) (hj : j < l.length) :
    w.cell? ⟨b, off + j * 2, none⟩ = some (.int .i64 (l[j]).1) ∧ w.cell? ⟨b, off + j * 2 + 1, none⟩ = some (.string (l[j]).2) := by
  have h1 := h.1
  rw [cells_length] at h1
  obtain ⟨b', off', ha, hc⟩ := h.2.2 (by omega)
  obtain ⟨rfl, rfl⟩ : b = b' ∧ off = off' := by simpa using ha
  obtain ⟨c0, c1⟩ := cells_at l j hj
  rw [Nat.add_assoc]
  exact ⟨hc _ _ c0, hc _ _ c1⟩
theorem len_of {w : World} {a : Option Addr} {n cap : Nat} {l : List Entry} (h : Wide 2 w a n cap (cells l)) : l.length = n := by
  have := h.1
  rw [cells_length] at this
  omega

/-- from each element's two cells -/
theorem wide_of {w : World} {a : Addr} {n cap : Nat} (q : Nat → Entry) (hc : n ≤ cap) (h : ∀ i, i < n → w.cell? (a.add (i * 2)) = some (.int .i64 (q i).1) ∧ w.cell? (a.add (i * 2 + 1)) = some (.string (q i).2)) :
    Wide 2 w (some a) n cap (cells ((List.range n).map q)) := by
  refine ⟨by rw [cells_length]; simp, hc, fun h0 => ?_⟩
  obtain ⟨b, off, spot⟩ := a
  have hspot : spot = none := by simpa [Addr.add] using World.cell?_spot (h 0 h0).1
  subst hspot
  refine ⟨b, off, rfl, fun j u hj => ?_⟩
  have ea : ∀ k, (⟨b, off, none⟩ : Addr).add k = ⟨b, off + k, none⟩ := fun k => by unfold Addr.add; split <;> simp_all
  have hl : j < n * 2 := by
    have := (List.getElem?_eq_some_iff.1 hj).1
    rw [cells_length] at this
    simpa using this
  have hi : j / 2 < n := by omega
  obtain ⟨c0, c1⟩ := cells_at ((List.range n).map q) (j / 2) (by simpa using hi)
  obtain ⟨k0, k1⟩ := h (j / 2) hi
  rw [ea] at k0 k1
  simp only [List.getElem_map, List.getElem_range] at c0 c1
  rcases Nat.mod_two_eq_zero_or_one j with hm | hm
  · have e : j / 2 * 2 = j := by omega
    rw [e] at c0 k0
    rw [c0] at hj
    rw [k0]; exact hj
  · have e : j / 2 * 2 + 1 = j := by omega
    rw [e] at c1 k1
    rw [c1] at hj
    rw [k1]; exact hj

section
variable {H : Type} {enc : TypeId × Value → H} {w : World} {base : Nat} {spare : Nat → Bool} {held : Bool}
/-- an argument, as the reading opens it -/
theorem open_entries {P : Program} {t e : TypeId} {f0 f1 : Field} {fuel : Nat} {a : Option Addr} {n cap : Nat} {x : DataW H × List MemPlace} (ht : P.underlying t = some (.slice e)) (he : P.underlying e = some (.struct #[f0, f1]))
    (ce : P.cellsOf e = 2) (o0 : f0.offset = 0) (o1 : f1.offset = 1) (c0 : P.cellsOf f0.type = 1) (c1 : P.cellsOf f1.type = 1) (u0 : P.underlying f0.type = some (.int .i64)) (u1 : P.underlying f1.type = some .string)
    (h : DataW.trod enc P w base spare held fuel t [.slice a n cap] = some x) :
    ∃ l : List Entry, Wide 2 w a n cap (cells l) ∧ (∀ e ∈ l, (Lit.int .i64 e.1).wf = true ∧ e.2.size ≤ maxLen) ∧ (l = [] ∨ ∃ ls sp, x.1 = .slice ls sp ∧ ls.length = l.length) := by
  rcases Deep.open_slice_pairs ht he ce o0 o1 c0 c1 h with ⟨hcs, _⟩ | ⟨x', len, cap', m, k, V0, V1, D0, D1, P0, P1, hcs, _, hl, hm, hmm, rfl, hc⟩
  · simp at hcs
    obtain ⟨rfl, rfl, rfl⟩ := hcs
    refine ⟨[], Wide.nil _ _ _ _, ?_, .inl rfl⟩
    intro e he
    cases he
  · simp at hcs
    obtain ⟨rfl, rfl, rfl⟩ := hcs
    have hlm : n ≤ m := by rw [hmm]; split <;> omega
    have each : ∀ i, i < n → ∃ q : Entry, (w.cell? (x'.add (i * 2)) = some (.int .i64 q.1) ∧ w.cell? (x'.add (i * 2 + 1)) = some (.string q.2)) ∧ (Lit.int .i64 q.1).wf = true ∧ q.2.size ≤ maxLen := by
      intro i hi
      obtain ⟨h1, h2, h3, h4⟩ := hc i (by omega)
      obtain ⟨a0, e0, _, w0⟩ := DataW.trod_int u0 h3
      obtain ⟨s0, e1, _, w1⟩ := DataW.trod_string u1 h4
      simp only [List.cons.injEq, and_true] at e0 e1
      rw [e0] at h1
      rw [e1] at h2
      exact ⟨(a0, s0), ⟨h1, h2⟩, w0, w1⟩
    obtain ⟨q, hq⟩ := Deep.choose_lt each
    refine ⟨(List.range n).map q, wide_of q hl (fun i hi => (hq i hi).1), ?_, .inr ⟨_, _, rfl, by simp⟩⟩
    intro e he
    obtain ⟨i, hi, rfl⟩ := List.mem_map.1 he
    exact (hq i (List.mem_range.1 hi)).2
end

end Go.Proofs.YticadkggaanbjaaGreatDoor.EntRows

