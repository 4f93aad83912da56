/-
  Peaks of leafs that were appended: what the walks of the statements hold on to.
-/
import Derived.Test.YticadkggaanbjaaGreatDoorWalkPeakRoot
namespace Go.Proofs.YticadkggaanbjaaGreatDoor.WalkPeakSt
open Go.RowKit
open Lists (Row ints bt)
open Keeps (Kept owns_row)
open WalkPeaks (Pk foot)
open WalkBits (Tab)

theorem tab_lt {w : World} (h : Tab w) : 2 < w.heap.size := Lists.block_lt (h 0 (by omega))

/-- where the loop stands: some leafs are appended -/
structure St (B : Nat) (w : World) (b : Nat) (wr : World) (l : List Int) (v : Value) : Prop where
  pk : Pk wr B b l.length v (Peaks.parts l)
  len : l.length ≤ 200
  ok : ∀ x ∈ l, Nums.valid x = true
  below : Below B w wr
  base : B ≤ wr.heap.size

theorem tz_parts (l : List Int) (h : l.length ≤ 200) : Peaks.tz (l.length + 1) ≤ (Peaks.parts l).length := by
  rw [Peaks.parts_len l h]; exact Peaks.tz_ones ⟨l.length, by omega⟩
theorem parts_le (l : List Int) (h : l.length ≤ 200) : (Peaks.parts l).length ≤ 8 := by
  rw [Peaks.parts_len l h]; exact Peaks.ones_le ⟨l.length, by omega⟩

/-- a leaf that is a sum is appended -/
theorem append_any {B b : Nat} {w wr : World} {l : List Int} {v : Value} {x : Int} (h : St B w b wr l v) (hs : l.length < 200) (hx : Nums.valid x = true) (hT : Tab w) (hB : w.heap.size ≤ B) :
    Calls Tryz.prog 29 #[.pointer (some ⟨b, 0, none⟩), .int .i64 x] wr fun e w' => e = .returned .nilIface ∧
      ∃ v', St B w b w' (l ++ [x]) v' ∧ Kept (foot b v) wr w' ∧ ∀ k, v'.ownBlock = some k → v.ownBlock = some k ∨ wr.heap.size ≤ k := by
  refine (WalkAppend.append_yes wr B b l.length v (Peaks.parts l) x h.pk hs hx (Peaks.parts_ok l h.ok) (by have := parts_le l h.len; omega) (tz_parts l h.len) (hT.below (h.below.mono hB)) (Nat.lt_of_lt_of_le (tab_lt hT) hB)).mono ?_
  rintro e w' ⟨rfl, v', hp, hk, hf⟩
  refine ⟨rfl, v', ⟨?_, by simp; omega, ?_, ?_, Nat.le_trans h.base hk.size⟩, hk, hf⟩
  · rw [show (l ++ [x]).length = l.length + 1 by simp, Peaks.parts_append l x h.len]; exact hp
  · intro y hy
    rcases List.mem_append.1 hy with hy | hy
    · exact h.ok y hy
    · rw [List.mem_singleton.1 hy]; exact hx
  · exact h.below.trans (hk.below (fun k q => (h.pk.foot_lt k q).1) h.base)
theorem st_below {B b : Nat} {w wr w' : World} {l : List Int} {v : Value} (h : St B w b wr l v) (k : Below wr.heap.size wr w') : St B w b w' l v :=
  ⟨h.pk.below k, h.len, h.ok, h.below.trans (k.mono h.base), Nat.le_trans h.base k.size⟩
/-- something else is written -/
theorem st_kept {S : Nat → Prop} {B b : Nat} {w wr w' : World} {l : List Int} {v : Value} (h : St B w b wr l v) (k : Kept S wr w') (hS : ∀ i, foot b v i → ¬ S i) (hB : ∀ i, S i → B ≤ i) : St B w b w' l v :=
  ⟨h.pk.kept k hS, h.len, h.ok, h.below.trans (k.below hB h.base), Nat.le_trans h.base k.size⟩
theorem root_any {B b : Nat} {w wr : World} {l : List Int} {v : Value} (h : St B w b wr l v) :
    Calls Tryz.prog 33 #[.pointer (some ⟨b, 0, none⟩)] wr fun e w' => e = .returned (.int .i64 (Trees.root l)) ∧ Below wr.heap.size wr w' := by
  by_cases h0 : l.length = 0
  · rw [Trees.root_none l h0]
    have p := h.pk
    rw [h0] at p
    exact (WalkPeakRoot.root_none wr B b v _ p).mono fun e w' ⟨he, hw⟩ => ⟨he, by rw [hw]; exact Below.refl _ _⟩
  · rw [← Peaks.root_parts l (by omega)]
    exact WalkPeakRoot.root_some wr B b l.length v _ h.pk (by omega) (Peaks.parts_ne l (by omega)) (by have := parts_le l h.len; omega) (Peaks.parts_ok l h.ok)

end Go.Proofs.YticadkggaanbjaaGreatDoor.WalkPeakSt
