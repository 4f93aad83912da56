/-
  A text parted at blanks, as package head calls it.
-/
import Derived.Test.YticadkggaanbjaaGreatDoorWalkHdLib
import Derived.Test.YticadkggaanbjaaGreatDoorHdWords
import Derived.Test.YticadkggaanbjaaGreatDoorWalkHdCut
import Derived.Test.YticadkggaanbjaaGreatDoorListRows
import Derived.Test.YticadkggaanbjaaGreatDoorErrs
import Derived.Test.YticadkggaanbjaaGreatDoorRows
import Derived.WalkKit
import Derived.WalkSmall
import Derived.LaidEql
import Derived.Lib.LaidTab
import Derived.Stop.Asserts
import Derived.RowKitTokens
import Derived.Lib.QuietBelow
namespace Go.Proofs.YticadkggaanbjaaGreatDoor.WalkHdLib
open Go.RowKit Go.Extern.Stop Go.Stop Go.Extern
open Nums (str)
open Decimals (dec words)
open Errs (errv)

/-- a text of four words, parted -/
theorem split_four (s : ByteArray) (a b c d : List UInt8) (hw : words 32 s.data.toList = [a, b, c, d]) (hs : s.size ≤ 140737488351232) (w : World) :
    Calls Tryz.prog 63 #[.string s, .string ⟨#[32]⟩, .int .i64 5] w fun e w' => ∃ cap : Nat, 4 ≤ cap ∧ e = .returned (.slice (some ⟨w.heap.size, 0, none⟩) 4 cap) ∧ w'.cell? ⟨w.heap.size, 0, none⟩ = some (.string (str a)) ∧ w'.cell? ⟨w.heap.size, 1, none⟩ = some (.string (str b)) ∧ w'.cell? ⟨w.heap.size, 2, none⟩ = some (.string (str c)) ∧ w'.cell? ⟨w.heap.size, 3, none⟩ = some (.string (str d)) ∧ Below w.heap.size w w' := by
  refine (WalkHdCut.cut_any s (by unfold maxLen; omega) w).mono ?_
  rintro e w' ⟨xs, N, hd, hl, rfl, rfl⟩
  rcases HdWords.split_five s.data.toList with ⟨_, h5⟩ | ⟨h4, _⟩
  rotate_left
  · rw [hw] at h4
    exact absurd rfl h4
  rw [h5, hw] at hd
  match xs, hd, hl with
  | [x0, x1, x2, x3], hd, hl =>
    simp only [WalkHdCut.lets, List.map_cons, List.map_nil, List.cons.injEq, and_true] at hd
    obtain ⟨g0, g1, g2, g3⟩ := hd
    have f0 : x0 = str a := by rw [← g0]; rfl
    have f1 : x1 = str b := by rw [← g1]; rfl
    have f2 : x2 = str c := by rw [← g2]; rfl
    have f3 : x3 = str d := by rw [← g3]; rfl
    subst f0 f1 f2 f3
    refine ⟨N, hl, rfl, ?_, ?_, ?_, ?_, (Below.refl _ _).alloc (Nat.le_refl _) _⟩ <;> (rw [World.cell?_alloc_at _ _ _ _ (by rfl)]; simp [Lib.cellsOf])

/-- one that has not four words -/
theorem split_not (s : ByteArray) (hw : (words 32 s.data.toList).length ≠ 4) (hs : s.size ≤ 140737488351232) (w : World) :
    Calls Tryz.prog 63 #[.string s, .string ⟨#[32]⟩, .int .i64 5] w fun e w' => ∃ n cap : Nat, n ≠ 4 ∧ e = .returned (.slice (some ⟨w.heap.size, 0, none⟩) n cap) ∧ Below w.heap.size w w' := by
  refine (WalkHdCut.cut_any s (by unfold maxLen; omega) w).mono ?_
  rintro e w' ⟨xs, N, hd, hl, rfl, rfl⟩
  rcases HdWords.split_five s.data.toList with ⟨h4, _⟩ | ⟨_, h5⟩
  · exact absurd h4 hw
  rw [← hd, List.length_map] at h5
  exact ⟨_, _, h5, rfl, (Below.refl _ _).alloc (Nat.le_refl _) _⟩

end Go.Proofs.YticadkggaanbjaaGreatDoor.WalkHdLib
