/-
  What the library's bits.TrailingZeros and bits.OnesCount return at a number up to 200: its own text is walked.
-/
import Derived.Test.YticadkggaanbjaaGreatDoorPeaks
import Derived.Test.YticadkggaanbjaaGreatDoorRows
import Derived.WalkKit
import Derived.Laws.Bits64b
import Derived.Lib.BitFns
import Derived.Lib.Walk
import Derived.Lib.Small
namespace Go.Proofs.YticadkggaanbjaaGreatDoor.WalkBits
open Go.RowKit

/-- what stands in the library's own table of math/bits -/
def Tab (w : World) : Prop := ∀ j, j < 64 → w.cell? ⟨2, j, none⟩ = some (.int .u8 (Lib.deBruijn64tab.getD j 0))
theorem Tab.below {w w' : World} (h : Tab w) (b : Below w.heap.size w w') : Tab w' := by
  intro j hj
  have hc := h j hj
  have hl : 2 < w.heap.size := by
    rcases Nat.lt_or_ge 2 w.heap.size with g | g
    · exact g
    · simp [World.cell?, Array.getElem?_eq_none g] at hc
  rw [b.cell (p := ⟨2, j, none⟩) hl]; exact hc

def idx (n : Nat) : Nat := 2 ^ Peaks.tz n * 285870213051353865 % 18446744073709551616 / 288230376151711744
theorem tz_at : ∀ n : Fin 202, 1 ≤ n.val → IntKind.u64.wrap (bits BinOp.and IntKind.u64 (n.val : Int) (IntKind.u64.wrap (-(n.val : Int))) * 285870213051353865) / 288230376151711744 = (idx n.val : Int) ∧ idx n.val < 64 ∧ Lib.deBruijn64tab.getD (idx n.val) 0 = Peaks.tz n.val ∧ Peaks.tz n.val < 64 := by decide +kernel

set_option maxHeartbeats 1000000 in
theorem tz64 (x : Int) (k i : Nat) (w : World) (hx0 : (x == 0) = false)
    (key : IntKind.u64.wrap (bits BinOp.and IntKind.u64 x (IntKind.u64.wrap (-x)) * 285870213051353865) / 288230376151711744 = (i : Int))
    (hi : i < 64) (hk : k < 64) (hcell : w.cell? ⟨2, i, none⟩ = some (.int .u8 k)) :
    Calls Tryz.prog 136 #[.int .u64 x] w fun e w' => e = .returned (.int .i64 k) ∧ w' = w := by
  go_enter Tryz.func136, Tryz.ntmps136
  go_wp2_with (simp only [key])
  go_ret
  exact ⟨rfl, rfl⟩

theorem tz_any (x : Int) (n : Nat) (w : World) (hx : x = (n : Int)) (h0 : 1 ≤ n) (h1 : n ≤ 201) (hT : Tab w) :
    Calls Tryz.prog 89 #[.int .u64 x] w fun e w' => e = .returned (.int .i64 (Peaks.tz n : Nat)) ∧ w' = w := by
  obtain ⟨key, hi, ht, hk⟩ := tz_at ⟨n, by omega⟩ h0
  have hcell := hT _ hi
  simp only at key hi ht hk hcell
  rw [ht] at hcell
  have c := tz64 x (Peaks.tz n) (idx n) w (by rw [hx]; simp; omega) (by rw [hx]; exact key) hi hk hcell
  clear hcell ht hi hk key hx
  go_enter Tryz.func89, Tryz.ntmps89
  go_wp2_with fail
  refine c.mono ?_
  rintro e w' ⟨rfl, rfl⟩
  go_wp2_with fail
  go_ret
  exact ⟨rfl, rfl⟩


end Go.Proofs.YticadkggaanbjaaGreatDoor.WalkBits
