/-
  What the program's IsSum answers, for every number.
-/
import Derived.Test.YtlibjdkofajahaaGreatDoorMirPlain
import Derived.Test.YtlibjdkofajahaaGreatDoorRows
import Derived.WalkKit
namespace Go.Proofs.YtlibjdkofajahaaGreatDoor.WalkIsSum
open Go.RowKit

theorem isSum_any (n : Int) (w : World) : Calls Tryz.prog 28 #[.int .i64 n] w fun e w' => e = .returned (.bool (Nums.valid n)) ∧ w' = w := by
  by_cases h0 : 0 ≤ n
  · by_cases h1 : n < 2147483647
    · have H : Hid (Nums.valid n = true) := Nums.valid_iff.2 ⟨h0, h1⟩
      go_enter Tryz.func28, Tryz.ntmps28
      go_wp2
      go_ret
      exact ⟨by rw [H.out]; rfl, rfl⟩
    · have H : Hid (Nums.valid n = false) := Nums.valid_no.2 fun q => h1 q.2
      go_enter Tryz.func28, Tryz.ntmps28
      go_wp2
      go_ret
      exact ⟨by rw [H.out]; rfl, rfl⟩
  · have H : Hid (Nums.valid n = false) := Nums.valid_no.2 fun q => h0 q.1
    go_enter Tryz.func28, Tryz.ntmps28
    go_wp2
    go_ret
    exact ⟨by rw [H.out]; rfl, rfl⟩

end Go.Proofs.YtlibjdkofajahaaGreatDoor.WalkIsSum
