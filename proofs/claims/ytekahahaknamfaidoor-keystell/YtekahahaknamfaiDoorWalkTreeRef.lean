/-
  What the document's own answers (package witref1) return on trees: Half, All, Leafs, Node, Root, Data, Sums and same.
-/
import Derived.Test.YtekahahaknamfaiDoorWalkRef
import Derived.Test.YtekahahaknamfaiDoorTrees
import Derived.Test.YtekahahaknamfaiDoorLists
import Derived.Lib.QuietBelow
import Derived.BigQuiet
namespace Go.Proofs.YtekahahaknamfaiDoor.WalkTreeRef
open Go.RowKit
open Lists (Row ints strs bt)

set_option maxHeartbeats 1000000 in
theorem all_any (l : List Int) (a : Option Addr) (n cap : Nat) (w : World) (hn : n ≤ 1000000) (hr : Row w a n cap (ints l)) :
    Calls Tryd.prog 21 #[.slice a n cap] w fun e w' => e = .returned (.bool (Trees.allOk l)) ∧ w' = w := by
  have hln : l.length = n := by rw [← hr.1, Lists.ints_length]
  have HR : Hid (Row w a n cap (ints l)) := hr
  clear hr
  go_enter Tryd.func21, Tryd.ntmps21
  go_wp2_with fail
  go_loop [3] (fun i => ∃ k : Nat, k ≤ n ∧ i = .int .i64 k ∧ Hid (Trees.allOk (l.take k) = true)) (fun i => n - (intOf i).toNat)
  case atStart => exact ⟨0, Nat.zero_le _, rfl, rfl⟩
  case round =>
    obtain ⟨k, hk, rfl, HA⟩ := hrel
    by_cases hlt : k < n
    · obtain ⟨b, off, rfl, hc⟩ := HR.out.2.2 (by omega)
      have hcell := hc k _ (Lists.ints_at (by omega))
      clear hc
      have i1 : (k : Int) < (n : Int) := by omega
      have HS : Hid (Trees.allOk (l.take (k + 1)) = (Trees.allOk (l.take k) && Nums.valid (l.getD k 0))) := Trees.allOk_snoc l k (by omega)
      have HN : Hid (Nums.valid (l.getD k 0) = false → Trees.allOk l = false) := Trees.allOk_no l k (by omega)
      generalize l.getD k 0 = x at hcell HS HN
      cases hx : Nums.valid x
      · have hx' : Hid (Nums.valid x = false) := hx
        clear hx
        go_wp2_with (go_at_call 20; refine (WalkRef.valid_any _ _).mono ?_; rintro e w' ⟨rfl, rfl⟩; rw [hx'.out])
        go_ret
        exact ⟨by rw [HN.out hx'.out]; rfl, rfl⟩
      · have hx' : Hid (Nums.valid x = true) := hx
        clear hx
        go_wp2_with (go_at_call 20; refine (WalkRef.valid_any _ _).mono ?_; rintro e w' ⟨rfl, rfl⟩; rw [hx'.out])
        go_round
        case rel => exact ⟨k + 1, by omega, by go_num, (show Trees.allOk (l.take (k + 1)) = true by rw [HS.out, HA.out, hx'.out]; rfl)⟩
        case measure => simp [intOf]; omega
    · have i1 : ¬ (k : Int) < (n : Int) := by omega
      have HT : Hid (Trees.allOk l = true) := by have h := HA.out; rw [List.take_of_length_le (by omega)] at h; exact h
      go_wp2_with fail
      go_ret
      exact ⟨by rw [HT.out]; rfl, rfl⟩

theorem node_any (a b : Int) (w : World) (ha : Nums.valid a = true) (hb : Nums.valid b = true) :
    Calls Tryd.prog 35 #[.int .i64 a, .int .i64 b] w fun e w' => e = .returned (.int .i64 (Sums.sum (Nums.nodeBytes a b))) ∧ Below w.heap.size w w' := by
  have hs : (Nums.str (Nums.nodeBytes a b)).size ≤ maxLen := by rw [Nums.str_size, Nums.nodeBytes_length]; decide
  have hd := Nums.str_data (Nums.nodeBytes a b)
  go_enter Tryd.func35, Tryd.ntmps35
  go_wp2_with fail
  refine (WalkRef.nodeBytes_any a b _ ha hb).mono ?_
  rintro e w1 ⟨rfl, b1⟩
  go_wp2_with fail
  refine (WalkRef.sum_any _ _ hs).mono ?_
  rintro e w2 ⟨rfl, rfl⟩
  rw [hd]
  clear hs hd
  go_wp2_with fail
  go_ret
  exact ⟨rfl, b1⟩

end Go.Proofs.YtekahahaknamfaiDoor.WalkTreeRef
