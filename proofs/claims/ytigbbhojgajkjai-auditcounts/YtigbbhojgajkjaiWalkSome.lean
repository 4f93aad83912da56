/-
  So many entries, as the laws of package witlaw4 make them: some.
-/
import Derived.Test.YtigbbhojgajkjaiSomes
import Derived.Test.YtigbbhojgajkjaiEntRows
import Derived.Test.YtigbbhojgajkjaiWalkDigits
import Derived.Deep.DeepMust
namespace Go.Proofs.Ytigbbhojgajkjai.WalkSome
open Go.RowKit
open Lists (bt)
open Keeps (Kept owns_kept)
open EntRows (cells cells_append)
open Nums (str)
open Somes (one some_)

theorem infoE : (Try.prog.info? 40).map (fun i => (i.zero, i.size, i.bytes)) = some (some (.agg #[.int .i64 0, .string ⟨#[]⟩]), 2, 24) := by kernel_rfl
theorem cell_two_new (w : World) (a b : Value) (t : TypeId) : ∀ j u, [a, b][j]? = some u → (w.alloc (.cells #[a, b] t)).cell? ((⟨w.heap.size, 0, none⟩ : Addr).add j) = some u := by
  intro j u hj
  match j, hj with
  | 0, hj | 1, hj => all_goals (simp at hj; subst hj; simp [Addr.add])
  | j + 2, hj => simp at hj

set_option maxHeartbeats 1000000 in
theorem some_any (n : Nat) (hn : n ≤ 200) (w : World) :
    Calls Try.prog 5 #[.int .i64 (n : Int)] w fun e w' => ∃ v, e = .returned v ∧ w'.ownsRow w.heap.size 40 2 v n (cells (some_ n)) ∧ Below w.heap.size w w' := by
  obtain ⟨i0, hi, hz0, hz1, hz2⟩ := info_parts infoE
  go_enter Try.func5, Try.ntmps5
  go_upto_region 3 with fail
  go_loopw [3, 4, 5] (fun v iv _ wr => ∃ k : Nat, k ≤ n ∧ iv = .int .i64 (k : Int) ∧ Hid (wr.ownsRow w.heap.size 40 2 v k (cells (some_ k)) ∧ Below w.heap.size w wr)) (fun _ iv _ _ => n - (intOf iv).toNat)
  case atStart => exact ⟨0, Nat.zero_le _, rfl, World.ownsRow_nil _ _ _ _, Below.refl _ _⟩
  case round =>
    obtain ⟨k, hk, rfl, HS⟩ := hrel
    by_cases hlt : k < n
    · have i1 : (k : Int) < (n : Int) := by omega
      have cD := WalkHeadRef.digits k (k : Int) wr rfl (by omega)
      have HN : Hid (cells (some_ (k + 1)) = cells (some_ k) ++ [.int .i64 (k : Int), .string (str (Decimals.dec k))]) := by show _ = _; rw [Somes.some_succ, cells_append]; rfl
      generalize str (Decimals.dec k) = D at cD HN
      have HBs : Hid (w.heap.size ≤ wr.heap.size) := HS.out.2.size
      have HFF : Hid (∀ wn, (wr.alloc (.cells #[.int .i64 (k : Int), .string D] 40)).grownBy wn u3.ownBlock → Below w.heap.size w wn) := fun wn gr => (HS.out.2.alloc HBs.out _).grown gr (by have := HBs.out; simp; omega) (fun j hj => (HS.out.1.lt j hj).1)
      go_wp2_with fail
      refine cD.mono ?_
      rintro e w5 ⟨rfl, rfl⟩
      clear cD
      go_wp2_with (at_builtin; go_must (refine wpList_append_own _ rfl (.tmp 13) (.tmp 17) 27 rfl w.heap.size 40 i0 (.agg #[.int .i64 0, .string ⟨#[]⟩]) 2 24 Try.underlying27 hi hz0 hz1 hz2 rfl (by decide) _ _ _ rfl (HS.out.1.alloc _) ⟨_, 0, none⟩ 1 1 [.int .i64 (k : Int), .string D] rfl rfl (cell_two_new _ _ _ _) (fun u hu => by simp at hu; rcases hu with rfl | rfl <;> rfl) (by unfold maxLen; omega) (by omega) (by have := HBs.out; simp; omega) ?_); intro v1 wn o1 g1 z1; clear z1; have HO6 : Hid (wn.ownsRow w.heap.size 40 2 v1 (k + 1) (cells (some_ (k + 1))) ∧ Below w.heap.size w wn) := ⟨(by rw [HN.out]; exact o1), HFF.out wn g1⟩; clear o1 g1)
      go_roundw
      case rel => exact ⟨k + 1, by omega, by go_num, HO6⟩
      case measure => simp [intOf]; omega
    · obtain rfl : k = n := by omega
      have i1 : ¬ (k : Int) < (k : Int) := by omega
      go_wp2_with fail
      go_ret
      exact ⟨u3, rfl, HS.out⟩

end Go.Proofs.Ytigbbhojgajkjai.WalkSome
