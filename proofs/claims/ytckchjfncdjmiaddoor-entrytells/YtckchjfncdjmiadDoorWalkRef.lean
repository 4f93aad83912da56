/-
  What the document's own answers (package witref1) return on sums: Valid, Sum, four, NodeBytes, Leaf, Text and Read.
-/
import Derived.Test.YtckchjfncdjmiadDoorWalkMix
import Derived.Laws.DeepStrings4
namespace Go.Proofs.YtckchjfncdjmiadDoor.WalkRef
open Go.RowKit

set_option maxHeartbeats 400000 in
theorem sum_any (s : ByteArray) (w : World) (hs : s.size ≤ maxLen) :
    Calls Tryd.prog 31 #[.string s] w fun e w' => e = .returned (.int .i64 (Sums.sum s.data.toList)) ∧ w' = w := by
  unfold maxLen at hs
  go_enter Tryd.func31, Tryd.ntmps31
  go_wp2
  go_loop [3, 4] (fun t i => ∃ k : Nat, k ≤ s.size ∧ i = .int .i64 k ∧ t = .int .i64 (Sums.sum (s.data.toList.take k))) (fun _ i => s.size - (intOf i).toNat)
  case atStart => exact ⟨0, Nat.zero_le _, rfl, rfl⟩
  case round =>
    obtain ⟨k, hk, rfl, rfl⟩ := hrel
    obtain ⟨hb0, hb1⟩ := Sums.sum_bd (s.data.toList.take k)
    by_cases hlt : k < s.size
    · have HS : Hid (Sums.sum (s.data.toList.take (k + 1)) = Sums.step (Sums.sum (s.data.toList.take k)) s[k]) := by
        rw [Sums.take_snoc s k hlt]; exact Sums.sumFrom_snoc _ _ _
      go_wp2
      go_round
      case rel => exact ⟨k + 1, by omega, by go_num, by rw [HS.out]; exact congrArg (Value.int .i64) (WalkSum.step_walk _ _ hb0 hb1)⟩
      case measure => simp [intOf]; omega
    · go_wp2
      go_ret
      exact ⟨WalkSum.ret_int (by rw [List.take_of_length_le (by simp; omega)]), rfl⟩

theorem one_at (w : World) (v : Value) (t : TypeId) : ∀ j u, [v][j]? = some u → (w.alloc (.cells #[v] t)).cell? ((⟨w.heap.size, 0, none⟩ : Addr).add j) = some u := by
  intro j u hj
  match j, hj with
  | 0, hj => simp at hj; subst hj; simp [Addr.add]
  | j + 1, hj => simp at hj
theorem one_cell (k : IntKind) (n : Int) : ∀ u ∈ [Value.int k n], u.oneCell' = true := by
  intro u hu
  simp at hu
  subst hu
  rfl

theorem add_at (g i : Nat) : (⟨g, 0, none⟩ : Addr).add i = ⟨g, i, none⟩ := by unfold Addr.add; split <;> simp_all
theorem bytes_at (W : World) (g : Nat) (hg : g = W.heap.size) (s : ByteArray) (cap : Nat) (e : TypeId) (fr : Nat × Nat) :
    ∀ j u, (WalkMix.cells s.data.toList)[j]? = some u → (W.alloc (.cells (bytesRow s cap) e fr)).cell? ((⟨g, 0, none⟩ : Addr).add j) = some u := by
  subst hg
  intro j u hj
  rw [add_at]
  have hl : j < s.data.toList.length := by
    rcases Nat.lt_or_ge j s.data.toList.length with h | h
    · exact h
    · simp [WalkMix.cells, List.getElem?_eq_none (by simpa using h : s.data.toList.length ≤ j)] at hj
  rw [cell_of_row _ _ _ (bytesRow s cap) e fr (heap_alloc_new W _)]
  have hl' : j < (s.data.map (fun b => Value.int .u8 (b.toNat : Int))).size := by simpa using hl
  rw [bytesRow, Array.getElem?_append_left hl']
  simp [WalkMix.cells] at hj ⊢
  exact hj
theorem cells_one (l : List UInt8) : ∀ u ∈ WalkMix.cells l, u.oneCell' = true := by
  intro u hu
  obtain ⟨c, _, rfl⟩ := List.mem_map.1 hu
  rfl

set_option maxHeartbeats 1000000 in
theorem leaf_any (s : ByteArray) (w : World) (hs : s.size ≤ 140737488351232) :
    Calls Tryd.prog 25 #[.string s] w fun e w' => e = .returned (.int .i64 (Sums.sum (0 :: s.data.toList))) ∧ Below w.heap.size w w' := by
  have h0 : (w.alloc (.cells #[.int .u8 0] 5)).ownsRow w.heap.size 5 1 (.slice (some ⟨w.heap.size, 0, none⟩) 1 1) 1 (WalkMix.cells [0]) :=
    ⟨rfl, .inr ⟨w.heap.size, 1, #[.int .u8 0], rfl, Nat.le_refl _, heap_alloc_new w _, Nat.le_refl _, by decide, rfl, rfl⟩⟩
  obtain ⟨i0, hi, hz0, hz1, hz2⟩ := info_parts WalkMix.info5
  obtain ⟨c, HC⟩ : ∃ c, Hid (grownCap (w.alloc (.cells #[.int .u8 0] 5)) s.size 0 5 = c) := ⟨_, rfl⟩
  have kb := run_bytes_of_string (P := Tryd.prog) (w.alloc (.cells #[.int .u8 0] 5)) 9 46 5 s Tryd.underlying9 Tryd.underlying46 Tryd.underlying5
  rw [HC.out] at kb
  clear HC
  obtain ⟨fr, HF⟩ : ∃ fr, Hid (((bytesRow s c).size, (bytesRow s c).size + 1) = fr) := ⟨_, rfl⟩
  rw [HF.out] at kb
  clear HF
  have hsl : (WalkMix.cells s.data.toList).length = s.size * 1 := by simp [WalkMix.cells]
  go_enter Tryd.func25, Tryd.ntmps25
  go_wp2_with (first
    | (at_builtin; refine wpList_append_own _ rfl (.tmp 5) (.tmp 7) 46 rfl w.heap.size 5 i0 (.int .u8 0) 1 1 Tryd.underlying46 hi hz0 hz1 hz2 rfl (by decide) _ _ _ rfl (h0.drew.alloc _) ⟨w.heap.size + 1, 0, none⟩ s.size c (WalkMix.cells s.data.toList) rfl hsl (bytes_at _ _ (by simp) s c _ fr) (cells_one _) (by unfold maxLen; omega) (by omega) (by simp; omega) ?_; intro v1 w1 o1 g1 _; obtain ⟨g, cap, rfl, kc⟩ := WalkMix.ownsRow_cells (l := 0 :: s.data.toList) (1 + s.size) o1 (by simp; omega) (by omega); have b1 : Below w.heap.size w w1 := ((((Below.refl w.heap.size w).alloc (Nat.le_refl _) _).alloc (by simp) _).drew).grown g1 (by simp; omega) (fun k hk => ((h0.lt k hk).1)); clear g1 o1 h0 kb)
    | (go_at_call 31; refine (sum_any _ _ (by rw [Nums.str_size]; unfold maxLen; simp; omega)).mono ?_; rintro e w2 ⟨rfl, rfl⟩))
  go_ret
  exact ⟨rfl, b1⟩


end Go.Proofs.YtckchjfncdjmiadDoor.WalkRef
