/-
  What the document's own answers (package witref1) return on sums: Valid, Sum, four, NodeBytes, Leaf, Text and Read.
-/
import Derived.Test.YtlibjdkofajahaaDoorWalkMix
import Derived.Laws.DeepStrings4
namespace Go.Proofs.YtlibjdkofajahaaDoor.WalkRef
open Go.RowKit

theorem valid_any (n : Int) (w : World) :
    Calls Tryd.prog 13 #[.int .i64 n] w fun e w' => e = .returned (.bool (Nums.valid n)) ∧ w' = w := by
  cases h : Nums.valid n
  · have h' := Nums.valid_no.1 h
    clear h
    by_cases h0 : 0 ≤ n
    · have h1 : ¬ n < 2147483647 := fun h1 => h' ⟨h0, h1⟩
      clear h'
      go_enter Tryd.func13, Tryd.ntmps13
      go_wp2
      go_ret
      exact ⟨rfl, rfl⟩
    · clear h'
      go_enter Tryd.func13, Tryd.ntmps13
      go_wp2
      go_ret
      exact ⟨rfl, rfl⟩
  · obtain ⟨h0, h1⟩ := Nums.valid_iff.1 h
    clear h
    go_enter Tryd.func13, Tryd.ntmps13
    go_wp2
    go_ret
    exact ⟨rfl, rfl⟩

set_option maxHeartbeats 400000 in
theorem sum_any (s : ByteArray) (w : World) (hs : s.size ≤ maxLen) :
    Calls Tryd.prog 42 #[.string s] w fun e w' => e = .returned (.int .i64 (Sums.sum s.data.toList)) ∧ w' = w := by
  unfold maxLen at hs
  go_enter Tryd.func42, Tryd.ntmps42
  go_wp2
  go_loop [3, 4] (fun t i => ∃ k : Nat, k ≤ s.size ∧ i = .int .i64 k ∧ t = .int .i64 (Sums.sum (s.data.toList.take k))) (fun _ i => s.size - (intOf i).toNat)
  case atStart => exact ⟨0, Nat.zero_le _, rfl, rfl⟩
  case round =>
    obtain ⟨k, hk, rfl, rfl⟩ := hrel
    obtain ⟨hb0, hb1⟩ := Sums.sum_bd (s.data.toList.take k)
    by_cases hlt : k < s.size
    · have HS : Hid (Sums.sum (s.data.toList.take (k + 1)) = Sums.step (Sums.sum (s.data.toList.take k)) s[k]) := by
        rw [Sums.take_snoc s k hlt]; exact Sums.sumFrom_snoc _ _ _
      go_wp2
      go_round
      case rel => exact ⟨k + 1, by omega, by go_num, by rw [HS.out]; exact congrArg (Value.int .i64) (WalkSum.step_walk _ _ hb0 hb1)⟩
      case measure => simp [intOf]; omega
    · go_wp2
      go_ret
      exact ⟨WalkSum.ret_int (by rw [List.take_of_length_le (by simp; omega)]), rfl⟩

theorem one_at (w : World) (v : Value) (t : TypeId) : ∀ j u, [v][j]? = some u → (w.alloc (.cells #[v] t)).cell? ((⟨w.heap.size, 0, none⟩ : Addr).add j) = some u := by
  intro j u hj
  match j, hj with
  | 0, hj => simp at hj; subst hj; simp [Addr.add]
  | j + 1, hj => simp at hj
theorem one_cell (k : IntKind) (n : Int) : ∀ u ∈ [Value.int k n], u.oneCell' = true := by
  intro u hu
  simp at hu
  subst hu
  rfl

set_option maxHeartbeats 1000000 in
theorem four_own (base : Nat) (v : Value) (n : Nat) (l : List UInt8) (a : Int) (w : World) (hown : w.ownsRow base 5 1 v n (WalkMix.cells l)) (hn : n ≤ 1000) (ha : Nums.valid a = true) (hb : base ≤ w.heap.size) :
    Calls Tryd.prog 54 #[v, .int .i64 a] w fun e w' => ∃ v', e = .returned v' ∧ w'.ownsRow base 5 1 v' (n + 4) (WalkMix.cells (l ++ Nums.four a)) ∧ Below base w w' ∧ base ≤ w'.heap.size := by
  obtain ⟨h0, h1⟩ := Nums.valid_iff.1 ha
  obtain ⟨i0, hi, hz0, hz1, hz2⟩ := info_parts WalkMix.info5
  clear ha
  go_enter Tryd.func54, Tryd.ntmps54
  go_wp2_with (first
    | (at_builtin; refine wpList_append_own _ rfl (.tmp 5) (.tmp 9) 87 rfl base 5 i0 (.int .u8 0) 1 1 Tryd.underlying87 hi hz0 hz1 hz2 rfl (by decide) _ _ _ rfl (hown.alloc _) ⟨w.heap.size, 0, none⟩ 1 1 [.int .u8 (a / 16777216)] rfl rfl (one_at _ _ _) (one_cell _ _) (by unfold maxLen; omega) (by omega) (by simp; omega) ?_; intro v1 w1 o1 g1 _; have z1 : base ≤ w1.heap.size := (by have := g1.size; simp at this; omega))
    | (at_builtin; refine wpList_append_own _ rfl (.tmp 11) (.tmp 16) 87 rfl base 5 i0 (.int .u8 0) 1 1 Tryd.underlying87 hi hz0 hz1 hz2 rfl (by decide) _ _ _ rfl (o1.alloc _) ⟨w1.heap.size, 0, none⟩ 1 1 [.int .u8 (a / 65536 % 256)] rfl rfl (one_at _ _ _) (one_cell _ _) (by unfold maxLen; omega) (by omega) (by simp; omega) ?_; intro v2 w2 o2 g2 _; have z2 : base ≤ w2.heap.size := (by have := g2.size; simp at this; omega))
    | (at_builtin; refine wpList_append_own _ rfl (.tmp 18) (.tmp 23) 87 rfl base 5 i0 (.int .u8 0) 1 1 Tryd.underlying87 hi hz0 hz1 hz2 rfl (by decide) _ _ _ rfl (o2.alloc _) ⟨w2.heap.size, 0, none⟩ 1 1 [.int .u8 (a / 256 % 256)] rfl rfl (one_at _ _ _) (one_cell _ _) (by unfold maxLen; omega) (by omega) (by simp; omega) ?_; intro v3 w3 o3 g3 _; have z3 : base ≤ w3.heap.size := (by have := g3.size; simp at this; omega))
    | (at_builtin; refine wpList_append_own _ rfl (.tmp 25) (.tmp 29) 87 rfl base 5 i0 (.int .u8 0) 1 1 Tryd.underlying87 hi hz0 hz1 hz2 rfl (by decide) _ _ _ rfl (o3.alloc _) ⟨w3.heap.size, 0, none⟩ 1 1 [.int .u8 (a % 256)] rfl rfl (one_at _ _ _) (one_cell _ _) (by unfold maxLen; omega) (by omega) (by simp; omega) ?_; intro v4 w4 o4 g4 _; have z4 : base ≤ w4.heap.size := (by have := g4.size; simp at this; omega)))
  go_ret
  refine ⟨v4, rfl, ?_, ?_, z4⟩
  · rw [WalkMix.cells_append, WalkMix.cells_four a ⟨h0, h1⟩]
    simpa using o4
  · have b1 := ((Below.refl base w).alloc hb (.cells #[.int .u8 (a / 16777216)] 5)).grown g1 (by simp; omega) (fun k hk => (hown.lt k hk).1)
    have b2 := (b1.alloc z1 (.cells #[.int .u8 (a / 65536 % 256)] 5)).grown g2 (by simp; omega) (fun k hk => (o1.lt k hk).1)
    have b3 := (b2.alloc z2 (.cells #[.int .u8 (a / 256 % 256)] 5)).grown g3 (by simp; omega) (fun k hk => (o2.lt k hk).1)
    exact (b3.alloc z3 (.cells #[.int .u8 (a % 256)] 5)).grown g4 (by simp; omega) (fun k hk => (o3.lt k hk).1)

set_option maxHeartbeats 400000 in
theorem nodeBytes_any (a b : Int) (w : World) (ha : Nums.valid a = true) (hb : Nums.valid b = true) :
    Calls Tryd.prog 43 #[.int .i64 a, .int .i64 b] w fun e w' => e = .returned (.string (Nums.str (Nums.nodeBytes a b))) ∧ Below w.heap.size w w' := by
  have h0 : (w.alloc (.cells #[.int .u8 1] 5)).ownsRow w.heap.size 5 1 (.slice (some ⟨w.heap.size, 0, none⟩) 1 1) 1 (WalkMix.cells [1]) :=
    ⟨rfl, .inr ⟨w.heap.size, 1, #[.int .u8 1], rfl, Nat.le_refl _, heap_alloc_new w _, Nat.le_refl _, by decide, rfl, rfl⟩⟩
  go_enter Tryd.func43, Tryd.ntmps43
  go_wp2_with fail
  refine (four_own w.heap.size _ 1 [1] a _ h0 (by omega) ha (by simp)).mono ?_
  rintro e w1 ⟨v1, rfl, h1, b1, s1⟩
  go_wp2_with fail
  refine (four_own w.heap.size _ 5 _ b _ h1 (by omega) hb s1).mono ?_
  rintro e w2 ⟨v2, rfl, h2, b2, s2⟩
  obtain ⟨g, cap, rfl, kc⟩ := WalkMix.ownsRow_cells (l := Nums.nodeBytes a b) 9 h2 rfl (by omega)
  clear h1 h2 h0
  go_wp2
  go_ret
  exact ⟨rfl, (((Below.refl _ _).alloc (Nat.le_refl _) _).trans b1).trans b2⟩


end Go.Proofs.YtlibjdkofajahaaDoor.WalkRef
