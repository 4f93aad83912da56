/-
  What the document's own answers (package witref1) return on sums: Valid, Sum, four, NodeBytes, Leaf, Text and Read.
-/
import Derived.Test.YticadkggaanbjaaGreatDoorHdRun
import Derived.Test.YticadkggaanbjaaGreatDoorMixRun
import Derived.Laws.DeepStrings4
import Derived.Test.YticadkggaanbjaaGreatDoorGrowPlain
import Derived.Test.YticadkggaanbjaaGreatDoorListRows
import Derived.Lib.QuietBelow
import Derived.BigQuiet
import Derived.Test.YticadkggaanbjaaGreatDoorMirrors
namespace Go.Proofs.YticadkggaanbjaaGreatDoor.WalkRef
open Go.RowKit

theorem valid_any (n : Int) (w : World) :
    Calls Tryz.prog 69 #[.int .i64 n] w fun e w' => e = .returned (.bool (Nums.valid n)) ∧ w' = w := by
  cases h : Nums.valid n
  · have h' := Nums.valid_no.1 h
    clear h
    by_cases h0 : 0 ≤ n
    · have h1 : ¬ n < 2147483647 := fun h1 => h' ⟨h0, h1⟩
      clear h'
      go_enter Tryz.func69, Tryz.ntmps69
      go_wp2
      go_ret
      exact ⟨rfl, rfl⟩
    · clear h'
      go_enter Tryz.func69, Tryz.ntmps69
      go_wp2
      go_ret
      exact ⟨rfl, rfl⟩
  · obtain ⟨h0, h1⟩ := Nums.valid_iff.1 h
    clear h
    go_enter Tryz.func69, Tryz.ntmps69
    go_wp2
    go_ret
    exact ⟨rfl, rfl⟩

set_option maxHeartbeats 400000 in
theorem sum_any (s : ByteArray) (w : World) (hs : s.size ≤ maxLen) :
    Calls Tryz.prog 120 #[.string s] w fun e w' => e = .returned (.int .i64 (Sums.sum s.data.toList)) ∧ w' = w := by
  unfold maxLen at hs
  go_enter Tryz.func120, Tryz.ntmps120
  go_wp2
  go_loop [3, 4] (fun t i => ∃ k : Nat, k ≤ s.size ∧ i = .int .i64 k ∧ t = .int .i64 (Sums.sum (s.data.toList.take k))) (fun _ i => s.size - (intOf i).toNat)
  case atStart => exact ⟨0, Nat.zero_le _, rfl, rfl⟩
  case round =>
    obtain ⟨k, hk, rfl, rfl⟩ := hrel
    obtain ⟨hb0, hb1⟩ := Sums.sum_bd (s.data.toList.take k)
    by_cases hlt : k < s.size
    · have HS : Hid (Sums.sum (s.data.toList.take (k + 1)) = Sums.step (Sums.sum (s.data.toList.take k)) s[k]) := by
        rw [Sums.take_snoc s k hlt]; exact Sums.sumFrom_snoc _ _ _
      go_wp2
      go_round
      case rel => exact ⟨k + 1, by omega, by go_num, by rw [HS.out]; exact congrArg (Value.int .i64) (WalkSum.step_walk _ _ hb0 hb1)⟩
      case measure => simp [intOf]; omega
    · go_wp2
      go_ret
      exact ⟨WalkSum.ret_int (by rw [List.take_of_length_le (by simp; omega)]), rfl⟩

theorem one_at (w : World) (v : Value) (t : TypeId) : ∀ j u, [v][j]? = some u → (w.alloc (.cells #[v] t)).cell? ((⟨w.heap.size, 0, none⟩ : Addr).add j) = some u := by
  intro j u hj
  match j, hj with
  | 0, hj => simp at hj; subst hj; simp [Addr.add]
  | j + 1, hj => simp at hj
theorem one_cell (k : IntKind) (n : Int) : ∀ u ∈ [Value.int k n], u.oneCell' = true := by
  intro u hu
  simp at hu
  subst hu
  rfl

set_option maxHeartbeats 1000000 in
theorem four_own (base : Nat) (v : Value) (n : Nat) (l : List UInt8) (a : Int) (w : World) (hown : w.ownsRow base 5 1 v n (WalkMix.cells l)) (hn : n ≤ 1000) (ha : Nums.valid a = true) (hb : base ≤ w.heap.size) :
    Calls Tryz.prog 170 #[v, .int .i64 a] w fun e w' => ∃ v', e = .returned v' ∧ w'.ownsRow base 5 1 v' (n + 4) (WalkMix.cells (l ++ Nums.four a)) ∧ Below base w w' ∧ base ≤ w'.heap.size := by
  obtain ⟨h0, h1⟩ := Nums.valid_iff.1 ha
  obtain ⟨i0, hi, hz0, hz1, hz2⟩ := info_parts WalkMix.info5
  clear ha
  go_enter Tryz.func170, Tryz.ntmps170
  go_wp2_with (first
    | (at_builtin; refine wpList_append_own _ rfl (.tmp 5) (.tmp 9) 154 rfl base 5 i0 (.int .u8 0) 1 1 Tryz.underlying154 hi hz0 hz1 hz2 rfl (by decide) _ _ _ rfl (hown.alloc _) ⟨w.heap.size, 0, none⟩ 1 1 [.int .u8 (a / 16777216)] rfl rfl (one_at _ _ _) (one_cell _ _) (by unfold maxLen; omega) (by omega) (by simp; omega) ?_; intro v1 w1 o1 g1 _; have z1 : base ≤ w1.heap.size := (by have := g1.size; simp at this; omega))
    | (at_builtin; refine wpList_append_own _ rfl (.tmp 11) (.tmp 16) 154 rfl base 5 i0 (.int .u8 0) 1 1 Tryz.underlying154 hi hz0 hz1 hz2 rfl (by decide) _ _ _ rfl (o1.alloc _) ⟨w1.heap.size, 0, none⟩ 1 1 [.int .u8 (a / 65536 % 256)] rfl rfl (one_at _ _ _) (one_cell _ _) (by unfold maxLen; omega) (by omega) (by simp; omega) ?_; intro v2 w2 o2 g2 _; have z2 : base ≤ w2.heap.size := (by have := g2.size; simp at this; omega))
    | (at_builtin; refine wpList_append_own _ rfl (.tmp 18) (.tmp 23) 154 rfl base 5 i0 (.int .u8 0) 1 1 Tryz.underlying154 hi hz0 hz1 hz2 rfl (by decide) _ _ _ rfl (o2.alloc _) ⟨w2.heap.size, 0, none⟩ 1 1 [.int .u8 (a / 256 % 256)] rfl rfl (one_at _ _ _) (one_cell _ _) (by unfold maxLen; omega) (by omega) (by simp; omega) ?_; intro v3 w3 o3 g3 _; have z3 : base ≤ w3.heap.size := (by have := g3.size; simp at this; omega))
    | (at_builtin; refine wpList_append_own _ rfl (.tmp 25) (.tmp 29) 154 rfl base 5 i0 (.int .u8 0) 1 1 Tryz.underlying154 hi hz0 hz1 hz2 rfl (by decide) _ _ _ rfl (o3.alloc _) ⟨w3.heap.size, 0, none⟩ 1 1 [.int .u8 (a % 256)] rfl rfl (one_at _ _ _) (one_cell _ _) (by unfold maxLen; omega) (by omega) (by simp; omega) ?_; intro v4 w4 o4 g4 _; have z4 : base ≤ w4.heap.size := (by have := g4.size; simp at this; omega)))
  go_ret
  refine ⟨v4, rfl, ?_, ?_, z4⟩
  · rw [WalkMix.cells_append, WalkMix.cells_four a ⟨h0, h1⟩]
    simpa using o4
  · have b1 := ((Below.refl base w).alloc hb (.cells #[.int .u8 (a / 16777216)] 5)).grown g1 (by simp; omega) (fun k hk => (hown.lt k hk).1)
    have b2 := (b1.alloc z1 (.cells #[.int .u8 (a / 65536 % 256)] 5)).grown g2 (by simp; omega) (fun k hk => (o1.lt k hk).1)
    have b3 := (b2.alloc z2 (.cells #[.int .u8 (a / 256 % 256)] 5)).grown g3 (by simp; omega) (fun k hk => (o2.lt k hk).1)
    exact (b3.alloc z3 (.cells #[.int .u8 (a % 256)] 5)).grown g4 (by simp; omega) (fun k hk => (o3.lt k hk).1)

set_option maxHeartbeats 400000 in
theorem nodeBytes_any (a b : Int) (w : World) (ha : Nums.valid a = true) (hb : Nums.valid b = true) :
    Calls Tryz.prog 150 #[.int .i64 a, .int .i64 b] w fun e w' => e = .returned (.string (Nums.str (Nums.nodeBytes a b))) ∧ Below w.heap.size w w' := by
  have h0 : (w.alloc (.cells #[.int .u8 1] 5)).ownsRow w.heap.size 5 1 (.slice (some ⟨w.heap.size, 0, none⟩) 1 1) 1 (WalkMix.cells [1]) :=
    ⟨rfl, .inr ⟨w.heap.size, 1, #[.int .u8 1], rfl, Nat.le_refl _, heap_alloc_new w _, Nat.le_refl _, by decide, rfl, rfl⟩⟩
  go_enter Tryz.func150, Tryz.ntmps150
  go_wp2_with fail
  refine (four_own w.heap.size _ 1 [1] a _ h0 (by omega) ha (by simp)).mono ?_
  rintro e w1 ⟨v1, rfl, h1, b1, s1⟩
  go_wp2_with fail
  refine (four_own w.heap.size _ 5 _ b _ h1 (by omega) hb s1).mono ?_
  rintro e w2 ⟨v2, rfl, h2, b2, s2⟩
  obtain ⟨g, cap, rfl, kc⟩ := WalkMix.ownsRow_cells (l := Nums.nodeBytes a b) 9 h2 rfl (by omega)
  clear h1 h2 h0
  go_wp2
  go_ret
  exact ⟨rfl, (((Below.refl _ _).alloc (Nat.le_refl _) _).trans b1).trans b2⟩

theorem add_at (g i : Nat) : (⟨g, 0, none⟩ : Addr).add i = ⟨g, i, none⟩ := by unfold Addr.add; split <;> simp_all
theorem bytes_at (W : World) (g : Nat) (hg : g = W.heap.size) (s : ByteArray) (cap : Nat) (e : TypeId) (fr : Nat × Nat) :
    ∀ j u, (WalkMix.cells s.data.toList)[j]? = some u → (W.alloc (.cells (bytesRow s cap) e fr)).cell? ((⟨g, 0, none⟩ : Addr).add j) = some u := by
  subst hg
  intro j u hj
  rw [add_at]
  have hl : j < s.data.toList.length := by
    rcases Nat.lt_or_ge j s.data.toList.length with h | h
    · exact h
    · simp [WalkMix.cells, List.getElem?_eq_none (by simpa using h : s.data.toList.length ≤ j)] at hj
  rw [cell_of_row _ _ _ (bytesRow s cap) e fr (heap_alloc_new W _)]
  have hl' : j < (s.data.map (fun b => Value.int .u8 (b.toNat : Int))).size := by simpa using hl
  rw [bytesRow, Array.getElem?_append_left hl']
  simp [WalkMix.cells] at hj ⊢
  exact hj
theorem cells_one (l : List UInt8) : ∀ u ∈ WalkMix.cells l, u.oneCell' = true := by
  intro u hu
  obtain ⟨c, _, rfl⟩ := List.mem_map.1 hu
  rfl

set_option maxHeartbeats 1000000 in
theorem leaf_any (s : ByteArray) (w : World) (hs : s.size ≤ 140737488351232) :
    Calls Tryz.prog 105 #[.string s] w fun e w' => e = .returned (.int .i64 (Sums.sum (0 :: s.data.toList))) ∧ Below w.heap.size w w' := by
  have h0 : (w.alloc (.cells #[.int .u8 0] 5)).ownsRow w.heap.size 5 1 (.slice (some ⟨w.heap.size, 0, none⟩) 1 1) 1 (WalkMix.cells [0]) :=
    ⟨rfl, .inr ⟨w.heap.size, 1, #[.int .u8 0], rfl, Nat.le_refl _, heap_alloc_new w _, Nat.le_refl _, by decide, rfl, rfl⟩⟩
  obtain ⟨i0, hi, hz0, hz1, hz2⟩ := info_parts WalkMix.info5
  obtain ⟨c, HC⟩ : ∃ c, Hid (grownCap (w.alloc (.cells #[.int .u8 0] 5)) s.size 0 5 = c) := ⟨_, rfl⟩
  have kb := run_bytes_of_string (P := Tryz.prog) (w.alloc (.cells #[.int .u8 0] 5)) 9 154 5 s Tryz.underlying9 Tryz.underlying154 Tryz.underlying5
  rw [HC.out] at kb
  clear HC
  obtain ⟨fr, HF⟩ : ∃ fr, Hid (((bytesRow s c).size, (bytesRow s c).size + 1) = fr) := ⟨_, rfl⟩
  rw [HF.out] at kb
  clear HF
  have hsl : (WalkMix.cells s.data.toList).length = s.size * 1 := by simp [WalkMix.cells]
  go_enter Tryz.func105, Tryz.ntmps105
  go_wp2_with (first
    | (at_builtin; refine wpList_append_own _ rfl (.tmp 5) (.tmp 7) 154 rfl w.heap.size 5 i0 (.int .u8 0) 1 1 Tryz.underlying154 hi hz0 hz1 hz2 rfl (by decide) _ _ _ rfl (h0.drew.alloc _) ⟨w.heap.size + 1, 0, none⟩ s.size c (WalkMix.cells s.data.toList) rfl hsl (bytes_at _ _ (by simp) s c _ fr) (cells_one _) (by unfold maxLen; omega) (by omega) (by simp; omega) ?_; intro v1 w1 o1 g1 _; obtain ⟨g, cap, rfl, kc⟩ := WalkMix.ownsRow_cells (l := 0 :: s.data.toList) (1 + s.size) o1 (by simp; omega) (by omega); have b1 : Below w.heap.size w w1 := ((((Below.refl w.heap.size w).alloc (Nat.le_refl _) _).alloc (by simp) _).drew).grown g1 (by simp; omega) (fun k hk => ((h0.lt k hk).1)); clear g1 o1 h0 kb)
    | (go_at_call 120; refine (sum_any _ _ (by rw [Nums.str_size]; unfold maxLen; simp; omega)).mono ?_; rintro e w2 ⟨rfl, rfl⟩))
  go_ret
  exact ⟨rfl, b1⟩

/-- the string cut out of the digits -/
theorem cut_digit (M : Int) (h0 : 0 ≤ M) :
    (ByteArray.mk #[48, 49, 50, 51, 52, 53, 54, 55, 56, 57, 97, 98, 99, 100, 101, 102]).extract (M % 16).toNat (M % 16 + 1).toNat = Nums.str [Nums.digit (M.toNat % 16)] := by
  have hd : ∀ k : Fin 16, ((ByteArray.mk #[48, 49, 50, 51, 52, 53, 54, 55, 56, 57, 97, 98, 99, 100, 101, 102]).extract k.val (k.val + 1)).data = #[Nums.digit k.val] := by decide +kernel
  have e : (M % 16).toNat = M.toNat % 16 := by omega
  have e' : (M % 16 + 1).toNat = M.toNat % 16 + 1 := by omega
  rw [e, e']
  apply ByteArray.ext
  exact hd ⟨M.toNat % 16, Nat.mod_lt _ (by decide)⟩
theorem next_text (N j : Nat) (M : Int) (hM : ((N / 16 ^ j : Nat) : Int) = M) :
    (ByteArray.mk #[48, 49, 50, 51, 52, 53, 54, 55, 56, 57, 97, 98, 99, 100, 101, 102]).extract (M % 16).toNat (M % 16 + 1).toNat ++ Nums.str (Nums.hexOf j N) = Nums.str (Nums.hexOf (j + 1) N) := by
  rw [cut_digit M (by rw [← hM]; exact Int.natCast_nonneg _), Nums.hexOf_cons, ← hM, Int.toNat_natCast, Nums.str_append]
  rfl

theorem text_div (N j : Nat) (M : Int) (hM : ((N / 16 ^ j : Nat) : Int) = M) : Value.int .i64 (M / 16) = .int .i64 ((N / 16 ^ (j + 1) : Nat) : Int) := by
  rw [Nat.pow_succ, ← Nat.div_div_eq_div_mul, ← hM]
  rfl

set_option maxHeartbeats 1000000 in
theorem text_any (n : Int) (w : World) (h : Nums.valid n = true) :
    Calls Tryz.prog 48 #[.int .i64 n] w fun e w' => e = .returned (.string (Nums.str (Nums.text n))) ∧ w' = w := by
  have hh : Hid (Nums.valid n = true) := h
  clear h
  obtain ⟨N, HN⟩ : ∃ N : Nat, Hid (n.toNat = N) := ⟨_, rfl⟩
  have hst : Hid (n = ((N / 16 ^ 0 : Nat) : Int)) := by
    have h1 := HN.out
    have h2 := Nums.valid_iff.1 hh.out
    show n = ((N / 16 ^ 0 : Nat) : Int)
    rw [Nat.pow_zero, Nat.div_one]
    omega
  go_enter Tryz.func48, Tryz.ntmps48
  go_wp2
  go_loop [0, 3, 4] (fun m t i => ∃ j : Nat, j ≤ 8 ∧ m = .int .i64 ((N / 16 ^ j : Nat) : Int) ∧ t = .string (Nums.str (Nums.hexOf j N)) ∧ i = .int .i64 j) (fun _ _ i => 8 - (intOf i).toNat)
  case atStart => exact ⟨0, by omega, congrArg (Value.int .i64) hst.out, rfl, rfl⟩
  case round =>
    obtain ⟨j, hj, rfl, rfl, rfl⟩ := hrel
    by_cases hlt : j < 8
    · have hb : N / 16 ^ j ≤ N := Nat.div_le_self _ _
      generalize hM : ((N / 16 ^ j : Nat) : Int) = M
      have HM : Hid (((N / 16 ^ j : Nat) : Int) = M) := hM
      have hb0 : 0 ≤ M := by rw [← hM]; exact Int.natCast_nonneg _
      have hb1 : M < 2147483647 := by have h1 := HN.out; have h2 := Nums.valid_iff.1 hh.out; omega
      have hsz : (Nums.str (Nums.hexOf j N)).size = j := by rw [Nums.str_size, Nums.hexOf_length]
      clear hM hb
      go_wp2
      go_round
      case rel => exact ⟨j + 1, by omega, text_div N j M HM.out, congrArg Value.string (next_text N j M HM.out), by go_num⟩
      case measure => simp [intOf]; omega
    · obtain rfl : j = 8 := by omega
      generalize ((N / 16 ^ 8 : Nat) : Int) = M
      go_wp2
      go_ret
      exact ⟨by rw [Nums.text, HN.out]; rfl, rfl⟩

/-- what a byte is worth, by its number -/
theorem hexv_low (c : UInt8) (h0 : 48 ≤ (c.toNat : Int)) (h1 : (c.toNat : Int) ≤ 57) : Nums.hexv c = (c.toNat : Int) - 48 := by
  have : ∀ k : Fin 256, 48 ≤ k.val → k.val ≤ 57 → Nums.hexv (UInt8.ofNat k.val) = (k.val : Int) - 48 := by decide +kernel
  have h := this ⟨c.toNat, c.toNat_lt⟩ (by simp; omega) (by simp; omega)
  simpa using h
theorem hexv_high (c : UInt8) (h0 : 97 ≤ (c.toNat : Int)) (h1 : (c.toNat : Int) ≤ 102) : Nums.hexv c = (c.toNat : Int) - 87 := by
  have : ∀ k : Fin 256, 97 ≤ k.val → k.val ≤ 102 → Nums.hexv (UInt8.ofNat k.val) = (k.val : Int) - 87 := by decide +kernel
  have h := this ⟨c.toNat, c.toNat_lt⟩ (by simp; omega) (by simp; omega)
  simpa using h
theorem hexv_none (c : UInt8) (h0 : ¬ (48 ≤ (c.toNat : Int) ∧ (c.toNat : Int) ≤ 57)) (h1 : ¬ (97 ≤ (c.toNat : Int) ∧ (c.toNat : Int) ≤ 102)) : Nums.hexv c < 0 := by
  have : ∀ k : Fin 256, ¬ (48 ≤ k.val ∧ k.val ≤ 57) → ¬ (97 ≤ k.val ∧ k.val ≤ 102) → Nums.hexv (UInt8.ofNat k.val) < 0 := by decide +kernel
  have h := this ⟨c.toNat, c.toNat_lt⟩ (by simp; omega) (by simp; omega)
  simpa using h

set_option maxHeartbeats 1000000 in
theorem read_len (s : ByteArray) (w : World) (h : s.size ≠ 8) :
    Calls Tryz.prog 15 #[.string s] w fun e w' => e = .returned (.tuple #[.int .i64 0, .int .i64 2]) ∧ w' = w := by
  have hb : ((s.size : Int) != 8) = true := by rw [bne_iff_ne]; omega
  go_enter Tryz.func15, Tryz.ntmps15
  go_wp2
  go_ret2
  exact ⟨rfl, rfl⟩

set_option maxHeartbeats 1000000 in
theorem read_eight (s : ByteArray) (w : World) (h : s.size = 8) :
    Calls Tryz.prog 15 #[.string s] w fun e w' => (Nums.allHex s.data.toList = false → e = .returned (.tuple #[.int .i64 0, .int .i64 2])) ∧
      (Nums.allHex s.data.toList = true → Nums.valid (Nums.val s.data.toList) = false → e = .returned (.tuple #[.int .i64 0, .int .i64 1])) ∧
      (Nums.allHex s.data.toList = true → Nums.valid (Nums.val s.data.toList) = true → e = .returned (.tuple #[.int .i64 (Nums.val s.data.toList), .int .i64 0])) ∧ w' = w := by
  have hb : ((s.size : Int) != 8) = false := by rw [bne_eq_false_iff_eq]; omega
  have HS : Hid (s.size = 8) := h
  clear h
  go_enter Tryz.func15, Tryz.ntmps15
  go_wp2
  go_loop [4, 5] (fun n i => ∃ k : Nat, k ≤ 8 ∧ i = .int .i64 k ∧ n = .int .i64 (Nums.val (s.data.toList.take k)) ∧ Hid (Nums.allHex (s.data.toList.take k) = true)) (fun _ i => 8 - (intOf i).toNat)
  case atStart => exact ⟨0, Nat.zero_le _, rfl, rfl, rfl⟩
  case round =>
    obtain ⟨k, hk, rfl, rfl, HA⟩ := hrel
    obtain ⟨v0, v1⟩ := WalkHex.val_take _ _ hk HA.out
    by_cases hlt : k < 8
    · have hks : k < s.size := by have := HS.out; omega
      have HV : Hid (Nums.val (s.data.toList.take (k + 1)) = Nums.val (s.data.toList.take k) * 16 + Nums.hexv s[k]) := by
        rw [Sums.take_snoc s k hks]; exact Nums.val_snoc _ _
      have HB : Hid (Nums.allHex (s.data.toList.take (k + 1)) = (Nums.allHex (s.data.toList.take k) && decide (0 ≤ Nums.hexv s[k]))) := by
        rw [Sums.take_snoc s k hks]; exact Nums.allHex_snoc _ _
      obtain ⟨x, hx, HX0⟩ : ∃ x : Int, wrap64 (s[k].toNat : Int) = x ∧ Hid ((s[k].toNat : Int) = x) := ⟨(s[k].toNat : Int), WalkSum.wrap64_in _ (by have := s[k].toNat_lt; omega), (rfl : (s[k].toNat : Int) = _)⟩
      have x0 : 0 ≤ x := by have := HX0.out; omega
      have x1 : x < 256 := by have := HX0.out; have := s[k].toNat_lt; omega
      by_cases hc : 48 ≤ x ∧ x ≤ 57
      · obtain ⟨c0, c1⟩ := hc
        have HX : Hid (Nums.hexv s[k] = x - 48) := by
          show Nums.hexv s[k] = x - 48
          rw [← HX0.out] at c0 c1 ⊢; exact hexv_low _ c0 c1
        go_wp2
        go_round
        case rel => exact ⟨k + 1, by omega, by go_num, by rw [HV.out, HX.out]; exact congrArg (Value.int .i64) (by omega), by rw [HB.out, HA.out, HX.out]; exact (by simp; omega : (true && decide (0 ≤ x - 48)) = true)⟩
        case measure => simp [intOf]; omega
      · by_cases hd : 97 ≤ x ∧ x ≤ 102
        · obtain ⟨c0, c1⟩ := hd
          have HX : Hid (Nums.hexv s[k] = x - 87) := by
            show Nums.hexv s[k] = x - 87
            rw [← HX0.out] at c0 c1 ⊢; exact hexv_high _ c0 c1
          have c2 : 48 ≤ x := by omega
          have c3 : ¬ x ≤ 57 := by omega
          clear hc
          go_wp2
          go_round
          case rel => exact ⟨k + 1, by omega, by go_num, by rw [HV.out, HX.out]; exact congrArg (Value.int .i64) (by omega), by rw [HB.out, HA.out, HX.out]; exact (by simp; omega : (true && decide (0 ≤ x - 87)) = true)⟩
          case measure => simp [intOf]; omega
        · have hf : Hid (Nums.allHex s.data.toList = false) := WalkHex.not_all s k hks (by rw [← HX0.out] at hc hd; exact hexv_none _ hc hd)
          by_cases c0 : 48 ≤ x
          · have c1 : ¬ x ≤ 57 := fun h => hc ⟨c0, h⟩
            by_cases c2 : 97 ≤ x
            · have c3 : ¬ x ≤ 102 := fun h => hd ⟨c2, h⟩
              clear hc hd
              go_wp2
              go_ret2
              exact ⟨fun _ => rfl, fun h => (by rw [hf.out] at h; cases h), fun h => (by rw [hf.out] at h; cases h), rfl⟩
            · clear hc hd
              go_wp2
              go_ret2
              exact ⟨fun _ => rfl, fun h => (by rw [hf.out] at h; cases h), fun h => (by rw [hf.out] at h; cases h), rfl⟩
          · have c2 : ¬ 97 ≤ x := by omega
            clear hc hd
            go_wp2
            go_ret2
            exact ⟨fun _ => rfl, fun h => (by rw [hf.out] at h; cases h), fun h => (by rw [hf.out] at h; cases h), rfl⟩
    · obtain rfl : k = 8 := by omega
      have ht : s.data.toList.take 8 = s.data.toList := List.take_of_length_le (by have := HS.out; simp; omega)
      rw [ht] at v0 v1 HA ⊢
      clear ht
      go_wp2_with (go_at_call 69; refine (valid_any _ _).mono ?_; rintro e w1 ⟨rfl, rfl⟩)
      · have hn : (!Nums.valid (Nums.val s.data.toList)) = true := by assumption
        have hv : Nums.valid (Nums.val s.data.toList) = false := by simpa using hn
        go_ret2
        exact ⟨fun h => (by rw [HA.out] at h; cases h), fun _ _ => rfl, fun _ h => (by rw [hv] at h; cases h), rfl⟩
      · have hn : (!Nums.valid (Nums.val s.data.toList)) = false := by assumption
        have hv : Nums.valid (Nums.val s.data.toList) = true := by simpa using hn
        go_ret2
        exact ⟨fun h => (by rw [HA.out] at h; cases h), fun _ h => (by rw [hv] at h; cases h), fun _ _ => rfl, rfl⟩

theorem read_any (s : ByteArray) (w : World) :
    Calls Tryz.prog 15 #[.string s] w fun e w' => e = .returned (.tuple #[.int .i64 (Nums.read s.data.toList).1, .int .i64 (Nums.read s.data.toList).2]) ∧ w' = w := by
  by_cases h8 : s.size = 8
  · refine (read_eight s w h8).mono ?_
    rintro e w' ⟨h1, h2, h3, rfl⟩
    refine ⟨?_, rfl⟩
    unfold Nums.read
    cases ha : Nums.allHex s.data.toList
    · rw [if_neg (by simp)]; exact h1 ha
    · rw [if_pos ⟨by simpa using h8, rfl⟩]
      cases hv : Nums.valid (Nums.val s.data.toList)
      · exact h2 ha hv
      · exact h3 ha hv
  · refine (read_len s w h8).mono ?_
    rintro e w' ⟨rfl, rfl⟩
    refine ⟨?_, rfl⟩
    unfold Nums.read
    rw [if_neg (by intro h; exact h8 (by simpa using h.1))]
    rfl

end Go.Proofs.YticadkggaanbjaaGreatDoor.WalkRef

/-
  What the document's own answers (package witref1) return on trees: Half, All, Leafs, Node, Root, Data, Sums and same.
-/
namespace Go.Proofs.YticadkggaanbjaaGreatDoor.WalkTreeRef
open Go.RowKit
open Lists (Row ints strs bt)

theorem half_any (n : Nat) (w : World) (h0 : 2 ≤ n) (h1 : n ≤ 1000000) :
    Calls Tryz.prog 107 #[.int .i64 (n : Int)] w fun e w' => e = .returned (.int .i64 (Trees.half n : Nat)) ∧ w' = w := by
  go_enter Tryz.func107, Tryz.ntmps107
  go_wp2_with fail
  go_loop [3] (fun i => ∃ k : Nat, i = .int .i64 (k : Int) ∧ k < n ∧ 1 ≤ k ∧ Hid (∃ j : Nat, k = 2 ^ j)) (fun i => n - (intOf i).toNat)
  case atStart => exact ⟨1, rfl, by omega, by omega, 0, rfl⟩
  case round =>
    obtain ⟨k, rfl, hk, hk1, HP⟩ := hrel
    by_cases hlt : 2 * k < n
    · have i1 : 2 * (k : Int) < (n : Int) := by omega
      go_wp2_with fail
      go_round
      case rel =>
        refine ⟨2 * k, by go_num, hlt, by omega, ?_⟩
        obtain ⟨j, hj⟩ := HP.out
        exact ⟨j + 1, by rw [Nat.pow_succ, hj, Nat.mul_comm]⟩
      case measure => simp [intOf]; omega
    · have i1 : ¬ 2 * (k : Int) < (n : Int) := by omega
      have HH : Hid (Trees.half n = k) := by
        obtain ⟨j, hj⟩ := HP.out
        rw [hj]
        exact Trees.half_unique n j h0 (by omega) (by omega)
      go_wp2_with fail
      go_ret
      exact ⟨by rw [HH.out]; rfl, rfl⟩


theorem node_any (a b : Int) (w : World) (ha : Nums.valid a = true) (hb : Nums.valid b = true) :
    Calls Tryz.prog 121 #[.int .i64 a, .int .i64 b] w fun e w' => e = .returned (.int .i64 (Sums.sum (Nums.nodeBytes a b))) ∧ Below w.heap.size w w' := by
  have hs : (Nums.str (Nums.nodeBytes a b)).size ≤ maxLen := by rw [Nums.str_size, Nums.nodeBytes_length]; decide
  have hd := Nums.str_data (Nums.nodeBytes a b)
  go_enter Tryz.func121, Tryz.ntmps121
  go_wp2_with fail
  refine (WalkRef.nodeBytes_any a b _ ha hb).mono ?_
  rintro e w1 ⟨rfl, b1⟩
  go_wp2_with fail
  refine (WalkRef.sum_any _ _ hs).mono ?_
  rintro e w2 ⟨rfl, rfl⟩
  rw [hd]
  clear hs hd
  go_wp2_with fail
  go_ret
  exact ⟨rfl, b1⟩

set_option maxHeartbeats 1000000 in
theorem root_any : ∀ (f : Nat) (l : List Int) (a : Option Addr) (n cap : Nat) (w : World), n < f → n ≤ 1000000 → Row w a n cap (ints l) → (∀ x ∈ l, Nums.valid x = true) →
    Calls Tryz.prog 59 #[.slice a n cap] w fun e w' => e = .returned (.int .i64 (Trees.root l)) ∧ Below w.heap.size w w'
  | 0, _, _, _, _, _, h, _, _, _ => by omega
  | f + 1, l, a, n, cap, w, hf, hn, hr, hv => by
    have hln : l.length = n := by rw [← hr.1, Lists.ints_length]
    by_cases h0 : n = 0
    · have e := Trees.root_none l (by omega)
      subst h0
      rw [e]
      clear e hr hv hln hf hn
      go_enter Tryz.func59, Tryz.ntmps59
      go_wp2_with (go_at_call 120; refine (WalkRef.sum_any _ _ (by decide)).mono ?_; rintro e w' ⟨rfl, rfl⟩)
      go_ret
      exact ⟨rfl, Below.refl _ _⟩
    by_cases h1 : n = 1
    · have e := Trees.root_one l (by omega)
      subst h1
      obtain ⟨b, off, rfl, hc⟩ := hr.2.2 (by omega)
      have hc0 : w.cell? ⟨b, off, none⟩ = some (.int .i64 (l.getD 0 0)) := by
        have := hc 0 _ (Lists.ints_at (by omega))
        simpa using this
      rw [e]
      generalize l.getD 0 0 = x at hc0 ⊢
      clear e hr hv hln hf hn hc h0
      go_enter Tryz.func59, Tryz.ntmps59
      go_wp2_with fail
      go_ret
      exact ⟨rfl, Below.refl _ _⟩
    have h2 : 2 ≤ n := by omega
    obtain ⟨b, off, rfl, _⟩ := hr.2.2 (by omega)
    have kl := Trees.half_lt n h2
    have kp := Trees.half_pos n
    have e := Trees.root_more l (by omega)
    rw [hln] at e
    have cS := fun w => half_any n w h2 hn
    generalize Trees.half n = k at kl kp e cS
    have hcap := hr.2.1
    have hck : ¬ cap = k := by omega
    have r1 : Row w (some ⟨b, off, none⟩) k cap (ints (l.take k)) := by rw [Lists.ints_take]; exact hr.take k (by omega)
    have r2 : Row w (some ⟨b, off + k, none⟩) (n - k) (cap - k) (ints (l.drop k)) := by rw [Lists.ints_drop]; exact hr.drop k (by omega)
    have v1 : ∀ x ∈ l.take k, Nums.valid x = true := fun x hx => hv x (List.mem_of_mem_take hx)
    have v2 : ∀ x ∈ l.drop k, Nums.valid x = true := fun x hx => hv x (List.mem_of_mem_drop hx)
    have c1 := root_any f (l.take k) _ k cap w (by omega) (by omega) r1 v1
    have c2 := fun w1 (b1 : Below w.heap.size w w1) => root_any f (l.drop k) _ (n - k) (cap - k) w1 (by omega) (by omega) (r2.below b1) v2
    have c3 : ∀ w1, Calls Tryz.prog 121 #[.int .i64 (Trees.root (l.take k)), .int .i64 (Trees.root (l.drop k))] w1 fun e w'' => e = .returned (.int .i64 (Trees.root l)) ∧ Below w1.heap.size w1 w'' :=
      fun w1 => by rw [e]; exact node_any _ _ _ (Trees.root_valid _ v1) (Trees.root_valid _ v2)
    have i1 : (k : Int) ≤ (cap : Int) := by omega
    have i2 : (k : Int) ≤ (n : Int) := by omega
    have j0 : ¬ (n : Int) = 0 := by omega
    have j1 : ¬ (n : Int) = 1 := by omega
    clear e hr hv hln hf r1 r2 v1 v2
    go_enter Tryz.func59, Tryz.ntmps59
    go_wp2_with fail
    refine (cS _).mono ?_
    rintro e w' ⟨rfl, rfl⟩
    go_wp2_with fail
    refine c1.mono ?_
    rintro e w1 ⟨rfl, b1⟩
    go_wp2_with fail
    refine (c2 _ b1).mono ?_
    rintro e w2 ⟨rfl, b2⟩
    go_wp2_with fail
    refine (c3 _).mono ?_
    rintro e w3 ⟨rfl, b3⟩
    go_wp2_with fail
    go_ret
    exact ⟨rfl, bt (bt b1 b2) b3⟩
theorem root_le (l : List Int) (a : Option Addr) (n cap : Nat) (w : World) (hn : n ≤ 1000000) (hr : Row w a n cap (ints l)) (hv : ∀ x ∈ l, Nums.valid x = true) :
    Calls Tryz.prog 59 #[.slice a n cap] w fun e w' => e = .returned (.int .i64 (Trees.root l)) ∧ Below w.heap.size w w' :=
  root_any (n + 1) l a n cap w (Nat.lt_succ_self _) hn hr hv

end Go.Proofs.YticadkggaanbjaaGreatDoor.WalkTreeRef

/-
  The root of entries, as the document's own answer (package witref1) has it.
-/
namespace Go.Proofs.YticadkggaanbjaaGreatDoor.WalkRootOf
open Go.RowKit
open Lists (Row ints bt)
open Keeps (owns_row)
open Entries (Entry leafsOf)
open Mirrors (rootE)

theorem leafs_valid {l : List Entry} : ∀ x ∈ leafsOf l, Nums.valid x = true := by
  intro x hx
  obtain ⟨e, _, rfl⟩ := List.mem_map.1 hx
  have := Sums.sum_bd (0 :: Entries.bytes e)
  exact Nums.valid_iff.2 ⟨this.1, this.2⟩
theorem root_of (l : List Entry) (v : Value) (w : World) (B : Nat) (hown : w.ownsRow B 3 1 v (leafsOf l).length (ints (leafsOf l))) (hl : l.length ≤ 1000) :
    Calls Tryz.prog 59 #[v] w fun e w' => e = .returned (.int .i64 (rootE l)) ∧ Below w.heap.size w w' := by
  obtain ⟨a, c, rfl, hr, _⟩ := owns_row hown
  have hll : (leafsOf l).length = l.length := by simp [leafsOf]
  exact WalkTreeRef.root_any _ (leafsOf l) a _ c w (Nat.lt_succ_self _) (by omega) hr leafs_valid

end Go.Proofs.YticadkggaanbjaaGreatDoor.WalkRootOf

