/-
  What the document's own answers (package witref1) return on sums: Valid, Sum, four, NodeBytes, Leaf, Text and Read.
-/
import Derived.Test.YtibmgmadoaencadDoorWalkHex
import Derived.Test.YtibmgmadoaencadDoorWalkMix
import Derived.Laws.DeepStrings4
namespace Go.Proofs.YtibmgmadoaencadDoor.WalkRef
open Go.RowKit

theorem valid_any (n : Int) (w : World) :
    Calls Tryd.prog 43 #[.int .i64 n] w fun e w' => e = .returned (.bool (Nums.valid n)) ∧ w' = w := by
  cases h : Nums.valid n
  · have h' := Nums.valid_no.1 h
    clear h
    by_cases h0 : 0 ≤ n
    · have h1 : ¬ n < 2147483647 := fun h1 => h' ⟨h0, h1⟩
      clear h'
      go_enter Tryd.func43, Tryd.ntmps43
      go_wp2
      go_ret
      exact ⟨rfl, rfl⟩
    · clear h'
      go_enter Tryd.func43, Tryd.ntmps43
      go_wp2
      go_ret
      exact ⟨rfl, rfl⟩
  · obtain ⟨h0, h1⟩ := Nums.valid_iff.1 h
    clear h
    go_enter Tryd.func43, Tryd.ntmps43
    go_wp2
    go_ret
    exact ⟨rfl, rfl⟩

set_option maxHeartbeats 400000 in
theorem sum_any (s : ByteArray) (w : World) (hs : s.size ≤ maxLen) :
    Calls Tryd.prog 57 #[.string s] w fun e w' => e = .returned (.int .i64 (Sums.sum s.data.toList)) ∧ w' = w := by
  unfold maxLen at hs
  go_enter Tryd.func57, Tryd.ntmps57
  go_wp2
  go_loop [3, 4] (fun t i => ∃ k : Nat, k ≤ s.size ∧ i = .int .i64 k ∧ t = .int .i64 (Sums.sum (s.data.toList.take k))) (fun _ i => s.size - (intOf i).toNat)
  case atStart => exact ⟨0, Nat.zero_le _, rfl, rfl⟩
  case round =>
    obtain ⟨k, hk, rfl, rfl⟩ := hrel
    obtain ⟨hb0, hb1⟩ := Sums.sum_bd (s.data.toList.take k)
    by_cases hlt : k < s.size
    · have HS : Hid (Sums.sum (s.data.toList.take (k + 1)) = Sums.step (Sums.sum (s.data.toList.take k)) s[k]) := by
        rw [Sums.take_snoc s k hlt]; exact Sums.sumFrom_snoc _ _ _
      go_wp2
      go_round
      case rel => exact ⟨k + 1, by omega, by go_num, by rw [HS.out]; exact congrArg (Value.int .i64) (WalkSum.step_walk _ _ hb0 hb1)⟩
      case measure => simp [intOf]; omega
    · go_wp2
      go_ret
      exact ⟨WalkSum.ret_int (by rw [List.take_of_length_le (by simp; omega)]), rfl⟩

theorem one_at (w : World) (v : Value) (t : TypeId) : ∀ j u, [v][j]? = some u → (w.alloc (.cells #[v] t)).cell? ((⟨w.heap.size, 0, none⟩ : Addr).add j) = some u := by
  intro j u hj
  match j, hj with
  | 0, hj => simp at hj; subst hj; simp [Addr.add]
  | j + 1, hj => simp at hj
theorem one_cell (k : IntKind) (n : Int) : ∀ u ∈ [Value.int k n], u.oneCell' = true := by
  intro u hu
  simp at hu
  subst hu
  rfl

theorem add_at (g i : Nat) : (⟨g, 0, none⟩ : Addr).add i = ⟨g, i, none⟩ := by unfold Addr.add; split <;> simp_all
theorem bytes_at (W : World) (g : Nat) (hg : g = W.heap.size) (s : ByteArray) (cap : Nat) (e : TypeId) (fr : Nat × Nat) :
    ∀ j u, (WalkMix.cells s.data.toList)[j]? = some u → (W.alloc (.cells (bytesRow s cap) e fr)).cell? ((⟨g, 0, none⟩ : Addr).add j) = some u := by
  subst hg
  intro j u hj
  rw [add_at]
  have hl : j < s.data.toList.length := by
    rcases Nat.lt_or_ge j s.data.toList.length with h | h
    · exact h
    · simp [WalkMix.cells, List.getElem?_eq_none (by simpa using h : s.data.toList.length ≤ j)] at hj
  rw [cell_of_row _ _ _ (bytesRow s cap) e fr (heap_alloc_new W _)]
  have hl' : j < (s.data.map (fun b => Value.int .u8 (b.toNat : Int))).size := by simpa using hl
  rw [bytesRow, Array.getElem?_append_left hl']
  simp [WalkMix.cells] at hj ⊢
  exact hj
theorem cells_one (l : List UInt8) : ∀ u ∈ WalkMix.cells l, u.oneCell' = true := by
  intro u hu
  obtain ⟨c, _, rfl⟩ := List.mem_map.1 hu
  rfl

set_option maxHeartbeats 1000000 in
theorem leaf_any (s : ByteArray) (w : World) (hs : s.size ≤ 140737488351232) :
    Calls Tryd.prog 40 #[.string s] w fun e w' => e = .returned (.int .i64 (Sums.sum (0 :: s.data.toList))) ∧ Below w.heap.size w w' := by
  have h0 : (w.alloc (.cells #[.int .u8 0] 5)).ownsRow w.heap.size 5 1 (.slice (some ⟨w.heap.size, 0, none⟩) 1 1) 1 (WalkMix.cells [0]) :=
    ⟨rfl, .inr ⟨w.heap.size, 1, #[.int .u8 0], rfl, Nat.le_refl _, heap_alloc_new w _, Nat.le_refl _, by decide, rfl, rfl⟩⟩
  obtain ⟨i0, hi, hz0, hz1, hz2⟩ := info_parts WalkMix.info5
  obtain ⟨c, HC⟩ : ∃ c, Hid (grownCap (w.alloc (.cells #[.int .u8 0] 5)) s.size 0 5 = c) := ⟨_, rfl⟩
  have kb := run_bytes_of_string (P := Tryd.prog) (w.alloc (.cells #[.int .u8 0] 5)) 9 46 5 s Tryd.underlying9 Tryd.underlying46 Tryd.underlying5
  rw [HC.out] at kb
  clear HC
  obtain ⟨fr, HF⟩ : ∃ fr, Hid (((bytesRow s c).size, (bytesRow s c).size + 1) = fr) := ⟨_, rfl⟩
  rw [HF.out] at kb
  clear HF
  have hsl : (WalkMix.cells s.data.toList).length = s.size * 1 := by simp [WalkMix.cells]
  go_enter Tryd.func40, Tryd.ntmps40
  go_wp2_with (first
    | (at_builtin; refine wpList_append_own _ rfl (.tmp 5) (.tmp 7) 46 rfl w.heap.size 5 i0 (.int .u8 0) 1 1 Tryd.underlying46 hi hz0 hz1 hz2 rfl (by decide) _ _ _ rfl (h0.drew.alloc _) ⟨w.heap.size + 1, 0, none⟩ s.size c (WalkMix.cells s.data.toList) rfl hsl (bytes_at _ _ (by simp) s c _ fr) (cells_one _) (by unfold maxLen; omega) (by omega) (by simp; omega) ?_; intro v1 w1 o1 g1 _; obtain ⟨g, cap, rfl, kc⟩ := WalkMix.ownsRow_cells (l := 0 :: s.data.toList) (1 + s.size) o1 (by simp; omega) (by omega); have b1 : Below w.heap.size w w1 := ((((Below.refl w.heap.size w).alloc (Nat.le_refl _) _).alloc (by simp) _).drew).grown g1 (by simp; omega) (fun k hk => ((h0.lt k hk).1)); clear g1 o1 h0 kb)
    | (go_at_call 57; refine (sum_any _ _ (by rw [Nums.str_size]; unfold maxLen; simp; omega)).mono ?_; rintro e w2 ⟨rfl, rfl⟩))
  go_ret
  exact ⟨rfl, b1⟩

/-- the string cut out of the digits -/
theorem cut_digit (M : Int) (h0 : 0 ≤ M) :
    (ByteArray.mk #[48, 49, 50, 51, 52, 53, 54, 55, 56, 57, 97, 98, 99, 100, 101, 102]).extract (M % 16).toNat (M % 16 + 1).toNat = Nums.str [Nums.digit (M.toNat % 16)] := by
  have hd : ∀ k : Fin 16, ((ByteArray.mk #[48, 49, 50, 51, 52, 53, 54, 55, 56, 57, 97, 98, 99, 100, 101, 102]).extract k.val (k.val + 1)).data = #[Nums.digit k.val] := by decide +kernel
  have e : (M % 16).toNat = M.toNat % 16 := by omega
  have e' : (M % 16 + 1).toNat = M.toNat % 16 + 1 := by omega
  rw [e, e']
  apply ByteArray.ext
  exact hd ⟨M.toNat % 16, Nat.mod_lt _ (by decide)⟩
theorem next_text (N j : Nat) (M : Int) (hM : ((N / 16 ^ j : Nat) : Int) = M) :
    (ByteArray.mk #[48, 49, 50, 51, 52, 53, 54, 55, 56, 57, 97, 98, 99, 100, 101, 102]).extract (M % 16).toNat (M % 16 + 1).toNat ++ Nums.str (Nums.hexOf j N) = Nums.str (Nums.hexOf (j + 1) N) := by
  rw [cut_digit M (by rw [← hM]; exact Int.natCast_nonneg _), Nums.hexOf_cons, ← hM, Int.toNat_natCast, Nums.str_append]
  rfl

theorem text_div (N j : Nat) (M : Int) (hM : ((N / 16 ^ j : Nat) : Int) = M) : Value.int .i64 (M / 16) = .int .i64 ((N / 16 ^ (j + 1) : Nat) : Int) := by
  rw [Nat.pow_succ, ← Nat.div_div_eq_div_mul, ← hM]
  rfl

set_option maxHeartbeats 1000000 in
theorem text_any (n : Int) (w : World) (h : Nums.valid n = true) :
    Calls Tryd.prog 46 #[.int .i64 n] w fun e w' => e = .returned (.string (Nums.str (Nums.text n))) ∧ w' = w := by
  have hh : Hid (Nums.valid n = true) := h
  clear h
  obtain ⟨N, HN⟩ : ∃ N : Nat, Hid (n.toNat = N) := ⟨_, rfl⟩
  have hst : Hid (n = ((N / 16 ^ 0 : Nat) : Int)) := by
    have h1 := HN.out
    have h2 := Nums.valid_iff.1 hh.out
    show n = ((N / 16 ^ 0 : Nat) : Int)
    rw [Nat.pow_zero, Nat.div_one]
    omega
  go_enter Tryd.func46, Tryd.ntmps46
  go_wp2
  go_loop [0, 3, 4] (fun m t i => ∃ j : Nat, j ≤ 8 ∧ m = .int .i64 ((N / 16 ^ j : Nat) : Int) ∧ t = .string (Nums.str (Nums.hexOf j N)) ∧ i = .int .i64 j) (fun _ _ i => 8 - (intOf i).toNat)
  case atStart => exact ⟨0, by omega, congrArg (Value.int .i64) hst.out, rfl, rfl⟩
  case round =>
    obtain ⟨j, hj, rfl, rfl, rfl⟩ := hrel
    by_cases hlt : j < 8
    · have hb : N / 16 ^ j ≤ N := Nat.div_le_self _ _
      generalize hM : ((N / 16 ^ j : Nat) : Int) = M
      have HM : Hid (((N / 16 ^ j : Nat) : Int) = M) := hM
      have hb0 : 0 ≤ M := by rw [← hM]; exact Int.natCast_nonneg _
      have hb1 : M < 2147483647 := by have h1 := HN.out; have h2 := Nums.valid_iff.1 hh.out; omega
      have hsz : (Nums.str (Nums.hexOf j N)).size = j := by rw [Nums.str_size, Nums.hexOf_length]
      clear hM hb
      go_wp2
      go_round
      case rel => exact ⟨j + 1, by omega, text_div N j M HM.out, congrArg Value.string (next_text N j M HM.out), by go_num⟩
      case measure => simp [intOf]; omega
    · obtain rfl : j = 8 := by omega
      generalize ((N / 16 ^ 8 : Nat) : Int) = M
      go_wp2
      go_ret
      exact ⟨by rw [Nums.text, HN.out]; rfl, rfl⟩

/-- what a byte is worth, by its number -/
theorem hexv_low (c : UInt8) (h0 : 48 ≤ (c.toNat : Int)) (h1 : (c.toNat : Int) ≤ 57) : Nums.hexv c = (c.toNat : Int) - 48 := by
  have : ∀ k : Fin 256, 48 ≤ k.val → k.val ≤ 57 → Nums.hexv (UInt8.ofNat k.val) = (k.val : Int) - 48 := by decide +kernel
  have h := this ⟨c.toNat, c.toNat_lt⟩ (by simp; omega) (by simp; omega)
  simpa using h
theorem hexv_high (c : UInt8) (h0 : 97 ≤ (c.toNat : Int)) (h1 : (c.toNat : Int) ≤ 102) : Nums.hexv c = (c.toNat : Int) - 87 := by
  have : ∀ k : Fin 256, 97 ≤ k.val → k.val ≤ 102 → Nums.hexv (UInt8.ofNat k.val) = (k.val : Int) - 87 := by decide +kernel
  have h := this ⟨c.toNat, c.toNat_lt⟩ (by simp; omega) (by simp; omega)
  simpa using h
theorem hexv_none (c : UInt8) (h0 : ¬ (48 ≤ (c.toNat : Int) ∧ (c.toNat : Int) ≤ 57)) (h1 : ¬ (97 ≤ (c.toNat : Int) ∧ (c.toNat : Int) ≤ 102)) : Nums.hexv c < 0 := by
  have : ∀ k : Fin 256, ¬ (48 ≤ k.val ∧ k.val ≤ 57) → ¬ (97 ≤ k.val ∧ k.val ≤ 102) → Nums.hexv (UInt8.ofNat k.val) < 0 := by decide +kernel
  have h := this ⟨c.toNat, c.toNat_lt⟩ (by simp; omega) (by simp; omega)
  simpa using h

set_option maxHeartbeats 1000000 in
theorem read_len (s : ByteArray) (w : World) (h : s.size ≠ 8) :
    Calls Tryd.prog 51 #[.string s] w fun e w' => e = .returned (.tuple #[.int .i64 0, .int .i64 2]) ∧ w' = w := by
  have hb : ((s.size : Int) != 8) = true := by rw [bne_iff_ne]; omega
  go_enter Tryd.func51, Tryd.ntmps51
  go_wp2
  go_ret2
  exact ⟨rfl, rfl⟩

set_option maxHeartbeats 1000000 in
theorem read_eight (s : ByteArray) (w : World) (h : s.size = 8) :
    Calls Tryd.prog 51 #[.string s] w fun e w' => (Nums.allHex s.data.toList = false → e = .returned (.tuple #[.int .i64 0, .int .i64 2])) ∧
      (Nums.allHex s.data.toList = true → Nums.valid (Nums.val s.data.toList) = false → e = .returned (.tuple #[.int .i64 0, .int .i64 1])) ∧
      (Nums.allHex s.data.toList = true → Nums.valid (Nums.val s.data.toList) = true → e = .returned (.tuple #[.int .i64 (Nums.val s.data.toList), .int .i64 0])) ∧ w' = w := by
  have hb : ((s.size : Int) != 8) = false := by rw [bne_eq_false_iff_eq]; omega
  have HS : Hid (s.size = 8) := h
  clear h
  go_enter Tryd.func51, Tryd.ntmps51
  go_wp2
  go_loop [4, 5] (fun n i => ∃ k : Nat, k ≤ 8 ∧ i = .int .i64 k ∧ n = .int .i64 (Nums.val (s.data.toList.take k)) ∧ Hid (Nums.allHex (s.data.toList.take k) = true)) (fun _ i => 8 - (intOf i).toNat)
  case atStart => exact ⟨0, Nat.zero_le _, rfl, rfl, rfl⟩
  case round =>
    obtain ⟨k, hk, rfl, rfl, HA⟩ := hrel
    obtain ⟨v0, v1⟩ := WalkHex.val_take _ _ hk HA.out
    by_cases hlt : k < 8
    · have hks : k < s.size := by have := HS.out; omega
      have HV : Hid (Nums.val (s.data.toList.take (k + 1)) = Nums.val (s.data.toList.take k) * 16 + Nums.hexv s[k]) := by
        rw [Sums.take_snoc s k hks]; exact Nums.val_snoc _ _
      have HB : Hid (Nums.allHex (s.data.toList.take (k + 1)) = (Nums.allHex (s.data.toList.take k) && decide (0 ≤ Nums.hexv s[k]))) := by
        rw [Sums.take_snoc s k hks]; exact Nums.allHex_snoc _ _
      obtain ⟨x, hx, HX0⟩ : ∃ x : Int, wrap64 (s[k].toNat : Int) = x ∧ Hid ((s[k].toNat : Int) = x) := ⟨(s[k].toNat : Int), WalkSum.wrap64_in _ (by have := s[k].toNat_lt; omega), (rfl : (s[k].toNat : Int) = _)⟩
      have x0 : 0 ≤ x := by have := HX0.out; omega
      have x1 : x < 256 := by have := HX0.out; have := s[k].toNat_lt; omega
      by_cases hc : 48 ≤ x ∧ x ≤ 57
      · obtain ⟨c0, c1⟩ := hc
        have HX : Hid (Nums.hexv s[k] = x - 48) := by
          show Nums.hexv s[k] = x - 48
          rw [← HX0.out] at c0 c1 ⊢; exact hexv_low _ c0 c1
        go_wp2
        go_round
        case rel => exact ⟨k + 1, by omega, by go_num, by rw [HV.out, HX.out]; exact congrArg (Value.int .i64) (by omega), by rw [HB.out, HA.out, HX.out]; exact (by simp; omega : (true && decide (0 ≤ x - 48)) = true)⟩
        case measure => simp [intOf]; omega
      · by_cases hd : 97 ≤ x ∧ x ≤ 102
        · obtain ⟨c0, c1⟩ := hd
          have HX : Hid (Nums.hexv s[k] = x - 87) := by
            show Nums.hexv s[k] = x - 87
            rw [← HX0.out] at c0 c1 ⊢; exact hexv_high _ c0 c1
          have c2 : 48 ≤ x := by omega
          have c3 : ¬ x ≤ 57 := by omega
          clear hc
          go_wp2
          go_round
          case rel => exact ⟨k + 1, by omega, by go_num, by rw [HV.out, HX.out]; exact congrArg (Value.int .i64) (by omega), by rw [HB.out, HA.out, HX.out]; exact (by simp; omega : (true && decide (0 ≤ x - 87)) = true)⟩
          case measure => simp [intOf]; omega
        · have hf : Hid (Nums.allHex s.data.toList = false) := WalkHex.not_all s k hks (by rw [← HX0.out] at hc hd; exact hexv_none _ hc hd)
          by_cases c0 : 48 ≤ x
          · have c1 : ¬ x ≤ 57 := fun h => hc ⟨c0, h⟩
            by_cases c2 : 97 ≤ x
            · have c3 : ¬ x ≤ 102 := fun h => hd ⟨c2, h⟩
              clear hc hd
              go_wp2
              go_ret2
              exact ⟨fun _ => rfl, fun h => (by rw [hf.out] at h; cases h), fun h => (by rw [hf.out] at h; cases h), rfl⟩
            · clear hc hd
              go_wp2
              go_ret2
              exact ⟨fun _ => rfl, fun h => (by rw [hf.out] at h; cases h), fun h => (by rw [hf.out] at h; cases h), rfl⟩
          · have c2 : ¬ 97 ≤ x := by omega
            clear hc hd
            go_wp2
            go_ret2
            exact ⟨fun _ => rfl, fun h => (by rw [hf.out] at h; cases h), fun h => (by rw [hf.out] at h; cases h), rfl⟩
    · obtain rfl : k = 8 := by omega
      have ht : s.data.toList.take 8 = s.data.toList := List.take_of_length_le (by have := HS.out; simp; omega)
      rw [ht] at v0 v1 HA ⊢
      clear ht
      go_wp2_with (go_at_call 43; refine (valid_any _ _).mono ?_; rintro e w1 ⟨rfl, rfl⟩)
      · have hn : (!Nums.valid (Nums.val s.data.toList)) = true := by assumption
        have hv : Nums.valid (Nums.val s.data.toList) = false := by simpa using hn
        go_ret2
        exact ⟨fun h => (by rw [HA.out] at h; cases h), fun _ _ => rfl, fun _ h => (by rw [hv] at h; cases h), rfl⟩
      · have hn : (!Nums.valid (Nums.val s.data.toList)) = false := by assumption
        have hv : Nums.valid (Nums.val s.data.toList) = true := by simpa using hn
        go_ret2
        exact ⟨fun h => (by rw [HA.out] at h; cases h), fun _ h => (by rw [hv] at h; cases h), fun _ _ => rfl, rfl⟩

theorem read_any (s : ByteArray) (w : World) :
    Calls Tryd.prog 51 #[.string s] w fun e w' => e = .returned (.tuple #[.int .i64 (Nums.read s.data.toList).1, .int .i64 (Nums.read s.data.toList).2]) ∧ w' = w := by
  by_cases h8 : s.size = 8
  · refine (read_eight s w h8).mono ?_
    rintro e w' ⟨h1, h2, h3, rfl⟩
    refine ⟨?_, rfl⟩
    unfold Nums.read
    cases ha : Nums.allHex s.data.toList
    · rw [if_neg (by simp)]; exact h1 ha
    · rw [if_pos ⟨by simpa using h8, rfl⟩]
      cases hv : Nums.valid (Nums.val s.data.toList)
      · exact h2 ha hv
      · exact h3 ha hv
  · refine (read_len s w h8).mono ?_
    rintro e w' ⟨rfl, rfl⟩
    refine ⟨?_, rfl⟩
    unfold Nums.read
    rw [if_neg (by intro h; exact h8 (by simpa using h.1))]
    rfl

end Go.Proofs.YtibmgmadoaencadDoor.WalkRef
