/-
  What the document's own answers (package witref1) return on sums: Valid, Sum, four, NodeBytes, Leaf, Text and Read.
-/
import Derived.Test.YtjacioplocmciahGreatDoorWalkHex
import Derived.Test.YtjacioplocmciahGreatDoorWalkMix
import Derived.Laws.DeepStrings4
namespace Go.Proofs.YtjacioplocmciahGreatDoor.WalkRef
open Go.RowKit

theorem valid_any (n : Int) (w : World) :
    Calls Tryz.prog 28 #[.int .i64 n] w fun e w' => e = .returned (.bool (Nums.valid n)) ∧ w' = w := by
  cases h : Nums.valid n
  · have h' := Nums.valid_no.1 h
    clear h
    by_cases h0 : 0 ≤ n
    · have h1 : ¬ n < 2147483647 := fun h1 => h' ⟨h0, h1⟩
      clear h'
      go_enter Tryz.func28, Tryz.ntmps28
      go_wp2
      go_ret
      exact ⟨rfl, rfl⟩
    · clear h'
      go_enter Tryz.func28, Tryz.ntmps28
      go_wp2
      go_ret
      exact ⟨rfl, rfl⟩
  · obtain ⟨h0, h1⟩ := Nums.valid_iff.1 h
    clear h
    go_enter Tryz.func28, Tryz.ntmps28
    go_wp2
    go_ret
    exact ⟨rfl, rfl⟩

theorem one_at (w : World) (v : Value) (t : TypeId) : ∀ j u, [v][j]? = some u → (w.alloc (.cells #[v] t)).cell? ((⟨w.heap.size, 0, none⟩ : Addr).add j) = some u := by
  intro j u hj
  match j, hj with
  | 0, hj => simp at hj; subst hj; simp [Addr.add]
  | j + 1, hj => simp at hj
theorem one_cell (k : IntKind) (n : Int) : ∀ u ∈ [Value.int k n], u.oneCell' = true := by
  intro u hu
  simp at hu
  subst hu
  rfl

/-- what a byte is worth, by its number -/
theorem hexv_low (c : UInt8) (h0 : 48 ≤ (c.toNat : Int)) (h1 : (c.toNat : Int) ≤ 57) : Nums.hexv c = (c.toNat : Int) - 48 := by
  have : ∀ k : Fin 256, 48 ≤ k.val → k.val ≤ 57 → Nums.hexv (UInt8.ofNat k.val) = (k.val : Int) - 48 := by decide +kernel
  have h := this ⟨c.toNat, c.toNat_lt⟩ (by simp; omega) (by simp; omega)
  simpa using h
theorem hexv_high (c : UInt8) (h0 : 97 ≤ (c.toNat : Int)) (h1 : (c.toNat : Int) ≤ 102) : Nums.hexv c = (c.toNat : Int) - 87 := by
  have : ∀ k : Fin 256, 97 ≤ k.val → k.val ≤ 102 → Nums.hexv (UInt8.ofNat k.val) = (k.val : Int) - 87 := by decide +kernel
  have h := this ⟨c.toNat, c.toNat_lt⟩ (by simp; omega) (by simp; omega)
  simpa using h
theorem hexv_none (c : UInt8) (h0 : ¬ (48 ≤ (c.toNat : Int) ∧ (c.toNat : Int) ≤ 57)) (h1 : ¬ (97 ≤ (c.toNat : Int) ∧ (c.toNat : Int) ≤ 102)) : Nums.hexv c < 0 := by
  have : ∀ k : Fin 256, ¬ (48 ≤ k.val ∧ k.val ≤ 57) → ¬ (97 ≤ k.val ∧ k.val ≤ 102) → Nums.hexv (UInt8.ofNat k.val) < 0 := by decide +kernel
  have h := this ⟨c.toNat, c.toNat_lt⟩ (by simp; omega) (by simp; omega)
  simpa using h

set_option maxHeartbeats 1000000 in
theorem read_len (s : ByteArray) (w : World) (h : s.size ≠ 8) :
    Calls Tryz.prog 8 #[.string s] w fun e w' => e = .returned (.tuple #[.int .i64 0, .int .i64 2]) ∧ w' = w := by
  have hb : ((s.size : Int) != 8) = true := by rw [bne_iff_ne]; omega
  go_enter Tryz.func8, Tryz.ntmps8
  go_wp2
  go_ret2
  exact ⟨rfl, rfl⟩

set_option maxHeartbeats 1000000 in
theorem read_eight (s : ByteArray) (w : World) (h : s.size = 8) :
    Calls Tryz.prog 8 #[.string s] w fun e w' => (Nums.allHex s.data.toList = false → e = .returned (.tuple #[.int .i64 0, .int .i64 2])) ∧
      (Nums.allHex s.data.toList = true → Nums.valid (Nums.val s.data.toList) = false → e = .returned (.tuple #[.int .i64 0, .int .i64 1])) ∧
      (Nums.allHex s.data.toList = true → Nums.valid (Nums.val s.data.toList) = true → e = .returned (.tuple #[.int .i64 (Nums.val s.data.toList), .int .i64 0])) ∧ w' = w := by
  have hb : ((s.size : Int) != 8) = false := by rw [bne_eq_false_iff_eq]; omega
  have HS : Hid (s.size = 8) := h
  clear h
  go_enter Tryz.func8, Tryz.ntmps8
  go_wp2
  go_loop [4, 5] (fun n i => ∃ k : Nat, k ≤ 8 ∧ i = .int .i64 k ∧ n = .int .i64 (Nums.val (s.data.toList.take k)) ∧ Hid (Nums.allHex (s.data.toList.take k) = true)) (fun _ i => 8 - (intOf i).toNat)
  case atStart => exact ⟨0, Nat.zero_le _, rfl, rfl, rfl⟩
  case round =>
    obtain ⟨k, hk, rfl, rfl, HA⟩ := hrel
    obtain ⟨v0, v1⟩ := WalkHex.val_take _ _ hk HA.out
    by_cases hlt : k < 8
    · have hks : k < s.size := by have := HS.out; omega
      have HV : Hid (Nums.val (s.data.toList.take (k + 1)) = Nums.val (s.data.toList.take k) * 16 + Nums.hexv s[k]) := by
        rw [Sums.take_snoc s k hks]; exact Nums.val_snoc _ _
      have HB : Hid (Nums.allHex (s.data.toList.take (k + 1)) = (Nums.allHex (s.data.toList.take k) && decide (0 ≤ Nums.hexv s[k]))) := by
        rw [Sums.take_snoc s k hks]; exact Nums.allHex_snoc _ _
      obtain ⟨x, hx, HX0⟩ : ∃ x : Int, wrap64 (s[k].toNat : Int) = x ∧ Hid ((s[k].toNat : Int) = x) := ⟨(s[k].toNat : Int), WalkSum.wrap64_in _ (by have := s[k].toNat_lt; omega), (rfl : (s[k].toNat : Int) = _)⟩
      have x0 : 0 ≤ x := by have := HX0.out; omega
      have x1 : x < 256 := by have := HX0.out; have := s[k].toNat_lt; omega
      by_cases hc : 48 ≤ x ∧ x ≤ 57
      · obtain ⟨c0, c1⟩ := hc
        have HX : Hid (Nums.hexv s[k] = x - 48) := by
          show Nums.hexv s[k] = x - 48
          rw [← HX0.out] at c0 c1 ⊢; exact hexv_low _ c0 c1
        go_wp2
        go_round
        case rel => exact ⟨k + 1, by omega, by go_num, by rw [HV.out, HX.out]; exact congrArg (Value.int .i64) (by omega), by rw [HB.out, HA.out, HX.out]; exact (by simp; omega : (true && decide (0 ≤ x - 48)) = true)⟩
        case measure => simp [intOf]; omega
      · by_cases hd : 97 ≤ x ∧ x ≤ 102
        · obtain ⟨c0, c1⟩ := hd
          have HX : Hid (Nums.hexv s[k] = x - 87) := by
            show Nums.hexv s[k] = x - 87
            rw [← HX0.out] at c0 c1 ⊢; exact hexv_high _ c0 c1
          have c2 : 48 ≤ x := by omega
          have c3 : ¬ x ≤ 57 := by omega
          clear hc
          go_wp2
          go_round
          case rel => exact ⟨k + 1, by omega, by go_num, by rw [HV.out, HX.out]; exact congrArg (Value.int .i64) (by omega), by rw [HB.out, HA.out, HX.out]; exact (by simp; omega : (true && decide (0 ≤ x - 87)) = true)⟩
          case measure => simp [intOf]; omega
        · have hf : Hid (Nums.allHex s.data.toList = false) := WalkHex.not_all s k hks (by rw [← HX0.out] at hc hd; exact hexv_none _ hc hd)
          by_cases c0 : 48 ≤ x
          · have c1 : ¬ x ≤ 57 := fun h => hc ⟨c0, h⟩
            by_cases c2 : 97 ≤ x
            · have c3 : ¬ x ≤ 102 := fun h => hd ⟨c2, h⟩
              clear hc hd
              go_wp2
              go_ret2
              exact ⟨fun _ => rfl, fun h => (by rw [hf.out] at h; cases h), fun h => (by rw [hf.out] at h; cases h), rfl⟩
            · clear hc hd
              go_wp2
              go_ret2
              exact ⟨fun _ => rfl, fun h => (by rw [hf.out] at h; cases h), fun h => (by rw [hf.out] at h; cases h), rfl⟩
          · have c2 : ¬ 97 ≤ x := by omega
            clear hc hd
            go_wp2
            go_ret2
            exact ⟨fun _ => rfl, fun h => (by rw [hf.out] at h; cases h), fun h => (by rw [hf.out] at h; cases h), rfl⟩
    · obtain rfl : k = 8 := by omega
      have ht : s.data.toList.take 8 = s.data.toList := List.take_of_length_le (by have := HS.out; simp; omega)
      rw [ht] at v0 v1 HA ⊢
      clear ht
      go_wp2_with (go_at_call 28; refine (valid_any _ _).mono ?_; rintro e w1 ⟨rfl, rfl⟩)
      · have hn : (!Nums.valid (Nums.val s.data.toList)) = true := by assumption
        have hv : Nums.valid (Nums.val s.data.toList) = false := by simpa using hn
        go_ret2
        exact ⟨fun h => (by rw [HA.out] at h; cases h), fun _ _ => rfl, fun _ h => (by rw [hv] at h; cases h), rfl⟩
      · have hn : (!Nums.valid (Nums.val s.data.toList)) = false := by assumption
        have hv : Nums.valid (Nums.val s.data.toList) = true := by simpa using hn
        go_ret2
        exact ⟨fun h => (by rw [HA.out] at h; cases h), fun _ h => (by rw [hv] at h; cases h), fun _ _ => rfl, rfl⟩

theorem read_any (s : ByteArray) (w : World) :
    Calls Tryz.prog 8 #[.string s] w fun e w' => e = .returned (.tuple #[.int .i64 (Nums.read s.data.toList).1, .int .i64 (Nums.read s.data.toList).2]) ∧ w' = w := by
  by_cases h8 : s.size = 8
  · refine (read_eight s w h8).mono ?_
    rintro e w' ⟨h1, h2, h3, rfl⟩
    refine ⟨?_, rfl⟩
    unfold Nums.read
    cases ha : Nums.allHex s.data.toList
    · rw [if_neg (by simp)]; exact h1 ha
    · rw [if_pos ⟨by simpa using h8, rfl⟩]
      cases hv : Nums.valid (Nums.val s.data.toList)
      · exact h2 ha hv
      · exact h3 ha hv
  · refine (read_len s w h8).mono ?_
    rintro e w' ⟨rfl, rfl⟩
    refine ⟨?_, rfl⟩
    unfold Nums.read
    rw [if_neg (by intro h; exact h8 (by simpa using h.1))]
    rfl

end Go.Proofs.YtjacioplocmciahGreatDoor.WalkRef
