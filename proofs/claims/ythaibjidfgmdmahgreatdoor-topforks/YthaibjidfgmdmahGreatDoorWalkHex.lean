/-
  What the program's Print and Parse return, for every number and every text.
-/
import Derived.Test.YthaibjidfgmdmahGreatDoorWalkMix
namespace Go.Proofs.YthaibjidfgmdmahGreatDoor.WalkHex
open Go.RowKit

set_option maxHeartbeats 400000 in
theorem print_no (n : Int) (w : World) (h : Nums.valid n = false) :
    Calls Tryz.prog 67 #[.int .i64 n] w fun e w' => e = .returned (.tuple #[.string ⟨#[]⟩, .iface 70 (.int .i64 1)]) ∧ w' = w := by
  have hh : Hid (Nums.valid n = false) := h
  clear h
  go_enter Tryz.func67, Tryz.ntmps67
  go_wp2_with fail
  refine (WalkMix.isSum_no _ _ hh.out).mono ?_
  rintro e w1 ⟨rfl, rfl⟩
  go_wp2
  go_ret2
  exact ⟨rfl, rfl⟩

/-- the digit of place i -/
def dg (n i : Nat) : Value := .int .u8 ((Nums.digit (n / 16 ^ i % 16)).toNat : Int)
/-- the eight cells when the j lowest digits are written -/
def arr (n j : Nat) : Array Value := #[if 7 < j then dg n 7 else .int .u8 0, if 6 < j then dg n 6 else .int .u8 0, if 5 < j then dg n 5 else .int .u8 0, if 4 < j then dg n 4 else .int .u8 0, if 3 < j then dg n 3 else .int .u8 0, if 2 < j then dg n 2 else .int .u8 0, if 1 < j then dg n 1 else .int .u8 0, if 0 < j then dg n 0 else .int .u8 0]
theorem arr0 (n : Nat) : arr n 0 = #[.int .u8 0, .int .u8 0, .int .u8 0, .int .u8 0, .int .u8 0, .int .u8 0, .int .u8 0, .int .u8 0] := rfl
theorem arr1 (n : Nat) : arr n 1 = #[.int .u8 0, .int .u8 0, .int .u8 0, .int .u8 0, .int .u8 0, .int .u8 0, .int .u8 0, dg n 0] := rfl
theorem arr2 (n : Nat) : arr n 2 = #[.int .u8 0, .int .u8 0, .int .u8 0, .int .u8 0, .int .u8 0, .int .u8 0, dg n 1, dg n 0] := rfl
theorem arr3 (n : Nat) : arr n 3 = #[.int .u8 0, .int .u8 0, .int .u8 0, .int .u8 0, .int .u8 0, dg n 2, dg n 1, dg n 0] := rfl
theorem arr4 (n : Nat) : arr n 4 = #[.int .u8 0, .int .u8 0, .int .u8 0, .int .u8 0, dg n 3, dg n 2, dg n 1, dg n 0] := rfl
theorem arr5 (n : Nat) : arr n 5 = #[.int .u8 0, .int .u8 0, .int .u8 0, dg n 4, dg n 3, dg n 2, dg n 1, dg n 0] := rfl
theorem arr6 (n : Nat) : arr n 6 = #[.int .u8 0, .int .u8 0, dg n 5, dg n 4, dg n 3, dg n 2, dg n 1, dg n 0] := rfl
theorem arr7 (n : Nat) : arr n 7 = #[.int .u8 0, dg n 6, dg n 5, dg n 4, dg n 3, dg n 2, dg n 1, dg n 0] := rfl
theorem arr8 (n : Nat) : arr n 8 = #[dg n 7, dg n 6, dg n 5, dg n 4, dg n 3, dg n 2, dg n 1, dg n 0] := rfl

theorem add_at (g i : Nat) : (⟨g, 0, none⟩ : Addr).add i = ⟨g, i, none⟩ := by unfold Addr.add; split <;> simp_all
theorem at_congr (b : ByteArray) (i j : Nat) (h : i = j) (hi : i < b.size) (hj : j < b.size) : b[i] = b[j] := by subst h; rfl
theorem dig_at (M : Int) (hp : 0 ≤ M) (h : (M % 16).toNat < (ByteArray.mk #[48, 49, 50, 51, 52, 53, 54, 55, 56, 57, 97, 98, 99, 100, 101, 102]).size) :
    (ByteArray.mk #[48, 49, 50, 51, 52, 53, 54, 55, 56, 57, 97, 98, 99, 100, 101, 102])[(M % 16).toNat] = Nums.digit (M.toNat % 16) := by
  have e : (M % 16).toNat = M.toNat % 16 := by omega
  have hl : M.toNat % 16 < 16 := Nat.mod_lt _ (by decide)
  rw [at_congr _ _ _ e h hl]
  have : ∀ k : Fin 16, (ByteArray.mk #[48, 49, 50, 51, 52, 53, 54, 55, 56, 57, 97, 98, 99, 100, 101, 102])[k.val]'(k.isLt) = Nums.digit k.val := by decide +kernel
  exact this ⟨M.toNat % 16, hl⟩
theorem dig_val (N j : Nat) (M : Int) (hM : ((N / 16 ^ j : Nat) : Int) = M) (h : (M % 16).toNat < (ByteArray.mk #[48, 49, 50, 51, 52, 53, 54, 55, 56, 57, 97, 98, 99, 100, 101, 102]).size) :
    Value.int .u8 (((ByteArray.mk #[48, 49, 50, 51, 52, 53, 54, 55, 56, 57, 97, 98, 99, 100, 101, 102])[(M % 16).toNat].toNat : Nat) : Int) = dg N j := by
  rw [dig_at M (by rw [← hM]; exact Int.natCast_nonneg _) h, dg, ← hM, Int.toNat_natCast]
theorem next_div (N j : Nat) (M : Int) (hM : ((N / 16 ^ j : Nat) : Int) = M) : Value.int .i64 (M / 16) = .int .i64 ((N / 16 ^ (j + 1) : Nat) : Int) := by
  rw [Nat.pow_succ, ← Nat.div_div_eq_div_mul, ← hM]
  rfl
theorem cells_text (N : Nat) : (WalkMix.cells (Nums.hexOf 8 N)).toArray = #[dg N 7, dg N 6, dg N 5, dg N 4, dg N 3, dg N 2, dg N 1, dg N 0] := by
  simp only [Nums.hexOf, WalkMix.cells, dg, List.nil_append, List.cons_append, List.map_cons, List.map_nil, Nat.div_div_eq_div_mul, Nat.reduceMul, Nat.reducePow, Nat.div_one]

set_option maxHeartbeats 1000000 in
theorem print_yes (n : Int) (w : World) (h : Nums.valid n = true) :
    Calls Tryz.prog 67 #[.int .i64 n] w fun e w' => e = .returned (.tuple #[.string (Nums.str (Nums.text n)), .nilIface]) ∧ Below w.heap.size w w' := by
  have hh : Hid (Nums.valid n = true) := h
  clear h
  obtain ⟨N, HN⟩ : ∃ N : Nat, Hid (n.toNat = N) := ⟨_, rfl⟩
  have hst : Hid (n = ((N / 16 ^ 0 : Nat) : Int)) := by
    have h1 := HN.out
    have h2 := Nums.valid_iff.1 hh.out
    show n = ((N / 16 ^ 0 : Nat) : Int)
    rw [Nat.pow_zero, Nat.div_one]
    omega
  go_enter Tryz.func67, Tryz.ntmps67
  go_wp2_with fail
  refine (WalkMix.isSum_yes _ _ hh.out).mono ?_
  rintro e w1 ⟨rfl, rfl⟩
  go_wp2
  go_loopw [0, 5] (fun m i wr => ∃ j : Nat, j ≤ 8 ∧ m = .int .i64 ((N / 16 ^ j : Nat) : Int) ∧ i = .int .i64 (7 - (j : Int)) ∧ wr = w1.alloc (.cells (arr N j) 141)) (fun _ i _ => (intOf i + 1).toNat)
  case atStart => exact ⟨0, by omega, congrArg (Value.int .i64) hst.out, rfl, rfl⟩
  case round =>
    obtain ⟨j, hj, rfl, rfl, rfl⟩ := hrel
    by_cases hlt : j < 8
    · match j, hlt with
      | 0, _ =>
        rw [arr0]
        have hb : N / 16 ^ 0 ≤ N := Nat.div_le_self _ _
        generalize hM : ((N / 16 ^ 0 : Nat) : Int) = M
        have HM : Hid (((N / 16 ^ 0 : Nat) : Int) = M) := hM
        have hb0 : 0 ≤ M := by omega
        have hb1 : M < 2147483647 := by have h1 := HN.out; have h2 := Nums.valid_iff.1 hh.out; omega
        clear hM hb
        go_wp2
        go_roundw
        case rel => exact ⟨1, by omega, next_div N 0 M HM.out, rfl, congrArg (fun x => w1.alloc (.cells #[.int .u8 0, .int .u8 0, .int .u8 0, .int .u8 0, .int .u8 0, .int .u8 0, .int .u8 0, x] 141)) (dig_val N 0 M HM.out _)⟩
        case measure => simp [intOf]
      | 1, _ =>
        rw [arr1]
        have hb : N / 16 ^ 1 ≤ N := Nat.div_le_self _ _
        generalize hM : ((N / 16 ^ 1 : Nat) : Int) = M
        have HM : Hid (((N / 16 ^ 1 : Nat) : Int) = M) := hM
        have hb0 : 0 ≤ M := by omega
        have hb1 : M < 2147483647 := by have h1 := HN.out; have h2 := Nums.valid_iff.1 hh.out; omega
        clear hM hb
        go_wp2
        go_roundw
        case rel => exact ⟨2, by omega, next_div N 1 M HM.out, rfl, congrArg (fun x => w1.alloc (.cells #[.int .u8 0, .int .u8 0, .int .u8 0, .int .u8 0, .int .u8 0, .int .u8 0, x, dg N 0] 141)) (dig_val N 1 M HM.out _)⟩
        case measure => simp [intOf]
      | 2, _ =>
        rw [arr2]
        have hb : N / 16 ^ 2 ≤ N := Nat.div_le_self _ _
        generalize hM : ((N / 16 ^ 2 : Nat) : Int) = M
        have HM : Hid (((N / 16 ^ 2 : Nat) : Int) = M) := hM
        have hb0 : 0 ≤ M := by omega
        have hb1 : M < 2147483647 := by have h1 := HN.out; have h2 := Nums.valid_iff.1 hh.out; omega
        clear hM hb
        go_wp2
        go_roundw
        case rel => exact ⟨3, by omega, next_div N 2 M HM.out, rfl, congrArg (fun x => w1.alloc (.cells #[.int .u8 0, .int .u8 0, .int .u8 0, .int .u8 0, .int .u8 0, x, dg N 1, dg N 0] 141)) (dig_val N 2 M HM.out _)⟩
        case measure => simp [intOf]
      | 3, _ =>
        rw [arr3]
        have hb : N / 16 ^ 3 ≤ N := Nat.div_le_self _ _
        generalize hM : ((N / 16 ^ 3 : Nat) : Int) = M
        have HM : Hid (((N / 16 ^ 3 : Nat) : Int) = M) := hM
        have hb0 : 0 ≤ M := by omega
        have hb1 : M < 2147483647 := by have h1 := HN.out; have h2 := Nums.valid_iff.1 hh.out; omega
        clear hM hb
        go_wp2
        go_roundw
        case rel => exact ⟨4, by omega, next_div N 3 M HM.out, rfl, congrArg (fun x => w1.alloc (.cells #[.int .u8 0, .int .u8 0, .int .u8 0, .int .u8 0, x, dg N 2, dg N 1, dg N 0] 141)) (dig_val N 3 M HM.out _)⟩
        case measure => simp [intOf]
      | 4, _ =>
        rw [arr4]
        have hb : N / 16 ^ 4 ≤ N := Nat.div_le_self _ _
        generalize hM : ((N / 16 ^ 4 : Nat) : Int) = M
        have HM : Hid (((N / 16 ^ 4 : Nat) : Int) = M) := hM
        have hb0 : 0 ≤ M := by omega
        have hb1 : M < 2147483647 := by have h1 := HN.out; have h2 := Nums.valid_iff.1 hh.out; omega
        clear hM hb
        go_wp2
        go_roundw
        case rel => exact ⟨5, by omega, next_div N 4 M HM.out, rfl, congrArg (fun x => w1.alloc (.cells #[.int .u8 0, .int .u8 0, .int .u8 0, x, dg N 3, dg N 2, dg N 1, dg N 0] 141)) (dig_val N 4 M HM.out _)⟩
        case measure => simp [intOf]
      | 5, _ =>
        rw [arr5]
        have hb : N / 16 ^ 5 ≤ N := Nat.div_le_self _ _
        generalize hM : ((N / 16 ^ 5 : Nat) : Int) = M
        have HM : Hid (((N / 16 ^ 5 : Nat) : Int) = M) := hM
        have hb0 : 0 ≤ M := by omega
        have hb1 : M < 2147483647 := by have h1 := HN.out; have h2 := Nums.valid_iff.1 hh.out; omega
        clear hM hb
        go_wp2
        go_roundw
        case rel => exact ⟨6, by omega, next_div N 5 M HM.out, rfl, congrArg (fun x => w1.alloc (.cells #[.int .u8 0, .int .u8 0, x, dg N 4, dg N 3, dg N 2, dg N 1, dg N 0] 141)) (dig_val N 5 M HM.out _)⟩
        case measure => simp [intOf]
      | 6, _ =>
        rw [arr6]
        have hb : N / 16 ^ 6 ≤ N := Nat.div_le_self _ _
        generalize hM : ((N / 16 ^ 6 : Nat) : Int) = M
        have HM : Hid (((N / 16 ^ 6 : Nat) : Int) = M) := hM
        have hb0 : 0 ≤ M := by omega
        have hb1 : M < 2147483647 := by have h1 := HN.out; have h2 := Nums.valid_iff.1 hh.out; omega
        clear hM hb
        go_wp2
        go_roundw
        case rel => exact ⟨7, by omega, next_div N 6 M HM.out, rfl, congrArg (fun x => w1.alloc (.cells #[.int .u8 0, x, dg N 5, dg N 4, dg N 3, dg N 2, dg N 1, dg N 0] 141)) (dig_val N 6 M HM.out _)⟩
        case measure => simp [intOf]
      | 7, _ =>
        rw [arr7]
        have hb : N / 16 ^ 7 ≤ N := Nat.div_le_self _ _
        generalize hM : ((N / 16 ^ 7 : Nat) : Int) = M
        have HM : Hid (((N / 16 ^ 7 : Nat) : Int) = M) := hM
        have hb0 : 0 ≤ M := by omega
        have hb1 : M < 2147483647 := by have h1 := HN.out; have h2 := Nums.valid_iff.1 hh.out; omega
        clear hM hb
        go_wp2
        go_roundw
        case rel => exact ⟨8, by omega, next_div N 7 M HM.out, rfl, congrArg (fun x => w1.alloc (.cells #[x, dg N 6, dg N 5, dg N 4, dg N 3, dg N 2, dg N 1, dg N 0] 141)) (dig_val N 7 M HM.out _)⟩
        case measure => simp [intOf]
    · obtain rfl : j = 8 := by omega
      have kc := run_convert_bytes_back (P := Tryz.prog) (w1.alloc (.cells (arr N 8) 141)) 133 9 5 ⟨w1.heap.size, 0, none⟩ 8 (Nums.hexOf 8 N) Tryz.underlying133 Tryz.underlying5 Tryz.underlying9 (fun i hi => by
        rw [show arr N 8 = (WalkMix.cells (Nums.hexOf 8 N)).toArray from (cells_text N).symm]
        rw [add_at]
        simp [WalkMix.cells, hi])
      rw [Nums.hexOf_length] at kc
      rw [arr8] at kc ⊢
      have kd : (convert 133 9 (.slice (some ⟨w1.heap.size, 0, none⟩) 8 8)).run Tryz.prog (w1.alloc (.cells #[dg N 7, dg N 6, dg N 5, dg N 4, dg N 3, dg N 2, dg N 1, dg N 0] 141)) = .ok (.string (Nums.str (Nums.hexOf 8 N))) (w1.alloc (.cells #[dg N 7, dg N 6, dg N 5, dg N 4, dg N 3, dg N 2, dg N 1, dg N 0] 141)) := kc
      generalize hM : ((N / 16 ^ 8 : Nat) : Int) = M
      clear hM kc
      go_wp2
      go_ret2
      exact ⟨by rw [Nums.text, HN.out]; rfl, (Below.refl _ _).alloc (Nat.le_refl _) _⟩

theorem digits_str : (ByteArray.mk #[48, 49, 50, 51, 52, 53, 54, 55, 56, 57, 97, 98, 99, 100, 101, 102]).data.toList = Nums.digits := rfl

set_option maxHeartbeats 1000000 in
set_option maxRecDepth 100000 in
theorem slite_index (s : ByteArray) (c : Int) (w : World) :
    Calls Tryz.prog 113 #[.string s, .int .u8 c] w fun e w' => e = .returned (.int .i64 (Lib.indexByte s.data.toList c.toNat.toUInt8)) ∧ w' = w := by
  go_enter Tryz.func113, Tryz.ntmps113
  go_wp2
  rw [run_callFunc_extern Tryz.func132 (by kernel_rfl) (by kernel_rfl) (by kernel_rfl) (e := Extern.BytealgIndexByte.indexByte) (by kernel_rfl), Lib.run_indexByteString]
  simp only [Result.andThen]
  rw [Oper.upon_value]
  go_wp2
  go_ret
  exact ⟨rfl, rfl⟩

set_option maxHeartbeats 400000 in
theorem indexByte_any (s : ByteArray) (c : Int) (w : World) :
    Calls Tryz.prog 83 #[.string s, .int .u8 c] w fun e w' => e = .returned (.int .i64 (Lib.indexByte s.data.toList c.toNat.toUInt8)) ∧ w' = w := by
  go_enter Tryz.func83, Tryz.ntmps83
  go_wp2_with (go_at_call 113; refine (slite_index _ _ _).mono ?_; rintro e w' ⟨rfl, rfl⟩)
  go_ret
  exact ⟨rfl, rfl⟩

theorem index_digit (c : UInt8) (w : World) :
    Calls Tryz.prog 83 #[.string ⟨#[48, 49, 50, 51, 52, 53, 54, 55, 56, 57, 97, 98, 99, 100, 101, 102]⟩, .int .u8 (c.toNat : Int)] w fun e w' => e = .returned (.int .i64 (Nums.hexv c)) ∧ w' = w := by
  refine (indexByte_any _ _ _).mono ?_
  rintro e w' ⟨rfl, rfl⟩
  refine ⟨?_, rfl⟩
  rw [digits_str, Nums.hexv, Int.toNat_natCast]
  simp

set_option maxHeartbeats 1000000 in
/-- a text of another length -/
theorem parse_len (s : ByteArray) (w : World) (h : s.size ≠ 8) :
    Calls Tryz.prog 34 #[.string s] w fun e w' => e = .returned (.tuple #[.int .i64 0, .iface 70 (.int .i64 2)]) ∧ w' = w := by
  have hb : ((s.size : Int) != 8) = true := by rw [bne_iff_ne]; omega
  go_enter Tryz.func34, Tryz.ntmps34
  go_wp2
  go_ret2
  exact ⟨rfl, rfl⟩

theorem val_take (l : List UInt8) (k : Nat) (hk : k ≤ 8) (h : Nums.allHex (l.take k) = true) : 0 ≤ Nums.val (l.take k) ∧ Nums.val (l.take k) < 4294967296 := by
  have b := Nums.val_bd _ h
  have hl : (l.take k).length ≤ 8 := Nat.le_trans (List.length_take_le _ _) hk
  have hp : 16 ^ (l.take k).length ≤ 16 ^ 8 := Nat.pow_le_pow_right (by decide) hl
  exact ⟨b.1, by omega⟩
theorem not_all (s : ByteArray) (k : Nat) (hk : k < s.size) (h : Nums.hexv s[k] < 0) : Nums.allHex s.data.toList = false := by
  cases ha : Nums.allHex s.data.toList
  · rfl
  · have := List.all_eq_true.1 ha s[k] (List.getElem_mem (l := s.data.toList) (n := k) (by simpa using hk))
    simp at this
    omega

set_option maxHeartbeats 1000000 in
theorem parse_eight (s : ByteArray) (w : World) (h : s.size = 8) :
    Calls Tryz.prog 34 #[.string s] w fun e w' => (Nums.allHex s.data.toList = false → e = .returned (.tuple #[.int .i64 0, .iface 70 (.int .i64 2)])) ∧
      (Nums.allHex s.data.toList = true → Nums.valid (Nums.val s.data.toList) = false → e = .returned (.tuple #[.int .i64 0, .iface 70 (.int .i64 1)])) ∧
      (Nums.allHex s.data.toList = true → Nums.valid (Nums.val s.data.toList) = true → e = .returned (.tuple #[.int .i64 (Nums.val s.data.toList), .nilIface])) ∧ w' = w := by
  have hb : ((s.size : Int) != 8) = false := by rw [bne_eq_false_iff_eq]; omega
  have HS : Hid (s.size = 8) := h
  clear h
  go_enter Tryz.func34, Tryz.ntmps34
  go_wp2
  go_loop [4, 13] (fun n i => ∃ k : Nat, k ≤ 8 ∧ i = .int .i64 k ∧ n = .int .i64 (Nums.val (s.data.toList.take k)) ∧ Hid (Nums.allHex (s.data.toList.take k) = true)) (fun _ i => 8 - (intOf i).toNat)
  case atStart => exact ⟨0, Nat.zero_le _, rfl, rfl, rfl⟩
  case round =>
    obtain ⟨k, hk, rfl, rfl, HA⟩ := hrel
    obtain ⟨v0, v1⟩ := val_take _ _ hk HA.out
    by_cases hlt : k < 8
    · have hks : k < s.size := by have := HS.out; omega
      have HV : Hid (Nums.val (s.data.toList.take (k + 1)) = Nums.val (s.data.toList.take k) * 16 + Nums.hexv s[k]) := by
        rw [Sums.take_snoc s k hks]; exact Nums.val_snoc _ _
      have HB : Hid (Nums.allHex (s.data.toList.take (k + 1)) = (Nums.allHex (s.data.toList.take k) && decide (0 ≤ Nums.hexv s[k]))) := by
        rw [Sums.take_snoc s k hks]; exact Nums.allHex_snoc _ _
      have c1 := Nums.hexv_lt s[k]
      by_cases hc : 0 ≤ Nums.hexv s[k]
      · go_wp2_with fail
        refine (index_digit _ _).mono ?_
        rintro e w1 ⟨rfl, rfl⟩
        go_wp2
        go_round
        case rel => exact ⟨k + 1, by omega, by go_num, by rw [HV.out], by rw [HB.out, HA.out]; exact (by simpa using hc : (true && decide (0 ≤ Nums.hexv s[k])) = true)⟩
        case measure => simp [intOf]; omega
      · have c0 : Nums.hexv s[k] < 0 := by omega
        clear hc
        go_wp2_with fail
        refine (index_digit _ _).mono ?_
        rintro e w1 ⟨rfl, rfl⟩
        go_wp2
        go_ret2
        have hf : Nums.allHex s.data.toList = false := not_all s k hks c0
        exact ⟨fun _ => rfl, fun h => (by rw [hf] at h; cases h), fun h => (by rw [hf] at h; cases h), rfl⟩
    · obtain rfl : k = 8 := by omega
      have ht : s.data.toList.take 8 = s.data.toList := List.take_of_length_le (by have := HS.out; simp; omega)
      rw [ht] at v0 v1 HA ⊢
      clear ht
      have hn : ¬ (8 : Int) < (s.size : Int) := by have := HS.out; omega
      cases hv : Nums.valid (Nums.val s.data.toList)
      · have hv' : Hid (Nums.valid (Nums.val s.data.toList) = false) := hv
        clear hv
        go_wp2_with fail
        refine (WalkMix.isSum_no _ _ hv'.out).mono ?_
        rintro e w1 ⟨rfl, rfl⟩
        go_wp2
        go_ret2
        exact ⟨fun h => (by rw [HA.out] at h; cases h), fun _ _ => rfl, fun _ h => (by rw [hv'.out] at h; cases h), rfl⟩
      · have hv' : Hid (Nums.valid (Nums.val s.data.toList) = true) := hv
        clear hv
        go_wp2_with fail
        refine (WalkMix.isSum_yes _ _ hv'.out).mono ?_
        rintro e w1 ⟨rfl, rfl⟩
        go_wp2
        go_ret2
        exact ⟨fun h => (by rw [HA.out] at h; cases h), fun _ h => (by rw [hv'.out] at h; cases h), fun _ _ => rfl, rfl⟩

/-- Parse, told by what the text reads as -/
theorem parse_ok (s : ByteArray) (w : World) (k : Int) (h : Nums.read s.data.toList = (k, 0)) :
    Calls Tryz.prog 34 #[.string s] w fun e w' => e = .returned (.tuple #[.int .i64 k, .nilIface]) ∧ w' = w := by
  unfold Nums.read at h
  split at h
  · rename_i hl
    split at h
    · rename_i hv
      simp only [Prod.mk.injEq, and_true] at h
      subst h
      refine (parse_eight s w (by simpa using hl.1)).mono ?_
      rintro e w' ⟨_, _, h3, rfl⟩
      exact ⟨h3 hl.2 hv, rfl⟩
    · simp at h
  · simp at h
theorem parse_range (s : ByteArray) (w : World) (h : Nums.read s.data.toList = (0, 1)) :
    Calls Tryz.prog 34 #[.string s] w fun e w' => e = .returned (.tuple #[.int .i64 0, .iface 70 (.int .i64 1)]) ∧ w' = w := by
  unfold Nums.read at h
  split at h
  · rename_i hl
    split at h
    · simp at h
    · rename_i hv
      refine (parse_eight s w (by simpa using hl.1)).mono ?_
      rintro e w' ⟨_, h2, _, rfl⟩
      exact ⟨h2 hl.2 (by simpa using hv), rfl⟩
  · simp at h
theorem parse_syntax (s : ByteArray) (w : World) (h : Nums.read s.data.toList = (0, 2)) :
    Calls Tryz.prog 34 #[.string s] w fun e w' => e = .returned (.tuple #[.int .i64 0, .iface 70 (.int .i64 2)]) ∧ w' = w := by
  unfold Nums.read at h
  split at h
  · split at h <;> simp at h
  · rename_i hl
    by_cases h8 : s.size = 8
    · refine (parse_eight s w h8).mono ?_
      rintro e w' ⟨h1, _, _, rfl⟩
      refine ⟨h1 ?_, rfl⟩
      cases ha : Nums.allHex s.data.toList
      · rfl
      · exact absurd ⟨by simpa using h8, ha⟩ hl
    · exact parse_len s w h8

end Go.Proofs.YthaibjidfgmdmahGreatDoor.WalkHex
