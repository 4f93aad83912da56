/-
  What the program's Sum, Leaf and sumFrom return, for every string: the sum of its bytes, and the world stands.
-/
import Derived.Test.YticadkggaanbjaaGreatDoorRows
import Derived.Test.YticadkggaanbjaaGreatDoorMirPlain
import Derived.WalkKit
import Derived.Laws.BytesArg
import Derived.Laws.IdiomStrings
namespace Go.Proofs.YticadkggaanbjaaGreatDoor.WalkSum
open Go.RowKit

theorem ret_int {k : IntKind} {a b : Int} (h : a = b) : Ending.returned (.int k a) = .returned (.int k b) := by rw [h]

theorem wrap64_in (n : Int) (h : -9223372036854775808 ≤ n ∧ n ≤ 9223372036854775807) : wrap64 n = n := by unfold wrap64; omega

theorem step_walk (m : Int) (c : UInt8) (h0 : 0 ≤ m) (h1 : m < 2147483647) :
    (wrap64 (wrap64 (m * 131 + wrap64 (c.toNat : Int)) + 1)).tmod 2147483647 = Sums.step m c := by
  have hc := c.toNat_lt
  unfold Sums.step
  rw [wrap64_in (c.toNat : Int) (by omega), wrap64_in (m * 131 + (c.toNat : Int)) (by omega), wrap64_in _ (by omega)]
  exact Int.tmod_eq_emod_of_nonneg (by omega)

set_option maxHeartbeats 400000 in
theorem sumFrom_any (n : Int) (s : ByteArray) (w : World) (h0 : 0 ≤ n) (h1 : n < 2147483647) (hs : s.size ≤ maxLen) :
    Calls Tryz.prog 133 #[.int .i64 n, .string s] w fun e w' => e = .returned (.int .i64 (Sums.sumFrom n s.data.toList)) ∧ w' = w := by
  unfold maxLen at hs
  go_enter Tryz.func133, Tryz.ntmps133
  go_wp2
  go_loop [0, 8] (fun t i => ∃ k : Nat, k ≤ s.size ∧ i = .int .i64 k ∧ t = .int .i64 (Sums.sumFrom n (s.data.toList.take k))) (fun _ i => s.size - (intOf i).toNat)
  case atStart => exact ⟨0, Nat.zero_le _, rfl, rfl⟩
  case round =>
    obtain ⟨k, hk, rfl, rfl⟩ := hrel
    have hb := Sums.sumFrom_bd n (s.data.toList.take k) h0 h1
    obtain ⟨hb0, hb1⟩ := hb
    by_cases hlt : k < s.size
    · have HS : Hid (Sums.sumFrom n (s.data.toList.take (k + 1)) = Sums.step (Sums.sumFrom n (s.data.toList.take k)) s[k]) := by
        rw [Sums.take_snoc s k hlt]; exact Sums.sumFrom_snoc _ _ _
      go_wp2
      go_round
      case rel => exact ⟨k + 1, by omega, by go_num, by rw [HS.out]; exact congrArg (Value.int .i64) (step_walk _ _ hb0 hb1)⟩
      case measure => simp [intOf]; omega
    · go_wp2
      go_ret
      exact ⟨ret_int (by rw [List.take_of_length_le (by simp; omega)]), rfl⟩

set_option maxHeartbeats 400000 in
theorem sum_any (s : ByteArray) (w : World) (hs : s.size ≤ maxLen) :
    Calls Tryz.prog 98 #[.string s] w fun e w' => e = .returned (.int .i64 (Sums.sum s.data.toList)) ∧ w' = w := by
  go_enter Tryz.func98, Tryz.ntmps98
  go_wp2_with (first | (go_at_call 133; refine (sumFrom_any _ _ _ (by omega) (by omega) hs).mono ?_; rintro e w' ⟨rfl, rfl⟩))
  go_ret
  exact ⟨rfl, rfl⟩

set_option maxHeartbeats 400000 in
theorem leaf_any (s : ByteArray) (w : World) (hs : s.size ≤ maxLen) :
    Calls Tryz.prog 86 #[.string s] w fun e w' => e = .returned (.int .i64 (Sums.sum (0 :: s.data.toList))) ∧ w' = w := by
  go_enter Tryz.func86, Tryz.ntmps86
  go_wp2_with fail
  refine (sum_any _ _ (by decide)).mono ?_
  rintro e w' ⟨rfl, rfl⟩
  have hb := Sums.sum_bd [0]
  go_wp2_with fail
  refine (sumFrom_any _ _ _ hb.1 hb.2 hs).mono ?_
  rintro e w' ⟨rfl, rfl⟩
  go_wp2
  go_ret
  exact ⟨rfl, rfl⟩

end Go.Proofs.YticadkggaanbjaaGreatDoor.WalkSum

/-
  What the program's isSum, appendSum, NodeBytes, Node, Print, IndexByte and Parse return, for every argument.
-/
namespace Go.Proofs.YticadkggaanbjaaGreatDoor.WalkMix
open Go.RowKit

theorem isSum_yes (n : Int) (w : World) (h : Nums.valid n = true) :
    Calls Tryz.prog 71 #[.int .i64 n] w fun e w' => e = .returned (.bool true) ∧ w' = w := by
  obtain ⟨h0, h1⟩ := Nums.valid_iff.1 h
  go_enter Tryz.func71, Tryz.ntmps71
  go_wp2
  go_ret
  exact ⟨rfl, rfl⟩
theorem isSum_no (n : Int) (w : World) (h : Nums.valid n = false) :
    Calls Tryz.prog 71 #[.int .i64 n] w fun e w' => e = .returned (.bool false) ∧ w' = w := by
  have h' := Nums.valid_no.1 h
  clear h
  by_cases h0 : 0 ≤ n
  · have h1 : ¬ n < 2147483647 := fun h1 => h' ⟨h0, h1⟩
    clear h'
    go_enter Tryz.func71, Tryz.ntmps71
    go_wp2
    go_ret
    exact ⟨rfl, rfl⟩
  · clear h'
    go_enter Tryz.func71, Tryz.ntmps71
    go_wp2
    go_ret
    exact ⟨rfl, rfl⟩

/-- bytes as cells -/
def cells (l : List UInt8) : List Value := l.map fun c => Value.int .u8 (c.toNat : Int)
theorem cells_append (l r : List UInt8) : cells (l ++ r) = cells l ++ cells r := by simp [cells]

theorem cells_four (a : Int) (h : 0 ≤ a ∧ a < 2147483647) : cells (Nums.four a) = [.int .u8 (a / 16777216), .int .u8 (a / 65536 % 256), .int .u8 (a / 256 % 256), .int .u8 (a % 256)] := by
  simp only [cells, Nums.four, List.map_cons, List.map_nil, UInt8.toNat_ofNat', List.cons.injEq, Value.int.injEq, true_and, and_true]
  omega

theorem info5 : (Tryz.prog.info? 5).map (fun i => (i.zero, i.size, i.bytes)) = some (some (.int .u8 0), 1, 1) := by kernel_rfl

set_option maxHeartbeats 400000 in
theorem appendSum_own (base : Nat) (v : Value) (n : Nat) (l : List UInt8) (a : Int) (w : World) (hown : w.ownsRow base 5 1 v n (cells l)) (hn : n ≤ 1000) (ha : Nums.valid a = true) (hb : base ≤ w.heap.size) :
    Calls Tryz.prog 157 #[v, .int .i64 a] w fun e w' => ∃ v', e = .returned v' ∧ w'.ownsRow base 5 1 v' (n + 4) (cells (l ++ Nums.four a)) ∧ Below base w w' ∧ base ≤ w'.heap.size := by
  obtain ⟨h0, h1⟩ := Nums.valid_iff.1 ha
  obtain ⟨i0, hi, hz0, hz1, hz2⟩ := info_parts info5
  clear ha
  go_enter Tryz.func157, Tryz.ntmps157
  go_wp2_with (first
    | (at_builtin; refine wpList_append_own _ rfl (.tmp 5) (.tmp 17) 154 rfl base 5 i0 (.int .u8 0) 1 1 Tryz.underlying154 hi hz0 hz1 hz2 rfl (by decide) _ _ _ rfl (hown.alloc _) ⟨w.heap.size, 0, none⟩ 4 4 [.int .u8 (a / 16777216), .int .u8 (a / 65536 % 256), .int .u8 (a / 256 % 256), .int .u8 (a % 256)] rfl rfl ?c1 ?c2 ?c3 ?c4 ?c5 ?_))
  case c1 =>
    intro j u hj
    match j, hj with
    | 0, hj | 1, hj | 2, hj | 3, hj => all_goals (simp at hj; subst hj; simp [Addr.add])
    | j + 4, hj => simp at hj
  case c2 => intro u hu; simp at hu; rcases hu with rfl | rfl | rfl | rfl <;> rfl
  case c3 => unfold maxLen; omega
  case c4 => omega
  case c5 => simp; omega
  intro v' w1 hown' hgrow _
  go_wp2
  go_ret
  refine ⟨v', rfl, ?_, ?_, ?_⟩
  · rw [cells_append, cells_four a ⟨h0, h1⟩]; exact hown'
  · exact ((Below.refl base w).alloc hb _).grown hgrow (by simp; omega) (fun k hk => (hown.lt k hk).1)
  · have := hgrow.size; simp at this; omega

theorem ownsRow_cells {w : World} {base : Nat} {v : Value} {n : Nat} {l : List UInt8} (m : Nat) (h : w.ownsRow base 5 1 v n (cells l)) (hm : l.length = m) (hl : 0 < m) :
    ∃ g cap, v = .slice (some ⟨g, 0, none⟩) m cap ∧ (convert 154 9 (.slice (some ⟨g, 0, none⟩) m cap)).run Tryz.prog w = .ok (.string (Nums.str l)) w := by
  have hn : n = l.length := by have := h.1; simp [cells] at this; omega
  subst hn
  subst hm
  rcases h.2 with ⟨rfl, h0⟩ | ⟨g, cap, cur, rfl, _⟩
  · omega
  · refine ⟨g, cap, rfl, ?_⟩
    exact run_convert_bytes_back (P := Tryz.prog) w 154 9 5 ⟨g, 0, none⟩ cap l Tryz.underlying154 Tryz.underlying5 Tryz.underlying9 (fun j hj => h.cells rfl j _ (by simp [cells, hj]))

set_option maxHeartbeats 400000 in
theorem nodeBytes_yes (a b : Int) (w : World) (ha : Nums.valid a = true) (hb : Nums.valid b = true) :
    Calls Tryz.prog 130 #[.int .i64 a, .int .i64 b] w fun e w' => e = .returned (.tuple #[.string (Nums.str (Nums.nodeBytes a b)), .nilIface]) ∧ Below w.heap.size w w' := by
  have h0 : (w.alloc (.cells #[.int .u8 1] 5)).ownsRow w.heap.size 5 1 (.slice (some ⟨w.heap.size, 0, none⟩) 1 1) 1 (cells [1]) :=
    ⟨rfl, .inr ⟨w.heap.size, 1, #[.int .u8 1], rfl, Nat.le_refl _, heap_alloc_new w _, Nat.le_refl _, by decide, rfl, rfl⟩⟩
  go_enter Tryz.func130, Tryz.ntmps130
  go_wp2_with (go_at_call 71; refine (isSum_yes _ _ (by assumption)).mono ?_; rintro e w' ⟨rfl, rfl⟩)
  refine (appendSum_own w'.heap.size _ 1 [1] a _ h0 (by omega) ha (by simp)).mono ?_
  rintro e w1 ⟨v1, rfl, h1, b1, s1⟩
  go_wp2_with fail
  refine (appendSum_own w'.heap.size _ 5 _ b _ h1 (by omega) hb s1).mono ?_
  rintro e w2 ⟨v2, rfl, h2, b2, s2⟩
  obtain ⟨g, cap, rfl, kc⟩ := ownsRow_cells (l := Nums.nodeBytes a b) 9 h2 rfl (by omega)
  clear h1 h2 h0
  go_wp2
  go_ret2
  exact ⟨rfl, (((Below.refl _ _).alloc (Nat.le_refl _) _).trans b1).trans b2⟩

set_option maxHeartbeats 400000 in
theorem nodeBytes_no (a b : Int) (w : World) (h : (Nums.valid a && Nums.valid b) = false) :
    Calls Tryz.prog 130 #[.int .i64 a, .int .i64 b] w fun e w' => e = .returned (.tuple #[.string ⟨#[]⟩, .iface 99 (.int .i64 1)]) ∧ w' = w := by
  cases ha : Nums.valid a
  · clear h
    have ha' : Hid (Nums.valid a = false) := ha
    clear ha
    go_enter Tryz.func130, Tryz.ntmps130
    go_wp2_with (go_at_call 71; refine (isSum_no _ _ ha'.out).mono ?_; rintro e w' ⟨rfl, rfl⟩)
    go_ret2
    exact ⟨rfl, rfl⟩
  · have hb' : Hid (Nums.valid b = false) := (by rw [ha, Bool.true_and] at h; exact h)
    have ha' : Hid (Nums.valid a = true) := ha
    clear ha h
    go_enter Tryz.func130, Tryz.ntmps130
    go_wp2_with fail
    refine (isSum_yes _ _ ha'.out).mono ?_
    rintro e w' ⟨rfl, rfl⟩
    go_wp2_with fail
    refine (isSum_no _ _ hb'.out).mono ?_
    rintro e w' ⟨rfl, rfl⟩
    go_wp2
    go_ret2
    exact ⟨rfl, rfl⟩

set_option maxHeartbeats 400000 in
theorem node_yes (a b : Int) (w : World) (ha : Nums.valid a = true) (hb : Nums.valid b = true) :
    Calls Tryz.prog 79 #[.int .i64 a, .int .i64 b] w fun e w' => e = .returned (.tuple #[.int .i64 (Sums.sum (Nums.nodeBytes a b)), .nilIface]) ∧ Below w.heap.size w w' := by
  have hs : (Nums.str (Nums.nodeBytes a b)).size ≤ maxLen := by rw [Nums.str_size, Nums.nodeBytes_length]; decide
  have hd := Nums.str_data (Nums.nodeBytes a b)
  go_enter Tryz.func79, Tryz.ntmps79
  go_wp2_with fail
  refine (nodeBytes_yes a b _ ha hb).mono ?_
  rintro e w1 ⟨rfl, b1⟩
  go_wp2_with fail
  refine (WalkSum.sum_any _ _ hs).mono ?_
  rintro e w2 ⟨rfl, rfl⟩
  rw [hd]
  clear hs hd
  go_wp2
  go_ret2
  exact ⟨rfl, b1⟩

set_option maxHeartbeats 400000 in
theorem node_no (a b : Int) (w : World) (h : (Nums.valid a && Nums.valid b) = false) :
    Calls Tryz.prog 79 #[.int .i64 a, .int .i64 b] w fun e w' => e = .returned (.tuple #[.int .i64 0, .iface 99 (.int .i64 1)]) ∧ w' = w := by
  have hh : Hid ((Nums.valid a && Nums.valid b) = false) := h
  clear h
  go_enter Tryz.func79, Tryz.ntmps79
  go_wp2_with fail
  refine (nodeBytes_no a b _ hh.out).mono ?_
  rintro e w1 ⟨rfl, rfl⟩
  go_wp2
  go_ret2
  exact ⟨rfl, rfl⟩

end Go.Proofs.YticadkggaanbjaaGreatDoor.WalkMix

