/-
  What the program's isSum, appendSum, NodeBytes, Node, Print, IndexByte and Parse return, for every argument.
-/
import Derived.Test.YtlibjdkofajahaaGreatDoorWalkSum
import Derived.Test.YtlibjdkofajahaaGreatDoorMirPlain
import Derived.Laws.BytesArg
import Derived.Laws.IdiomStrings
namespace Go.Proofs.YtlibjdkofajahaaGreatDoor.WalkMix
open Go.RowKit

theorem isSum_yes (n : Int) (w : World) (h : Nums.valid n = true) :
    Calls Tryz.prog 28 #[.int .i64 n] w fun e w' => e = .returned (.bool true) ∧ w' = w := by
  obtain ⟨h0, h1⟩ := Nums.valid_iff.1 h
  go_enter Tryz.func28, Tryz.ntmps28
  go_wp2
  go_ret
  exact ⟨rfl, rfl⟩
theorem isSum_no (n : Int) (w : World) (h : Nums.valid n = false) :
    Calls Tryz.prog 28 #[.int .i64 n] w fun e w' => e = .returned (.bool false) ∧ w' = w := by
  have h' := Nums.valid_no.1 h
  clear h
  by_cases h0 : 0 ≤ n
  · have h1 : ¬ n < 2147483647 := fun h1 => h' ⟨h0, h1⟩
    clear h'
    go_enter Tryz.func28, Tryz.ntmps28
    go_wp2
    go_ret
    exact ⟨rfl, rfl⟩
  · clear h'
    go_enter Tryz.func28, Tryz.ntmps28
    go_wp2
    go_ret
    exact ⟨rfl, rfl⟩

/-- bytes as cells -/
def cells (l : List UInt8) : List Value := l.map fun c => Value.int .u8 (c.toNat : Int)
theorem cells_append (l r : List UInt8) : cells (l ++ r) = cells l ++ cells r := by simp [cells]

theorem cells_four (a : Int) (h : 0 ≤ a ∧ a < 2147483647) : cells (Nums.four a) = [.int .u8 (a / 16777216), .int .u8 (a / 65536 % 256), .int .u8 (a / 256 % 256), .int .u8 (a % 256)] := by
  simp only [cells, Nums.four, List.map_cons, List.map_nil, UInt8.toNat_ofNat', List.cons.injEq, Value.int.injEq, true_and, and_true]
  omega

theorem info5 : (Tryz.prog.info? 5).map (fun i => (i.zero, i.size, i.bytes)) = some (some (.int .u8 0), 1, 1) := by kernel_rfl

set_option maxHeartbeats 400000 in
theorem appendSum_own (base : Nat) (v : Value) (n : Nat) (l : List UInt8) (a : Int) (w : World) (hown : w.ownsRow base 5 1 v n (cells l)) (hn : n ≤ 1000) (ha : Nums.valid a = true) (hb : base ≤ w.heap.size) :
    Calls Tryz.prog 81 #[v, .int .i64 a] w fun e w' => ∃ v', e = .returned v' ∧ w'.ownsRow base 5 1 v' (n + 4) (cells (l ++ Nums.four a)) ∧ Below base w w' ∧ base ≤ w'.heap.size := by
  obtain ⟨h0, h1⟩ := Nums.valid_iff.1 ha
  obtain ⟨i0, hi, hz0, hz1, hz2⟩ := info_parts info5
  clear ha
  go_enter Tryz.func81, Tryz.ntmps81
  go_wp2_with (first
    | (at_builtin; refine wpList_append_own _ rfl (.tmp 5) (.tmp 17) 100 rfl base 5 i0 (.int .u8 0) 1 1 Tryz.underlying100 hi hz0 hz1 hz2 rfl (by decide) _ _ _ rfl (hown.alloc _) ⟨w.heap.size, 0, none⟩ 4 4 [.int .u8 (a / 16777216), .int .u8 (a / 65536 % 256), .int .u8 (a / 256 % 256), .int .u8 (a % 256)] rfl rfl ?c1 ?c2 ?c3 ?c4 ?c5 ?_))
  case c1 =>
    intro j u hj
    match j, hj with
    | 0, hj | 1, hj | 2, hj | 3, hj => all_goals (simp at hj; subst hj; simp [Addr.add])
    | j + 4, hj => simp at hj
  case c2 => intro u hu; simp at hu; rcases hu with rfl | rfl | rfl | rfl <;> rfl
  case c3 => unfold maxLen; omega
  case c4 => omega
  case c5 => simp; omega
  intro v' w1 hown' hgrow _
  go_wp2
  go_ret
  refine ⟨v', rfl, ?_, ?_, ?_⟩
  · rw [cells_append, cells_four a ⟨h0, h1⟩]; exact hown'
  · exact ((Below.refl base w).alloc hb _).grown hgrow (by simp; omega) (fun k hk => (hown.lt k hk).1)
  · have := hgrow.size; simp at this; omega

theorem ownsRow_cells {w : World} {base : Nat} {v : Value} {n : Nat} {l : List UInt8} (m : Nat) (h : w.ownsRow base 5 1 v n (cells l)) (hm : l.length = m) (hl : 0 < m) :
    ∃ g cap, v = .slice (some ⟨g, 0, none⟩) m cap ∧ (convert 100 9 (.slice (some ⟨g, 0, none⟩) m cap)).run Tryz.prog w = .ok (.string (Nums.str l)) w := by
  have hn : n = l.length := by have := h.1; simp [cells] at this; omega
  subst hn
  subst hm
  rcases h.2 with ⟨rfl, h0⟩ | ⟨g, cap, cur, rfl, _⟩
  · omega
  · refine ⟨g, cap, rfl, ?_⟩
    exact run_convert_bytes_back (P := Tryz.prog) w 100 9 5 ⟨g, 0, none⟩ cap l Tryz.underlying100 Tryz.underlying5 Tryz.underlying9 (fun j hj => h.cells rfl j _ (by simp [cells, hj]))

set_option maxHeartbeats 400000 in
theorem nodeBytes_yes (a b : Int) (w : World) (ha : Nums.valid a = true) (hb : Nums.valid b = true) :
    Calls Tryz.prog 54 #[.int .i64 a, .int .i64 b] w fun e w' => e = .returned (.tuple #[.string (Nums.str (Nums.nodeBytes a b)), .nilIface]) ∧ Below w.heap.size w w' := by
  have h0 : (w.alloc (.cells #[.int .u8 1] 5)).ownsRow w.heap.size 5 1 (.slice (some ⟨w.heap.size, 0, none⟩) 1 1) 1 (cells [1]) :=
    ⟨rfl, .inr ⟨w.heap.size, 1, #[.int .u8 1], rfl, Nat.le_refl _, heap_alloc_new w _, Nat.le_refl _, by decide, rfl, rfl⟩⟩
  go_enter Tryz.func54, Tryz.ntmps54
  go_wp2_with (go_at_call 28; refine (isSum_yes _ _ (by assumption)).mono ?_; rintro e w' ⟨rfl, rfl⟩)
  refine (appendSum_own w'.heap.size _ 1 [1] a _ h0 (by omega) ha (by simp)).mono ?_
  rintro e w1 ⟨v1, rfl, h1, b1, s1⟩
  go_wp2_with fail
  refine (appendSum_own w'.heap.size _ 5 _ b _ h1 (by omega) hb s1).mono ?_
  rintro e w2 ⟨v2, rfl, h2, b2, s2⟩
  obtain ⟨g, cap, rfl, kc⟩ := ownsRow_cells (l := Nums.nodeBytes a b) 9 h2 rfl (by omega)
  clear h1 h2 h0
  go_wp2
  go_ret2
  exact ⟨rfl, (((Below.refl _ _).alloc (Nat.le_refl _) _).trans b1).trans b2⟩

set_option maxHeartbeats 400000 in
theorem nodeBytes_no (a b : Int) (w : World) (h : (Nums.valid a && Nums.valid b) = false) :
    Calls Tryz.prog 54 #[.int .i64 a, .int .i64 b] w fun e w' => e = .returned (.tuple #[.string ⟨#[]⟩, .iface 67 (.int .i64 1)]) ∧ w' = w := by
  cases ha : Nums.valid a
  · clear h
    have ha' : Hid (Nums.valid a = false) := ha
    clear ha
    go_enter Tryz.func54, Tryz.ntmps54
    go_wp2_with (go_at_call 28; refine (isSum_no _ _ ha'.out).mono ?_; rintro e w' ⟨rfl, rfl⟩)
    go_ret2
    exact ⟨rfl, rfl⟩
  · have hb' : Hid (Nums.valid b = false) := (by rw [ha, Bool.true_and] at h; exact h)
    have ha' : Hid (Nums.valid a = true) := ha
    clear ha h
    go_enter Tryz.func54, Tryz.ntmps54
    go_wp2_with fail
    refine (isSum_yes _ _ ha'.out).mono ?_
    rintro e w' ⟨rfl, rfl⟩
    go_wp2_with fail
    refine (isSum_no _ _ hb'.out).mono ?_
    rintro e w' ⟨rfl, rfl⟩
    go_wp2
    go_ret2
    exact ⟨rfl, rfl⟩

set_option maxHeartbeats 400000 in
theorem node_yes (a b : Int) (w : World) (ha : Nums.valid a = true) (hb : Nums.valid b = true) :
    Calls Tryz.prog 22 #[.int .i64 a, .int .i64 b] w fun e w' => e = .returned (.tuple #[.int .i64 (Sums.sum (Nums.nodeBytes a b)), .nilIface]) ∧ Below w.heap.size w w' := by
  have hs : (Nums.str (Nums.nodeBytes a b)).size ≤ maxLen := by rw [Nums.str_size, Nums.nodeBytes_length]; decide
  have hd := Nums.str_data (Nums.nodeBytes a b)
  go_enter Tryz.func22, Tryz.ntmps22
  go_wp2_with fail
  refine (nodeBytes_yes a b _ ha hb).mono ?_
  rintro e w1 ⟨rfl, b1⟩
  go_wp2_with fail
  refine (WalkSum.sum_any _ _ hs).mono ?_
  rintro e w2 ⟨rfl, rfl⟩
  rw [hd]
  clear hs hd
  go_wp2
  go_ret2
  exact ⟨rfl, b1⟩

set_option maxHeartbeats 400000 in
theorem node_no (a b : Int) (w : World) (h : (Nums.valid a && Nums.valid b) = false) :
    Calls Tryz.prog 22 #[.int .i64 a, .int .i64 b] w fun e w' => e = .returned (.tuple #[.int .i64 0, .iface 67 (.int .i64 1)]) ∧ w' = w := by
  have hh : Hid ((Nums.valid a && Nums.valid b) = false) := h
  clear h
  go_enter Tryz.func22, Tryz.ntmps22
  go_wp2_with fail
  refine (nodeBytes_no a b _ hh.out).mono ?_
  rintro e w1 ⟨rfl, rfl⟩
  go_wp2
  go_ret2
  exact ⟨rfl, rfl⟩

end Go.Proofs.YtlibjdkofajahaaGreatDoor.WalkMix
