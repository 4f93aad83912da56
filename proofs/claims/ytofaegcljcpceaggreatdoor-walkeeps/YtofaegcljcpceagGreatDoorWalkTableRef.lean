/-
  What the document's own answers (package witref2) return on pairs as bytes: four, Table.
-/
import Derived.Test.YtofaegcljcpceagGreatDoorWalkTabRef
import Derived.Test.YtofaegcljcpceagGreatDoorWalkRef
import Derived.Test.YtofaegcljcpceagGreatDoorKeeps
import Derived.Deep.DeepMust
namespace Go.Proofs.YtofaegcljcpceagGreatDoor.WalkTableRef
open Go.RowKit
open Lists (bt)
open Keeps (Kept owns_kept)
open Wides (Wide)
open Stores (Pair lt keyE)
open PairRows (cells)
open Tabs (pairsE body one headT table)
open WalkStoreRef (aggP sizeP)
open Nums (str four)

theorem one_at (w : World) (v : Value) (t : TypeId) : ∀ j u, [v][j]? = some u → (w.alloc (.cells #[v] t)).cell? ((⟨w.heap.size, 0, none⟩ : Addr).add j) = some u := by
  intro j u hj
  match j, hj with
  | 0, hj => simp at hj; subst hj; simp [Addr.add]
  | j + 1, hj => simp at hj
theorem one_cell (k : IntKind) (n : Int) : ∀ u ∈ [Value.int k n], u.oneCell' = true := by
  intro u hu
  simp at hu
  subst hu
  rfl
theorem add_at (g i : Nat) : (⟨g, 0, none⟩ : Addr).add i = ⟨g, i, none⟩ := by unfold Addr.add; split <;> simp_all
theorem bytes_at (W : World) (g : Nat) (hg : g = W.heap.size) (s : ByteArray) (cap : Nat) (e : TypeId) (fr : Nat × Nat) :
    ∀ j u, (WalkMix.cells s.data.toList)[j]? = some u → (W.alloc (.cells (bytesRow s cap) e fr)).cell? ((⟨g, 0, none⟩ : Addr).add j) = some u := by
  subst hg
  intro j u hj
  rw [add_at]
  have hl : j < s.data.toList.length := by
    rcases Nat.lt_or_ge j s.data.toList.length with h | h
    · exact h
    · simp [WalkMix.cells, List.getElem?_eq_none (by simpa using h : s.data.toList.length ≤ j)] at hj
  rw [cell_of_row _ _ _ (bytesRow s cap) e fr (heap_alloc_new W _)]
  have hl' : j < (s.data.map (fun b => Value.int .u8 (b.toNat : Int))).size := by simpa using hl
  rw [bytesRow, Array.getElem?_append_left hl']
  simp [WalkMix.cells] at hj ⊢
  exact hj
theorem cells_one (l : List UInt8) : ∀ u ∈ WalkMix.cells l, u.oneCell' = true := by
  intro u hu
  obtain ⟨c, _, rfl⟩ := List.mem_map.1 hu
  rfl
theorem u8_of (n : Nat) (h : n ≤ 200) : WalkMix.cells [UInt8.ofNat n] = [.int .u8 (n : Int)] := by
  simp only [WalkMix.cells, List.map_cons, List.map_nil, UInt8.toNat_ofNat', List.cons.injEq, Value.int.injEq, true_and, and_true]
  omega

set_option maxHeartbeats 1000000 in
theorem four_own (base : Nat) (v : Value) (n : Nat) (l : List UInt8) (a : Int) (w : World) (hown : w.ownsRow base 5 1 v n (WalkMix.cells l)) (hn : n ≤ 1000000000000) (ha : Nums.valid a = true) (hb : base ≤ w.heap.size) :
    Calls Tryz.prog 65 #[v, .int .i64 a] w fun e w' => ∃ v', e = .returned v' ∧ w'.ownsRow base 5 1 v' (n + 4) (WalkMix.cells (l ++ Nums.four a)) ∧ Below base w w' ∧ base ≤ w'.heap.size := by
  obtain ⟨h0, h1⟩ := Nums.valid_iff.1 ha
  obtain ⟨i0, hi, hz0, hz1, hz2⟩ := info_parts WalkMix.info5
  clear ha
  go_enter Tryz.func65, Tryz.ntmps65
  go_wp2_with (first
    | (at_builtin; refine wpList_append_own _ rfl (.tmp 5) (.tmp 9) 53 rfl base 5 i0 (.int .u8 0) 1 1 Tryz.underlying53 hi hz0 hz1 hz2 rfl (by decide) _ _ _ rfl (hown.alloc _) ⟨w.heap.size, 0, none⟩ 1 1 [.int .u8 (a / 16777216)] rfl rfl (one_at _ _ _) (one_cell _ _) (by unfold maxLen; omega) (by omega) (by simp; omega) ?_; intro v1 w1 o1 g1 _; have z1 : base ≤ w1.heap.size := (by have := g1.size; simp at this; omega))
    | (at_builtin; refine wpList_append_own _ rfl (.tmp 11) (.tmp 16) 53 rfl base 5 i0 (.int .u8 0) 1 1 Tryz.underlying53 hi hz0 hz1 hz2 rfl (by decide) _ _ _ rfl (o1.alloc _) ⟨w1.heap.size, 0, none⟩ 1 1 [.int .u8 (a / 65536 % 256)] rfl rfl (one_at _ _ _) (one_cell _ _) (by unfold maxLen; omega) (by omega) (by simp; omega) ?_; intro v2 w2 o2 g2 _; have z2 : base ≤ w2.heap.size := (by have := g2.size; simp at this; omega))
    | (at_builtin; refine wpList_append_own _ rfl (.tmp 18) (.tmp 23) 53 rfl base 5 i0 (.int .u8 0) 1 1 Tryz.underlying53 hi hz0 hz1 hz2 rfl (by decide) _ _ _ rfl (o2.alloc _) ⟨w2.heap.size, 0, none⟩ 1 1 [.int .u8 (a / 256 % 256)] rfl rfl (one_at _ _ _) (one_cell _ _) (by unfold maxLen; omega) (by omega) (by simp; omega) ?_; intro v3 w3 o3 g3 _; have z3 : base ≤ w3.heap.size := (by have := g3.size; simp at this; omega))
    | (at_builtin; refine wpList_append_own _ rfl (.tmp 25) (.tmp 29) 53 rfl base 5 i0 (.int .u8 0) 1 1 Tryz.underlying53 hi hz0 hz1 hz2 rfl (by decide) _ _ _ rfl (o3.alloc _) ⟨w3.heap.size, 0, none⟩ 1 1 [.int .u8 (a % 256)] rfl rfl (one_at _ _ _) (one_cell _ _) (by unfold maxLen; omega) (by omega) (by simp; omega) ?_; intro v4 w4 o4 g4 _; have z4 : base ≤ w4.heap.size := (by have := g4.size; simp at this; omega)))
  go_ret
  refine ⟨v4, rfl, ?_, ?_, z4⟩
  · rw [WalkMix.cells_append, WalkMix.cells_four a ⟨h0, h1⟩]
    simpa using o4
  · have b1 := ((Below.refl base w).alloc hb (.cells #[.int .u8 (a / 16777216)] 5)).grown g1 (by simp; omega) (fun k hk => (hown.lt k hk).1)
    have b2 := (b1.alloc z1 (.cells #[.int .u8 (a / 65536 % 256)] 5)).grown g2 (by simp; omega) (fun k hk => (o1.lt k hk).1)
    have b3 := (b2.alloc z2 (.cells #[.int .u8 (a / 256 % 256)] 5)).grown g3 (by simp; omega) (fun k hk => (o2.lt k hk).1)
    exact (b3.alloc z3 (.cells #[.int .u8 (a % 256)] 5)).grown g4 (by simp; omega) (fun k hk => (o3.lt k hk).1)

/-- the bytes so far, and the world behind the call's own -/
structure So (w : World) (v : Value) (L : List UInt8) (wr : World) : Prop where
  own : wr.ownsRow w.heap.size 5 1 v L.length (WalkMix.cells L)
  bel : Below w.heap.size w wr
theorem So.grown {w wr wn : World} {v v1 : Value} {L M : List UInt8} {o : Obj} {m : Nat} (h : So w v L wr) (g : (wr.alloc o).grownBy wn v.ownBlock) (hm : M.length = m) (ho : wn.ownsRow w.heap.size 5 1 v1 (L.length + m) (WalkMix.cells L ++ WalkMix.cells M)) : So w v1 (L ++ M) wn :=
  ⟨by rw [List.length_append, hm, WalkMix.cells_append]; exact ho, (h.bel.alloc h.bel.size o).grown g (by have := h.bel.size; simp; omega) (fun k hk => (h.own.lt k hk).1)⟩
theorem So.grownD {w wr wn : World} {v v1 : Value} {L M : List UInt8} {o : Obj} {m : Nat} (h : So w v L wr) (g : (wr.drew.alloc o).grownBy wn v.ownBlock) (hm : M.length = m) (ho : wn.ownsRow w.heap.size 5 1 v1 (L.length + m) (WalkMix.cells L ++ WalkMix.cells M)) : So w v1 (L ++ M) wn :=
  So.grown (wr := wr.drew) ⟨h.own.drew, h.bel.drew⟩ g hm ho

set_option maxHeartbeats 4000000 in
set_option maxRecDepth 100000 in
theorem table_any (l : List Pair) (a : Option Addr) (n cap : Nat) (w : World) (hr : Wide 3 w a n cap (cells l)) (hk : pairsE l = 0) (hn : n ≤ 1048576) :
    Calls Tryz.prog 36 #[.slice a n cap] w fun e w' => e = .returned (.string (str (table l))) ∧ Below w.heap.size w w' := by
  have hln := PairRows.len_of hr
  obtain ⟨hok, _⟩ := Tabs.pairs_ok hk
  have HR : Hid (Wide 3 w a n cap (cells l)) := hr
  have HZ : Hid (∀ p ∈ l, 0 < p.key.size ∧ p.key.size ≤ 200 ∧ p.val.size ≤ 200) := hok
  have a26 := aggP
  have z26 := sizeP
  obtain ⟨i0, hi, hz0, hz1, hz2⟩ := info_parts WalkMix.info5
  clear hr hk hok
  go_enter Tryz.func36, Tryz.ntmps36
  go_wp2_with fail
  go_loopw [3, 4] (fun v i wr => ∃ k : Nat, k ≤ n ∧ i = .int .i64 (k : Int) ∧ Hid (So w v (body (l.take k)) wr)) (fun _ i _ => n - (intOf i).toNat)
  case atStart => exact ⟨0, Nat.zero_le _, rfl, ⟨World.ownsRow_nil _ _ _ _, Below.refl _ _⟩⟩
  case round =>
    obtain ⟨k, hk, rfl, HS⟩ := hrel
    have hN : (body (l.take k)).length ≤ 403 * 1048576 := Tabs.body_len _ _ (fun p hp => (HZ.out p (List.mem_of_mem_take hp)).2) (by rw [List.length_take]; omega)
    by_cases hlt : k < n
    · have i1 : (k : Int) < (n : Int) := by omega
      have hkl : k < l.length := by omega
      obtain ⟨b1, off1, rfl, _⟩ := HR.out.2.2 (by omega)
      have hP := fun w2 (hb : Below w.heap.size w w2) => PairRows.at_three (HR.out.below hb) k hkl
      obtain ⟨_, hx0, hx1⟩ := HZ.out _ (List.getElem_mem hkl)
      have HT : Hid (body (l.take (k + 1)) = body (l.take k) ++ one l[k]) := by
        show _ = _
        rw [List.take_succ_eq_append_getElem hkl, Tabs.body_snoc]
      generalize l[k] = x at hP hx0 hx1 HT
      obtain ⟨x0, x1, x2⟩ := x
      simp only at hP hx0 hx1
      have HP : Hid (∀ w2, Below w.heap.size w w2 → w2.cell? ⟨b1, off1 + k * 3, none⟩ = some (.string x0) ∧ w2.cell? ⟨b1, off1 + k * 3 + 1, none⟩ = some (.string x1) ∧ w2.cell? ⟨b1, off1 + k * 3 + 2, none⟩ = some (.bool x2)) := hP
      clear hP
      generalize body (l.take k) = L0 at HS HT hN
      obtain ⟨p0, p1, p2⟩ := HP.out _ HS.out.bel
      have i2 : (x0.size : Int) ≤ 200 := by omega
      have i3 : (x1.size : Int) ≤ 200 := by omega
      go_upto_region 6 with (at_builtin; go_must (refine wpList_append_own _ rfl (.tmp 12) (.tmp 20) 53 rfl w.heap.size 5 i0 (.int .u8 0) 1 1 Tryz.underlying53 hi hz0 hz1 hz2 rfl (by decide) _ _ _ rfl (HS.out.own.alloc _) ⟨wr.heap.size, 0, none⟩ 1 1 [.int .u8 (x0.size : Int)] rfl rfl (one_at _ _ _) (one_cell _ _) (by unfold maxLen; omega) (by omega) (by have := HS.out.bel.size; simp; omega) ?_); intro v1 w1 o1 g1 z1; clear z1)
      have HS1 : Hid (So w v1 (L0 ++ [UInt8.ofNat x0.size]) w1) := HS.out.grown g1 (m := 1) rfl (by rw [u8_of _ hx0]; exact o1)
      clear g1 o1 HS p0 p1 p2
      obtain ⟨p0, p1, p2⟩ := HP.out _ HS1.out.bel
      have n1 : (L0 ++ [UInt8.ofNat x0.size]).length ≤ 422576129 := by rw [List.length_append]; simp only [List.length_cons, List.length_nil]; omega
      generalize hL1 : L0 ++ [UInt8.ofNat x0.size] = L1 at HS1 n1
      obtain ⟨c, HC⟩ : ∃ c, Hid (grownCap w1 x0.size 0 5 = c) := ⟨_, rfl⟩
      have kb := run_bytes_of_string (P := Tryz.prog) w1 9 53 5 x0 Tryz.underlying9 Tryz.underlying53 Tryz.underlying5
      rw [HC.out] at kb
      clear HC
      obtain ⟨fr, HF⟩ : ∃ fr, Hid (((bytesRow x0 c).size, (bytesRow x0 c).size + 1) = fr) := ⟨_, rfl⟩
      rw [HF.out] at kb
      clear HF
      have hsl : (WalkMix.cells x0.data.toList).length = x0.size * 1 := by simp [WalkMix.cells]
      go_upto_region 7 with (at_builtin; go_must (refine wpList_append_own _ rfl (.tmp 22) (.tmp 28) 53 rfl w.heap.size 5 i0 (.int .u8 0) 1 1 Tryz.underlying53 hi hz0 hz1 hz2 rfl (by decide) _ _ _ rfl (HS1.out.own.drew.alloc _) ⟨w1.heap.size, 0, none⟩ x0.size c (WalkMix.cells x0.data.toList) rfl hsl (bytes_at _ _ rfl x0 c _ fr) (cells_one _) (by unfold maxLen; omega) (by omega) (by have := HS1.out.bel.size; simp; omega) ?_); intro v2 w2 o1 g1 z1; clear z1)
      have HS2 : Hid (So w v2 (L1 ++ x0.data.toList) w2) := HS1.out.grownD g1 (m := x0.size) Array.length_toList o1
      clear g1 o1 HS1 p0 p1 p2 kb hsl
      obtain ⟨p0, p1, p2⟩ := HP.out _ HS2.out.bel
      have n2 : (L1 ++ x0.data.toList).length ≤ 422576329 := by rw [List.length_append, show x0.data.toList.length = x0.size from Array.length_toList]; omega
      generalize hL2 : L1 ++ x0.data.toList = L2 at HS2 n2
      cases x2
      · go_upto_region 10 with (at_builtin; go_must (refine wpList_append_own _ rfl (.tmp 38) (.tmp 39) 53 rfl w.heap.size 5 i0 (.int .u8 0) 1 1 Tryz.underlying53 hi hz0 hz1 hz2 rfl (by decide) _ _ _ rfl (HS2.out.own.alloc _) ⟨w2.heap.size, 0, none⟩ 1 1 [.int .u8 0] rfl rfl (one_at _ _ _) (one_cell _ _) (by unfold maxLen; omega) (by omega) (by have := HS2.out.bel.size; simp; omega) ?_); intro v3 w3 o1 g1 z1; clear z1)
        have HS3 : Hid (So w v3 (L2 ++ [Tabs.mark false]) w3) := HS2.out.grown g1 (m := 1) rfl o1
        clear g1 o1 HS2 p0 p1 p2
        obtain ⟨p0, p1, p2⟩ := HP.out _ HS3.out.bel
        have n3 : (L2 ++ [Tabs.mark false]).length ≤ 422576330 := by rw [List.length_append]; simp only [List.length_cons, List.length_nil]; omega
        generalize hL3 : L2 ++ [Tabs.mark false] = L3 at HS3 n3
        go_upto_region 11 with (at_builtin; go_must (refine wpList_append_own _ rfl (.tmp 41) (.tmp 49) 53 rfl w.heap.size 5 i0 (.int .u8 0) 1 1 Tryz.underlying53 hi hz0 hz1 hz2 rfl (by decide) _ _ _ rfl (HS3.out.own.alloc _) ⟨w3.heap.size, 0, none⟩ 1 1 [.int .u8 (x1.size : Int)] rfl rfl (one_at _ _ _) (one_cell _ _) (by unfold maxLen; omega) (by omega) (by have := HS3.out.bel.size; simp; omega) ?_); intro v4 w4 o1 g1 z1; clear z1)
        have HS4 : Hid (So w v4 (L3 ++ [UInt8.ofNat x1.size]) w4) := HS3.out.grown g1 (m := 1) rfl (by rw [u8_of _ hx1]; exact o1)
        clear g1 o1 HS3 p0 p1 p2
        obtain ⟨p0, p1, p2⟩ := HP.out _ HS4.out.bel
        have n4 : (L3 ++ [UInt8.ofNat x1.size]).length ≤ 422576331 := by rw [List.length_append]; simp only [List.length_cons, List.length_nil]; omega
        generalize hL4 : L3 ++ [UInt8.ofNat x1.size] = L4 at HS4 n4
        obtain ⟨c, HC⟩ : ∃ c, Hid (grownCap w4 x1.size 0 5 = c) := ⟨_, rfl⟩
        have kb := run_bytes_of_string (P := Tryz.prog) w4 9 53 5 x1 Tryz.underlying9 Tryz.underlying53 Tryz.underlying5
        rw [HC.out] at kb
        clear HC
        obtain ⟨fr, HF⟩ : ∃ fr, Hid (((bytesRow x1 c).size, (bytesRow x1 c).size + 1) = fr) := ⟨_, rfl⟩
        rw [HF.out] at kb
        clear HF
        have hsl : (WalkMix.cells x1.data.toList).length = x1.size * 1 := by simp [WalkMix.cells]
        go_wp2_with (at_builtin; go_must (refine wpList_append_own _ rfl (.tmp 51) (.tmp 57) 53 rfl w.heap.size 5 i0 (.int .u8 0) 1 1 Tryz.underlying53 hi hz0 hz1 hz2 rfl (by decide) _ _ _ rfl (HS4.out.own.drew.alloc _) ⟨w4.heap.size, 0, none⟩ x1.size c (WalkMix.cells x1.data.toList) rfl hsl (bytes_at _ _ rfl x1 c _ fr) (cells_one _) (by unfold maxLen; omega) (by omega) (by have := HS4.out.bel.size; simp; omega) ?_); intro v5 w5 o1 g1 z1; clear z1)
        have HS5 : Hid (So w v5 (body (l.take (k + 1))) w5) := by
          have h := HS4.out.grownD g1 (m := x1.size) Array.length_toList o1
          rw [← hL4, ← hL3, ← hL2, ← hL1] at h
          rw [HT.out]
          show So _ _ _ _
          simpa [one] using h
        clear g1 o1 HS4 p0 p1 p2 kb hsl
        go_roundw
        case rel => exact ⟨k + 1, by omega, by go_num, HS5⟩
        case measure => simp [intOf]; omega
      · go_upto_region 10 with (at_builtin; go_must (refine wpList_append_own _ rfl (.tmp 35) (.tmp 36) 53 rfl w.heap.size 5 i0 (.int .u8 0) 1 1 Tryz.underlying53 hi hz0 hz1 hz2 rfl (by decide) _ _ _ rfl (HS2.out.own.alloc _) ⟨w2.heap.size, 0, none⟩ 1 1 [.int .u8 1] rfl rfl (one_at _ _ _) (one_cell _ _) (by unfold maxLen; omega) (by omega) (by have := HS2.out.bel.size; simp; omega) ?_); intro v3 w3 o1 g1 z1; clear z1)
        have HS3 : Hid (So w v3 (L2 ++ [Tabs.mark true]) w3) := HS2.out.grown g1 (m := 1) rfl o1
        clear g1 o1 HS2 p0 p1 p2
        obtain ⟨p0, p1, p2⟩ := HP.out _ HS3.out.bel
        have n3 : (L2 ++ [Tabs.mark true]).length ≤ 422576330 := by rw [List.length_append]; simp only [List.length_cons, List.length_nil]; omega
        generalize hL3 : L2 ++ [Tabs.mark true] = L3 at HS3 n3
        go_upto_region 11 with (at_builtin; go_must (refine wpList_append_own _ rfl (.tmp 41) (.tmp 49) 53 rfl w.heap.size 5 i0 (.int .u8 0) 1 1 Tryz.underlying53 hi hz0 hz1 hz2 rfl (by decide) _ _ _ rfl (HS3.out.own.alloc _) ⟨w3.heap.size, 0, none⟩ 1 1 [.int .u8 (x1.size : Int)] rfl rfl (one_at _ _ _) (one_cell _ _) (by unfold maxLen; omega) (by omega) (by have := HS3.out.bel.size; simp; omega) ?_); intro v4 w4 o1 g1 z1; clear z1)
        have HS4 : Hid (So w v4 (L3 ++ [UInt8.ofNat x1.size]) w4) := HS3.out.grown g1 (m := 1) rfl (by rw [u8_of _ hx1]; exact o1)
        clear g1 o1 HS3 p0 p1 p2
        obtain ⟨p0, p1, p2⟩ := HP.out _ HS4.out.bel
        have n4 : (L3 ++ [UInt8.ofNat x1.size]).length ≤ 422576331 := by rw [List.length_append]; simp only [List.length_cons, List.length_nil]; omega
        generalize hL4 : L3 ++ [UInt8.ofNat x1.size] = L4 at HS4 n4
        obtain ⟨c, HC⟩ : ∃ c, Hid (grownCap w4 x1.size 0 5 = c) := ⟨_, rfl⟩
        have kb := run_bytes_of_string (P := Tryz.prog) w4 9 53 5 x1 Tryz.underlying9 Tryz.underlying53 Tryz.underlying5
        rw [HC.out] at kb
        clear HC
        obtain ⟨fr, HF⟩ : ∃ fr, Hid (((bytesRow x1 c).size, (bytesRow x1 c).size + 1) = fr) := ⟨_, rfl⟩
        rw [HF.out] at kb
        clear HF
        have hsl : (WalkMix.cells x1.data.toList).length = x1.size * 1 := by simp [WalkMix.cells]
        go_wp2_with (at_builtin; go_must (refine wpList_append_own _ rfl (.tmp 51) (.tmp 57) 53 rfl w.heap.size 5 i0 (.int .u8 0) 1 1 Tryz.underlying53 hi hz0 hz1 hz2 rfl (by decide) _ _ _ rfl (HS4.out.own.drew.alloc _) ⟨w4.heap.size, 0, none⟩ x1.size c (WalkMix.cells x1.data.toList) rfl hsl (bytes_at _ _ rfl x1 c _ fr) (cells_one _) (by unfold maxLen; omega) (by omega) (by have := HS4.out.bel.size; simp; omega) ?_); intro v5 w5 o1 g1 z1; clear z1)
        have HS5 : Hid (So w v5 (body (l.take (k + 1))) w5) := by
          have h := HS4.out.grownD g1 (m := x1.size) Array.length_toList o1
          rw [← hL4, ← hL3, ← hL2, ← hL1] at h
          rw [HT.out]
          show So _ _ _ _
          simpa [one] using h
        clear g1 o1 HS4 p0 p1 p2 kb hsl
        go_roundw
        case rel => exact ⟨k + 1, by omega, by go_num, HS5⟩
        case measure => simp [intOf]; omega
    · have i1 : ¬ (k : Int) < (n : Int) := by omega
      obtain rfl : k = n := by omega
      rw [List.take_of_length_le (by omega)] at HS hN
      have hv : Nums.valid (k : Int) = true := Nums.valid_iff.2 ⟨by omega, by omega⟩
      go_wp2_with fail
      refine (four_own w.heap.size _ _ (body l) (k : Int) _ HS.out.own (by omega) hv HS.out.bel.size).mono ?_
      rintro e w2 ⟨v2, rfl, o2, b2, s2⟩
      have hb2 : Below w.heap.size w w2 := HS.out.bel.trans b2
      have eH : body l ++ four (k : Int) = headT l := by rw [Tabs.headT, hln]
      rw [eH] at o2
      have hNl : (headT l).length = (body l).length + 4 := by rw [← eH, List.length_append]; rfl
      obtain ⟨g, cp, rfl, kc⟩ := WalkMix.ownsRow_cells (l := headT l) ((body l).length + 4) o2 hNl (by omega)
      have hvS : Nums.valid (Sums.sum (headT l)) = true := Nums.valid_iff.2 (Sums.sum_bd _)
      have HTb : Hid (headT l ++ four (Sums.sum (headT l)) = table l) := rfl
      clear HS b2 eH
      have O2 : Hid (w2.ownsRow w.heap.size 5 1 (.slice (some ⟨g, 0, none⟩) ((body l).length + 4) cp) ((body l).length + 4) (WalkMix.cells (headT l))) := o2
      clear o2
      go_wp2_with fail
      refine (WalkRef.sum_any _ _ (by rw [Nums.str_size]; unfold maxLen; omega)).mono ?_
      rintro e w3 ⟨rfl, rfl⟩
      rw [Nums.str_data]
      clear kc
      go_wp2_with fail
      refine (four_own w.heap.size _ _ (headT l) _ _ O2.out (by omega) hvS s2).mono ?_
      rintro e w4 ⟨v4, rfl, o4, b4, s4⟩
      rw [HTb.out] at o4
      obtain ⟨g4, cp4, rfl, kc⟩ := WalkMix.ownsRow_cells (l := table l) ((body l).length + 8) o4 (Tabs.table_length l) (by omega)
      have HBE : Hid (Below w.heap.size w w4) := hb2.trans b4
      clear o4 b4 O2 hb2
      go_wp2_with fail
      go_ret
      exact ⟨rfl, HBE.out⟩

end Go.Proofs.YtofaegcljcpceagGreatDoor.WalkTableRef
