/-
  What slices.Insert does for package lsm: one element put among others, into a slice that the call owns, of elements of one cell: tables, and levels.
-/
import Derived.Test.YtofaegcljcpceagGreatDoorWalkStoIns
namespace Go.Proofs.YtofaegcljcpceagGreatDoor.WalkIns1
open Go.RowKit
open Keeps (Kept)
open WideCopy (Lies owns_lies owns_of_lies add_at)
open WalkStoIns (wpList_copy_run step_copy_run)

/-- what Insert leaves -/
def Put (t : TypeId) (l : List Value) (p : Value) (i B : Nat) (v : Value) (w : World) (e : Ending) (w' : World) : Prop :=
  ∃ v', e = .returned v' ∧ w'.ownsRow B t 1 v' (l.length + 1) (l.take i ++ [p] ++ l.drop i) ∧ Kept (fun k => v.ownBlock = some k) w w' ∧ ∀ k, v'.ownBlock = some k → v.ownBlock = some k ∨ w.heap.size ≤ k

theorem infoTab : (Tryz.prog.info? 93).map (fun i => (i.zero, i.size, i.bytes)) = some (some (.pointer none), 1, 8) := by kernel_rfl
theorem sizeTab (w : World) : (sizeOf 93).run Tryz.prog w = .ok 1 w := by kernel_rfl

set_option maxHeartbeats 4000000 in
set_option maxRecDepth 100000 in
/-- at the end -/
theorem insert_endTab (l : List Value) (p : Value) (v : Value) (B vb : Nat) (w : World) (hown : w.ownsRow B 93 1 v l.length l) (hl : l.length ≤ 1000) (hv : Lies w vb 93 [p]) (hp : p.oneCell' = true) (hB : B ≤ w.heap.size) :
    Calls Tryz.prog 103 #[v, .int .i64 (l.length : Int), .slice (some ⟨vb, 0, none⟩) 1 1] w fun e w' => Put 93 l p l.length B v w e w' := by
  obtain ⟨i0, hi, hz0, hz1, hz2⟩ := info_parts infoTab
  have HO : Hid (w.ownsRow B 93 1 v l.length l) := hown
  have hc : Hid (∀ j u, [p][j]? = some u → w.cell? ((⟨vb, 0, none⟩ : Addr).add j) = some u) := fun j u hj => by rw [add_at, Nat.zero_add, hv.cell]; exact hj
  have HC : Hid (l.take l.length ++ [p] ++ l.drop l.length = l ++ [p]) := by show _ = _; rw [List.take_length, List.drop_length, List.append_nil]
  obtain ⟨a, cap, rfl, hw, _⟩ := Keeps.owns_row hown
  have hcap : l.length ≤ cap := by
    rcases hown.2 with ⟨h, h0⟩ | ⟨g, c, cur, h, _, _, hc, _⟩
    · omega
    · obtain ⟨_, rfl⟩ : _ ∧ cap = c := by simpa using h
      exact hc
  have FIN : Hid (∀ v1 wn, wn.ownsRow B 93 1 v1 (l.length + 1) (l ++ [p]) → w.grownBy wn (Value.slice a l.length cap).ownBlock → (v1.ownBlock = (Value.slice a l.length cap).ownBlock ∨ v1.ownBlock = some w.heap.size) → Put 93 l p l.length B (.slice a l.length cap) w (.returned v1) wn) := by
    intro v1 wn o1 g1 at1
    refine ⟨v1, rfl, ?_, (Kept.refl _ w).grown g1 fun k hk => .inl hk, fun k hk => ?_⟩
    · rw [HC.out]
      exact o1
    · rcases at1 with h | h
      · exact .inl (by rw [← h]; exact hk)
      · rw [h] at hk
        simp only [Option.some.injEq] at hk
        exact .inr (by omega)
  generalize hN : l.length = N at *
  clear hown hv hw hN HC
  by_cases hcN : cap = N
  · subst hcN
    go_enter Tryz.func103, Tryz.ntmps103
    go_wp2_with (at_builtin; go_must (refine wpList_append_own_at _ rfl (.tmp 23) (.tmp 24) 67 rfl B 93 i0 (.pointer none) 1 8 Tryz.underlying67 hi hz0 hz1 hz2 rfl (by decide) (.slice a cap cap) cap l rfl HO.out ⟨vb, 0, none⟩ 1 1 [p] rfl rfl hc.out (fun u hu => by rw [List.mem_singleton.1 hu]; exact hp) (by unfold maxLen; omega) (by omega) hB ?_); intro v1 wn o1 g1 z1 at1; clear z1)
    go_ret
    exact FIN.out _ _ o1 g1 at1
  · go_enter Tryz.func103, Tryz.ntmps103
    go_wp2_with (at_builtin; go_must (refine wpList_append_own_at _ rfl (.tmp 23) (.tmp 24) 67 rfl B 93 i0 (.pointer none) 1 8 Tryz.underlying67 hi hz0 hz1 hz2 rfl (by decide) (.slice a N cap) N l rfl HO.out ⟨vb, 0, none⟩ 1 1 [p] rfl rfl hc.out (fun u hu => by rw [List.mem_singleton.1 hu]; exact hp) (by unfold maxLen; omega) (by omega) hB ?_); intro v1 wn o1 g1 z1 at1; clear z1)
    go_ret
    exact FIN.out _ _ o1 g1 at1

set_option maxHeartbeats 4000000 in
set_option maxRecDepth 100000 in
/-- among others, where there is room -/
theorem insert_roomTab (l : List Value) (p : Value) (B g vb i cap : Nat) (R : List Value) (w : World) (hi : i < l.length) (hl : l.length ≤ 1000) (hg : B ≤ g) (hR : Lies w g 93 R) (hRl : R.length = cap) (hRt : R.take l.length = l) (hm : cap ≤ maxLen) (hroom : l.length + 1 ≤ cap)
    (hv : Lies w vb 93 [p]) (hp : p.oneCell' = true) (h1 : ∀ u ∈ l, u.oneCell' = true) (hne : vb ≠ g) :
    Calls Tryz.prog 103 #[.slice (some ⟨g, 0, none⟩) l.length cap, .int .i64 (i : Int), .slice (some ⟨vb, 0, none⟩) 1 1] w fun e w' => Put 93 l p i B (.slice (some ⟨g, 0, none⟩) l.length cap) w e w' := by
  generalize hN : l.length = N at *
  have hov : ∀ lb cb w, Lies w vb 93 [p] → Lies w g 93 R → (callFunc 111 #[.slice (some ⟨vb, 0, none⟩) 1 1, .slice (some ⟨g, i + 1, none⟩) lb cb]).run Tryz.prog w = .ok (.value (.bool false)) w := fun lb cb w hv hR => by
    rw [run_callFunc_extern Tryz.func111 (by kernel_rfl) (by kernel_rfl) (by kernel_rfl) (e := Extern.SlicesOverlaps.overlaps #[67, 67] #[4]) (by kernel_rfl),
      Lib.run_overlaps_apart w 67 4 93 Tryz.underlying67 1 sizeTab ⟨vb, 0, none⟩ ⟨g, i + 1, none⟩ 1 1 lb cb hne _ _ _ _ hv.shape hR.shape (by omega) (hv.frozen _) (hv.frozen _)]
    rfl
  have hcN : ¬ cap = i := by omega
  have i1 : (i : Int) ≤ (N : Int) := by omega
  have i2 : ¬ (i : Int) = (N : Int) := by omega
  have i3 : ¬ (cap : Int) < (N : Int) + 1 := by omega
  have hc63 : cap ≤ 9223372036854775807 := by unfold maxLen at hm; exact hm
  go_enter Tryz.func103, Tryz.ntmps103
  go_upto_region 14 with fail
  have hov1 := fun lb cb => hov lb cb w hv hR
  have HR : Hid (Lies w g 93 R) := hR
  have HV : Hid (Lies w vb 93 [p]) := hv
  have HRl : Hid (R.length = cap) := hRl
  have HRt : Hid (List.take N R = l) := hRt
  clear hov hR hv hRl hRt
  go_upto_region 15 with (simp only [hov1])
  clear hov1
  have hdl : (l.drop i).length = (N - i) * 1 := by rw [List.length_drop, hN]; omega
  obtain ⟨w1, r1, L1, K1⟩ := WideCopy.run_copy_wide (P := Tryz.prog) w.drew 67 67 93 93 1 g (i + 1) ⟨g, i, none⟩ R (l.drop i) (N - i) Tryz.underlying67 (by kernel_rfl) HR.out hdl
    (fun j u hj => by
      rw [add_at]
      rw [List.getElem?_drop, ← HRt.out, List.getElem?_take] at hj
      split at hj
      · rw [show w.drew.cell? ⟨g, i + j, none⟩ = w.cell? ⟨g, i + j, none⟩ from rfl, HR.out.cell]
        exact hj
      · cases hj)
    (by have h1 := HRl.out; rw [hdl]; omega) (fun u hu => h1 u (List.mem_of_mem_drop hu))
  have hw1 : IntKind.i64.wrap ((i : Int) + 1) = (i : Int) + 1 := by rw [IntKind.wrap_i64]; omega
  have hb1 : (0 : Int) ≤ (i : Int) + 1 := by omega
  have hb2 : (i : Int) + 1 ≤ (N : Int) + 1 := by omega
  have hb3 : (i : Int) ≤ (N : Int) + 1 := by omega
  have htn : ((i : Int) + 1).toNat = i + 1 := by omega
  have hb4 : ¬ cap = i + 1 := by omega
  have hmin : Nat.min (N + 1 - i) (N - i) = N - i := Nat.min_eq_right (by omega)
  have r1' := fun ty => r1 ty (N - i) (cap - (i + 1)) (N + 1 - i) (cap - i) hmin
  clear r1
  go_region_law (refine step_copy_run rfl (.tmp 73) (.tmp 76) 67 67 rfl (v := .slice (some ⟨g, i + 1, none⟩) (N - i) (cap - (i + 1))) (u := .slice (some ⟨g, i, none⟩) (N + 1 - i) (cap - i)) (by simp [Act.eval, Act.put]) (by simp [Act.eval, Act.put]) r1' ?_)
  go_upto_region 16 with fail
  have K1w : Kept (fun k => k = g) w w1 := (Kept.refl _ w).drew.trans K1 fun _ h => .inl h
  obtain ⟨e1, e2, e3⟩ := WideCopy.shift_list R l [p] i N 1 HRt.out (by have := HRl.out; omega) (by omega) rfl
  generalize List.take (i + 1) R ++ List.drop i l ++ List.drop (i + 1 + (List.drop i l).length) R = R1 at L1 e1 e2 e3
  have V1 := HV.out.kept K1w hne
  obtain ⟨w2, r2, L2, K2⟩ := WideCopy.run_copy_wide (P := Tryz.prog) w1 67 67 93 93 1 g i ⟨vb, 0, none⟩ R1 [p] 1 Tryz.underlying67 (by kernel_rfl) L1 rfl
    (fun j u hj => by rw [add_at, Nat.zero_add, V1.cell]; exact hj) (by have := HRl.out; rw [e3]; simp only [List.length_cons, List.length_nil]; omega) (fun u hu => by rw [List.mem_singleton.1 hu]; exact hp)
  have K2w : Kept (fun k => k = g) w w2 := K1w.trans K2 fun _ h => .inl h
  have FIN : Hid (Put 93 l p i B (.slice (some ⟨g, 0, none⟩) N cap) w (.returned (.slice (some ⟨g, 0, none⟩) (N + 1) cap)) w2) := by
    refine ⟨_, rfl, ?_, K2w.mono fun k hk => (by rw [hk]; rfl), fun k hk => .inl hk⟩
    rw [hN]
    refine owns_of_lies hg L2 hroom hm (by rw [e2, HRl.out]; omega) ?_
    rw [← e1, Nat.mul_one]
  have r2' := fun ty => r2 ty (N + 1 - i) (cap - i) 1 1 (Nat.min_eq_left (by omega))
  clear r2 L1 L2 e1 e2 e3 V1 K1w K2w K1 K2 HR HV HRl HRt hdl r1'
  go_wp2_with (at_builtin; go_must (refine wpList_copy_run rfl (.tmp 80) (.tmp 81) 67 67 rfl rfl rfl r2' ?_))
  go_ret
  exact FIN.out

set_option maxHeartbeats 4000000 in
set_option maxRecDepth 100000 in
/-- among others, where there is none -/
theorem insert_growTab (l : List Value) (p : Value) (B g vb i cap : Nat) (w : World) (hi : i < l.length) (hl : l.length ≤ 1000) (hown : w.ownsRow B 93 1 (.slice (some ⟨g, 0, none⟩) l.length cap) l.length l) (hroom : ¬ l.length + 1 ≤ cap)
    (hv : Lies w vb 93 [p]) (hp : p.oneCell' = true) (h1 : ∀ u ∈ l, u.oneCell' = true) (hB : B ≤ w.heap.size) :
    Calls Tryz.prog 103 #[.slice (some ⟨g, 0, none⟩) l.length cap, .int .i64 (i : Int), .slice (some ⟨vb, 0, none⟩) 1 1] w fun e w' => Put 93 l p i B (.slice (some ⟨g, 0, none⟩) l.length cap) w e w' := by
  obtain ⟨i0, hi0, hz0, hz1, hz2⟩ := info_parts infoTab
  have hgw : g < w.heap.size := (hown.lt g rfl).2
  have hnc : l.length ≤ cap := (Wides.Wide.of_owns hown).2.2.1
  have hsrc : Hid (∀ j u, l[j]? = some u → w.cell? ⟨g, j, none⟩ = some u) := by
    intro j u hj
    have hjl := (List.getElem?_eq_some_iff.1 hj).1
    rw [hown.cellAt j (by omega)]
    exact hj
  clear hown
  generalize hN : l.length = N at *
  have hcl : Hid (l.length = N * 1) := by show _ = _; omega
  have hcN : cap = N := by omega
  subst hcN
  have hci : ¬ cap = i := by omega
  have i1 : (i : Int) ≤ (cap : Int) := by omega
  have i2 : ¬ (i : Int) = (cap : Int) := by omega
  have i3 : (cap : Int) < (cap : Int) + 1 := by omega
  have HV : Hid (Lies w vb 93 [p]) := hv
  have hk : (cap : Int) + 1 - (i : Int) = ((cap + 1 - i : Nat) : Int) := by omega
  clear hv hroom
  go_enter Tryz.func103, Tryz.ntmps103
  go_upto_region 9 with fail
  obtain ⟨w1, c1, R, r1, L1, g1, g2, g3, g4, b1⟩ := WideCopy.run_zeros_wide (P := Tryz.prog) w 67 3 67 93 i0 (.pointer none) .i64 .i64 1 Tryz.underlying67 Tryz.underlying3 hi0 hz0 hz1 (by rw [hz2]; decide) rfl (by decide) g i cap (l.take i) (by rw [List.length_take, hN]; omega)
    (fun j u hj => by
      rw [List.getElem?_take] at hj
      split at hj
      · exact hsrc.out j u hj
      · cases hj) (cap + 1 - i) (by omega) (by omega) (by omega)
  rw [← hk, show i + (cap + 1 - i) = cap + 1 by omega] at r1
  rw [show i + (cap + 1 - i) = cap + 1 by omega] at g1
  rw [Nat.mul_one] at g3 g4
  clear hk
  have hvw : vb < w.heap.size := HV.out.lt
  have V1 : Lies w1 vb 93 [p] := HV.out.kept (Kept.of_below (fun _ => False) b1) fun h => h
  obtain ⟨e1, e2, e3⟩ := WideCopy.grow_list R l [p] i cap 1 c1 hN (by omega) rfl g3 (by omega) g4
  obtain ⟨w2, r2, L2, K2⟩ := WideCopy.run_copy_wide (P := Tryz.prog) w1 67 67 93 93 1 w.heap.size i ⟨vb, 0, none⟩ R [p] 1 Tryz.underlying67 (by kernel_rfl) L1 rfl
    (fun j u hj => by rw [add_at, Nat.zero_add, V1.cell]; exact hj) (by rw [g3]; simp only [List.length_cons, List.length_nil]; omega) (fun u hu => by rw [List.mem_singleton.1 hu]; exact hp)
  generalize List.take i R ++ [p] ++ List.drop (i + [p].length) R = R1 at L2 e1 e2 e3
  have B2 : Below w.heap.size w w2 := b1.trans (K2.below (fun k hk => by omega) b1.size)
  have hdl : (l.drop i).length = (cap - i) * 1 := by rw [List.length_drop, hN]; omega
  obtain ⟨w3, r3, L3, K3⟩ := WideCopy.run_copy_wide (P := Tryz.prog) w2.drew 67 67 93 93 1 w.heap.size (i + 1) ⟨g, i, none⟩ R1 (l.drop i) (cap - i) Tryz.underlying67 (by kernel_rfl) L2 hdl
    (fun j u hj => by
      rw [add_at]
      rw [List.getElem?_drop] at hj
      exact Lists.cell_below B2.drew (hsrc.out _ _ hj))
    (by rw [hdl, e3]; omega) (fun u hu => h1 u (List.mem_of_mem_drop hu))
  have B3 : Below w.heap.size w w3 := B2.drew.trans (K3.below (fun k hk => by omega) B2.size)
  have FIN : Hid (Put 93 l p i B (.slice (some ⟨g, 0, none⟩) cap cap) w (.returned (.slice (some ⟨w.heap.size, 0, none⟩) (cap + 1) c1)) w3) := by
    refine ⟨_, rfl, ?_, Kept.of_below _ B3, fun k hk => .inr ?_⟩
    · rw [hN]
      refine owns_of_lies hB L3 g1 g2 (by rw [e2]; omega) ?_
      rw [← e1, Nat.mul_one]
    · simp only [Value.ownBlock, Option.some.injEq] at hk
      omega
  have r2' := fun ty => r2 ty (cap + 1 - i) (c1 - i) 1 1 (Nat.min_eq_left (by omega))
  have r3' := fun ty => r3 ty (cap - i) (c1 - (i + 1)) (cap - i) (cap - i) (Nat.min_eq_left (by omega))
  have hw1 : IntKind.i64.wrap ((i : Int) + 1) = (i : Int) + 1 := by rw [IntKind.wrap_i64]; omega
  have hb1 : (0 : Int) ≤ (i : Int) + 1 := by omega
  have hb2 : (i : Int) + 1 ≤ (cap : Int) + 1 := by omega
  have hb3 : (i : Int) ≤ (cap : Int) + 1 := by omega
  have htn : ((i : Int) + 1).toNat = i + 1 := by omega
  have hb4 : ¬ c1 = i + 1 := by omega
  have hb5 : ¬ c1 = i := by omega
  have hb6 : c1 ≤ 9223372036854775807 := by unfold maxLen at g2; exact g2
  clear r2 r3 L1 L2 L3 K2 K3 B2 B3 e1 e2 e3 V1 b1 g2 g3 g4 HV hcl hdl hsrc hnc hN
  go_upto_region 11 with (first | (at_builtin; go_must (refine Lib.wpList_append_run _ rfl _ _ _ _ rfl _ _ rfl rfl _ _ r1 ?_)) | (at_builtin; go_must (refine wpList_copy_run rfl (.tmp 43) (.tmp 44) 67 67 rfl rfl rfl r2' ?_)))
  go_region_law (refine step_copy_run rfl (.tmp 50) (.tmp 53) 67 67 rfl (v := .slice (some ⟨w.heap.size, i + 1, none⟩) (cap - i) (c1 - (i + 1))) (u := .slice (some ⟨g, i, none⟩) (cap - i) (cap - i)) (by simp [Act.eval, Act.put]) (by simp [Act.eval, Act.put]) r3' ?_)
  go_wp2_with fail
  go_ret
  exact FIN.out

/-- one put among others, or behind them -/
theorem insertTab (l : List Value) (p : Value) (v : Value) (B vb i : Nat) (w : World) (hown : w.ownsRow B 93 1 v l.length l) (hi : i ≤ l.length) (hl : l.length ≤ 1000) (hv : Lies w vb 93 [p]) (hp : p.oneCell' = true) (h1 : ∀ u ∈ l, u.oneCell' = true) (hne : v.ownBlock ≠ some vb) (hB : B ≤ w.heap.size) :
    Calls Tryz.prog 103 #[v, .int .i64 (i : Int), .slice (some ⟨vb, 0, none⟩) 1 1] w fun e w' => Put 93 l p i B v w e w' := by
  by_cases he : i = l.length
  · subst he
    exact insert_endTab l p v B vb w hown hl hv hp hB
  · obtain ⟨g, cap, R, rfl, hg, hR, hc, hm, hRl, hRt⟩ := owns_lies hown (by omega)
    rw [Nat.mul_one] at hRl hRt
    by_cases hroom : l.length + 1 ≤ cap
    · exact insert_roomTab l p B g vb i cap R w (by omega) hl hg hR hRl hRt hm hroom hv hp h1 fun e => hne (by rw [e]; rfl)
    · exact insert_growTab l p B g vb i cap w (by omega) hl hown hroom hv hp h1 hB

theorem infoLev : (Tryz.prog.info? 32).map (fun i => (i.zero, i.size, i.bytes)) = some (some (.slice none 0 0), 1, 24) := by kernel_rfl
theorem sizeLev (w : World) : (sizeOf 32).run Tryz.prog w = .ok 1 w := by kernel_rfl

set_option maxHeartbeats 4000000 in
set_option maxRecDepth 100000 in
/-- at the end -/
theorem insert_endLev (l : List Value) (p : Value) (v : Value) (B vb : Nat) (w : World) (hown : w.ownsRow B 32 1 v l.length l) (hl : l.length ≤ 1000) (hv : Lies w vb 32 [p]) (hp : p.oneCell' = true) (hB : B ≤ w.heap.size) :
    Calls Tryz.prog 28 #[v, .int .i64 (l.length : Int), .slice (some ⟨vb, 0, none⟩) 1 1] w fun e w' => Put 32 l p l.length B v w e w' := by
  obtain ⟨i0, hi, hz0, hz1, hz2⟩ := info_parts infoLev
  have HO : Hid (w.ownsRow B 32 1 v l.length l) := hown
  have hc : Hid (∀ j u, [p][j]? = some u → w.cell? ((⟨vb, 0, none⟩ : Addr).add j) = some u) := fun j u hj => by rw [add_at, Nat.zero_add, hv.cell]; exact hj
  have HC : Hid (l.take l.length ++ [p] ++ l.drop l.length = l ++ [p]) := by show _ = _; rw [List.take_length, List.drop_length, List.append_nil]
  obtain ⟨a, cap, rfl, hw, _⟩ := Keeps.owns_row hown
  have hcap : l.length ≤ cap := by
    rcases hown.2 with ⟨h, h0⟩ | ⟨g, c, cur, h, _, _, hc, _⟩
    · omega
    · obtain ⟨_, rfl⟩ : _ ∧ cap = c := by simpa using h
      exact hc
  have FIN : Hid (∀ v1 wn, wn.ownsRow B 32 1 v1 (l.length + 1) (l ++ [p]) → w.grownBy wn (Value.slice a l.length cap).ownBlock → (v1.ownBlock = (Value.slice a l.length cap).ownBlock ∨ v1.ownBlock = some w.heap.size) → Put 32 l p l.length B (.slice a l.length cap) w (.returned v1) wn) := by
    intro v1 wn o1 g1 at1
    refine ⟨v1, rfl, ?_, (Kept.refl _ w).grown g1 fun k hk => .inl hk, fun k hk => ?_⟩
    · rw [HC.out]
      exact o1
    · rcases at1 with h | h
      · exact .inl (by rw [← h]; exact hk)
      · rw [h] at hk
        simp only [Option.some.injEq] at hk
        exact .inr (by omega)
  generalize hN : l.length = N at *
  clear hown hv hw hN HC
  by_cases hcN : cap = N
  · subst hcN
    go_enter Tryz.func28, Tryz.ntmps28
    go_wp2_with (at_builtin; go_must (refine wpList_append_own_at _ rfl (.tmp 23) (.tmp 24) 22 rfl B 32 i0 (.slice none 0 0) 1 24 Tryz.underlying22 hi hz0 hz1 hz2 rfl (by decide) (.slice a cap cap) cap l rfl HO.out ⟨vb, 0, none⟩ 1 1 [p] rfl rfl hc.out (fun u hu => by rw [List.mem_singleton.1 hu]; exact hp) (by unfold maxLen; omega) (by omega) hB ?_); intro v1 wn o1 g1 z1 at1; clear z1)
    go_ret
    exact FIN.out _ _ o1 g1 at1
  · go_enter Tryz.func28, Tryz.ntmps28
    go_wp2_with (at_builtin; go_must (refine wpList_append_own_at _ rfl (.tmp 23) (.tmp 24) 22 rfl B 32 i0 (.slice none 0 0) 1 24 Tryz.underlying22 hi hz0 hz1 hz2 rfl (by decide) (.slice a N cap) N l rfl HO.out ⟨vb, 0, none⟩ 1 1 [p] rfl rfl hc.out (fun u hu => by rw [List.mem_singleton.1 hu]; exact hp) (by unfold maxLen; omega) (by omega) hB ?_); intro v1 wn o1 g1 z1 at1; clear z1)
    go_ret
    exact FIN.out _ _ o1 g1 at1

set_option maxHeartbeats 4000000 in
set_option maxRecDepth 100000 in
/-- among others, where there is room -/
theorem insert_roomLev (l : List Value) (p : Value) (B g vb i cap : Nat) (R : List Value) (w : World) (hi : i < l.length) (hl : l.length ≤ 1000) (hg : B ≤ g) (hR : Lies w g 32 R) (hRl : R.length = cap) (hRt : R.take l.length = l) (hm : cap ≤ maxLen) (hroom : l.length + 1 ≤ cap)
    (hv : Lies w vb 32 [p]) (hp : p.oneCell' = true) (h1 : ∀ u ∈ l, u.oneCell' = true) (hne : vb ≠ g) :
    Calls Tryz.prog 28 #[.slice (some ⟨g, 0, none⟩) l.length cap, .int .i64 (i : Int), .slice (some ⟨vb, 0, none⟩) 1 1] w fun e w' => Put 32 l p i B (.slice (some ⟨g, 0, none⟩) l.length cap) w e w' := by
  generalize hN : l.length = N at *
  have hov : ∀ lb cb w, Lies w vb 32 [p] → Lies w g 32 R → (callFunc 51 #[.slice (some ⟨vb, 0, none⟩) 1 1, .slice (some ⟨g, i + 1, none⟩) lb cb]).run Tryz.prog w = .ok (.value (.bool false)) w := fun lb cb w hv hR => by
    rw [run_callFunc_extern Tryz.func51 (by kernel_rfl) (by kernel_rfl) (by kernel_rfl) (e := Extern.SlicesOverlaps.overlaps #[22, 22] #[4]) (by kernel_rfl),
      Lib.run_overlaps_apart w 22 4 32 Tryz.underlying22 1 sizeLev ⟨vb, 0, none⟩ ⟨g, i + 1, none⟩ 1 1 lb cb hne _ _ _ _ hv.shape hR.shape (by omega) (hv.frozen _) (hv.frozen _)]
    rfl
  have hcN : ¬ cap = i := by omega
  have i1 : (i : Int) ≤ (N : Int) := by omega
  have i2 : ¬ (i : Int) = (N : Int) := by omega
  have i3 : ¬ (cap : Int) < (N : Int) + 1 := by omega
  have hc63 : cap ≤ 9223372036854775807 := by unfold maxLen at hm; exact hm
  go_enter Tryz.func28, Tryz.ntmps28
  go_upto_region 14 with fail
  have hov1 := fun lb cb => hov lb cb w hv hR
  have HR : Hid (Lies w g 32 R) := hR
  have HV : Hid (Lies w vb 32 [p]) := hv
  have HRl : Hid (R.length = cap) := hRl
  have HRt : Hid (List.take N R = l) := hRt
  clear hov hR hv hRl hRt
  go_upto_region 15 with (simp only [hov1])
  clear hov1
  have hdl : (l.drop i).length = (N - i) * 1 := by rw [List.length_drop, hN]; omega
  obtain ⟨w1, r1, L1, K1⟩ := WideCopy.run_copy_wide (P := Tryz.prog) w.drew 22 22 32 32 1 g (i + 1) ⟨g, i, none⟩ R (l.drop i) (N - i) Tryz.underlying22 (by kernel_rfl) HR.out hdl
    (fun j u hj => by
      rw [add_at]
      rw [List.getElem?_drop, ← HRt.out, List.getElem?_take] at hj
      split at hj
      · rw [show w.drew.cell? ⟨g, i + j, none⟩ = w.cell? ⟨g, i + j, none⟩ from rfl, HR.out.cell]
        exact hj
      · cases hj)
    (by have h1 := HRl.out; rw [hdl]; omega) (fun u hu => h1 u (List.mem_of_mem_drop hu))
  have hw1 : IntKind.i64.wrap ((i : Int) + 1) = (i : Int) + 1 := by rw [IntKind.wrap_i64]; omega
  have hb1 : (0 : Int) ≤ (i : Int) + 1 := by omega
  have hb2 : (i : Int) + 1 ≤ (N : Int) + 1 := by omega
  have hb3 : (i : Int) ≤ (N : Int) + 1 := by omega
  have htn : ((i : Int) + 1).toNat = i + 1 := by omega
  have hb4 : ¬ cap = i + 1 := by omega
  have hmin : Nat.min (N + 1 - i) (N - i) = N - i := Nat.min_eq_right (by omega)
  have r1' := fun ty => r1 ty (N - i) (cap - (i + 1)) (N + 1 - i) (cap - i) hmin
  clear r1
  go_region_law (refine step_copy_run rfl (.tmp 73) (.tmp 76) 22 22 rfl (v := .slice (some ⟨g, i + 1, none⟩) (N - i) (cap - (i + 1))) (u := .slice (some ⟨g, i, none⟩) (N + 1 - i) (cap - i)) (by simp [Act.eval, Act.put]) (by simp [Act.eval, Act.put]) r1' ?_)
  go_upto_region 16 with fail
  have K1w : Kept (fun k => k = g) w w1 := (Kept.refl _ w).drew.trans K1 fun _ h => .inl h
  obtain ⟨e1, e2, e3⟩ := WideCopy.shift_list R l [p] i N 1 HRt.out (by have := HRl.out; omega) (by omega) rfl
  generalize List.take (i + 1) R ++ List.drop i l ++ List.drop (i + 1 + (List.drop i l).length) R = R1 at L1 e1 e2 e3
  have V1 := HV.out.kept K1w hne
  obtain ⟨w2, r2, L2, K2⟩ := WideCopy.run_copy_wide (P := Tryz.prog) w1 22 22 32 32 1 g i ⟨vb, 0, none⟩ R1 [p] 1 Tryz.underlying22 (by kernel_rfl) L1 rfl
    (fun j u hj => by rw [add_at, Nat.zero_add, V1.cell]; exact hj) (by have := HRl.out; rw [e3]; simp only [List.length_cons, List.length_nil]; omega) (fun u hu => by rw [List.mem_singleton.1 hu]; exact hp)
  have K2w : Kept (fun k => k = g) w w2 := K1w.trans K2 fun _ h => .inl h
  have FIN : Hid (Put 32 l p i B (.slice (some ⟨g, 0, none⟩) N cap) w (.returned (.slice (some ⟨g, 0, none⟩) (N + 1) cap)) w2) := by
    refine ⟨_, rfl, ?_, K2w.mono fun k hk => (by rw [hk]; rfl), fun k hk => .inl hk⟩
    rw [hN]
    refine owns_of_lies hg L2 hroom hm (by rw [e2, HRl.out]; omega) ?_
    rw [← e1, Nat.mul_one]
  have r2' := fun ty => r2 ty (N + 1 - i) (cap - i) 1 1 (Nat.min_eq_left (by omega))
  clear r2 L1 L2 e1 e2 e3 V1 K1w K2w K1 K2 HR HV HRl HRt hdl r1'
  go_wp2_with (at_builtin; go_must (refine wpList_copy_run rfl (.tmp 80) (.tmp 81) 22 22 rfl rfl rfl r2' ?_))
  go_ret
  exact FIN.out

set_option maxHeartbeats 4000000 in
set_option maxRecDepth 100000 in
/-- among others, where there is none -/
theorem insert_growLev (l : List Value) (p : Value) (B g vb i cap : Nat) (w : World) (hi : i < l.length) (hl : l.length ≤ 1000) (hown : w.ownsRow B 32 1 (.slice (some ⟨g, 0, none⟩) l.length cap) l.length l) (hroom : ¬ l.length + 1 ≤ cap)
    (hv : Lies w vb 32 [p]) (hp : p.oneCell' = true) (h1 : ∀ u ∈ l, u.oneCell' = true) (hB : B ≤ w.heap.size) :
    Calls Tryz.prog 28 #[.slice (some ⟨g, 0, none⟩) l.length cap, .int .i64 (i : Int), .slice (some ⟨vb, 0, none⟩) 1 1] w fun e w' => Put 32 l p i B (.slice (some ⟨g, 0, none⟩) l.length cap) w e w' := by
  obtain ⟨i0, hi0, hz0, hz1, hz2⟩ := info_parts infoLev
  have hgw : g < w.heap.size := (hown.lt g rfl).2
  have hnc : l.length ≤ cap := (Wides.Wide.of_owns hown).2.2.1
  have hsrc : Hid (∀ j u, l[j]? = some u → w.cell? ⟨g, j, none⟩ = some u) := by
    intro j u hj
    have hjl := (List.getElem?_eq_some_iff.1 hj).1
    rw [hown.cellAt j (by omega)]
    exact hj
  clear hown
  generalize hN : l.length = N at *
  have hcl : Hid (l.length = N * 1) := by show _ = _; omega
  have hcN : cap = N := by omega
  subst hcN
  have hci : ¬ cap = i := by omega
  have i1 : (i : Int) ≤ (cap : Int) := by omega
  have i2 : ¬ (i : Int) = (cap : Int) := by omega
  have i3 : (cap : Int) < (cap : Int) + 1 := by omega
  have HV : Hid (Lies w vb 32 [p]) := hv
  have hk : (cap : Int) + 1 - (i : Int) = ((cap + 1 - i : Nat) : Int) := by omega
  clear hv hroom
  go_enter Tryz.func28, Tryz.ntmps28
  go_upto_region 9 with fail
  obtain ⟨w1, c1, R, r1, L1, g1, g2, g3, g4, b1⟩ := WideCopy.run_zeros_wide (P := Tryz.prog) w 22 3 22 32 i0 (.slice none 0 0) .i64 .i64 1 Tryz.underlying22 Tryz.underlying3 hi0 hz0 hz1 (by rw [hz2]; decide) rfl (by decide) g i cap (l.take i) (by rw [List.length_take, hN]; omega)
    (fun j u hj => by
      rw [List.getElem?_take] at hj
      split at hj
      · exact hsrc.out j u hj
      · cases hj) (cap + 1 - i) (by omega) (by omega) (by omega)
  rw [← hk, show i + (cap + 1 - i) = cap + 1 by omega] at r1
  rw [show i + (cap + 1 - i) = cap + 1 by omega] at g1
  rw [Nat.mul_one] at g3 g4
  clear hk
  have hvw : vb < w.heap.size := HV.out.lt
  have V1 : Lies w1 vb 32 [p] := HV.out.kept (Kept.of_below (fun _ => False) b1) fun h => h
  obtain ⟨e1, e2, e3⟩ := WideCopy.grow_list R l [p] i cap 1 c1 hN (by omega) rfl g3 (by omega) g4
  obtain ⟨w2, r2, L2, K2⟩ := WideCopy.run_copy_wide (P := Tryz.prog) w1 22 22 32 32 1 w.heap.size i ⟨vb, 0, none⟩ R [p] 1 Tryz.underlying22 (by kernel_rfl) L1 rfl
    (fun j u hj => by rw [add_at, Nat.zero_add, V1.cell]; exact hj) (by rw [g3]; simp only [List.length_cons, List.length_nil]; omega) (fun u hu => by rw [List.mem_singleton.1 hu]; exact hp)
  generalize List.take i R ++ [p] ++ List.drop (i + [p].length) R = R1 at L2 e1 e2 e3
  have B2 : Below w.heap.size w w2 := b1.trans (K2.below (fun k hk => by omega) b1.size)
  have hdl : (l.drop i).length = (cap - i) * 1 := by rw [List.length_drop, hN]; omega
  obtain ⟨w3, r3, L3, K3⟩ := WideCopy.run_copy_wide (P := Tryz.prog) w2.drew 22 22 32 32 1 w.heap.size (i + 1) ⟨g, i, none⟩ R1 (l.drop i) (cap - i) Tryz.underlying22 (by kernel_rfl) L2 hdl
    (fun j u hj => by
      rw [add_at]
      rw [List.getElem?_drop] at hj
      exact Lists.cell_below B2.drew (hsrc.out _ _ hj))
    (by rw [hdl, e3]; omega) (fun u hu => h1 u (List.mem_of_mem_drop hu))
  have B3 : Below w.heap.size w w3 := B2.drew.trans (K3.below (fun k hk => by omega) B2.size)
  have FIN : Hid (Put 32 l p i B (.slice (some ⟨g, 0, none⟩) cap cap) w (.returned (.slice (some ⟨w.heap.size, 0, none⟩) (cap + 1) c1)) w3) := by
    refine ⟨_, rfl, ?_, Kept.of_below _ B3, fun k hk => .inr ?_⟩
    · rw [hN]
      refine owns_of_lies hB L3 g1 g2 (by rw [e2]; omega) ?_
      rw [← e1, Nat.mul_one]
    · simp only [Value.ownBlock, Option.some.injEq] at hk
      omega
  have r2' := fun ty => r2 ty (cap + 1 - i) (c1 - i) 1 1 (Nat.min_eq_left (by omega))
  have r3' := fun ty => r3 ty (cap - i) (c1 - (i + 1)) (cap - i) (cap - i) (Nat.min_eq_left (by omega))
  have hw1 : IntKind.i64.wrap ((i : Int) + 1) = (i : Int) + 1 := by rw [IntKind.wrap_i64]; omega
  have hb1 : (0 : Int) ≤ (i : Int) + 1 := by omega
  have hb2 : (i : Int) + 1 ≤ (cap : Int) + 1 := by omega
  have hb3 : (i : Int) ≤ (cap : Int) + 1 := by omega
  have htn : ((i : Int) + 1).toNat = i + 1 := by omega
  have hb4 : ¬ c1 = i + 1 := by omega
  have hb5 : ¬ c1 = i := by omega
  have hb6 : c1 ≤ 9223372036854775807 := by unfold maxLen at g2; exact g2
  clear r2 r3 L1 L2 L3 K2 K3 B2 B3 e1 e2 e3 V1 b1 g2 g3 g4 HV hcl hdl hsrc hnc hN
  go_upto_region 11 with (first | (at_builtin; go_must (refine Lib.wpList_append_run _ rfl _ _ _ _ rfl _ _ rfl rfl _ _ r1 ?_)) | (at_builtin; go_must (refine wpList_copy_run rfl (.tmp 43) (.tmp 44) 22 22 rfl rfl rfl r2' ?_)))
  go_region_law (refine step_copy_run rfl (.tmp 50) (.tmp 53) 22 22 rfl (v := .slice (some ⟨w.heap.size, i + 1, none⟩) (cap - i) (c1 - (i + 1))) (u := .slice (some ⟨g, i, none⟩) (cap - i) (cap - i)) (by simp [Act.eval, Act.put]) (by simp [Act.eval, Act.put]) r3' ?_)
  go_wp2_with fail
  go_ret
  exact FIN.out

/-- one put among others, or behind them -/
theorem insertLev (l : List Value) (p : Value) (v : Value) (B vb i : Nat) (w : World) (hown : w.ownsRow B 32 1 v l.length l) (hi : i ≤ l.length) (hl : l.length ≤ 1000) (hv : Lies w vb 32 [p]) (hp : p.oneCell' = true) (h1 : ∀ u ∈ l, u.oneCell' = true) (hne : v.ownBlock ≠ some vb) (hB : B ≤ w.heap.size) :
    Calls Tryz.prog 28 #[v, .int .i64 (i : Int), .slice (some ⟨vb, 0, none⟩) 1 1] w fun e w' => Put 32 l p i B v w e w' := by
  by_cases he : i = l.length
  · subst he
    exact insert_endLev l p v B vb w hown hl hv hp hB
  · obtain ⟨g, cap, R, rfl, hg, hR, hc, hm, hRl, hRt⟩ := owns_lies hown (by omega)
    rw [Nat.mul_one] at hRl hRt
    by_cases hroom : l.length + 1 ≤ cap
    · exact insert_roomLev l p B g vb i cap R w (by omega) hl hg hR hRl hRt hm hroom hv hp h1 fun e => hne (by rw [e]; rfl)
    · exact insert_growLev l p B g vb i cap w (by omega) hl hown hroom hv hp h1 hB

end Go.Proofs.YtofaegcljcpceagGreatDoor.WalkIns1
