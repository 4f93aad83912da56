/-
  What slices.Insert does for package store: one pair put among others, into a slice that the call owns.
-/
import Derived.Test.YtofaegcljcpceagGreatDoorWalkStoFind
import Derived.Test.YtofaegcljcpceagGreatDoorWideCopy
import Derived.Deep.RegionLaw
import Derived.Lib.Walk
namespace Go.Proofs.YtofaegcljcpceagGreatDoor.WalkStoIns
open Go.RowKit
open Keeps (Kept owns_kept owns_base)
open Wides (Wide)
open Stores (Pair)
open PairRows (cells cells_append cells_length)
open WideCopy (Lies owns_lies owns_of_lies add_at)
open WalkStoFind (aggP sizeP)

theorem infoP : (Tryz.prog.info? 31).map (fun i => (i.zero, i.size, i.bytes)) = some (some (.agg #[.string ⟨#[]⟩, .string ⟨#[]⟩, .bool false]), 3, 40) := by kernel_rfl

/-- copy, where its run is known -/
theorem wpList_copy_run {P : Program} {w : World} {ops : Array Oper} {rest : List Oper} {o : Oper} {a : Act} {Q : Exit → Act → World → Prop} (hgd : o.guard = none) (d s : Operand) (t t' : TypeId)
    (ho : o.op = .call { callee := .builtin .copy, args := #[d, s], argTypes := #[t, t'] }) {v u : Value} (hd : a.eval d = v) (hs : a.eval s = u) {v' : Value} {w' : World}
    (hr : ∀ ty, (Builtin.copy_ #[t, t'] ty #[v, u]).run P w = .ok v' w') (h : wpList P ops Q rest (a.put o.dst v') w') : wpList P ops Q (o :: rest) a w := by
  refine wpList_plain hgd fun K hK => ?_
  unfold Oper.wp execOp
  simp only [ho, resolve, invoke, builtin, Sem.run_bind, Sem.run_pure, Result.andThen_ok, List.map_toArray, List.map_cons, List.map_nil, hd, hs, hr]
  exact hK _ _ h
theorem step_copy_run {P : Program} {w : World} {ops : Array Oper} {o : Oper} {a : Act} {K : Act → World → Prop} {Q : Exit → Act → World → Prop} {E : Prop} (hg : o.guard = none) (d s : Operand) (t t' : TypeId)
    (ho : o.op = Op.call { callee := Callee.builtin Builtin.copy, args := #[d, s], argTypes := #[t, t'] }) {v u : Value} (hd : a.eval d = v) (hs : a.eval s = u) {v' : Value} {w' : World}
    (hr : ∀ ty, (Builtin.copy_ #[t, t'] ty #[v, u]).run P w = .ok v' w') (hK : K (a.put o.dst v') w') :
    if Region.wanted o (yielded ops a.tmps) = true then Oper.wp P o a w K Q else E := by
  rw [if_pos (by simp [Region.wanted, hg])]
  unfold Oper.wp
  simp [execOp, ho, resolve, invoke, builtin, hd, hs, hr, Result.andThen]
  exact hK

theorem ones (l : List Pair) : ∀ v ∈ cells l, v.oneCell' = true := by
  induction l with
  | nil => intro v hv; cases hv
  | cons p l ih =>
    intro v hv
    simp only [cells, List.mem_cons] at hv
    rcases hv with rfl | rfl | rfl | hv
    · rfl
    · rfl
    · rfl
    · exact ih v hv
theorem cells_drop (l : List Pair) (i : Nat) : cells (l.drop i) = (cells l).drop (i * 3) := by
  induction l generalizing i with
  | nil => simp [cells]
  | cons p l ih =>
    cases i with
    | zero => rfl
    | succ i =>
      rw [show (i + 1) * 3 = i * 3 + 3 by omega]
      exact ih i
theorem cells_take (l : List Pair) (i : Nat) : cells (l.take i) = (cells l).take (i * 3) := by
  induction l generalizing i with
  | nil => simp [cells]
  | cons p l ih =>
    cases i with
    | zero => rfl
    | succ i =>
      rw [show (i + 1) * 3 = i * 3 + 3 by omega]
      simp only [List.take_succ_cons, cells]
      rw [ih i]
theorem cells_put (l : List Pair) (p : Pair) (i : Nat) : cells (l.take i ++ [p] ++ l.drop i) = (cells l).take (i * 3) ++ [.string p.key, .string p.val, .bool p.gone] ++ (cells l).drop (i * 3) := by
  rw [cells_append, cells_append, cells_take, cells_drop]
  rfl

/-- what Insert leaves -/
def Put (l : List Pair) (p : Pair) (i B : Nat) (v : Value) (w : World) (e : Ending) (w' : World) : Prop :=
  ∃ v', e = .returned v' ∧ w'.ownsRow B 31 3 v' (l.length + 1) (cells (l.take i ++ [p] ++ l.drop i)) ∧ Kept (fun k => v.ownBlock = some k) w w' ∧ ∀ k, v'.ownBlock = some k → v.ownBlock = some k ∨ w.heap.size ≤ k

set_option maxHeartbeats 4000000 in
set_option maxRecDepth 100000 in
/-- at the end -/
theorem insert_end (l : List Pair) (p : Pair) (v : Value) (B vb : Nat) (w : World) (hown : w.ownsRow B 31 3 v l.length (cells l)) (hl : l.length ≤ 1000) (hv : Lies w vb 31 [.string p.key, .string p.val, .bool p.gone]) (hB : B ≤ w.heap.size) :
    Calls Tryz.prog 100 #[v, .int .i64 (l.length : Int), .slice (some ⟨vb, 0, none⟩) 1 1] w fun e w' => Put l p l.length B v w e w' := by
  obtain ⟨i0, hi, hz0, hz1, hz2⟩ := info_parts infoP
  have HO : Hid (w.ownsRow B 31 3 v l.length (cells l)) := hown
  have hc : Hid (∀ j u, [.string p.key, .string p.val, .bool p.gone][j]? = some u → w.cell? ((⟨vb, 0, none⟩ : Addr).add j) = some u) := fun j u hj => by rw [add_at, Nat.zero_add, hv.cell]; exact hj
  have HC : Hid (cells (l.take l.length ++ [p] ++ l.drop l.length) = cells l ++ [.string p.key, .string p.val, .bool p.gone]) := by show _ = _; rw [cells_put, ← cells_length, List.take_length, List.drop_length, List.append_nil]
  obtain ⟨a, cap, rfl, hw⟩ := Wides.owns_wide hown
  have hcap := hw.2.1
  have FIN : Hid (∀ v1 wn, wn.ownsRow B 31 3 v1 (l.length + 1) (cells l ++ [.string p.key, .string p.val, .bool p.gone]) → w.grownBy wn (Value.slice a l.length cap).ownBlock → (v1.ownBlock = (Value.slice a l.length cap).ownBlock ∨ v1.ownBlock = some w.heap.size) → Put l p l.length B (.slice a l.length cap) w (.returned v1) wn) := by
    intro v1 wn o1 g1 at1
    refine ⟨v1, rfl, ?_, (Kept.refl _ w).grown g1 fun k hk => .inl hk, fun k hk => ?_⟩
    · rw [HC.out]
      exact o1
    · rcases at1 with h | h
      · exact .inl (by rw [← h]; exact hk)
      · rw [h] at hk
        simp only [Option.some.injEq] at hk
        exact .inr (by omega)
  generalize hN : l.length = N at *
  clear hown hv hw hN HC
  by_cases hcN : cap = N
  · subst hcN
    go_enter Tryz.func100, Tryz.ntmps100
    go_wp2_with (at_builtin; go_must (refine wpList_append_own_at _ rfl (.tmp 23) (.tmp 24) 32 rfl B 31 i0 (.agg #[.string ⟨#[]⟩, .string ⟨#[]⟩, .bool false]) 3 40 Tryz.underlying32 hi hz0 hz1 hz2 rfl (by decide) (.slice a cap cap) cap (cells l) rfl HO.out ⟨vb, 0, none⟩ 1 1 [.string p.key, .string p.val, .bool p.gone] rfl rfl hc.out (fun u hu => by simp at hu; rcases hu with rfl | rfl | rfl <;> rfl) (by unfold maxLen; omega) (by omega) hB ?_); intro v1 wn o1 g1 z1 at1; clear z1)
    go_ret
    exact FIN.out _ _ o1 g1 at1
  · go_enter Tryz.func100, Tryz.ntmps100
    go_wp2_with (at_builtin; go_must (refine wpList_append_own_at _ rfl (.tmp 23) (.tmp 24) 32 rfl B 31 i0 (.agg #[.string ⟨#[]⟩, .string ⟨#[]⟩, .bool false]) 3 40 Tryz.underlying32 hi hz0 hz1 hz2 rfl (by decide) (.slice a N cap) N (cells l) rfl HO.out ⟨vb, 0, none⟩ 1 1 [.string p.key, .string p.val, .bool p.gone] rfl rfl hc.out (fun u hu => by simp at hu; rcases hu with rfl | rfl | rfl <;> rfl) (by unfold maxLen; omega) (by omega) hB ?_); intro v1 wn o1 g1 z1 at1; clear z1)
    go_ret
    exact FIN.out _ _ o1 g1 at1

set_option maxHeartbeats 4000000 in
set_option maxRecDepth 100000 in
/-- among others, where there is room -/
theorem insert_room (l : List Pair) (p : Pair) (B g vb i cap : Nat) (R : List Value) (w : World) (hi : i < l.length) (hl : l.length ≤ 1000) (hg : B ≤ g) (hR : Lies w g 31 R) (hRl : R.length = cap * 3) (hRt : R.take (l.length * 3) = cells l) (hm : cap ≤ maxLen) (hroom : l.length + 1 ≤ cap)
    (hv : Lies w vb 31 [.string p.key, .string p.val, .bool p.gone]) (hne : vb ≠ g) :
    Calls Tryz.prog 100 #[.slice (some ⟨g, 0, none⟩) l.length cap, .int .i64 (i : Int), .slice (some ⟨vb, 0, none⟩) 1 1] w fun e w' => Put l p i B (.slice (some ⟨g, 0, none⟩) l.length cap) w e w' := by
  generalize hN : l.length = N at *
  have hov : ∀ lb cb w, Lies w vb 31 [.string p.key, .string p.val, .bool p.gone] → Lies w g 31 R → (callFunc 108 #[.slice (some ⟨vb, 0, none⟩) 1 1, .slice (some ⟨g, (i + 1) * 3, none⟩) lb cb]).run Tryz.prog w = .ok (.value (.bool false)) w := fun lb cb w hv hR => by
    rw [run_callFunc_extern Tryz.func108 (by kernel_rfl) (by kernel_rfl) (by kernel_rfl) (e := Extern.SlicesOverlaps.overlaps #[32, 32] #[4]) (by kernel_rfl),
      Lib.run_overlaps_apart w 32 4 31 Tryz.underlying32 3 sizeP ⟨vb, 0, none⟩ ⟨g, (i + 1) * 3, none⟩ 1 1 lb cb hne _ _ _ _ hv.shape hR.shape (by omega) (hv.frozen _) (hv.frozen _)]
    rfl
  have hcN : ¬ cap = i := by omega
  have i1 : (i : Int) ≤ (N : Int) := by omega
  have i2 : ¬ (i : Int) = (N : Int) := by omega
  have i3 : ¬ (cap : Int) < (N : Int) + 1 := by omega
  have hc63 : cap ≤ 9223372036854775807 := by unfold maxLen at hm; exact hm
  go_enter Tryz.func100, Tryz.ntmps100
  go_upto_region 14 with fail
  have hov1 := fun lb cb => hov lb cb w hv hR
  have HR : Hid (Lies w g 31 R) := hR
  have HV : Hid (Lies w vb 31 [.string p.key, .string p.val, .bool p.gone]) := hv
  have HRl : Hid (R.length = cap * 3) := hRl
  have HRt : Hid (List.take (N * 3) R = cells l) := hRt
  clear hov hR hv hRl hRt
  go_upto_region 15 with (simp only [hov1])
  clear hov1
  have hcl : (cells l).length = N * 3 := by rw [cells_length, hN]
  have hdl : ((cells l).drop (i * 3)).length = (N - i) * 3 := by rw [List.length_drop, hcl]; omega
  obtain ⟨w1, r1, L1, K1⟩ := WideCopy.run_copy_wide (P := Tryz.prog) w.drew 32 32 31 31 3 g ((i + 1) * 3) ⟨g, i * 3, none⟩ R ((cells l).drop (i * 3)) (N - i) Tryz.underlying32 (by kernel_rfl) HR.out hdl
    (fun j u hj => by
      rw [add_at]
      rw [List.getElem?_drop, ← HRt.out, List.getElem?_take] at hj
      split at hj
      · rw [show w.drew.cell? ⟨g, i * 3 + j, none⟩ = w.cell? ⟨g, i * 3 + j, none⟩ from rfl, HR.out.cell]
        exact hj
      · cases hj)
    (by have h1 := HRl.out; rw [hdl]; omega) (fun u hu => ones l u (List.mem_of_mem_drop hu))
  have hw1 : IntKind.i64.wrap ((i : Int) + 1) = (i : Int) + 1 := by rw [IntKind.wrap_i64]; omega
  have hb1 : (0 : Int) ≤ (i : Int) + 1 := by omega
  have hb2 : (i : Int) + 1 ≤ (N : Int) + 1 := by omega
  have hb3 : (i : Int) ≤ (N : Int) + 1 := by omega
  have htn : ((i : Int) + 1).toNat = i + 1 := by omega
  have hb4 : ¬ cap = i + 1 := by omega
  have hmin : Nat.min (N + 1 - i) (N - i) = N - i := Nat.min_eq_right (by omega)
  have r1' := fun ty => r1 ty (N - i) (cap - (i + 1)) (N + 1 - i) (cap - i) hmin
  clear r1
  go_region_law (refine step_copy_run rfl (.tmp 73) (.tmp 76) 32 32 rfl (v := .slice (some ⟨g, (i + 1) * 3, none⟩) (N - i) (cap - (i + 1))) (u := .slice (some ⟨g, i * 3, none⟩) (N + 1 - i) (cap - i)) (by simp [Act.eval, Act.put]) (by simp [Act.eval, Act.put]) r1' ?_)
  go_upto_region 16 with fail
  have K1w : Kept (fun k => k = g) w w1 := (Kept.refl _ w).drew.trans K1 fun _ h => .inl h
  obtain ⟨e1, e2, e3⟩ := WideCopy.shift_list R (cells l) [.string p.key, .string p.val, .bool p.gone] (i * 3) (N * 3) 3 HRt.out (by have := HRl.out; omega) (by omega) rfl
  rw [show (i + 1) * 3 = i * 3 + 3 by omega] at L1
  generalize List.take (i * 3 + 3) R ++ List.drop (i * 3) (cells l) ++ List.drop (i * 3 + 3 + (List.drop (i * 3) (cells l)).length) R = R1 at L1 e1 e2 e3
  have V1 := HV.out.kept K1w hne
  obtain ⟨w2, r2, L2, K2⟩ := WideCopy.run_copy_wide (P := Tryz.prog) w1 32 32 31 31 3 g (i * 3) ⟨vb, 0, none⟩ R1 [.string p.key, .string p.val, .bool p.gone] 1 Tryz.underlying32 (by kernel_rfl) L1 rfl
    (fun j u hj => by rw [add_at, Nat.zero_add, V1.cell]; exact hj) (by have := HRl.out; rw [e3]; simp only [List.length_cons, List.length_nil]; omega) (fun u hu => by simp at hu; rcases hu with rfl | rfl | rfl <;> rfl)
  have K2w : Kept (fun k => k = g) w w2 := K1w.trans K2 fun _ h => .inl h
  have FIN : Hid (Put l p i B (.slice (some ⟨g, 0, none⟩) N cap) w (.returned (.slice (some ⟨g, 0, none⟩) (N + 1) cap)) w2) := by
    refine ⟨_, rfl, ?_, K2w.mono fun k hk => (by rw [hk]; rfl), fun k hk => .inl hk⟩
    rw [hN, cells_put]
    refine owns_of_lies hg L2 hroom hm (by rw [e2, HRl.out]) ?_
    rw [← e1]
    rw [show (N + 1) * 3 = N * 3 + 3 by omega]
  have r2' := fun ty => r2 ty (N + 1 - i) (cap - i) 1 1 (Nat.min_eq_left (by omega))
  clear r2 L1 L2 e1 e2 e3 V1 K1w K2w K1 K2 HR HV HRl HRt hcl hdl r1'
  go_wp2_with (at_builtin; go_must (refine wpList_copy_run rfl (.tmp 80) (.tmp 81) 32 32 rfl rfl rfl r2' ?_))
  go_ret
  exact FIN.out

set_option maxHeartbeats 4000000 in
set_option maxRecDepth 100000 in
/-- among others, where there is none -/
theorem insert_grow (l : List Pair) (p : Pair) (B g vb i cap : Nat) (w : World) (hi : i < l.length) (hl : l.length ≤ 1000) (hown : w.ownsRow B 31 3 (.slice (some ⟨g, 0, none⟩) l.length cap) l.length (cells l)) (hroom : ¬ l.length + 1 ≤ cap)
    (hv : Lies w vb 31 [.string p.key, .string p.val, .bool p.gone]) (hB : B ≤ w.heap.size) :
    Calls Tryz.prog 100 #[.slice (some ⟨g, 0, none⟩) l.length cap, .int .i64 (i : Int), .slice (some ⟨vb, 0, none⟩) 1 1] w fun e w' => Put l p i B (.slice (some ⟨g, 0, none⟩) l.length cap) w e w' := by
  obtain ⟨i0, hi0, hz0, hz1, hz2⟩ := info_parts infoP
  have hgw : g < w.heap.size := (hown.lt g rfl).2
  have hnc : l.length ≤ cap := (Wides.Wide.of_owns hown).2.2.1
  have hsrc : Hid (∀ j u, (cells l)[j]? = some u → w.cell? ⟨g, j, none⟩ = some u) := by
    intro j u hj
    have hjl := (List.getElem?_eq_some_iff.1 hj).1
    rw [cells_length] at hjl
    rw [hown.cellAt j hjl]
    exact hj
  clear hown
  generalize hN : l.length = N at *
  have hcl : Hid ((cells l).length = N * 3) := by show _ = _; rw [cells_length, hN]
  have hcN : cap = N := by omega
  subst hcN
  have hci : ¬ cap = i := by omega
  have i1 : (i : Int) ≤ (cap : Int) := by omega
  have i2 : ¬ (i : Int) = (cap : Int) := by omega
  have i3 : (cap : Int) < (cap : Int) + 1 := by omega
  have HV : Hid (Lies w vb 31 [.string p.key, .string p.val, .bool p.gone]) := hv
  have hk : (cap : Int) + 1 - (i : Int) = ((cap + 1 - i : Nat) : Int) := by omega
  clear hv hroom
  go_enter Tryz.func100, Tryz.ntmps100
  go_upto_region 9 with fail
  obtain ⟨w1, c1, R, r1, L1, g1, g2, g3, g4, b1⟩ := WideCopy.run_zeros_wide (P := Tryz.prog) w 32 3 32 31 i0 (.agg #[.string ⟨#[]⟩, .string ⟨#[]⟩, .bool false]) .i64 .i64 3 Tryz.underlying32 Tryz.underlying3 hi0 hz0 hz1 (by rw [hz2]; decide) rfl (by decide) g i cap ((cells l).take (i * 3)) (by rw [List.length_take, hcl.out]; omega)
    (fun j u hj => by
      rw [List.getElem?_take] at hj
      split at hj
      · exact hsrc.out j u hj
      · cases hj) (cap + 1 - i) (by omega) (by omega) (by omega)
  rw [← hk, show i + (cap + 1 - i) = cap + 1 by omega] at r1
  rw [show i + (cap + 1 - i) = cap + 1 by omega] at g1
  clear hk
  have hvw : vb < w.heap.size := HV.out.lt
  have V1 : Lies w1 vb 31 [.string p.key, .string p.val, .bool p.gone] := HV.out.kept (Kept.of_below (fun _ => False) b1) fun h => h
  obtain ⟨e1, e2, e3⟩ := WideCopy.grow_list R (cells l) [.string p.key, .string p.val, .bool p.gone] (i * 3) (cap * 3) 3 (c1 * 3) hcl.out (by omega) rfl g3 (by omega) g4
  obtain ⟨w2, r2, L2, K2⟩ := WideCopy.run_copy_wide (P := Tryz.prog) w1 32 32 31 31 3 w.heap.size (i * 3) ⟨vb, 0, none⟩ R [.string p.key, .string p.val, .bool p.gone] 1 Tryz.underlying32 (by kernel_rfl) L1 rfl
    (fun j u hj => by rw [add_at, Nat.zero_add, V1.cell]; exact hj) (by rw [g3]; simp only [List.length_cons, List.length_nil]; omega) (fun u hu => by simp at hu; rcases hu with rfl | rfl | rfl <;> rfl)
  generalize List.take (i * 3) R ++ [Value.string p.key, Value.string p.val, Value.bool p.gone] ++ List.drop (i * 3 + [Value.string p.key, Value.string p.val, Value.bool p.gone].length) R = R1 at L2 e1 e2 e3
  have B2 : Below w.heap.size w w2 := b1.trans (K2.below (fun k hk => by omega) b1.size)
  have hdl : ((cells l).drop (i * 3)).length = (cap - i) * 3 := by rw [List.length_drop, hcl.out]; omega
  obtain ⟨w3, r3, L3, K3⟩ := WideCopy.run_copy_wide (P := Tryz.prog) w2.drew 32 32 31 31 3 w.heap.size (i * 3 + 3) ⟨g, i * 3, none⟩ R1 ((cells l).drop (i * 3)) (cap - i) Tryz.underlying32 (by kernel_rfl) L2 hdl
    (fun j u hj => by
      rw [add_at]
      rw [List.getElem?_drop] at hj
      exact Lists.cell_below B2.drew (hsrc.out _ _ hj))
    (by rw [hdl, e3]; omega) (fun u hu => ones l u (List.mem_of_mem_drop hu))
  have B3 : Below w.heap.size w w3 := B2.drew.trans (K3.below (fun k hk => by omega) B2.size)
  have FIN : Hid (Put l p i B (.slice (some ⟨g, 0, none⟩) cap cap) w (.returned (.slice (some ⟨w.heap.size, 0, none⟩) (cap + 1) c1)) w3) := by
    refine ⟨_, rfl, ?_, Kept.of_below _ B3, fun k hk => .inr ?_⟩
    · rw [hN, cells_put]
      refine owns_of_lies hB L3 g1 g2 (by rw [e2]) ?_
      rw [← e1]
      rw [show (cap + 1) * 3 = cap * 3 + 3 by omega]
    · simp only [Value.ownBlock, Option.some.injEq] at hk
      omega
  rw [show i * 3 + 3 = (i + 1) * 3 by omega] at r3
  have r2' := fun ty => r2 ty (cap + 1 - i) (c1 - i) 1 1 (Nat.min_eq_left (by omega))
  have r3' := fun ty => r3 ty (cap - i) (c1 - (i + 1)) (cap - i) (cap - i) (Nat.min_eq_left (by omega))
  have hw1 : IntKind.i64.wrap ((i : Int) + 1) = (i : Int) + 1 := by rw [IntKind.wrap_i64]; omega
  have hb1 : (0 : Int) ≤ (i : Int) + 1 := by omega
  have hb2 : (i : Int) + 1 ≤ (cap : Int) + 1 := by omega
  have hb3 : (i : Int) ≤ (cap : Int) + 1 := by omega
  have htn : ((i : Int) + 1).toNat = i + 1 := by omega
  have hb4 : ¬ c1 = i + 1 := by omega
  have hb5 : ¬ c1 = i := by omega
  have hb6 : c1 ≤ 9223372036854775807 := by unfold maxLen at g2; exact g2
  clear r2 r3 L1 L2 L3 K2 K3 B2 B3 e1 e2 e3 V1 b1 g2 g3 g4 HV hcl hdl hsrc hnc hN
  go_upto_region 11 with (first | (at_builtin; go_must (refine Lib.wpList_append_run _ rfl _ _ _ _ rfl _ _ rfl rfl _ _ r1 ?_)) | (at_builtin; go_must (refine wpList_copy_run rfl (.tmp 43) (.tmp 44) 32 32 rfl rfl rfl r2' ?_)))
  go_region_law (refine step_copy_run rfl (.tmp 50) (.tmp 53) 32 32 rfl (v := .slice (some ⟨w.heap.size, (i + 1) * 3, none⟩) (cap - i) (c1 - (i + 1))) (u := .slice (some ⟨g, i * 3, none⟩) (cap - i) (cap - i)) (by simp [Act.eval, Act.put]) (by simp [Act.eval, Act.put]) r3' ?_)
  go_wp2_with fail
  go_ret
  exact FIN.out

/-- one pair put among others, or behind them -/
theorem insert_any (l : List Pair) (p : Pair) (v : Value) (B vb i : Nat) (w : World) (hown : w.ownsRow B 31 3 v l.length (cells l)) (hi : i ≤ l.length) (hl : l.length ≤ 1000) (hv : Lies w vb 31 [.string p.key, .string p.val, .bool p.gone]) (hne : v.ownBlock ≠ some vb) (hB : B ≤ w.heap.size) :
    Calls Tryz.prog 100 #[v, .int .i64 (i : Int), .slice (some ⟨vb, 0, none⟩) 1 1] w fun e w' => Put l p i B v w e w' := by
  by_cases he : i = l.length
  · subst he
    exact insert_end l p v B vb w hown hl hv hB
  · obtain ⟨g, cap, R, rfl, hg, hR, hc, hm, hRl, hRt⟩ := owns_lies hown (by omega)
    by_cases hroom : l.length + 1 ≤ cap
    · exact insert_room l p B g vb i cap R w (by omega) hl hg hR hRl hRt hm hroom hv fun e => hne (by rw [e]; rfl)
    · exact insert_grow l p B g vb i cap w (by omega) hl hown hroom hv hB

end Go.Proofs.YtofaegcljcpceagGreatDoor.WalkStoIns
