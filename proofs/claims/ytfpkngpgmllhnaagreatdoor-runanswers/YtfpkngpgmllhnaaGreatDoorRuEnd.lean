/-
  strings.Builder as an object of the call's own, among others: written, and told.
-/
import Derived.Test.YtfpkngpgmllhnaaGreatDoorMixRun
import Derived.Test.YtfpkngpgmllhnaaGreatDoorListRows
import Derived.Lib.Builder
import Derived.Lib.UnsafeStr
import Derived.BigRegion
import Derived.RangeFuncOwn
import Derived.Lib.AppendStr
import Derived.Deep.DeepMust
import Derived.Lib.AppendZeros
import Derived.Test.YtfpkngpgmllhnaaGreatDoorRuTwo
import Derived.Test.YtfpkngpgmllhnaaGreatDoorRuPlain
import Derived.RangeFuncNested
import Derived.RangeFuncBound
import Derived.RangeFuncCalls
import Derived.RangeFuncLeaves
import Derived.Shelf.Abstract
import Derived.WalkKit
import Derived.OwnWalkIn
import Derived.TacticsInMore
import Derived.LoopNIn
import Derived.LoopIn
set_option maxRecDepth 100000
namespace Go.Proofs.YtfpkngpgmllhnaaGreatDoor.WalkRuOut
open Go.RowKit
open Keeps (Kept owns_kept)
open WalkMix (cells)
open Nums (str)
open Lists (bt)

/-- block b holds it; its blocks are F; the bytes are s -/
structure Bd (w : World) (B b : Nat) (F : Nat → Prop) (s : List UInt8) : Prop where
  core : ∃ p v, w.heap[b]? = some (.cells #[p, v] 43 (0, 0)) ∧ (p = .pointer none ∨ p = .pointer (some ⟨b, 0, none⟩)) ∧ w.ownsRow B 5 1 v s.length (cells s) ∧ v.ownBlock ≠ some b ∧ (s = [] → v = .slice none 0 0) ∧ ∀ k, F k ↔ k = b ∨ v.ownBlock = some k
  above : B ≤ b
theorem Bd.foot {w : World} {B b : Nat} {F : Nat → Prop} {s : List UInt8} (h : Bd w B b F s) : ∀ k, F k → B ≤ k ∧ k < w.heap.size := by
  obtain ⟨p, v, h1, _, h3, _, _, h5⟩ := h.core
  intro k hk
  rcases (h5 k).1 hk with rfl | hk
  · exact ⟨h.above, (Array.getElem?_eq_some_iff.1 h1).1⟩
  · exact h3.lt k hk
theorem Bd.kept {S : Nat → Prop} {w w' : World} {B b : Nat} {F : Nat → Prop} {s : List UInt8} (h : Bd w B b F s) (q : Kept S w w') (hS : ∀ i, F i → ¬ S i) : Bd w' B b F s := by
  obtain ⟨p, v, h1, h2, h3, h4, hn, h5⟩ := h.core
  exact ⟨⟨p, v, (q.block b (Array.getElem?_eq_some_iff.1 h1).1 (hS b ((h5 b).2 (.inl rfl)))).trans h1, h2, owns_kept h3 q fun i hi => hS i ((h5 i).2 (.inr hi)), h4, hn, h5⟩, h.above⟩
theorem bd_new (w : World) (B : Nat) (hB : B ≤ w.heap.size) : Bd (w.alloc (.cells #[.pointer none, .slice none 0 0] 43)) B w.heap.size (fun k => k = w.heap.size) [] :=
  ⟨⟨_, _, heap_alloc_new w _, .inl rfl, World.ownsRow_nil _ _ _ _, by simp [Value.ownBlock], fun _ => rfl, fun k => by simp [Value.ownBlock]⟩, hB⟩

theorem sizeB : (Tryz.prog.info? 43).map (·.size) = some 2 := by kernel_rfl
theorem liesB : liesAt Tryz.prog Tryz.prog.depth 43 (2 / Tryz.prog.cellsOf 43) 0 43 1 = true := by kernel_rfl

set_option maxHeartbeats 1000000 in
theorem check_used (b : Nat) (w : World) (h0 : w.cell? ⟨b, 0, none⟩ = some (.pointer (some ⟨b, 0, none⟩))) :
    Calls Tryz.prog 30 #[.pointer (some ⟨b, 0, none⟩)] w fun e w' => e = .returned (.tuple #[]) ∧ w' = w := by
  obtain ⟨j, hj, _⟩ := Option.map_eq_some_iff.1 sizeB
  go_enter Tryz.func30, Tryz.ntmps30
  go_wp2
  rw [Lib.run_neq_ptr_same w _ Tryz.underlying40 hj]
  go_wp2
  go_end0
  exact ⟨rfl, rfl⟩
set_option maxHeartbeats 1000000 in
theorem check_fresh (b : Nat) (w : World) (h0 : w.cell? ⟨b, 0, none⟩ = some (.pointer none)) (hsh : w.shape? b = some (43, 2)) (hfz : w.frozen? ⟨b, 0, none⟩ = false) :
    Calls Tryz.prog 30 #[.pointer (some ⟨b, 0, none⟩)] w fun e w' => e = .returned (.tuple #[]) ∧ w' = w.setCell ⟨b, 0, none⟩ (.pointer (some ⟨b, 0, none⟩)) := by
  obtain ⟨j, hj, hjs⟩ := Option.map_eq_some_iff.1 sizeB
  have e1 := Lib.run_to_unsafe (P := Tryz.prog) w ⟨b, 0, none⟩ Tryz.underlying40 Tryz.underlying106 hj (by rw [hjs]; decide) hsh (Nat.zero_lt_succ 1)
  have e2 := Lib.run_from_unsafe (P := Tryz.prog) w ⟨b, 0, none⟩ Tryz.underlying106 Tryz.underlying40 hj hsh liesB
  go_enter Tryz.func30, Tryz.ntmps30
  go_wp2
  rw [run_callFunc_extern Tryz.func51 (by kernel_rfl) (by kernel_rfl) (by kernel_rfl) (e := Extern.AbiNoEscape.same) (by kernel_rfl)]
  rw [Lib.run_noEscape]
  simp only [Result.andThen]
  rw [Oper.upon_value]
  go_wp2
  go_end0
  exact ⟨rfl, rfl⟩

theorem strCells_is (s : ByteArray) : Lib.strCells s = cells s.data.toList := rfl
theorem info5 : (Tryz.prog.info? 5).map (fun i => (i.zero, i.size, i.bytes)) = some (some (.int .u8 0), 1, 1) := by kernel_rfl
/-- a text put behind bytes of the call's own: where they lie then -/
theorem append_text (w : World) (B : Nat) (v : Value) (l : List UInt8) (hown : w.ownsRow B 5 1 v l.length (cells l)) (s : ByteArray) (hl : l.length + s.size ≤ 140737488355328) (hB : B ≤ w.heap.size) :
    ∃ v' w', (∀ ty, (Builtin.append_ #[41, 9] ty #[v, .string s]).run Tryz.prog w = .ok v' w') ∧ w'.ownsRow B 5 1 v' (l ++ s.data.toList).length (cells (l ++ s.data.toList)) ∧ Kept (fun k => v.ownBlock = some k) w w' ∧ (v' = .slice none 0 0 ↔ v = .slice none 0 0 ∧ s.size = 0) ∧ ∀ k, v'.ownBlock = some k → v.ownBlock = some k ∨ k = w.heap.size := by
  obtain ⟨i0, hi, hz0, hz1, hz2⟩ := info_parts info5
  have hs : s.data.toList.length = s.size := Array.length_toList
  obtain ⟨v', w', hr, o', g', hnil⟩ := Lib.run_append_own_string (P := Tryz.prog) w B 41 9 41 5 i0 Tryz.underlying41 Tryz.underlying9 hi hz0 hz1 hz2 v l.length (cells l) hown s (by unfold maxLen; omega) hl hB
  have hty : ∀ ty, (Builtin.append_ #[41, 9] ty #[v, .string s]).run Tryz.prog w = .ok v' w' := fun ty => hr
  refine ⟨v', w', hty, ?_, (Kept.refl _ w).grown g' fun k hk => .inl hk, hnil, fun k hk => ?_⟩
  · rw [WalkMix.cells_append, List.length_append, hs]
    exact o'
  · have hxl : (cells l).length = l.length := by simp [cells]
    rcases hown.2 with ⟨rfl, h0⟩ | ⟨g, cap, cur, rfl, hbg, hg, hnc, hcm, hcs, htake⟩
    · by_cases hm : s.size = 0
      · have hf := Lib.run_firstCells_string (P := Tryz.prog) w 1 s
        rw [hm] at hf
        have : (Builtin.append_ #[41, 9] 41 #[.slice none 0 0, .string s]).run Tryz.prog w = .ok (.slice none 0 0) w := by
          simp [Builtin.append_, run_underlying Tryz.underlying41, run_underlying Tryz.underlying9, sizeOf, typeInfo, hi, hz1, Builtin.lenOf, hm, hf]
        rw [hr] at this
        injection this with e1 e2
        rw [e1] at hk
        simp [Value.ownBlock] at hk
      · have hn := run_append_nil_string (P := Tryz.prog) w 41 9 41 5 i0 (.int .u8 0) Tryz.underlying41 Tryz.underlying9 hi hz0 s (by omega) (by omega) (by rw [hz2]; omega)
        rw [hr] at hn
        injection hn with e1 e2
        rw [e1] at hk
        simp only [Value.ownBlock, Option.some.injEq] at hk
        exact .inr hk.symm
    · by_cases hroom : l.length + s.size ≤ cap
      · have hcs' : cur.size = cap := by simpa using hcs
        have hn := Lib.run_append_room_string (P := Tryz.prog) w 41 9 41 5 i0 Tryz.underlying41 Tryz.underlying9 hi hz1 g l.length cap cur hg s hroom (by omega)
        rw [hr] at hn
        injection hn with e1 e2
        rw [e1] at hk
        exact .inl hk
      · have holds : ∀ j u, (cells l)[j]? = some u → w.cell? ((⟨g, 0, none⟩ : Addr).add j) = some u := hown.cells (g := g) rfl
        have hn := Lib.run_append_grow_string (P := Tryz.prog) w 41 9 41 5 i0 (.int .u8 0) Tryz.underlying41 Tryz.underlying9 hi hz0 ⟨g, 0, none⟩ l.length cap (cells l) (by rw [hz1, Nat.mul_one]; exact hxl) holds s (by omega) (by omega) (by rw [hz2]; exact growslice_fits (by omega) (by omega))
        rw [hr] at hn
        injection hn with e1 e2
        rw [e1] at hk
        simp only [Value.ownBlock, Option.some.injEq] at hk
        exact .inr hk.symm

set_option maxHeartbeats 2000000 in
theorem write_any {w : World} {B b : Nat} {F : Nat → Prop} {l : List UInt8} (h : Bd w B b F l) (s : ByteArray) (hl : l.length + s.size ≤ 140737488355328) (hB : B ≤ w.heap.size) :
    Calls Tryz.prog 12 #[.pointer (some ⟨b, 0, none⟩), .string s] w fun e w' => e = .returned (.tuple #[.int .i64 s.size, .nilIface]) ∧ (∃ F', Bd w' B b F' (l ++ s.data.toList) ∧ ∀ k, F' k → F k ∨ w.heap.size ≤ k) ∧ Kept F w w' := by
  obtain ⟨p, v, h1, h2, h3, h4, hn, h5⟩ := h.core
  have hab := h.above
  have hbl : b < w.heap.size := (Array.getElem?_eq_some_iff.1 h1).1
  have HC : Hid (Calls Tryz.prog 30 #[.pointer (some ⟨b, 0, none⟩)] w fun e w1 => e = .returned (.tuple #[]) ∧ w1.heap[b]? = some (.cells #[.pointer (some ⟨b, 0, none⟩), v] 43 (0, 0)) ∧ Hid (Kept (fun k => k = b) w w1) ∧ w1.heap.size = w.heap.size) := by
    rcases h2 with rfl | rfl
    · refine (check_fresh b w (by rw [Lib.cell_of_heap h1]; rfl) (by simp [World.shape?, h1]) (Lib.frozen_of_heap h1 0)).mono ?_
      rintro e w1 ⟨rfl, rfl⟩
      exact ⟨rfl, by simp [World.setCell, Array.getElem?_modify, h1], (Kept.refl (fun k => k = b) w).setCell (.inl rfl) _, by simp [World.setCell]⟩
    · refine (check_used b w (by rw [Lib.cell_of_heap h1]; rfl)).mono ?_
      rintro e w1 ⟨rfl, rfl⟩
      exact ⟨rfl, h1, Kept.refl _ _, rfl⟩
  have HIn : Hid (w.ownsRow B 5 1 v l.length (cells l) ∧ v.ownBlock ≠ some b ∧ ∀ k, F k ↔ k = b ∨ v.ownBlock = some k) := ⟨h3, h4, h5⟩
  have HNl : Hid (l = [] → v = .slice none 0 0) := hn
  clear h h1 h2 h3 h4 h5 hn
  go_enter Tryz.func12, Tryz.ntmps12
  go_wp2_with fail
  refine HC.out.mono ?_
  rintro e w1 ⟨rfl, hb1, k1, hsz⟩
  have c1 : w1.cell? ⟨b, 1, none⟩ = some v := by rw [Lib.cell_of_heap hb1]; rfl
  have f1 : w1.frozen? ⟨b, 1, none⟩ = false := Lib.frozen_of_heap hb1 1
  obtain ⟨v', w2, hr, o2, k2, n2, a2⟩ := append_text w1 B v l (owns_kept HIn.out.1 k1.out fun i hi q => HIn.out.2.1 (by rw [hi, q])) s hl (by omega)
  have hb2 : w2.heap[b]? = some (.cells #[.pointer (some ⟨b, 0, none⟩), v] 43 (0, 0)) := (k2.block b (by omega) HIn.out.2.1).trans hb1
  have d1 : w2.cell? ⟨b, 1, none⟩ = some v := by rw [Lib.cell_of_heap hb2]; rfl
  have g1 : w2.frozen? ⟨b, 1, none⟩ = false := Lib.frozen_of_heap hb2 1
  obtain ⟨N, hN⟩ : ∃ N, N = (l ++ s.data.toList).length := ⟨_, rfl⟩
  rw [← hN] at o2
  obtain ⟨ao, cap, rfl⟩ : ∃ ao cap, v' = .slice ao N cap := by
    rcases o2.2 with ⟨hv, h0⟩ | ⟨g, cap, cur, hv, _⟩
    · exact ⟨none, 0, by rw [hv, h0]⟩
    · exact ⟨_, _, hv⟩
  have hnn : l ++ s.data.toList = [] → Value.slice ao N cap = .slice none 0 0 := fun q => n2.2 ⟨HNl.out (List.append_eq_nil_iff.1 q).1, by
    have := congrArg List.length (List.append_eq_nil_iff.1 q).2
    rw [show s.data.toList.length = s.size from Array.length_toList] at this
    exact this⟩
  have HFin : Hid ((∃ F', Bd (w2.setCell ⟨b, 1, none⟩ (.slice ao N cap)) B b F' (l ++ s.data.toList) ∧ ∀ k, F' k → F k ∨ w.heap.size ≤ k) ∧ Kept F w (w2.setCell ⟨b, 1, none⟩ (.slice ao N cap))) := by
    obtain ⟨i1, i2, i3⟩ := HIn.out
    have k3 : Kept (fun k => k = b) w2 (w2.setCell ⟨b, 1, none⟩ (.slice ao N cap)) := (Kept.refl (fun k => k = b) w2).setCell (.inl rfl) _
    have hne : (Value.slice ao N cap).ownBlock ≠ some b := fun q => by
      rcases a2 b q with z | z
      · exact i2 z
      · omega
    refine ⟨⟨fun k => k = b ∨ (Value.slice ao N cap).ownBlock = some k, ⟨⟨_, _, ?_, .inr rfl, ?_, hne, hnn, fun _ => Iff.rfl⟩, hab⟩, ?_⟩, ?_⟩
    · simp [World.setCell, Array.getElem?_modify, hb2]
    · rw [← hN]
      exact owns_kept o2 k3 fun i hi q => hne (by rw [hi, q])
    · rintro k (hk | hk)
      · exact .inl ((i3 k).2 (.inl hk))
      · rcases a2 k hk with z | z
        · exact .inl ((i3 k).2 (.inr z))
        · exact .inr (by omega)
    · exact ((k1.out.mono fun i hi => (i3 i).2 (.inl hi)).trans k2 fun i hi => .inl ((i3 i).2 (.inr hi))).setCell (p := ⟨b, 1, none⟩) (.inl ((i3 b).2 (.inl rfl))) _
  clear o2 k2 a2 hb2 hN k1 hb1 HIn HC hsz hnn n2 HNl
  go_wp2_with (at_builtin; go_must (refine Lib.wpList_append_run _ rfl _ _ _ _ rfl _ _ rfl rfl _ _ (hr _) ?_))
  go_ret2
  exact ⟨rfl, HFin.out.1, HFin.out.2⟩

/-- what it holds, told -/
theorem freeze_other {w : World} {p : Addr} {n k : Nat} {o : Obj} (h : w.heap[k]? = some o) (ho : o.isCells = false) : (w.freeze p n).heap[k]? = some o := by
  unfold World.freeze
  split
  · exact h
  · simp only [Array.getElem?_modify]
    split
    · rename_i hpk
      rw [h]
      cases o <;> first | rfl | cases ho
    · exact h

set_option maxHeartbeats 2000000 in
theorem tell_any {w : World} {B b : Nat} {F : Nat → Prop} {l : List UInt8} (h : Bd w B b F l) (_ : B ≤ w.heap.size) :
    Calls Tryz.prog 15 #[.pointer (some ⟨b, 0, none⟩)] w fun e w' => e = .returned (.string (str l)) ∧ Below B w w' ∧ ∀ (k : Nat) (o : Obj), w.heap[k]? = some o → o.isCells = false → w'.heap[k]? = some o := by
  obtain ⟨p, v, h1, h2, h3, h4, hn, h5⟩ := h.core
  by_cases h0 : l = []
  · obtain rfl := hn h0
    subst h0
    have hUS := fun W : World => Lib.run_unsafeString_none (P := Tryz.prog) W 84 3 9 none
    have c1 : w.drew.cell? ⟨b, 1, none⟩ = some (.slice none 0 0) := by
      have : w.drew.heap[b]? = some (.cells #[p, .slice none 0 0] 43 (0, 0)) := h1
      rw [Lib.cell_of_heap this]; rfl
    have hSD : (Builtin.unsafeSliceData_ #[41] 84 #[.slice none 0 0]).run Tryz.prog w.drew = .ok (.pointer none) w.drew := rfl
    clear h h1 h2 h3 h4 hn h5
    go_enter Tryz.func15, Tryz.ntmps15
    go_wp2
    go_region
    all_goals (go_wp2; go_ret; exact ⟨rfl, Below.drew (Below.refl B w), fun k o hk _ => hk⟩)
  · have hl0 : l.length ≠ 0 := by simpa using h0
    obtain ⟨g, cap, cur, rfl, hbg, hg, hnc, hcm, hcs, htake⟩ : ∃ g cap cur, v = .slice (some ⟨g, 0, none⟩) l.length cap ∧ B ≤ g ∧ w.heap[g]? = some (.cells cur 5 (0, 0)) ∧ l.length ≤ cap ∧ cap ≤ maxLen ∧ cur.size = cap * 1 ∧ cur.toList.take (l.length * 1) = cells l := by
      rcases h3.2 with ⟨_, hz⟩ | ⟨g, cap, cur, hv, r⟩
      · exact absurd hz hl0
      · exact ⟨g, cap, cur, hv, r⟩
    have c1 : w.drew.cell? ⟨b, 1, none⟩ = some (.slice (some ⟨g, 0, none⟩) l.length cap) := by
      have : w.drew.heap[b]? = some (.cells #[p, .slice (some ⟨g, 0, none⟩) l.length cap] 43 (0, 0)) := h1
      rw [Lib.cell_of_heap this]; rfl
    have hSD : (Builtin.unsafeSliceData_ #[41] 84 #[.slice (some ⟨g, 0, none⟩) l.length cap]).run Tryz.prog w.drew = .ok (.pointer (some ⟨g, 0, none⟩)) w.drew :=
      Lib.run_unsafeSliceData_row _ _ _ _ _ _ (by omega)
    have hUS : (Builtin.unsafeString_ #[84, 3] 9 #[.pointer (some ⟨g, 0, none⟩), .int .i64 l.length]).run Tryz.prog w.drew = .ok (.string ⟨l.toArray⟩) (w.drew.freeze ⟨g, 0, none⟩ l.length) := by
      refine Lib.run_unsafeString_row w.drew 84 3 9 5 Tryz.underlying84 (by kernel_rfl) g cur.size (by have hg' : w.drew.heap[g]? = some (.cells cur 5 (0, 0)) := hg; simp [World.shape?, hg']) l h0 (by omega) (by unfold maxLen at hcm; omega) ?_
      intro j x hx
      exact h3.cells (g := g) rfl j (.int .u8 x.toNat) (by simp [cells, hx])
    have HFr : Hid (∀ (k : Nat) (o : Obj), w.heap[k]? = some o → o.isCells = false → (w.drew.freeze ⟨g, 0, none⟩ l.length).heap[k]? = some o) := fun k o hk ho => freeze_other hk ho
    have HBl : Hid (Below B w (w.drew.freeze ⟨g, 0, none⟩ l.length)) := Lib.below_freeze (Below.drew (Below.refl B w)) (p := ⟨g, 0, none⟩) hbg _
    have HSt : Hid (str l = ⟨l.toArray⟩) := rfl
    rw [HSt.out]
    generalize (⟨l.toArray⟩ : ByteArray) = S at hUS ⊢
    clear h h1 h2 h3 h4 hn h5 h0 hg htake hcs HSt
    go_enter Tryz.func15, Tryz.ntmps15
    go_wp2
    go_region
    all_goals (go_wp2; go_ret; exact ⟨rfl, HBl.out, HFr.out⟩)

end Go.Proofs.YtfpkngpgmllhnaaGreatDoor.WalkRuOut

/-
  package run, whole: what Run returns of any text.
-/
set_option maxRecDepth 100000
namespace Go.Proofs.YtfpkngpgmllhnaaGreatDoor.WalkRuRun
open Go.RowKit Go.Shelf
open Keeps (Kept owns_kept)
open Lists (bt)
open Runs (Desk Fine line runL runD)
open RunObj (Se)
open WalkRuAs (Out)
open WalkRuAdd (RunLeft)
open WalkRuOut (Bd)
open WalkHdLib (Tabs)
open WalkSeNum (Syn)
open WalkTold (Laid)
open Nums (str)
attribute [local go_sem] Oper.semAt_some

/-- a line is short -/
abbrev Row := { x : ByteArray // x.size ≤ 3000 }
def encs (x : Row) : Array Value := #[.string x.1]
def lists (xs : List Row) : List (List UInt8) := xs.map fun x => x.1.data.toList

/-! the lines of a text, one by one -/
/-- those that are left -/
theorem lines_cut {s a b : List UInt8} (h : s = a ++ 10 :: b) (ha : (10 : UInt8) ∉ a) : Runs.lines s = a :: Runs.lines b := by
  rw [h, Runs.lines_append, Decimals.words_none ha]
  rfl
theorem lines_last {s : List UInt8} (h : s ≠ []) (hn : (10 : UInt8) ∉ s) : Runs.lines s = [s] := by
  unfold Runs.lines Runs.trim
  rw [Decimals.words_none hn]
  simp [h]

theorem cut_or : ∀ s : List UInt8, (10 : UInt8) ∉ s ∨ ∃ a b, s = a ++ 10 :: b ∧ (10 : UInt8) ∉ a
  | [] => .inl (by simp)
  | x :: s => by
    by_cases hx : x = 10
    · subst hx
      exact .inr ⟨[], s, rfl, by simp⟩
    · rcases cut_or s with h | ⟨a, b, rfl, h⟩
      · exact .inl fun q => by rcases List.mem_cons.1 q with q | q; exact hx q.symm; exact h q
      · exact .inr ⟨x :: a, b, rfl, fun q => by rcases List.mem_cons.1 q with q | q; exact hx q.symm; exact h q⟩
/-- how much is left -/
def left : Value → Nat
  | .string s => s.size
  | _ => 0
theorem abides {β : Type} {B : Nat} {J : β → World → Prop} (h : AbidesFrom B J) {s : β} {W W' : World} (hs : J s W) (b : Below W.heap.size W W') : J s W' :=
  h s W W' none hs ⟨b.os, b.tape, b.output, b.size, fun k hk _ => b.block k hk⟩ (fun r e => by cases e)

set_option maxHeartbeats 4000000 in
theorem lines_stops (n : Nat) (hn : 3 ≤ n) (Bn : Nat) (t : ByteArray) (w : World) (ht : t.size ≤ 3000) (hb : w.cell? ⟨Bn, 0, none⟩ = some (.string t)) :
    SeqStopsK Fence.wide n Tryz.prog 28 #[.pointer (some ⟨Bn, 0, none⟩)] encs (fun _ _ => True) (fun xs => lists xs = Runs.lines t.data.toList) (fun _ => True) 3001 w := by
  intro l J Jx W hW hJ hJx hY h0
  have hc : W.cell? ⟨Bn, 0, none⟩ = some (.string t) := Lists.cell_below hW hb
  have h1 : 1 ≤ n - 1 := by omega
  refine callsIn_of_wp Tryz.func28 rfl trivial ?_ rfl
  simp only [Tryz.ntmps28, List.size_toArray, List.length_cons, List.length_nil, Nat.reduceAdd, Nat.reduceSub, Array.replicate_succ, Array.replicate_zero, List.push_toArray, List.append_toArray, List.nil_append, List.cons_append]
  gi_wp2
  gi_loopw [3] (fun p wr => ∃ (pre : List Row) (r : ByteArray), p = .string r ∧ pre.length + r.size ≤ t.size ∧ Hid (lists pre ++ Runs.lines r.data.toList = Runs.lines t.data.toList) ∧ J pre wr) (fun p _ => left p)
  case atStart => exact ⟨[], t, rfl, by simp, rfl, h0⟩
  case round =>
    obtain ⟨pre, r, rfl, hlen, hx, hJs⟩ := hrel
    by_cases h0 : r.data.toList = []
    · have e0 : (r.toList == []) = true := by rw [ByteArray.toList_eq, h0]; rfl
      have hend : Hid (lists pre = Runs.lines t.data.toList) := by
        have := hx.out
        rw [h0, Runs.lines_nil, List.append_nil] at this
        exact this
      gi_wp2
      go_end0
      exact ⟨⟨_, rfl⟩, .inl ⟨pre, hend.out, hJs⟩⟩
    · have e0 : (r.toList == []) = false := by rw [ByteArray.toList_eq, beq_eq_false_iff_ne]; exact h0
      have hsz : r.data.toList.length = r.size := Array.length_toList
      have hpos : 0 < r.size := by
        rcases Nat.eq_zero_or_pos r.size with q | q
        · exact absurd (List.eq_nil_of_length_eq_zero (by omega)) h0
        · exact q
      obtain ⟨x, b, m, hcut, hxs, hbs, hl⟩ : ∃ (x : ByteArray) (b : ByteArray) (m : Bool), WalkRuCut.cutV r 10 = .tuple #[.string x, .string b, .bool m] ∧ x.size ≤ r.size ∧ b.size < r.size ∧ Runs.lines r.data.toList = x.data.toList :: Runs.lines b.data.toList := by
        rcases cut_or r.data.toList with q | ⟨a, b, q1, q2⟩
        · exact ⟨r, ⟨#[]⟩, false, WalkRuCut.cut_none q, Nat.le_refl _, hpos, lines_last h0 q⟩
        · have : r.size = a.length + 1 + b.length := by rw [← hsz, q1, List.length_append, List.length_cons]; omega
          exact ⟨str a, str b, true, WalkRuCut.cut_some q1 q2, by rw [Nums.str_size]; omega, by rw [Nums.str_size]; omega, lines_cut q1 q2⟩
      have hC := WalkRuCut.cut_any r 10 wr (by omega)
      rw [hcut] at hC
      have hx3 : x.size ≤ 3000 := by omega
      have HY : Hid (∀ w', Below wr.heap.size wr w' → YieldAt Fence.wide (n - 1) Tryz.prog l (encs ⟨x, hx3⟩) w' fun e W' => (e = .returned (.bool true) ∧ J (pre ++ [⟨x, hx3⟩]) W' ∧ True) ∨ (e = .returned (.bool false) ∧ Jx (pre ++ [⟨x, hx3⟩]) W')) := fun w' q => hY pre ⟨x, hx3⟩ w' (abides hJ hJs q) (by omega)
      have HN : Hid (lists (pre ++ [⟨x, hx3⟩]) ++ Runs.lines b.data.toList = Runs.lines t.data.toList ∧ (pre ++ [(⟨x, hx3⟩ : Row)]).length + b.size ≤ t.size) := by
        refine ⟨?_, by rw [List.length_append]; simp only [List.length_cons, List.length_nil]; omega⟩
        rw [← hx.out, hl]
        simp [lists]
      have HN1 : Hid (lists (pre ++ [⟨x, hx3⟩]) ++ Runs.lines b.data.toList = Runs.lines t.data.toList) := HN.out.1
      have HB : Hid (b.size < r.size) := hbs
      clear hcut hl hxs hbs hpos hsz h0 hx hJs hlen
      gi_wp2
      refine ⟨trivial, fun _ => by omega, (callsIn_wide.2 hC).mono ?_⟩
      rintro e w1 ⟨rfl, b1⟩
      obtain ⟨fn, tmps, assign, body, hy, hR⟩ := HY.out w1 b1
      simp only [encs] at hy
      clear hC HY b1
      gi_wp2
      refine ⟨fun _ => by omega, hR.mono ?_⟩
      rintro e W3 (⟨rfl, hJ3, -⟩ | ⟨rfl, hJx3⟩)
      · clear hR hy
        gi_wp2
        go_roundw
        case rel => exact ⟨pre ++ [⟨x, hx3⟩], b, rfl, HN.out.2, HN1, hJ3⟩
        case measure => exact HB.out
      · clear hR hy
        gi_wp2
        refine bodyPost_ret (results_none rfl _ _ _) rfl ?_
        exact ⟨⟨_, rfl⟩, .inr ⟨pre ++ [⟨x, hx3⟩], trivial, hJx3⟩⟩

/-! the session's own blocks are cells -/
theorem owns_cells {w : World} {B : Nat} {e : TypeId} {sz : Nat} {v : Value} {n : Nat} {xs : List Value} (h : w.ownsRow B e sz v n xs) {k : Nat} (hk : v.ownBlock = some k) : ∃ c t f, w.heap[k]? = some (.cells c t f) := by
  rcases h.2 with ⟨rfl, _⟩ | ⟨g, cap, cur, rfl, _, hh, _⟩
  · simp [Value.ownBlock] at hk
  · simp only [Value.ownBlock, Option.some.injEq] at hk
    subst hk
    exact ⟨_, _, _, hh⟩
theorem row_cells {w : World} {g : Nat} {t : TypeId} {n : Nat} {f : Nat → Value} (h : w.rowIs g t n f) : ∃ c t f, w.heap[g]? = some (.cells c t f) := by
  obtain ⟨c, hb, _⟩ := h
  exact ⟨_, _, _, hb⟩
theorem se_cells {w : World} {B b : Nat} {F : Nat → Prop} {d : Desk} (h : Se w B b F d) {k : Nat} (hk : F k) : ∃ c t f, w.heap[k]? = some (.cells c t f) := by
  obtain ⟨bm, v, G, h1, h2, ⟨v1, v2, h3, h3'⟩, _, _, h6⟩ := h.core
  rcases (h6 k).1 hk with rfl | hk | hk
  · exact row_cells h1
  · exact owns_cells h2 hk
  · rcases (h3' k).1 hk with rfl | hk | hk
    · exact row_cells h3.row
    · exact owns_cells h3.own hk
    · exact owns_cells h3.waits hk
theorem bd_cells {w : World} {B b : Nat} {F : Nat → Prop} {s : List UInt8} (h : Bd w B b F s) {k : Nat} (hk : F k) : ∃ c t f, w.heap[k]? = some (.cells c t f) := by
  obtain ⟨p, v, h1, _, h3, _, _, h5⟩ := h.core
  rcases (h5 k).1 hk with rfl | hk
  · exact ⟨_, _, _, h1⟩
  · exact owns_cells h3 hk

/-- what stands between two lines: behind those of pre -/
structure In (w : World) (cs bs bo : Nat) (pre : List Row) (W : World) : Prop where
  ses : ∃ Fs Fo, Se W w.heap.size bs Fs (runD Runs.fresh (lists pre)) ∧ Bd W w.heap.size bo Fo (runL Runs.fresh (lists pre)) ∧ (∀ k, Fs k → ¬ Fo k) ∧ ¬ Fs cs ∧ ¬ Fo cs
  box : W.cell? ⟨cs, 0, none⟩ = some (.pointer (some ⟨bs, 0, none⟩))
  lie : cs < W.heap.size
  cel : ∃ c t f, W.heap[cs]? = some (.cells c t f)
  bel : Below w.heap.size w W
  far : w.heap.size ≤ cs

theorem in_grown {w : World} {cs bs bo : Nat} {pre : List Row} {W W' : World} {row : Option Nat} {B : Nat} (h : In w cs bs bo pre W) (hB : w.heap.size ≤ B) (hg : W.grownBy W' row) (hr : ∀ r, row = some r → B ≤ r ∧ ∃ o : Obj, W.heap[r]? = some o ∧ o.isCells = false) : In w cs bs bo pre W' := by
  obtain ⟨Fs, Fo, h1, h2, h3, h4, h5⟩ := h.ses
  have hk : Kept (fun k => row = some k) W W' := (Kept.refl _ W).grown hg fun k hk => .inl hk
  have no : ∀ k, (∃ c t f, W.heap[k]? = some (.cells c t f)) → ¬ row = some k := fun k ⟨c, t, f, hc⟩ e => by
    obtain ⟨_, o, ho, hn⟩ := hr k e
    rw [hc] at ho
    cases ho
    cases hn
  have hbl : W'.heap[cs]? = W.heap[cs]? := hk.block cs h.lie (no cs h.cel)
  refine ⟨⟨Fs, Fo, h1.kept hk fun i hi => no i (se_cells h1 hi), h2.kept hk fun i hi => no i (bd_cells h2 hi), h3, h4, h5⟩, ?_, Nat.lt_of_lt_of_le h.lie hg.size, ?_, h.bel.grown hg h.bel.size fun k e => Nat.le_trans hB (hr k e).1, h.far⟩
  · have := h.box
    rw [← this]
    exact World.cell?_of_block hbl
  · rw [hbl]; exact h.cel

theorem lines_any (t : ByteArray) (w : World) : Calls Tryz.prog 11 #[.string t] w fun e w' => e = .returned (.func (.func 28) #[] #[.pointer (some ⟨w.heap.size, 0, none⟩)]) ∧ w' = w.alloc (.cells #[.string t] 9) := by
  go_enter Tryz.func11, Tryz.ntmps11
  go_wp2_with fail
  go_ret
  exact ⟨rfl, rfl⟩

set_option maxHeartbeats 8000000 in
/-- one line more -/
theorem in_next {w : World} {cs bs bo : Nat} {pre : List Row} {W w1 w2 w3 : World} (h : In w cs bs bo pre W) (x : Row) {Fs Fo : Nat → Prop} (hap : ∀ k, Fs k → ¬ Fo k) (hcs : ¬ Fs cs) (hco : ¬ Fo cs) (hfs : ∀ k, Fs k → w.heap.size ≤ k ∧ k < W.heap.size) (hfo : ∀ k, Fo k → w.heap.size ≤ k ∧ k < W.heap.size)
    (h1 : RunLeft W w1 w.heap.size bs Fs (line (runD Runs.fresh (lists pre)) x.1.data.toList).2) (b2 : Below w1.heap.size w1 w2)
    (h3 : (∃ F', Bd w3 w.heap.size bo F' (runL Runs.fresh (lists pre) ++ ((line (runD Runs.fresh (lists pre)) x.1.data.toList).1 ++ [10])) ∧ ∀ k, F' k → Fo k ∨ w2.heap.size ≤ k) ∧ Kept Fo w2 w3) :
    In w cs bs bo (pre ++ [x]) w3 ∧ Kept (fun k => Fs k ∨ Fo k) W w3 := by
  obtain ⟨⟨F1, s1, f1⟩, k1⟩ := h1
  obtain ⟨⟨F3, d3, f3⟩, k3⟩ := h3
  have k13 : Kept (fun k => Fs k ∨ Fo k) W w3 := ((k1.then b2).mono fun i hi => .inl hi).trans k3 fun i hi => .inl (.inr hi)
  have hls : lists (pre ++ [x]) = lists pre ++ [x.1.data.toList] := by simp [lists]
  have s2 := s1.below b2
  have hf2 := s2.foot
  have s3 := s2.kept k3 fun i hi q => by
    rcases f1 i hi with z | z
    · exact hap i z q
    · have := (hfo i q).2; omega
  have hbl : w3.heap[cs]? = W.heap[cs]? := k13.block cs h.lie fun q => by rcases q with q | q; exact hcs q; exact hco q
  have hsz := k13.size
  refine ⟨⟨⟨F1, F3, ?_, ?_, ?_, ?_, ?_⟩, ?_, Nat.lt_of_lt_of_le h.lie hsz, by rw [hbl]; exact h.cel, ?_, h.far⟩, k13⟩
  · rw [hls, RunLens.runD_snoc]
    exact s3
  · rw [hls, RunLens.runL_snoc, List.append_assoc]
    exact d3
  · intro k hk q
    rcases f3 k q with z | z
    · rcases f1 k hk with y | y
      · exact hap k y z
      · have := (hfo k z).2; omega
    · have := (hf2 k hk).2; omega
  · intro q
    rcases f1 cs q with z | z
    · exact hcs z
    · have := h.lie; omega
  · intro q
    rcases f3 cs q with z | z
    · exact hco z
    · have := h.lie; have := k1.size; have := b2.size; omega
  · rw [← h.box]
    exact World.cell?_of_block hbl
  · exact h.bel.trans (k13.below (fun k hk => by rcases hk with q | q; exact (hfs k q).1; exact (hfo k q).1) h.bel.size)

set_option maxHeartbeats 16000000 in
theorem run_any (t : ByteArray) (w : World) (hA : Tabs w) (hS : Syn w) (hL : Laid w) :
    Calls Tryz.prog 6 #[.string t] w fun e w' => e = .returned (.string (str (Runs.run t.data.toList))) ∧ Below w.heap.size w w' := by
  have hsz : t.data.toList.length = t.size := Array.length_toList
  by_cases h3 : 3000 < t.size
  · have HV : Hid (Runs.run t.data.toList = Runs.longT) := if_pos (by omega)
    have i1 : (t.size : Int) > 3000 := by omega
    have i2 : (3000 : Int) < (t.size : Int) := i1
    clear hA hS hL hsz h3
    go_enter Tryz.func6, Tryz.ntmps6
    go_wp2_with fail
    go_ret
    exact ⟨by rw [HV.out]; rfl, Below.refl _ _⟩
  · have HV : Hid (Runs.run t.data.toList = runL Runs.fresh (Runs.lines t.data.toList)) := if_neg (by omega)
    have i1 : ¬ (t.size : Int) > 3000 := by omega
    have i2 : ¬ (3000 : Int) < (t.size : Int) := i1
    have HT : Hid (∀ w', Below w.heap.size w w' → Tabs w' ∧ Syn w' ∧ Laid w') := fun w' q => ⟨hA.below q, hS.below q, hL.below q⟩
    have cB := RunObj.begin_any w w.heap.size (Nat.le_refl _) hA
    have ht3 : t.size ≤ 3000 := by omega
    clear hA hS hL hsz h3
    refine (callsIn_wide (n := 8)).1 ?_
    refine callsIn_of_wp_marks Tryz.func6 rfl trivial ?_ rfl
    simp only [Tryz.ntmps6, List.size_toArray, List.length_cons, List.length_nil, Nat.reduceAdd, Nat.reduceSub, Array.replicate_succ, Array.replicate_zero, List.push_toArray, List.append_toArray, List.nil_append, List.cons_append]
    gi_wp2
    refine ⟨trivial, (callsIn_wide.2 cB).mono ?_⟩
    rintro e w1 ⟨bs, Fs, rfl, hse, hFs, b1⟩
    clear cB
    have HSe : Hid (Se w1 w.heap.size bs Fs Runs.fresh ∧ (∀ k, Fs k → w.heap.size ≤ k) ∧ Below w.heap.size w w1) := ⟨hse, hFs, b1⟩
    clear hse hFs b1
    gi_wp2
    refine ⟨trivial, (callsIn_wide.2 (lines_any t _)).mono ?_⟩
    rintro e w4 ⟨rfl, h4⟩
    gi_wp2
    rw [← h4]
    have hsz4 : w4.heap.size = w1.heap.size + 3 := by rw [h4]; simp
    have hBox : w4.cell? ⟨w1.heap.size + 2, 0, none⟩ = some (.string t) := by
      rw [h4, World.cell?_alloc_at _ _ _ _ (by simp)]
      rfl
    have hIn : In w w1.heap.size bs (w1.heap.size + 1) [] w4 := by
      obtain ⟨q1, q2, q3⟩ := HSe.out
      have b14 : Below w1.heap.size w1 w4 := by
        rw [h4]
        exact (((Below.refl _ w1).alloc (Nat.le_refl _) _).alloc (by simp) _).alloc (by simp; omega) _
      have hc : w4.heap[w1.heap.size]? = some (.cells #[.pointer (some ⟨bs, 0, none⟩)] 38) := by
        rw [h4]
        have e1 := heap_alloc_new w1 (.cells #[.pointer (some ⟨bs, 0, none⟩)] 38)
        have e2 : ((w1.alloc (.cells #[.pointer (some ⟨bs, 0, none⟩)] 38)).alloc (.cells #[.pointer none, .slice none 0 0] 43)).heap[w1.heap.size]? = some (.cells #[.pointer (some ⟨bs, 0, none⟩)] 38) := (Below.heap_alloc _ _ _ (by simp)).trans e1
        exact (Below.heap_alloc _ _ _ (by simp; omega)).trans e2
      have hd : Bd w4 w.heap.size (w1.heap.size + 1) (fun k => k = w1.heap.size + 1) [] := by
        have := WalkRuOut.bd_new (w1.alloc (.cells #[.pointer (some ⟨bs, 0, none⟩)] 38)) w.heap.size (by have := q3.size; simp; omega)
        rw [World.size_alloc] at this
        rw [h4]
        exact this.kept (((Kept.refl (fun _ => False) _).alloc _)) fun _ _ z => z
      refine ⟨⟨Fs, fun k => k = w1.heap.size + 1, q1.below b14, hd, fun k hk e => ?_, fun hk => ?_, by omega⟩, ?_, by omega, ⟨_, _, _, hc⟩, bt q3 b14, q3.size⟩
      · have := (q1.foot k hk).2; omega
      · have := (q1.foot _ hk).2; omega
      · simp [World.cell?, hc]
    have hcs := HSe.out.2.2.size
    have hB0 : w.heap.size ≤ w4.heap.size := by omega
    clear h4 HSe
    refine wpIn_rangeFunc_ownG rfl (by omega) (gf := 28) (lb := #[.pointer (some ⟨w1.heap.size + 2, 0, none⟩)]) rfl trivial (enters_of Tryz.func28 (by kernel_rfl) rfl)
      (lines_stops 7 (by omega) (w1.heap.size + 2) t w4 ht3 hBox) (fun _ _ => trivial) (fun _ _ _ _ _ _ _ _ => trivial) (Below.refl _ _) (fun _ => rfl)
      (fun pre W => In w w1.heap.size bs (w1.heap.size + 1) pre W) (fun _ _ _ => False)
      (fun pre A A' row hs hg hr => in_grown hs hB0 hg hr)
      (fun _ _ _ _ _ hs _ _ => hs)
      hIn
      (fun x => { tmps := #[.string t, undef, .string ⟨#[]⟩, .pointer (some ⟨w1.heap.size, 0, none⟩), .pointer (some ⟨w1.heap.size + 1, 0, none⟩), .string x.1, .string t, .int .i64 (t.size : Int), .bool false, .pointer (some ⟨bs, 0, none⟩), .string t, .func (.func 28) #[] #[.pointer (some ⟨w1.heap.size + 2, 0, none⟩)], .string x.1, undef, undef, undef, undef, undef, undef, undef, undef, undef], defers := [] }) ?assign ?body ?done ?stop
    case assign =>
      intro l x W K hK
      unfold encs
      gi_wp2
      exact hK
    case body =>
      rintro l pre x W hW hlen
      obtain ⟨Fs2, Fo2, g1, g2, g3, g4, g5⟩ := hW.ses
      have c0 := hW.box
      have hf := RunLens.runD_fine (lists pre) Runs.fresh_fine
      have hq := HT.out W hW.bel
      have cL := WalkRuLine.line_any g1 hf hW.bel.size hq.1 hq.2.1 x.1 (by have := x.2; omega)
      have hlen2 : (runL Runs.fresh (lists pre)).length ≤ 6001 * 3001 := by
        have q1 := RunLens.runL_len (lists pre) Runs.fresh_fine
        have q2 : (lists pre).length = pre.length := List.length_map _
        omega
      have hll := RunLens.line_len hf x.1.data.toList
      have HW : Hid (In w w1.heap.size bs (w1.heap.size + 1) pre W ∧ (∀ k, Fs2 k → ¬ Fo2 k) ∧ ¬ Fs2 w1.heap.size ∧ ¬ Fo2 w1.heap.size ∧ (∀ k, Fs2 k → w.heap.size ≤ k ∧ k < W.heap.size) ∧ (∀ k, Fo2 k → w.heap.size ≤ k ∧ k < W.heap.size)) := ⟨hW, g3, g4, g5, g1.foot, g2.foot⟩
      have HKF : Hid (∀ w3, Kept (fun k => Fs2 k ∨ Fo2 k) W w3 → KeepsFrom w4.heap.size W w3) := fun w3 q => ⟨q.size, fun k o _ hk ho => (q.block k (Array.getElem?_eq_some_iff.1 hk).1 (fun z => by
        rcases z with z | z
        · obtain ⟨c, tt, f, hc⟩ := se_cells g1 z
          rw [hc] at hk; cases hk; cases ho
        · obtain ⟨c, tt, f, hc⟩ := bd_cells g2 z
          rw [hc] at hk; cases hk; cases ho)).trans hk⟩
      have HD : Hid (Bd W w.heap.size (w1.heap.size + 1) Fo2 (runL Runs.fresh (lists pre))) := g2
      clear g1 g2 g3 g4 g5 hq hf hW
      gi_wp2
      refine ⟨trivial, (CallsIn.inRound l (callsIn_wide.2 cL)).mono ?_⟩
      rintro e w5 ⟨tt, ev, rfl, hO, hLf⟩
      have bW : Below w.heap.size w w5 := HW.out.1.bel.trans (hLf.2.below (fun k hk => (HW.out.2.2.2.2.1 k hk).1) HW.out.1.bel.size)
      have cT := WalkRuAs.tell_any tt ev _ hO w5 (HT.out w5 bW).2.2
      have HLf : Hid (RunLeft W w5 w.heap.size bs Fs2 (line (runD Runs.fresh (lists pre)) x.1.data.toList).2) := hLf
      clear cL hO hLf c0
      generalize hAn : (line (runD Runs.fresh (lists pre)) x.1.data.toList).1 = An at cT hll
      have HAn : Hid ((line (runD Runs.fresh (lists pre)) x.1.data.toList).1 = An) := hAn
      clear hAn
      gi_wp2
      refine ⟨trivial, (CallsIn.inRound l (callsIn_wide.2 cT)).mono ?_⟩
      rintro e w6 ⟨rfl, b6⟩
      have ea := fun w' : World => run_string_add_sum (P := Tryz.prog) (w := w') (str An) ⟨#[10]⟩ (by rw [Nums.str_size]; show An.length + 1 ≤ _; omega)
      have hd6 : Bd w6 w.heap.size (w1.heap.size + 1) Fo2 (runL Runs.fresh (lists pre)) := HD.out.kept (HLf.out.2.then b6) fun i hi q => HW.out.2.1 i q hi
      have cW := WalkRuOut.write_any hd6 (str An ++ ⟨#[10]⟩) (by rw [ByteArray.size_append, Nums.str_size]; show _ + (An.length + 1) ≤ _; omega) (Nat.le_trans bW.size b6.size)
      have HB6 : Hid (Below w5.heap.size w5 w6) := b6
      have HSt : Hid ((str An ++ (⟨#[10]⟩ : ByteArray)).data.toList = An ++ [10]) := by
        show _ = _
        simp [ByteArray.data_append, Nums.str]
      rw [HSt.out] at cW
      clear cT b6 hd6 bW
      gi_wp2
      refine ⟨trivial, (CallsIn.inRound l (callsIn_wide.2 cW)).mono ?_⟩
      rintro e w7 ⟨rfl, h7, k7⟩
      have hfin := in_next HW.out.1 x HW.out.2.1 HW.out.2.2.1 HW.out.2.2.2.1 HW.out.2.2.2.2.1 HW.out.2.2.2.2.2 HLf.out HB6.out (w3 := w7) ⟨by rw [HAn.out]; exact h7, k7⟩
      have HF1 : Hid (KeepsFrom w4.heap.size W w7 ∧ True ∧ In w w1.heap.size bs (w1.heap.size + 1) (pre ++ [x]) w7) := ⟨HKF.out w7 hfin.2, trivial, hfin.1⟩
      clear cW h7 k7 hfin
      gi_wp2
      exact HF1.out
    case done =>
      rintro D xs W hD hxs hW hK
      obtain ⟨Fs2, Fo2, g1, g2, g3, g4, g5⟩ := hW.ses
      have cS := WalkRuOut.tell_any g2 hW.bel.size
      rw [hxs, ← HV.out] at cS
      have HB : Hid (Below w.heap.size w W) := hW.bel
      clear g1 g2 g3 g4 g5 hW
      gi_wp2
      refine ⟨trivial, (callsIn_wide.2 cS).mono ?_⟩
      rintro e w5 ⟨rfl, b5, k5⟩
      have hK5 := k5 D _ hK rfl
      have HB5 : Hid (Below w.heap.size w w5) := HB.out.trans b5
      have hD5 : Hid (w.heap.size ≤ D) := by show _ ≤ _; omega
      clear cS k5 b5 hK
      gi_wp2
      refine ⟨by simp, .inl ⟨_, _, rfl, run_takeDeferred hK5, ?_⟩⟩
      refine ⟨_, results_tmp rfl _ _ _, rfl, ?_⟩
      exact HB5.out.trans (belowK_b (w := w) (Nat.le_refl _) w5 D _ _ hD5.out hK5 rfl rfl)
    case stop =>
      rintro D c pre W _ _ h _
      exact h.elim

end Go.Proofs.YtfpkngpgmllhnaaGreatDoor.WalkRuRun

