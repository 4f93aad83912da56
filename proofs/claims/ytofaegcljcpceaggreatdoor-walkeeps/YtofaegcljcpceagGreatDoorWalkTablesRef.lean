/-
  What the document's own lsm (package witref2) tells: its tables, as bytes.
-/
import Derived.Test.YtofaegcljcpceagGreatDoorLsmDoc
import Derived.Test.YtofaegcljcpceagGreatDoorLsmRef
import Derived.Test.YtofaegcljcpceagGreatDoorWalkTableRef
namespace Go.Proofs.YtofaegcljcpceagGreatDoor.WalkTablesRef
open Go.RowKit
open Lists (Row bt strs)
open Keeps (Kept owns_kept owns_row owns_base)
open Stores (Pair)
open Wides (Wide owns_wide)
open PairRows (cells)
open LsmRows (PRow LRows)
open LsmDoc (Dl In)
open Lsms (Lsm)
open Tabs (pairsE table)
open WalkMergeRef (DL)
open Nums (str)

theorem infoS : (Tryz.prog.info? 9).map (fun i => (i.zero, i.size, i.bytes)) = some (some (.string ⟨#[]⟩), 1, 16) := by kernel_rfl
theorem one_at (w : World) (v : Value) (t : TypeId) : ∀ j u, [v][j]? = some u → (w.alloc (.cells #[v] t)).cell? ((⟨w.heap.size, 0, none⟩ : Addr).add j) = some u := by
  intro j u hj
  match j, hj with
  | 0, hj => simp at hj; subst hj; simp [Addr.add]
/-- the tables of some lists -/
def tabs (r : List (List Pair)) : List ByteArray := r.map fun l => str (table l)
theorem tabs_next (r : List (List Pair)) {k : Nat} (hk : k < r.length) : tabs (r.take (k + 1)) = tabs (r.take k) ++ [str (table r[k])] := by
  unfold tabs
  rw [List.take_succ_eq_append_getElem hk, List.map_append]
  rfl

set_option maxHeartbeats 4000000 in
set_option maxRecDepth 100000 in
theorem tables_any {w : World} {B g : Nat} {D : Nat → Prop} {x : Lsm} (h : DL w B g D x) (hn : x.levels.length ≤ 900) (hok : ∀ l ∈ x.levels, pairsE l = 0 ∧ l.length ≤ 1000) :
    Calls Tryz.prog 19 #[.pointer (some ⟨g, 0, none⟩)] w fun e w' => ∃ v, e = .returned v ∧ w'.ownsRow w.heap.size 9 1 v x.levels.length (strs (tabs x.levels)) ∧ Below w.heap.size w w' := by
  obtain ⟨yv, lv, vs, hd⟩ := h
  obtain ⟨a, cap, rfl, hrow, _⟩ := hd.levels
  obtain ⟨i0, hi, hz0, hz1, hz2⟩ := info_parts infoS
  have hvl : vs.length = x.levels.length := hd.rows.1
  have c2 : w.cell? ⟨g, 2, none⟩ = some (.slice a x.levels.length cap) := hd.lies.cell (i := 2) (by omega)
  have HC2 : Hid (∀ w2, Below w.heap.size w w2 → w2.cell? ⟨g, 2, none⟩ = some (.slice a x.levels.length cap)) := fun w2 k => Lists.cell_below k c2
  have HR : Hid (Row w a x.levels.length cap vs) := hrow
  have HL : Hid (LRows w vs x.levels) := hd.rows
  have HK : Hid (∀ l ∈ x.levels, pairsE l = 0 ∧ l.length ≤ 1000) := hok
  clear hd hrow hok c2
  generalize x.levels = r at *
  go_enter Tryz.func19, Tryz.ntmps19
  go_wp2_with fail
  go_loopw [3, 4] (fun v i wr => ∃ k : Nat, k ≤ r.length ∧ i = .int .i64 (k : Int) ∧ Hid (wr.ownsRow w.heap.size 9 1 v k (strs (tabs (r.take k)))) ∧ Hid (Below w.heap.size w wr)) (fun _ i _ => r.length - (intOf i).toNat)
  case atStart => exact ⟨0, Nat.zero_le _, rfl, World.ownsRow_nil _ _ _ _, Below.refl _ _⟩
  case round =>
    obtain ⟨k, hk, rfl, HO, HB⟩ := hrel
    have c2 := HC2.out _ HB.out
    by_cases hlt : k < r.length
    · have i1 : (k : Int) < (r.length : Int) := by omega
      have hkv : k < vs.length := by omega
      obtain ⟨b1, off1, rfl, _⟩ := HR.out.2.2 (by omega)
      have c0 : wr.cell? ⟨b1, off1 + k, none⟩ = some vs[k] := (HR.out.below HB.out).at k _ (List.getElem?_eq_getElem hkv)
      obtain ⟨aq, cq, hq, hw⟩ := (HL.out.below HB.out).2 k hkv hlt
      rw [hq] at c0
      obtain ⟨k1, k2⟩ := HK.out _ (List.getElem_mem hlt)
      have HN : Hid (tabs (r.take (k + 1)) = tabs (r.take k) ++ [str (table r[k])]) := tabs_next r hlt
      have cT := WalkTableRef.table_any r[k] aq (r[k]).length cq wr hw k1 (by omega)
      generalize (r[k]).length = Q at c0 hw cT
      generalize str (table r[k]) = X at HN cT
      clear hq hw k1
      go_wp2_with fail
      refine cT.mono ?_
      rintro e w2 ⟨rfl, b2⟩
      have HO2 : Hid (w2.ownsRow w.heap.size 9 1 u3 k (strs (tabs (r.take k)))) := owns_kept HO.out (Kept.of_below (fun _ => False) b2) fun _ _ q => q
      have HB2 : Hid (Below w.heap.size w w2) := bt HB.out b2
      clear cT b2 HO HB c0 c2
      go_wp2_with (at_builtin; go_must (refine wpList_append_own _ rfl (.tmp 23) (.tmp 25) 48 rfl w.heap.size 9 i0 (.string ⟨#[]⟩) 1 16 Tryz.underlying48 hi hz0 hz1 hz2 rfl (by decide) _ _ _ rfl (HO2.out.alloc _) ⟨_, 0, none⟩ 1 1 [.string X] rfl rfl (one_at _ _ _) (fun u hu => by rw [List.mem_singleton.1 hu]; rfl) (by unfold maxLen; omega) (by omega) (by have := HB2.out.size; simp; omega) ?_); intro v1 wn o1 g1 z1; clear z1)
      have HBN : Hid (Below w.heap.size w wn) := (HB2.out.alloc HB2.out.size _).grown g1 (by have := HB2.out.size; simp; omega) (fun k hk => (HO2.out.lt k hk).1)
      have HON : Hid (wn.ownsRow w.heap.size 9 1 v1 (k + 1) (strs (tabs (r.take (k + 1))))) := by
        rw [HN.out, show strs (tabs (r.take k) ++ [X]) = strs (tabs (r.take k)) ++ [.string X] by simp [strs]]
        exact o1
      clear g1 o1 HO2 HB2
      go_roundw
      case rel => exact ⟨k + 1, by omega, by go_num, HON, HBN⟩
      case measure => simp [intOf]; omega
    · have i1 : ¬ (k : Int) < (r.length : Int) := by omega
      obtain rfl : k = r.length := by omega
      have hO := HO.out
      rw [List.take_of_length_le (Nat.le_refl _)] at hO
      have HO2 : Hid (wr.ownsRow w.heap.size 9 1 u3 r.length (strs (tabs r))) := hO
      clear hO HO
      go_wp2_with fail
      go_ret
      exact ⟨_, rfl, HO2.out, HB.out⟩

end Go.Proofs.YtofaegcljcpceagGreatDoor.WalkTablesRef
