/-
  What slices.Concat and slices.Clone do with lists of entries: one list of the call's own, with all of them.
-/
import Derived.Test.YticadkggaanbjaaGreatDoorListRows
import Derived.Test.YticadkggaanbjaaGreatDoorWideCopy
import Derived.Test.YticadkggaanbjaaGreatDoorRows
import Derived.BigQuiet
import Derived.Deep.CutBlock
import Derived.Deep.DeepMust
import Derived.Deep.QuietTactic
import Derived.Deep.RegionLaw
import Derived.Laws.Externs
import Derived.Lib.SliceRun
import Derived.Lib.Walk
import Derived.Laws.AppendOwnNone
namespace Go.Proofs.YticadkggaanbjaaGreatDoor.WalkMiLists
open Go.RowKit
open Lists (Row bt)
open Keeps (Kept owns_kept)
open Wides (Wide)
open Entries (Entry)
open EntRows (cells cells_append cells_length)
open WideCopy (Lies owns_of_lies)

theorem infoE : (Tryz.prog.info? 38).map (fun i => (i.zero, i.size, i.bytes)) = some (some (.agg #[.int .i64 0, .string ⟨#[]⟩]), 2, 24) := by kernel_rfl
theorem ones (l : List Entry) : ∀ v ∈ cells l, v.oneCell' = true := by
  induction l with
  | nil => intro v hv; cases hv
  | cons p l ih =>
    intro v hv
    simp only [cells, List.mem_cons] at hv
    rcases hv with rfl | rfl | hv
    · rfl
    · rfl
    · exact ih v hv
/-- how many there are in all -/
def total (r : List (List Entry)) : Nat := r.flatten.length
theorem total_take (r : List (List Entry)) (k : Nat) : total (r.take k) ≤ total r := by
  unfold total
  conv => rhs; rw [← List.take_append_drop k r, List.flatten_append, List.length_append]
  omega

/-- append of zero values to nil: a new row -/
theorem run_zeros_nil {P : Program} (w : World) (t tn ty e : TypeId) (i : TypeInfo) (z : Value) (kq kn : IntKind) (sz : Nat) (ht : P.underlying t = some (.slice e)) (htn : P.underlying tn = some (.int kn)) (hi : P.info? e = some i) (hz : i.zero = some z) (hsz : i.size = sz) (hb : i.bytes ≤ 1000) (hzs : z.cells.size = sz) (hp : 0 < sz) (k : Nat) (h0 : 0 < k) (hbig : k ≤ 1000000) :
    ∃ w' c' R, (Builtin.append_ #[t, tn] ty #[.slice none 0 0, .int kq k]).run P w = .ok (.slice (some ⟨w.heap.size, 0, none⟩) k c') w' ∧ Lies w' w.heap.size e R ∧ k ≤ c' ∧ c' ≤ maxLen ∧ R.length = c' * sz ∧ Below w.heap.size w w' := by
  have hold : (Builtin.firstCells i.size 0 (.slice none 0 0)).run P w.drew = .ok ([] : List Value).toArray w.drew := run_firstCells_none ..
  have hnext : Builtin.nextslicecap (0 + k) 0 * i.bytes ≤ 281474976710656 := by
    have h1 : Builtin.nextslicecap (0 + k) 0 * 1000 ≤ 281474976710656 := growslice_fits (by omega) (by omega)
    exact Nat.le_trans (Nat.mul_le_mul_left _ hb) h1
  have hkb : k * i.bytes ≤ 281474976710656 := Nat.le_trans (Nat.mul_le_mul (show k ≤ 1000000 by omega) hb) (by decide)
  have hr := Lib.run_append_grow_zeros w t tn ty e i z kq kn ht htn hi hz none 0 0 [] hold k h0 (by omega) (by omega) (by omega) hkb hnext
  have hge := grownCap_ge w (0 + k) 0 e
  rw [Nat.zero_add] at hr hge
  refine ⟨_, _, (Builtin.zeroCells z.cells k).toList ++ (Builtin.zeroCells z.cells (grownCap w k 0 e - k)).toList, hr, ?_, hge, grownCap_le_maxLen w _ _ _ (by unfold maxLen; omega), ?_, ((Below.refl _ w).drew).alloc (Nat.le_refl _) _⟩
  · show (w.drew.alloc _).heap[w.drew.heap.size]? = _
    rw [heap_alloc_new]
    simp
  · simp only [List.length_append, Array.length_toList, size_zeroCells, hzs]
    rw [← Nat.add_mul]
    congr 1
    omega

/-- what is new, and of the call's own -/
def Fresh (l : List Entry) (w : World) (e : Ending) (w' : World) : Prop := ∃ v, e = .returned v ∧ w'.ownsRow w.heap.size 38 2 v l.length (cells l) ∧ Below w.heap.size w w'

set_option maxHeartbeats 4000000 in
set_option maxRecDepth 100000 in
theorem grow_any (n : Nat) (w : World) (hn : n ≤ 1000000) : Calls Tryz.prog 208 #[.slice none 0 0, .int .i64 (n : Int)] w fun e w' => Fresh [] w e w' := by
  by_cases h0 : n = 0
  · subst h0
    have HE : Hid (Fresh [] w (.returned (.slice none 0 0)) w) := ⟨_, rfl, World.ownsRow_nil _ _ _ _, Below.refl _ _⟩
    go_enter Tryz.func208, Tryz.ntmps208
    go_wp2_with fail
    go_ret
    exact HE.out
  · obtain ⟨i0, hi0, hz0, hz1, hz2⟩ := info_parts infoE
    obtain ⟨w1, c1, R, r1, L1, g1, g2, g3, b1⟩ := run_zeros_nil (P := Tryz.prog) w 22 3 22 38 i0 (.agg #[.int .i64 0, .string ⟨#[]⟩]) .i64 .i64 2 Tryz.underlying22 Tryz.underlying3 hi0 hz0 hz1 (by rw [hz2]; decide) rfl (by decide) n (by omega) hn
    have HE : Hid (Fresh [] w (.returned (.slice (some ⟨w.heap.size, 0, none⟩) 0 c1)) w1) := ⟨_, rfl, owns_of_lies (Nat.le_refl _) L1 (Nat.zero_le _) g2 g3 (by simp [cells]), b1⟩
    have i1 : ¬ (n : Int) < 0 := by omega
    have i2 : 0 < (n : Int) := by omega
    have i3 : c1 ≤ 9223372036854775807 := by unfold maxLen at g2; exact g2
    clear L1 g2 g3 b1 h0
    go_enter Tryz.func208, Tryz.ntmps208
    go_wp2_with (at_builtin; go_must (refine Lib.wpList_append_run _ rfl _ _ _ _ rfl _ _ rfl rfl _ _ r1 ?_))
    go_ret
    exact HE.out

/-- the pairs of a slice that is some call's own -/
def Own (w : World) (v : Value) (l : List Entry) : Prop := ∃ B, w.ownsRow B 38 2 v l.length (cells l)
def Owns (w : World) (vs : List Value) (r : List (List Entry)) : Prop := vs.length = r.length ∧ ∀ (i : Nat) (v : Value) (l : List Entry), vs[i]? = some v → r[i]? = some l → Own w v l
theorem Own.kept {S : Nat → Prop} {w w' : World} {v : Value} {l : List Entry} (h : Own w v l) (k : Kept S w w') (hS : ∀ i, v.ownBlock = some i → ¬ S i) : Own w' v l := by
  obtain ⟨B, h⟩ := h
  exact ⟨B, owns_kept h k hS⟩
theorem Own.below {w w' : World} {v : Value} {l : List Entry} (h : Own w v l) (b : Below w.heap.size w w') : Own w' v l := h.kept (Kept.of_below (fun _ => False) b) fun _ _ q => q
theorem Owns.below {w w' : World} {vs : List Value} {r : List (List Entry)} (h : Owns w vs r) (b : Below w.heap.size w w') : Owns w' vs r := ⟨h.1, fun i v l h1 h2 => (h.2 i v l h1 h2).below b⟩
theorem Owns.nil (w : World) : Owns w [] [] := ⟨rfl, fun i v l h => by simp at h⟩
theorem total_flat (r : List (List Entry)) : r.flatten.length = total r := rfl
theorem total_next (r : List (List Entry)) {k : Nat} {l : List Entry} (h : r[k]? = some l) : total (r.take (k + 1)) = total (r.take k) + l.length := by
  obtain ⟨hk, rfl⟩ := List.getElem?_eq_some_iff.1 h
  rw [← total_flat, ← total_flat, List.take_succ_eq_append_getElem hk, List.flatten_append, List.length_append]
  simp
theorem flat_next (r : List (List Entry)) {k : Nat} {l : List Entry} (h : r[k]? = some l) : (r.take (k + 1)).flatten = (r.take k).flatten ++ l := by
  obtain ⟨hk, rfl⟩ := List.getElem?_eq_some_iff.1 h
  rw [List.take_succ_eq_append_getElem hk, List.flatten_append]
  simp

set_option maxHeartbeats 4000000 in
set_option maxRecDepth 100000 in
theorem concat_any (vs : List Value) (r : List (List Entry)) (a : Option Addr) (n cap : Nat) (w : World) (hr : Row w a n cap vs) (ho : Owns w vs r) (hn : n ≤ 1000000) (ht : total r ≤ 1000000) :
    Calls Tryz.prog 198 #[.slice a n cap] w fun e w' => Fresh r.flatten w e w' := by
  obtain ⟨i0, hi0, hz0, hz1, hz2⟩ := info_parts infoE
  have hvl : vs.length = n := hr.1
  have HR : Hid (Row w a n cap vs) := hr
  have HO : Hid (Owns w vs r) := ho
  have HN : Hid (vs.length = n ∧ r.length = n) := ⟨hvl, by rw [← ho.1]; exact hvl⟩
  have HT : Hid (∀ k, total (r.take k) ≤ 1000000) := fun k => Nat.le_trans (total_take r k) ht
  clear hr ho hvl ht
  go_enter Tryz.func198, Tryz.ntmps198
  go_upto_region 3 with fail
  go_loopw [3, 5, 11] (fun sv _ kv wr => ∃ k s : Nat, k ≤ n ∧ s ≤ 1000000 ∧ kv = .int .i64 (k : Int) ∧ sv = .int .i64 (s : Int) ∧ Hid (s = total (r.take k)) ∧ w = wr) (fun _ _ kv _ => n - (intOf kv).toNat)
  case atStart => exact ⟨0, 0, Nat.zero_le _, Nat.zero_le _, rfl, rfl, rfl, rfl⟩
  case round =>
    obtain ⟨k, s, hk, hs, rfl, rfl, HS, rfl⟩ := hrel
    by_cases hlt : k < n
    · have i1 : (k : Int) < (n : Int) := by omega
      obtain ⟨v, hv⟩ : ∃ v, vs[k]? = some v := ⟨vs[k]'(by have := HN.out; omega), List.getElem?_eq_getElem _⟩
      obtain ⟨l, hl⟩ : ∃ l, r[k]? = some l := ⟨r[k]'(by have := HN.out; omega), List.getElem?_eq_getElem _⟩
      obtain ⟨B, hown⟩ := HO.out.2 k v l hv hl
      obtain ⟨b1, off1, rfl, _⟩ := HR.out.2.2 (by omega)
      have c0 := HR.out.at k v hv
      obtain ⟨av, cv, rfl, hw⟩ := Wides.owns_wide hown
      obtain ⟨S, hS⟩ : ∃ S : Nat, S = s + l.length := ⟨_, rfl⟩
      have HS2 : Hid (S = total (r.take (k + 1))) := by show S = _; rw [total_next r hl, hS, HS.out]
      have hS6 : S ≤ 1000000 := by rw [HS2.out]; exact HT.out _
      generalize l.length = N at *
      have e1 : (s : Int) + (N : Int) = (S : Int) := by omega
      have w1 : IntKind.i64.wrap (S : Int) = (S : Int) := by rw [IntKind.wrap_i64]; omega
      have i2 : ¬ (S : Int) < 0 := by omega
      clear hv hl hown hw hS
      go_wp2_with fail
      go_roundw
      case rel => exact ⟨k + 1, S, by omega, hS6, by go_num, rfl, HS2, trivial⟩
      case measure => simp [intOf]; omega
    · obtain rfl : k = n := by omega
      have i1 : ¬ (k : Int) < (k : Int) := by omega
      have cG := grow_any s w hs
      go_upto_region 10 with (go_at_call 208; refine cG.mono ?_; rintro e w1 ⟨v1, rfl, o1, b1⟩)
      go_upto_region 11 with fail
      go_loopw [6, 8, 27] (fun av _ kv wr => ∃ j : Nat, j ≤ k ∧ kv = .int .i64 (j : Int) ∧ Hid (wr.ownsRow w.heap.size 38 2 av (r.take j).flatten.length (cells (r.take j).flatten)) ∧ Hid (Below w.heap.size w wr)) (fun _ _ kv _ => k - (intOf kv).toNat)
      case atStart => exact ⟨0, Nat.zero_le _, rfl, o1, b1⟩
      clear o1 b1 cG HS
      case round =>
        obtain ⟨j, hj, rfl, HOw, HB⟩ := hrel
        by_cases hlt2 : j < k
        · have i2 : (j : Int) < (k : Int) := by omega
          obtain ⟨v, hv⟩ : ∃ v, vs[j]? = some v := ⟨vs[j]'(by have := HN.out; omega), List.getElem?_eq_getElem _⟩
          obtain ⟨l, hl⟩ : ∃ l, r[j]? = some l := ⟨r[j]'(by have := HN.out; omega), List.getElem?_eq_getElem _⟩
          obtain ⟨B, hown⟩ := (HO.out.below HB.out).2 j v l hv hl
          obtain ⟨b1, off1, rfl, _⟩ := HR.out.2.2 (by omega)
          have c0 := (HR.out.below HB.out).at j v hv
          have HF : Hid ((r.take (j + 1)).flatten = (r.take j).flatten ++ l) := flat_next r hl
          have hT := HT.out (j + 1)
          rw [total_next r hl, ← total_flat] at hT
          have HNX : Hid (∀ (v1 : Value) (wn : World), wn.ownsRow w.heap.size 38 2 v1 ((r.take j).flatten.length + l.length) (cells (r.take j).flatten ++ cells l) → wn.ownsRow w.heap.size 38 2 v1 (r.take (j + 1)).flatten.length (cells (r.take (j + 1)).flatten)) := fun v1 wn o => by
            rw [HF.out, List.length_append, cells_append]
            exact o
          have HBG : Hid (∀ (wn : World) (u : Option Nat), wr.grownBy wn u → (∀ k, u = some k → w.heap.size ≤ k) → Below w.heap.size w wn) := fun wn u gr hu => (HB.out).grown gr HB.out.size hu
          have HFar : Hid (∀ k, Value.ownBlock u6 = some k → w.heap.size ≤ k) := fun k hk => (HOw.out.lt k hk).1
          generalize hM : (r.take j).flatten = m at *
          clear hv hl HF hM
          rcases hown.2 with ⟨rfl, h0⟩ | ⟨g, cv, cur, rfl, _⟩
          · -- nil
            have h00 : l = [] := List.length_eq_zero_iff.1 h0
            subst h00
            have HN2 := HNX.out u6 wr (by simpa [cells] using HOw.out)
            have HN3 : Hid (wr.ownsRow w.heap.size 38 2 u6 (r.take (j + 1)).flatten.length (cells (r.take (j + 1)).flatten)) := HN2
            clear HN2 HNX h0 hown
            go_wp2_with (at_builtin; go_must (refine wpList_append_own_none rfl (.tmp 31) (.tmp 32) 22 rfl w.heap.size 38 i0 2 Tryz.underlying22 hi0 _ _ _ rfl HOw.out rfl ?_))
            go_roundw
            case rel => exact ⟨j + 1, by omega, by go_num, HN3, HB⟩
            case measure => simp [intOf]; omega
          · have hnews : Hid (∀ i u, (cells l)[i]? = some u → wr.cell? ((⟨g, 0, none⟩ : Addr).add i) = some u) := fun i u hi => by
              rw [WideCopy.add_at, Nat.zero_add]
              have hil := (List.getElem?_eq_some_iff.1 hi).1
              rw [cells_length] at hil
              rw [hown.cellAt i hil]
              exact hi
            have HCL : Hid ((cells l).length = l.length * 2) := cells_length l
            have HB0 := HB.out.size
            generalize hLL : l.length = L at *
            generalize hML : m.length = ML at *
            clear hown
            go_wp2_with (at_builtin; go_must (refine wpList_append_own _ rfl (.tmp 31) (.tmp 32) 22 rfl w.heap.size 38 i0 (.agg #[.int .i64 0, .string ⟨#[]⟩]) 2 24 Tryz.underlying22 hi0 hz0 hz1 hz2 rfl (by decide) _ _ _ rfl HOw.out ⟨g, 0, none⟩ L cv (cells l) rfl HCL.out hnews.out (ones l) (by unfold maxLen; omega) (by omega) HB0 ?_); intro v1 wn o1 g1 z1; clear z1; have HO1 : Hid (wn.ownsRow w.heap.size 38 2 v1 (r.take (j + 1)).flatten.length (cells (r.take (j + 1)).flatten)) := HNX.out _ _ o1; have HB1 : Hid (Below w.heap.size w wn) := HBG.out _ _ g1 HFar.out; clear o1 g1)
            go_roundw
            case rel => exact ⟨j + 1, by omega, by go_num, HO1, HB1⟩
            case measure => simp [intOf]; omega
        · obtain rfl : j = k := by omega
          have i2 : ¬ (j : Int) < (j : Int) := by omega
          have HE : Hid (wr.ownsRow w.heap.size 38 2 u6 r.flatten.length (cells r.flatten)) := by
            have h := HOw.out
            rw [List.take_of_length_le (by have := HN.out; omega)] at h
            exact h
          clear HOw
          go_wp2_with fail
          go_ret
          exact ⟨u6, rfl, HE.out, HB.out⟩

theorem clone_any (l : List Entry) (a : Option Addr) (n cap : Nat) (w : World) (hn : n ≤ 3000000) (hr : Wide 2 w a n cap (cells l)) :
    Calls Tryz.prog 84 #[.slice a n cap] w fun e w' => ∃ v, e = .returned v ∧ w'.ownsRow w.heap.size 38 2 v n (cells l) ∧ Below w.heap.size w w' := by
  obtain ⟨i0, hi, hz0, hz1, hz2⟩ := info_parts infoE
  have hln : (cells l).length = n * 2 := hr.1
  cases a with
  | none =>
    have hn0 : n = 0 := by
      rcases Nat.eq_zero_or_pos n with h | h
      · exact h
      · obtain ⟨_, _, h, _⟩ := hr.2.2 h; cases h
    subst hn0
    have e0 : cells l = [] := List.eq_nil_of_length_eq_zero hln
    rw [e0]
    clear hr hln
    have q : ∀ (w : World), (binOp .eql 22 (.slice none 0 cap) (.slice none 0 0)).run Tryz.prog w = .ok (.bool true) w := fun w => Lib.run_eql_slice_nil w _ _ none 0 cap 0 0 Tryz.underlying22
    go_enter Tryz.func84, Tryz.ntmps84
    go_wp2_with fail
    go_ret
    exact ⟨_, rfl, World.ownsRow_nil _ _ _ _, Below.refl _ _⟩
  | some p =>
    have hcell : ∀ j u, (cells l)[j]? = some u → (w.alloc (.cells #[] 38)).cell? (p.add j) = some u := by
      intro j u hj
      have hj' : j < n * 2 := by rw [← hln]; exact (List.getElem?_eq_some_iff.1 hj).1
      obtain ⟨b, off, hp, hc⟩ := hr.2.2 (by omega)
      obtain rfl : p = ⟨b, off, none⟩ := by simpa using hp
      have h1 := hc j u hj
      rw [show (⟨b, off, none⟩ : Addr).add j = ⟨b, off + j, none⟩ by (unfold Addr.add; split <;> simp_all)]
      rw [World.cell?_alloc_lt _ _ ⟨b, off + j, none⟩ (Lists.block_lt h1)]
      exact h1
    have HC : Hid (∀ j u, (cells l)[j]? = some u → (w.alloc (.cells #[] 38)).cell? (p.add j) = some u) := hcell
    have HO : Hid (∀ u ∈ cells l, u.oneCell' = true) := ones l
    clear hcell hr
    have q : ∀ (w : World), (binOp .eql 22 (.slice (some p) n cap) (.slice none 0 0)).run Tryz.prog w = .ok (.bool false) w := fun w => Lib.run_eql_slice_nil w _ _ (some p) n cap 0 0 Tryz.underlying22
    have hm : (w.alloc (.cells #[] 38)).ownsRow w.heap.size 38 2 (.slice (some ⟨w.heap.size, 0, none⟩) 0 0) 0 [] := World.ownsRow_made w #[] 0 (Nat.le_refl _) (Nat.zero_le _) rfl
    go_enter Tryz.func84, Tryz.ntmps84
    go_wp2_with (at_builtin; go_must (refine wpList_append_own _ rfl (.tmp 5) (.tmp 6) 22 rfl w.heap.size 38 i0 (.agg #[.int .i64 0, .string ⟨#[]⟩]) 2 24 Tryz.underlying22 hi hz0 hz1 hz2 rfl (by decide) _ _ _ rfl hm p n cap (cells l) rfl (by omega) HC.out HO.out (by unfold maxLen; omega) (by omega) (by simp) ?_); intro v1 w1 o1 g1 _)
    have b1 : Below w.heap.size w w1 := ((Below.refl _ w).alloc (Nat.le_refl _) _).grown g1 (by simp) (fun k hk => (hm.lt k hk).1)
    rw [Nat.zero_add, List.nil_append] at o1
    clear g1 HC hm
    go_wp2_with fail
    go_ret
    exact ⟨_, rfl, o1, b1⟩

end Go.Proofs.YticadkggaanbjaaGreatDoor.WalkMiLists
