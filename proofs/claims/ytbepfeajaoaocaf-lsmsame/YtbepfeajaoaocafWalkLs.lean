/-
  What package lsm tells of an Lsm: All, Tables, Get.
-/
import Derived.Test.YtbepfeajaoaocafWalkLsPut
import Derived.Deep.RegionHeld3
namespace Go.Proofs.Ytbepfeajaoaocaf.WalkLs
open Go.RowKit
open Lists (Row bt strs)
open Keeps (Kept owns_kept owns_base)
open Wides (Wide)
open Stores (Pair find)
open PairRows (cells)
open Lsms (Lsm total live getLV getLE)
open WalkConcat (Fresh Own Owns)
open WalkStoSet (St)
open WalkTab (TbF Tb)
open Errs (errv errv0 errv_pos)
open Nums (str)

/-! all that one can get -/
/-- the young ones put ahead of the levels -/
theorem told_cons {r : List (List Pair)} {w w1 w2 w3 : World} {v v2 v3 : Value} {vs : List Value} {l : List Pair} (h : Told r w v vs w1) (b2 : Below w1.heap.size w1 w2) (o2 : w2.ownsRow w1.heap.size 38 3 v2 l.length (cells l))
    (o3 : w3.ownsRow w.heap.size 23 1 v3 (vs.length + 1) (vs.take 0 ++ [v2] ++ vs.drop 0)) (k3 : Kept (fun k => v.ownBlock = some k) (w2.alloc (.cells #[v2] 23)) w3) :
    w3.ownsRow w.heap.size 23 1 v3 (v2 :: vs).length (v2 :: vs) ∧ Owns w3 (v2 :: vs) (l :: r) ∧ Below w.heap.size w w3 := by
  obtain ⟨h1, h2, h3, h4⟩ := h
  have b6 : Below w1.heap.size w1 (w2.alloc (.cells #[v2] 23)) := b2.alloc b2.size _
  have hv6 := owns_kept h1 (Kept.of_below (fun _ => False) b6) fun _ _ q => q
  have hu6 : (w2.alloc (.cells #[v2] 23)).ownsRow w1.heap.size 38 3 v2 l.length (cells l) := o2.alloc _
  have h26 := h2.below b6
  refine ⟨o3, ⟨by simp [h2.1], fun i v' l' q1 q2 => ?_⟩, h4.trans (Below.trans (b6.mono h4.size) (k3.below (fun i hi => (h1.lt i hi).1) (Nat.le_trans h4.size b6.size)))⟩
  have hown : Own (w2.alloc (.cells #[v2] 23)) v' l' := by
    cases i with
    | zero =>
      obtain rfl : v2 = v' := by simpa using q1
      obtain rfl : l = l' := by simpa using q2
      exact ⟨_, hu6⟩
    | succ i => exact h26.2 i v' l' (by simpa using q1) (by simpa using q2)
  refine hown.kept k3 fun j hj => ?_
  obtain ⟨B', ho⟩ := hown
  exact own_apart ho hv6 (by decide) j hj

theorem ins_lev {r : List (List Pair)} {w w1 w2 : World} {v v2 : Value} {vs : List Value} {l : List Pair} (h : Told r w v vs w1) (b2 : Below w1.heap.size w1 w2) (o2 : w2.ownsRow w1.heap.size 38 3 v2 l.length (cells l)) (hf : vs.length ≤ 1000) :
    Calls Try.prog 31 #[v, .int .i64 0, .slice (some ⟨w2.heap.size, 0, none⟩) 1 1] (w2.alloc (.cells #[v2] 23)) fun e w3 => ∃ v3, e = .returned v3 ∧ w3.ownsRow w.heap.size 23 1 v3 (v2 :: vs).length (v2 :: vs) ∧ Owns w3 (v2 :: vs) (l :: r) ∧ Below w.heap.size w w3 := by
  have hone : v2.oneCell' = true := by
    rcases o2.2 with ⟨rfl, _⟩ | ⟨g, c, cur, rfl, _⟩ <;> rfl
  have b6 : Below w1.heap.size w1 (w2.alloc (.cells #[v2] 23)) := b2.alloc b2.size _
  have hv6 := owns_kept h.1 (Kept.of_below (fun _ => False) b6) fun _ _ q => q
  have hs1 := h.2.2.2.size
  have hs2 := b2.size
  refine (WalkIns1.insertLev vs v2 v w.heap.size w2.heap.size 0 (w2.alloc (.cells #[v2] 23)) hv6 (Nat.zero_le _) hf (heap_alloc_new w2 _) hone h.2.2.1 (fun e => ?_) (by simp; omega)).mono ?_
  · have := (h.1.lt _ e).2
    omega
  · rintro e w3 ⟨v3, rfl, o3, k3, _⟩
    exact ⟨v3, rfl, told_cons h b2 o2 o3 k3⟩

set_option maxHeartbeats 4000000 in
set_option maxRecDepth 100000 in
theorem all_any {w : World} {B b : Nat} {F : Nat → Prop} {x : Lsm} (h : Ls w B b F x) (hs : x.size ≤ 10000) :
    Calls Try.prog 18 #[.pointer (some ⟨b, 0, none⟩)] w fun e w' => ∃ v, e = .returned v ∧ w'.ownsRow w.heap.size 38 3 v x.all.length (cells x.all) ∧ Below w.heap.size w w' := by
  obtain ⟨yb, Y, T, tv, ts, hl, _⟩ := h
  have hfew := hl.right.few
  have htl := hl.each.1
  have HL : Hid (∀ w1, Below w.heap.size w w1 → Lay w1 B b x yb Y T tv ts) := fun w1 b1 => hl.below b1
  have HC1 : Hid (∀ w1, Below w.heap.size w w1 → w1.cell? ⟨b, 1, none⟩ = some (.pointer (some ⟨yb, 0, none⟩))) := fun w1 b1 => (hl.below b1).row.cell (i := 1) (by omega)
  have c1 : w.cell? ⟨b, 1, none⟩ = some (.pointer (some ⟨yb, 0, none⟩)) := hl.row.cell (i := 1) (by omega)
  have c1d : w.drew.cell? ⟨b, 1, none⟩ = some (.pointer (some ⟨yb, 0, none⟩)) := c1
  have HA : Hid (∀ w1, Below w.heap.size w w1 → Calls Try.prog 21 #[.pointer (some ⟨b, 0, none⟩)] w1 fun e w' => ∃ v vs, e = .returned v ∧ Told x.levels w1 v vs w') := fun w1 b1 => levels_any (hl.below b1) (by omega)
  have HY : Hid (∀ w1, Below w.heap.size w w1 → Calls Try.prog 15 #[.pointer (some ⟨yb, 0, none⟩)] w1 fun e w' => ∃ v, e = .returned v ∧ w'.ownsRow w1.heap.size 38 3 v x.young.length (cells x.young) ∧ Below w1.heap.size w1 w') := fun w1 b1 => WalkSto.all_any (hl.below b1).young
  have HT : Hid (total (x.young :: x.levels) ≤ 1000000) := by show total _ ≤ _; unfold Lsm.size at hs; simp only [Lsms.total]; omega
  have HFW : Hid (x.levels.length ≤ 8) := hfew
  clear hl hfew htl
  go_enter Try.func18, Try.ntmps18
  go_upto_region 1 with fail
  go_region_held3 (fun w' => w'.cell? ⟨b, 1, none⟩ = some (.pointer (some ⟨yb, 0, none⟩))) (first | exact s1 | go_keep)
    (first | (go_at_call 21; refine (HA.out _ (Below.refl _ _).drew).mono ?_; rintro e w1 ⟨v1, vs, rfl, ht⟩; have HT1 : Hid (Told x.levels w.drew v1 vs w1) := ht; have HB1 : Hid (Below w.heap.size w w1) := bt (Below.refl _ w).drew ht.2.2.2; have s1 := HC1.out _ HB1.out; obtain ⟨a1, cp1, rfl, q1⟩ := Keeps.owns_row ht.1; clear q1 ht) | (go_at_call 15; refine (HY.out _ HB1.out).mono ?_; rintro e w2 ⟨v2, rfl, o2, b2⟩; have HB2 : Hid (Below w.heap.size w w2) := bt HB1.out b2; have s1 := HC1.out _ HB2.out; have H2 : Hid (Below w1.heap.size w1 w2 ∧ w2.ownsRow w1.heap.size 38 3 v2 x.young.length (cells x.young)) := ⟨b2, o2⟩; obtain ⟨a2, cp2, rfl, q2⟩ := Wides.owns_wide o2; clear q2 o2 b2) | (go_at_call 31; refine (ins_lev HT1.out H2.out.1 H2.out.2 (by have h7 := HT1.out.2.1.1; have h8 := HFW.out; omega)).mono ?_; rintro e w3 ⟨v3, rfl, o3, ow3, b3⟩; have HB3 : Hid (Below w.heap.size w w3) := bt (Below.refl _ w).drew b3; have s1 := HC1.out _ HB3.out; obtain ⟨a3, cp3, rfl, hr3, _⟩ := Keeps.owns_row o3; have H3 : Hid (Row w3 a3 (Value.slice a2 x.young.length cp2 :: vs).length cp3 (Value.slice a2 x.young.length cp2 :: vs) ∧ Owns w3 (Value.slice a2 x.young.length cp2 :: vs) (x.young :: x.levels)) := ⟨hr3, ow3⟩; clear o3 ow3 b3 hr3) | (go_at_call 27; refine (WalkLiving.living_any _ _ _ _ _ _ H3.out.1 H3.out.2 (by have h7 := HT1.out.2.1.1; have h8 := HFW.out; simp only [List.length_cons]; omega) HT.out).mono ?_; rintro e w4 ⟨v4, rfl, o4, b4⟩; have HB4 : Hid (Below w.heap.size w w4) := bt HB3.out b4; have s1 := HC1.out _ HB4.out; have HO4 : Hid (w4.ownsRow w.heap.size 38 3 v4 x.all.length (cells x.all)) := owns_base o4 HB3.out.size; clear o4 b4))
  go_wp2_with fail
  go_ret
  exact ⟨v4, rfl, HO4.out, HB4.out⟩

/-! the tables, as bytes -/
theorem infoStr : (Try.prog.info? 9).map (fun i => (i.zero, i.size, i.bytes)) = some (some (.string ⟨#[]⟩), 1, 16) := by kernel_rfl
def texts (r : List (List Pair)) : List ByteArray := r.map fun l => str (Tabs.table l)
theorem texts_next {r : List (List Pair)} {k : Nat} {l : List Pair} (h : r[k]? = some l) : texts (r.take (k + 1)) = texts (r.take k) ++ [str (Tabs.table l)] := by
  obtain ⟨hk, rfl⟩ := List.getElem?_eq_some_iff.1 h
  unfold texts
  rw [List.take_succ_eq_append_getElem hk, List.map_append]
  rfl
theorem strs_append (a b : List ByteArray) : strs (a ++ b) = strs a ++ strs b := List.map_append ..

set_option maxHeartbeats 4000000 in
set_option maxRecDepth 100000 in
theorem tables_any {w : World} {B b : Nat} {F : Nat → Prop} {x : Lsm} (h : Ls w B b F x) (hs : x.size ≤ 10000) :
    Calls Try.prog 7 #[.pointer (some ⟨b, 0, none⟩)] w fun e w' => ∃ v, e = .returned v ∧ w'.ownsRow w.heap.size 9 1 v x.levels.length (strs (x.levels.map fun l => str (Tabs.table l))) ∧ Below w.heap.size w w' := by
  obtain ⟨i0, hi, hz0, hz1, hz2⟩ := info_parts infoStr
  obtain ⟨yb, Y, T, tv, ts, hl, _⟩ := h
  have hright := hl.right
  have hfew := hright.few
  have htl := hl.each.1
  have cL := levels_any hl (by omega)
  have HP : Hid (∀ l ∈ x.levels, Tabs.pairsE l = 0 ∧ l.length ≤ 10000) := fun l hl2 => ⟨LsmFines.pairs_of (hright.levels l hl2).1 (hright.levels l hl2).2, by
    have := LsmFines.total_mem hl2
    unfold Lsm.size at hs
    omega⟩
  generalize hN : x.levels.length = N at *
  have HN : Hid (x.levels.length = N) := hN
  have HG : Hid (N ≤ 8) := hfew
  clear hl hright htl hN
  go_enter Try.func7, Try.ntmps7
  go_upto_region 1 with fail
  go_wp2_with fail
  refine cL.mono ?_
  rintro e w1 ⟨v1, vs, rfl, ht⟩
  obtain ⟨a1, cp1, rfl, hr1, _⟩ := Keeps.owns_row ht.1
  have hvl : vs.length = N := by rw [ht.2.1.1]; exact HN.out
  have HR1 : Hid (Row w1 a1 N cp1 vs) := by rw [← hvl]; exact hr1
  have HO1 : Hid (Owns w1 vs x.levels) := ht.2.1
  have HB1 : Hid (Below w.heap.size w w1) := ht.2.2.2
  have HVL : Hid (vs.length = N) := hvl
  clear cL ht hr1
  rw [hvl]
  clear hvl
  go_upto_region 2 with fail
  go_loopw [2, 4, 5, 6, 10] (fun v _ _ _ kv wr => ∃ k : Nat, k ≤ N ∧ kv = .int .i64 (k : Int) ∧ Hid (wr.ownsRow w1.heap.size 9 1 v k (strs (texts (x.levels.take k)))) ∧ Hid (Below w1.heap.size w1 wr)) (fun _ _ _ _ kv _ => N - (intOf kv).toNat)
  case atStart => exact ⟨0, Nat.zero_le _, rfl, World.ownsRow_nil _ _ _ _, Below.refl _ _⟩
  case round =>
    obtain ⟨k, hk, rfl, HO, HB⟩ := hrel
    by_cases hlt : k < N
    · have i1 : (k : Int) < (N : Int) := by omega
      obtain ⟨v, hv⟩ : ∃ v, vs[k]? = some v := ⟨vs[k]'(by have := HVL.out; omega), List.getElem?_eq_getElem _⟩
      obtain ⟨l, hl⟩ : ∃ l, x.levels[k]? = some l := ⟨x.levels[k]'(by have := HN.out; omega), List.getElem?_eq_getElem _⟩
      obtain ⟨hp0, hll⟩ := HP.out l (List.mem_of_getElem? hl)
      obtain ⟨B', hown⟩ := (HO1.out.below HB.out).2 k v l hv hl
      obtain ⟨b1, off1, rfl, _⟩ := HR1.out.2.2 (by omega)
      have c0 := (HR1.out.below HB.out).at k v hv
      obtain ⟨av, cv, rfl, hw⟩ := Wides.owns_wide hown
      have cB := WalkTab.build_any l av l.length cv wr hw (fun e he => by have := (Tabs.pairs_ok hp0).1 e he; unfold maxLen; omega) (by omega)
      have hbv : Tabs.buildV l = Tabs.table l := if_pos hp0
      rw [hp0, errv0, hbv] at cB
      have HNX : Hid (strs (texts (x.levels.take (k + 1))) = strs (texts (x.levels.take k)) ++ [.string (str (Tabs.table l))]) := by show _ = _; rw [texts_next hl, strs_append]; rfl
      generalize str (Tabs.table l) = S at cB HNX
      have HBs : Hid (w.heap.size ≤ wr.heap.size) := Nat.le_trans HB1.out.size HB.out.size
      clear hv hl hp0 hown hw hbv
      go_wp2_with fail
      refine cB.mono ?_
      rintro e w5 ⟨rfl, b5⟩
      have HO5 : Hid (w5.ownsRow w1.heap.size 9 1 u2 k (strs (texts (x.levels.take k)))) := owns_kept HO.out (Kept.of_below (fun _ => False) b5) fun _ _ q => q
      have HB5 : Hid (Below w1.heap.size w1 w5) := bt HB.out b5
      have HBs5 : Hid (w1.heap.size ≤ w5.heap.size) := HB5.out.size
      have HF5 : Hid (∀ j, Value.ownBlock u2 = some j → w1.heap.size ≤ j) := fun j hj => (HO.out.lt j hj).1
      have HFF : Hid (∀ wn, (w5.alloc (.cells #[.string S] 9)).grownBy wn u2.ownBlock → Below w1.heap.size w1 wn) := fun wn gr => (HB5.out.alloc HBs5.out _).grown gr (by have := HBs5.out; simp; omega) HF5.out
      clear cB b5 HO HB
      go_wp2_with (at_builtin; go_must (refine wpList_append_own _ rfl (.tmp 19) (.tmp 21) 31 rfl w1.heap.size 9 i0 (.string ⟨#[]⟩) 1 16 Try.underlying31 hi hz0 hz1 hz2 rfl (by decide) _ _ _ rfl (HO5.out.alloc _) ⟨_, 0, none⟩ 1 1 [.string S] rfl rfl (cell_one_new _ _ _) (fun u hu => by rw [List.mem_singleton.1 hu]; rfl) (by have := HG.out; unfold maxLen; omega) (by have := HG.out; omega) (by have := HBs5.out; simp; omega) ?_); intro v1 wn o1 g1 z1; clear z1; have HO6 : Hid (wn.ownsRow w1.heap.size 9 1 v1 (k + 1) (strs (texts (x.levels.take (k + 1))))) := (by show World.ownsRow _ _ _ _ _ _ _; rw [HNX.out]; exact o1); have HB6 : Hid (Below w1.heap.size w1 wn) := HFF.out wn g1; clear o1 g1)
      go_roundw
      case rel => exact ⟨k + 1, by omega, by go_num, HO6, HB6⟩
      case measure => simp [intOf]; omega
    · obtain rfl : k = N := by omega
      have i1 : ¬ (k : Int) < (k : Int) := by omega
      have HE : Hid (wr.ownsRow w.heap.size 9 1 u2 k (strs (x.levels.map fun l => str (Tabs.table l))) ∧ Below w.heap.size w wr) := by
        have h := HO.out
        rw [List.take_of_length_le (by have := HN.out; omega)] at h
        exact ⟨owns_base h HB1.out.size, bt HB1.out HB.out⟩
      clear HO HB
      go_wp2_with fail
      go_ret
      exact ⟨u2, rfl, HE.out⟩

/-! the youngest of a key -/
theorem hasKey_any (x0 x1 : ByteArray) (x2 : Bool) (key : ByteArray) (kb : Nat) (w : World) (hc : w.cell? ⟨kb, 0, none⟩ = some (.string key)) : Calls Try.prog 38 #[.agg #[.string x0, .string x1, .bool x2], .pointer (some ⟨kb, 0, none⟩)] w fun e w' => e = .returned (.bool (decide (x0 = key))) ∧ Below w.heap.size w w' := by
  have b0 : Below w.heap.size w (w.alloc (.cells #[.string x0, .string x1, .bool x2] 38)) := (Below.refl _ _).alloc (Nat.le_refl _) _
  have c0 : (w.alloc (.cells #[.string x0, .string x1, .bool x2] 38)).cell? ⟨kb, 0, none⟩ = some (.string key) := Lists.cell_below b0 hc
  clear hc
  go_enter Try.func38, Try.ntmps38
  go_wp2_with fail
  go_ret
  exact ⟨by rw [WalkCompact.list_eq]; rfl, b0⟩
theorem find_index {l : List Pair} {key : ByteArray} {i : Nat} {p : Pair} (h : l[i]? = some p) (ha : ∀ q ∈ l.take i, decide (q.key = key) = false) (hp : decide (p.key = key) = true) : find l key = some p := by
  obtain ⟨hi, rfl⟩ := List.getElem?_eq_some_iff.1 h
  exact Stores.find_at i hi (fun q hq => of_decide_eq_false (ha q hq)) (of_decide_eq_true hp)
theorem look_next {r : List (List Pair)} {key : ByteArray} {k : Nat} {l : List Pair} (hl : r[k]? = some l) (h : Lsms.look (r.take k) key = none) : Lsms.look (r.take (k + 1)) key = find l key := by
  obtain ⟨hk, rfl⟩ := List.getElem?_eq_some_iff.1 hl
  rw [List.take_succ_eq_append_getElem hk, ← Blocks.look_flat, List.flatten_append, Blocks.find_append, Blocks.look_flat, h]
  simp
theorem look_some {r : List (List Pair)} {key : ByteArray} {k : Nat} {p : Pair} (h : Lsms.look (r.take k) key = some p) : Lsms.look r key = some p := by
  have e : r = r.take k ++ r.drop k := (List.take_append_drop ..).symm
  rw [e, ← Blocks.look_flat, List.flatten_append, Blocks.find_append, Blocks.look_flat, h]
  rfl
theorem ret_youngest {w : World} {g : Nat} {x y z : Value} (tmps : Array Value) (hp : tmps.getD 4 undef = .pointer (some ⟨g, 0, none⟩)) (h0 : w.cell? ⟨g, 0, none⟩ = some x) (h1 : w.cell? ⟨g, 1, none⟩ = some y) (h2 : w.cell? ⟨g, 2, none⟩ = some z) :
    (results Try.f23 tmps).run Try.prog w = .ok (.tuple #[.agg #[x, y, z], tmps.getD 5 undef]) w := by
  have hl := run_loadVar_mid (P := Try.prog) w g 0 38 [x, y, z] _ (fun j v hv => by match j, hv with | 0, hv => simp at hv; subst hv; simpa using h0 | 1, hv => simp at hv; subst hv; simpa using h1 | 2, hv => simp at hv; subst hv; simpa using h2) Try.underlying38 rfl (by kernel_rfl)
  rw [results_cell_tmp rfl, hp]
  simp [asAddr, hl, Result.andThen]
/-- what is told of a key -/
def Tells (o : Option Pair) (w : World) (e : Ending) (w' : World) : Prop :=
  e = .returned (.tuple #[.agg #[.string (o.getD WalkDelete.zeroP).key, .string (o.getD WalkDelete.zeroP).val, .bool (o.getD WalkDelete.zeroP).gone], .bool o.isSome]) ∧ Below w.heap.size w w'

set_option maxHeartbeats 4000000 in
set_option maxRecDepth 100000 in
theorem youngest_any {w : World} {B b : Nat} {F : Nat → Prop} {x : Lsm} (h : Ls w B b F x) (key : ByteArray) :
    Calls Try.prog 23 #[.pointer (some ⟨b, 0, none⟩), .string key] w fun e w' => Tells (Lsms.look x.lists key) w e w' := by
  have a26 := WalkStoFind.aggP
  have z26 := WalkStoFind.sizeP
  obtain ⟨yb, Y, T, tv, ts, hl, _⟩ := h
  have hfew := hl.right.few
  have htl := hl.each.1
  have hy60 := hl.young.rising.2
  obtain ⟨ta, tc, htv, hrow, _⟩ := Keeps.owns_row hl.tabs
  have HL : Hid (∀ w1, Below w.heap.size w w1 → Lay w1 B b x yb Y T tv ts) := fun w1 b1 => hl.below b1
  have HR : Hid (Row w ta ts.length tc (ts.map ptr)) := hrow
  have HC : Hid (∀ w1, Below w.heap.size w w1 → w1.cell? ⟨b, 1, none⟩ = some (.pointer (some ⟨yb, 0, none⟩)) ∧ w1.cell? ⟨b, 2, none⟩ = some (.slice ta ts.length tc)) := fun w1 b1 => ⟨(hl.below b1).row.cell (i := 1) (by omega), by rw [← htv]; exact (hl.below b1).row.cell (i := 2) (by omega)⟩
  have HN : Hid (ts.length = x.levels.length ∧ ts.length ≤ 8) := ⟨htl, by omega⟩
  have HK : Hid (Lsms.look x.lists key = (find x.young key).or (Lsms.look x.levels key)) := rfl
  clear hl hfew htl htv hrow
  go_enter Try.func23, Try.ntmps23
  go_upto_region 1 with fail
  have HB1 : Hid (Below w.heap.size w ((w.alloc (.cells #[.string key] 9)).alloc (.cells #[.string ⟨#[]⟩, .string ⟨#[]⟩, .bool false] 38))) := ((Below.refl _ _).alloc (Nat.le_refl _) _).alloc (by simp) _
  have HZ : Hid (((w.alloc (.cells #[.string key] 9)).alloc (.cells #[.string ⟨#[]⟩, .string ⟨#[]⟩, .bool false] 38)).rowIs (w.heap.size + 1) 38 3 (fun j => if j = 0 then .string ⟨#[]⟩ else if j = 1 then .string ⟨#[]⟩ else .bool false)) := by
    have := WalkTabTake.zero_row (w.alloc (.cells #[.string key] 9))
    show World.rowIs _ _ _ _ _
    simpa using this
  have k0 : ((w.alloc (.cells #[.string key] 9)).alloc (.cells #[.string ⟨#[]⟩, .string ⟨#[]⟩, .bool false] 38)).cell? ⟨w.heap.size, 0, none⟩ = some (.string key) := by
    have h1 : (w.alloc (.cells #[.string key] 9)).cell? ⟨w.heap.size, 0, none⟩ = some (.string key) := by simp
    rw [World.cell?_alloc_lt _ _ _ (Lists.block_lt h1)]
    exact h1
  generalize (w.alloc (.cells #[.string key] 9)).alloc (.cells #[.string ⟨#[]⟩, .string ⟨#[]⟩, .bool false] 38) = w1 at HB1 HZ k0 ⊢
  obtain ⟨kb, HKb⟩ : ∃ kb, Hid (w.heap.size = kb) := ⟨_, rfl⟩
  obtain ⟨rb, HRb⟩ : ∃ rb, Hid (w.heap.size + 1 = rb) := ⟨_, rfl⟩
  rw [HRb.out] at HZ ⊢
  rw [HKb.out] at k0 ⊢
  have hkr : ¬ kb = rb := by have := HKb.out; have := HRb.out; omega
  obtain ⟨c1, c2⟩ := HC.out w1 HB1.out
  have cA := WalkSto.all_any (HL.out w1 HB1.out).young
  go_wp2_with fail
  refine cA.mono ?_
  rintro e w2 ⟨v2, rfl, o2, b2⟩
  obtain ⟨a2, cp2, rfl, hw2⟩ := Wides.owns_wide o2
  have HW2 : Hid (Wide 3 w2 a2 x.young.length cp2 (cells x.young)) := hw2
  have k2 := Lists.cell_below b2 k0
  have HB2 : Hid (Below w.heap.size w w2) := bt HB1.out b2
  have HZ2 : Hid (w2.rowIs rb 38 3 (fun j => if j = 0 then .string ⟨#[]⟩ else if j = 1 then .string ⟨#[]⟩ else .bool false)) := HZ.out.of_block (b2.block _ HZ.out.lt)
  have eg : Enters Try.prog 38 := enters_of Try.func38 (by kernel_rfl) rfl
  have cI := WalkDelete.index_any x.young a2 _ cp2 w2 hw2 (by omega) 38 #[.pointer (some ⟨kb, 0, none⟩)] eg (fun p => decide (p.key = key)) (fun p w3 b3 => hasKey_any p.key p.val p.gone key kb w3 (Lists.cell_below b3 k2))
  clear cA o2 b2 hw2 c1 c2 HZ HB1 eg
  go_wp2_with fail
  refine cI.mono ?_
  rintro e w3 ⟨hor, b3⟩
  have k3 := Lists.cell_below b3 k2
  have HB3 : Hid (Below w.heap.size w w3) := bt HB2.out b3
  have HZ3 : Hid (w3.rowIs rb 38 3 (fun j => if j = 0 then .string ⟨#[]⟩ else if j = 1 then .string ⟨#[]⟩ else .bool false)) := HZ2.out.of_block (b3.block _ HZ2.out.lt)
  have HW3 : Hid (Wide 3 w3 a2 x.young.length cp2 (cells x.young)) := HW2.out.below b3
  clear cI b3 HB2 HZ2 HW2 k0 k2
  have r0 := HZ3.out.cell (i := 0) (by omega)
  have r1 := HZ3.out.cell (i := 1) (by omega)
  have r2 := HZ3.out.cell (i := 2) (by omega)
  have f0 := HZ3.out.frozen 0
  have f1 := HZ3.out.frozen 1
  have f2 := HZ3.out.frozen 2
  have HSt : Hid (∀ (W : World) p q r, Below w.heap.size w W → Below w.heap.size w (((W.setCell ⟨rb, 0, none⟩ p).setCell ⟨rb, 1, none⟩ q).setCell ⟨rb, 2, none⟩ r)) := fun W p q r hb => by
    have := HRb.out
    exact ((hb.setCell (by show _ ≤ rb; omega) _).setCell (by show _ ≤ rb; omega) _).setCell (by show _ ≤ rb; omega) _
  rcases hor with ⟨i, p, hp, hah, hyes, rfl⟩ | ⟨hall, rfl⟩
  · have hO : Lsms.look x.lists key = some p := by
      have hf := find_index hp hah hyes
      rw [HK.out, hf]
      rfl
    have hil := (List.getElem?_eq_some_iff.1 hp).1
    obtain ⟨g, off, rfl, _⟩ := HW3.out.2.2 (by omega)
    obtain ⟨p0, p1, p2⟩ := PairRows.at_three (HW3.out) i hil
    have i1 : (i : Int) < (x.young.length : Int) := by omega
    have i2 : (0 : Int) ≤ (i : Int) := by omega
    rw [(List.getElem?_eq_some_iff.1 hp).2] at p0 p1 p2
    obtain ⟨xk, xv, xg⟩ := p
    simp only at p0 p1 p2
    have HE : Hid (∀ W, Below w.heap.size w W → Tells (Lsms.look x.lists key) w (.returned (.tuple #[.agg #[.string xk, .string xv, .bool xg], .bool true])) W) := fun W hb => ⟨by rw [hO]; rfl, hb⟩
    generalize x.young.length = N at *
    clear hp hah hyes hO HW3 HK
    go_wp2_with fail
    try simp only [Exit.inBlock, Exit.then]
    refine bodyPost_ret (ret_youngest _ rfl ((((HZ3.out.set 0 (.string xk)).set 1 (.string xv)).set 2 (.bool xg)).cell (i := 0) (by omega)) ((((HZ3.out.set 0 (.string xk)).set 1 (.string xv)).set 2 (.bool xg)).cell (i := 1) (by omega)) ((((HZ3.out.set 0 (.string xk)).set 1 (.string xv)).set 2 (.bool xg)).cell (i := 2) (by omega))) rfl ?_
    exact HE.out _ (HSt.out _ _ _ _ HB3.out)
  · have hO : find x.young key = none := Stores.find_none.2 fun q hq => of_decide_eq_false (hall q hq)
    have HO : Hid (Lsms.look x.lists key = Lsms.look x.levels key) := by show _ = _; rw [HK.out, hO]; rfl
    obtain ⟨d1, d2⟩ := HC.out w3 HB3.out
    generalize hTN : ts.length = N at *
    have hN8 : N ≤ 8 := HN.out.2
    clear hall hO HK HW3
    have HTN : Hid (ts.length = N) := hTN
    clear hTN
    go_upto_region 6 with fail
    go_loopw [9, 10, 11, 31] (fun _ _ _ kv wr => ∃ k : Nat, k ≤ N ∧ kv = .int .i64 (k : Int) ∧ Hid (Lsms.look (x.levels.take k) key = none) ∧ Hid (Below w3.heap.size w3 wr)) (fun _ _ _ kv _ => N - (intOf kv).toNat)
    case atStart => exact ⟨0, Nat.zero_le _, rfl, rfl, Below.refl _ _⟩
    case round =>
      obtain ⟨k, hk, rfl, HLk, HBk⟩ := hrel
      have HZk : Hid (wr.rowIs rb 38 3 (fun j => if j = 0 then .string ⟨#[]⟩ else if j = 1 then .string ⟨#[]⟩ else .bool false)) := HZ3.out.of_block (HBk.out.block _ HZ3.out.lt)
      by_cases hlt : k < N
      · have i1 : (k : Int) < (N : Int) := by omega
        have hbw := bt HB3.out HBk.out
        obtain ⟨tb, htb⟩ : ∃ tb, ts[k]? = some tb := ⟨ts[k]'(by have := HTN.out; omega), List.getElem?_eq_getElem _⟩
        obtain ⟨l, hl⟩ : ∃ l, x.levels[k]? = some l := ⟨x.levels[k]'(by have := HN.out; omega), List.getElem?_eq_getElem _⟩
        obtain ⟨u, ht, _⟩ := (HL.out wr hbw).each.2 k tb l htb hl
        obtain ⟨b1, off1, rfl, _⟩ := HR.out.2.2 (by omega)
        have c0 := (HR.out.below hbw).at k (ptr tb) (by rw [List.getElem?_map, htb]; rfl)
        have kk := Lists.cell_below HBk.out k3
        have cG := WalkTab.get_any l tb key wr ⟨B, u, ht⟩
        have hln := look_next hl HLk.out
        unfold ptr at c0
        have HBw : Hid (Below w.heap.size w wr) := hbw
        cases hf : find l key with
        | some p =>
          have hO : Lsms.look x.lists key = some p := by
            rw [HO.out]
            rw [hf] at hln
            exact look_some hln
          have hg : Tabs.getP l key = p ∧ Tabs.getPE l key = 0 := by
            unfold Tabs.getP Tabs.getPE
            rw [hf]
            exact ⟨rfl, rfl⟩
          rw [hg.1, hg.2, errv0] at cG
          have HE : Hid (∀ W, Below w.heap.size w W → Tells (Lsms.look x.lists key) w (.returned (.tuple #[.agg #[.string p.key, .string p.val, .bool p.gone], .bool true])) W) := fun W hb => ⟨by rw [hO]; rfl, hb⟩
          obtain ⟨xk, xv, xg⟩ := p
          simp only at cG HE
          clear hO hg hf hln htb hl ht hbw HLk r0 r1 r2 f0 f1 f2
          go_wp2_with fail
          refine cG.mono ?_
          rintro e w5 ⟨rfl, b5⟩
          have HB5 : Hid (Below w.heap.size w w5) := bt HBw.out b5
          have HZ5 : Hid (w5.rowIs rb 38 3 (fun j => if j = 0 then .string ⟨#[]⟩ else if j = 1 then .string ⟨#[]⟩ else .bool false)) := HZk.out.of_block (b5.block _ HZk.out.lt)
          clear cG b5 HBk HBw
          have HZ6 : Hid ((w5.alloc (.cells #[.string xk, .string xv, .bool xg] 38)).rowIs rb 38 3 (fun j => if j = 0 then .string ⟨#[]⟩ else if j = 1 then .string ⟨#[]⟩ else .bool false)) := HZ5.out.alloc _
          have r0 := HZ6.out.cell (i := 0) (by omega)
          have r1 := HZ6.out.cell (i := 1) (by omega)
          have r2 := HZ6.out.cell (i := 2) (by omega)
          have f0 := HZ6.out.frozen 0
          have f1 := HZ6.out.frozen 1
          have f2 := HZ6.out.frozen 2
          have HB6 : Hid (Below w.heap.size w (w5.alloc (.cells #[.string xk, .string xv, .bool xg] 38))) := HB5.out.alloc HB5.out.size _
          go_wp2_with fail
          try simp only [Exit.inBlock, Exit.then]
          refine bodyPost_ret (ret_youngest _ rfl ((((HZ6.out.set 0 (.string xk)).set 1 (.string xv)).set 2 (.bool xg)).cell (i := 0) (by omega)) ((((HZ6.out.set 0 (.string xk)).set 1 (.string xv)).set 2 (.bool xg)).cell (i := 1) (by omega)) ((((HZ6.out.set 0 (.string xk)).set 1 (.string xv)).set 2 (.bool xg)).cell (i := 2) (by omega))) rfl ?_
          exact HE.out _ (HSt.out _ _ _ _ HB6.out)
        | none =>
          rw [hf] at hln
          have hg : Tabs.getPE l key = 5 := by
            unfold Tabs.getPE
            rw [hf]
            rfl
          rw [hg, errv_pos 5 (by decide)] at cG
          have HLn : Hid (Lsms.look (x.levels.take (k + 1)) key = none) := hln
          generalize Tabs.getP l key = p at cG
          obtain ⟨xk, xv, xg⟩ := p
          simp only at cG
          clear hg hf hln htb hl ht hbw HLk r0 r1 r2 f0 f1 f2
          go_wp2_with fail
          refine cG.mono ?_
          rintro e w5 ⟨rfl, b5⟩
          have HB5 : Hid (Below w3.heap.size w3 (w5.alloc (.cells #[.string xk, .string xv, .bool xg] 38))) := (bt HBk.out b5).alloc (bt HBk.out b5).size _
          clear cG b5 HBk HBw
          go_wp2_with fail
          go_roundw
          case rel => exact ⟨k + 1, by omega, by go_num, HLn, HB5⟩
          case measure => simp [intOf]; omega
      · obtain rfl : k = N := by omega
        have i1 : ¬ (k : Int) < (k : Int) := by omega
        have hO : Lsms.look x.lists key = none := by
          rw [HO.out]
          have h := HLk.out
          rw [List.take_of_length_le (by have := HN.out; omega)] at h
          exact h
        have HE : Hid (∀ W, Below w.heap.size w W → Tells (Lsms.look x.lists key) w (.returned (.tuple #[.agg #[.string ⟨#[]⟩, .string ⟨#[]⟩, .bool false], .bool false])) W) := fun W hb => ⟨by rw [hO]; rfl, hb⟩
        have HBw : Hid (Below w.heap.size w wr) := bt HB3.out HBk.out
        clear r0 r1 r2 f0 f1 f2 HLk HBk hO
        have r0 := HZk.out.cell (i := 0) (by omega)
        have r1 := HZk.out.cell (i := 1) (by omega)
        have r2 := HZk.out.cell (i := 2) (by omega)
        have f0 := HZk.out.frozen 0
        have f1 := HZk.out.frozen 1
        have f2 := HZk.out.frozen 2
        go_wp2_with fail
        try simp only [Exit.inBlock, Exit.then]
        refine bodyPost_ret (ret_youngest _ rfl ((((HZk.out.set 0 (.string ⟨#[]⟩)).set 1 (.string ⟨#[]⟩)).set 2 (.bool false)).cell (i := 0) (by omega)) ((((HZk.out.set 0 (.string ⟨#[]⟩)).set 1 (.string ⟨#[]⟩)).set 2 (.bool false)).cell (i := 1) (by omega)) ((((HZk.out.set 0 (.string ⟨#[]⟩)).set 1 (.string ⟨#[]⟩)).set 2 (.bool false)).cell (i := 2) (by omega))) rfl ?_
        exact HE.out _ (HSt.out _ _ _ _ HBw.out)

set_option maxHeartbeats 4000000 in
set_option maxRecDepth 100000 in
theorem get_any {w : World} {B b : Nat} {F : Nat → Prop} {x : Lsm} (h : Ls w B b F x) (_hs : x.size ≤ 10000) (key : ByteArray) :
    Calls Try.prog 8 #[.pointer (some ⟨b, 0, none⟩), .string key] w fun e w' => e = .returned (.tuple #[.string (getLV x key), errv (getLE x key)]) ∧ Below w.heap.size w w' := by
  have cY := youngest_any h key
  have hv : x.val key = (Lsms.look x.lists key).filter fun p => !p.gone := rfl
  have HV : Hid (getLV x key = (((Lsms.look x.lists key).filter fun p => !p.gone).map (·.val)).getD ⟨#[]⟩ ∧ getLE x key = if (((Lsms.look x.lists key).filter fun p => !p.gone)).isSome = true then 0 else 5) := ⟨rfl, rfl⟩
  clear h hv
  generalize Lsms.look x.lists key = O at *
  generalize getLV x key = V at *
  generalize getLE x key = E at *
  cases O with
  | none =>
    have hV : V = ⟨#[]⟩ ∧ E = 5 := HV.out
    rw [hV.1, hV.2, errv_pos 5 (by decide)]
    clear HV hV
    go_enter Try.func8, Try.ntmps8
    go_wp2_with fail
    refine cY.mono ?_
    rintro e w1 ⟨rfl, b1⟩
    have HB1 : Hid (Below w.heap.size w (w1.alloc (.cells #[.string ⟨#[]⟩, .string ⟨#[]⟩, .bool false] 38))) := b1.alloc b1.size _
    clear cY b1
    go_wp2_with fail
    go_ret2
    exact ⟨rfl, HB1.out⟩
  | some p =>
    obtain ⟨xk, xv, xg⟩ := p
    cases xg with
    | true =>
      have hV : V = ⟨#[]⟩ ∧ E = 5 := HV.out
      rw [hV.1, hV.2, errv_pos 5 (by decide)]
      clear HV hV
      go_enter Try.func8, Try.ntmps8
      go_wp2_with fail
      refine cY.mono ?_
      rintro e w1 ⟨rfl, b1⟩
      have HB1 : Hid (Below w.heap.size w (w1.alloc (.cells #[.string xk, .string xv, .bool true] 38))) := b1.alloc b1.size _
      clear cY b1
      go_wp2_with fail
      go_ret2
      exact ⟨rfl, HB1.out⟩
    | false =>
      have hV : V = xv ∧ E = 0 := HV.out
      rw [hV.1, hV.2, errv0]
      clear HV hV
      go_enter Try.func8, Try.ntmps8
      go_wp2_with fail
      refine cY.mono ?_
      rintro e w1 ⟨rfl, b1⟩
      have HB1 : Hid (Below w.heap.size w (w1.alloc (.cells #[.string xk, .string xv, .bool false] 38))) := b1.alloc b1.size _
      clear cY b1
      go_wp2_with fail
      go_ret2
      exact ⟨rfl, HB1.out⟩

end Go.Proofs.Ytbepfeajaoaocaf.WalkLs
