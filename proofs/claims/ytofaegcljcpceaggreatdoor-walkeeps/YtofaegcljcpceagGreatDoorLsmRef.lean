/-
  What the document's own answers (package witref2) return on pairs: Key, Find, Get, With, Put.
-/
import Derived.Test.YtofaegcljcpceagGreatDoorPairRows
import Derived.Test.YtofaegcljcpceagGreatDoorRows
import Derived.Test.YtofaegcljcpceagGreatDoorKeeps
import Derived.Deep.DeepMust
import Derived.Deep.CutBlock
import Derived.BigQuiet
import Derived.Laws.Cover1
import Derived.Deep.QuietTactic
import Derived.Test.YtofaegcljcpceagGreatDoorLsmRows
import Derived.Test.YtofaegcljcpceagGreatDoorLsmDoc
import Derived.Laws.AppendOwnNone
import Derived.Deep.RegionWith
namespace Go.Proofs.YtofaegcljcpceagGreatDoor.WalkStoreRef
open Go.RowKit
open Lists (bt)
open Keeps (Kept owns_kept owns_row owns_base)
open Wides (Wide)
open Stores (Pair lt less find keyE putE putL getE getV withP outL Rising)
open PairRows (cells cells_append)

theorem aggP (w : World) : (isAgg 31).run Tryz.prog w = .ok true w := by kernel_rfl
theorem sizeP (w : World) : (sizeOf 31).run Tryz.prog w = .ok 3 w := by kernel_rfl
theorem eq_yes {x y : ByteArray} (h : x = y) : (x.toList == y.toList) = true := by rw [h]; exact beq_self_eq_true _
theorem eq_no {x y : ByteArray} (h : x ≠ y) : (x.toList == y.toList) = false := by rw [beq_eq_false_iff_ne]; exact fun e => h (Stores.toList_inj e)
theorem empty_yes {x : ByteArray} (h : x.size = 0) : (x.toList == []) = true := by
  have : x = ⟨#[]⟩ := by
    apply ByteArray.ext
    exact Array.size_eq_zero_iff.1 h
  rw [this, ByteArray.toList_eq]
  rfl
theorem empty_no {x : ByteArray} (h : x.size ≠ 0) : (x.toList == []) = false := by
  rw [beq_eq_false_iff_ne, ByteArray.toList_eq]
  intro e
  have := congrArg List.length e
  simp at this
  exact h (by show x.data.size = 0; rw [this]; rfl)

theorem key_any (k : ByteArray) (w : World) : Calls Tryz.prog 75 #[.string k] w fun e w' => e = .returned (.int .i64 (keyE k : Nat)) ∧ w' = w := by
  by_cases h0 : k.size = 0
  · have HV : Hid (keyE k = 2) := if_pos h0
    have e0 := empty_yes h0
    clear h0
    go_enter Tryz.func75, Tryz.ntmps75
    go_wp2_with fail
    go_ret
    exact ⟨by rw [HV.out]; rfl, rfl⟩
  · have e0 := empty_no h0
    by_cases h1 : 200 < k.size
    · have HV : Hid (keyE k = 4) := by show _ = _; unfold keyE; rw [if_neg h0, if_pos h1]
      have i1 : (200 : Int) < (k.size : Int) := by omega
      clear h0 h1
      go_enter Tryz.func75, Tryz.ntmps75
      go_wp2_with fail
      go_ret
      exact ⟨by rw [HV.out]; rfl, rfl⟩
    · have HV : Hid (keyE k = 0) := by show _ = _; unfold keyE; rw [if_neg h0, if_neg h1]
      have i1 : ¬ (200 : Int) < (k.size : Int) := by omega
      clear h0 h1
      go_enter Tryz.func75, Tryz.ntmps75
      go_wp2_with fail
      go_ret
      exact ⟨by rw [HV.out]; rfl, rfl⟩

/-- where a key is, or -1 -/
def FindAt (l : List Pair) (k : ByteArray) (z : Int) : Prop := (find l k = none ∧ z = -1) ∨ ∃ (j : Nat) (h : j < l.length), z = j ∧ find l k = some l[j]

set_option maxHeartbeats 1000000 in
theorem find_any (l : List Pair) (key : ByteArray) (a : Option Addr) (n cap : Nat) (w : World) (hr : Wide 3 w a n cap (cells l)) (hn : n ≤ 17592186043904) :
    Calls Tryz.prog 59 #[.slice a n cap, .string key] w fun e w' => ∃ z : Int, e = .returned (.int .i64 z) ∧ FindAt l key z ∧ Below w.heap.size w w' := by
  have hln := PairRows.len_of hr
  have HR : Hid (Wide 3 w a n cap (cells l)) := hr
  have HL : Hid (l.length = n) := hln
  clear hr
  go_enter Tryz.func59, Tryz.ntmps59
  go_wp2_with fail
  go_loopw [5] (fun i wr => ∃ k : Nat, k ≤ n ∧ i = .int .i64 (k : Int) ∧ Hid (∀ q ∈ l.take k, q.key ≠ key) ∧ Below w.heap.size w wr) (fun i _ => n - (intOf i).toNat)
  case atStart => exact ⟨0, Nat.zero_le _, rfl, fun q hq => (by cases hq), Below.refl _ _⟩
  case round =>
    obtain ⟨k, hk, rfl, HA, hb⟩ := hrel
    by_cases hlt : k < n
    · have i1 : (k : Int) < (n : Int) := by omega
      obtain ⟨b1, off1, rfl, _⟩ := (HR.out.below hb).2.2 (by omega)
      obtain ⟨p0, p1, p2⟩ := PairRows.at_three (HR.out.below hb) k (by omega)
      have HN : Hid ((l[k]'(by omega)).key ≠ key → ∀ q ∈ l.take (k + 1), q.key ≠ key) := fun h => Stores.ahead_next (P := fun q => q.key ≠ key) k (by omega) HA.out h
      have HF : Hid ((l[k]'(by omega)).key = key → FindAt l key (k : Int)) := fun h => .inr ⟨k, by omega, rfl, Stores.find_at k (by omega) HA.out h⟩
      generalize l[k]'(by omega) = x at p0 p1 p2 HN HF
      obtain ⟨x0, x1, x2⟩ := x
      simp only at p0 p1 p2
      by_cases hq : x0 = key
      · have e1 := eq_yes hq
        have HG := HF.out hq
        clear hq
        go_wp2_with fail
        go_ret
        exact ⟨_, rfl, HG, hb⟩
      · have e1 := eq_no hq
        have HG : Hid (∀ q ∈ l.take (k + 1), q.key ≠ key) := HN.out hq
        clear hq
        go_wp2_with fail
        go_roundw
        case rel => exact ⟨k + 1, by omega, by go_num, HG.out, hb⟩
        case measure => simp [intOf]; omega
    · have i1 : ¬ (k : Int) < (n : Int) := by omega
      obtain rfl : k = n := by omega
      have HG : FindAt l key (-1) := .inl ⟨Stores.find_not k (by omega) HA.out, rfl⟩
      go_wp2_with fail
      go_ret
      exact ⟨_, rfl, HG, hb⟩

theorem get_none {l : List Pair} {k : ByteArray} (h : find l k = none) : getE l k = 5 ∧ getV l k = ⟨#[]⟩ := by
  unfold getE getV
  rw [h]
  exact ⟨rfl, rfl⟩
theorem get_some {l : List Pair} {k : ByteArray} {p : Pair} (h : find l k = some p) : getE l k = (if p.gone = true then 5 else 0) ∧ getV l k = (if p.gone = true then ⟨#[]⟩ else p.val) := by
  unfold getE getV
  rw [h]
  exact ⟨rfl, rfl⟩


end Go.Proofs.YtofaegcljcpceagGreatDoor.WalkStoreRef

/-
  What the document's own answers (package witref2) return on pairs: With, Put.
-/
namespace Go.Proofs.YtofaegcljcpceagGreatDoor.WalkWithRef
open Go.RowKit
open Lists (bt)
open Keeps (Kept owns_kept owns_row owns_base)
open Wides (Wide)
open Stores (Pair lt less find keyE putE putL withP outL Rising)
open PairRows (cells cells_append)
open WalkStoreRef (aggP sizeP eq_yes eq_no)

theorem infoP : (Tryz.prog.info? 31).map (fun i => (i.zero, i.size, i.bytes)) = some (some (.agg #[.string ⟨#[]⟩, .string ⟨#[]⟩, .bool false]), 3, 40) := by kernel_rfl
theorem below_drewN {B : Nat} {a w : World} (h : Below B a w) (n : Nat) : Below B a (w.drewN n) := ⟨h.os, h.tape, h.output, h.size, h.block⟩
theorem owns_drew {w : World} {base n s : Nat} {t : TypeId} {v : Value} {xs : List Value} (h : w.ownsRow base t s v n xs) (q : Nat) : (w.drewN q).ownsRow base t s v n xs := owns_kept h (Kept.of_below (fun _ => False) (below_drewN (Below.refl _ _) q)) fun _ _ f => f
theorem cell_three_new (w : World) (x y z : Value) (t : TypeId) : ∀ j u, [x, y, z][j]? = some u → (w.alloc (.cells #[x, y, z] t)).cell? ((⟨w.heap.size, 0, none⟩ : Addr).add j) = some u := by
  intro j u hj
  match j, hj with
  | 0, hj => simp at hj; subst hj; simp [Addr.add]
  | 1, hj => simp at hj; subst hj; simp [Addr.add]
  | 2, hj => simp at hj; subst hj; simp [Addr.add]
/-- a pair in a block -/
structure PAt (w : World) (g : Nat) (p : Pair) : Prop where
  key : w.cell? ⟨g, 0, none⟩ = some (.string p.key)
  val : w.cell? ⟨g, 1, none⟩ = some (.string p.val)
  gone : w.cell? ⟨g, 2, none⟩ = some (.bool p.gone)
theorem PAt.below {w w' : World} {g : Nat} {p : Pair} (a : PAt w g p) (b : Below w.heap.size w w') : PAt w' g p := ⟨Lists.cell_below b a.key, Lists.cell_below b a.val, Lists.cell_below b a.gone⟩
theorem PAt.new (w : World) (x y : ByteArray) (z : Bool) : PAt (w.alloc (.cells #[.string x, .string y, .bool z] 31)) w.heap.size ⟨x, y, z⟩ := ⟨by simp, by simp, by simp⟩

set_option maxHeartbeats 4000000 in
theorem with_any (l : List Pair) (p : Pair) (a : Option Addr) (n cap : Nat) (w : World) (hr : Wide 3 w a n cap (cells l)) (hn : n ≤ 1000) (hris : Rising l) :
    Calls Tryz.prog 60 #[.slice a n cap, .agg #[.string p.key, .string p.val, .bool p.gone]] w fun e w' => ∃ a' c', e = .returned (.slice a' (withP l p).length c') ∧ Wide 3 w' a' (withP l p).length c' (cells (withP l p)) ∧ (∀ x, a' = some x → w.heap.size ≤ x.block) ∧ Below w.heap.size w w' := by
  obtain ⟨pk, pv, pg⟩ := p
  simp only
  have hln := PairRows.len_of hr
  obtain ⟨i0, hi, hz0, hz1, hz2⟩ := info_parts infoP
  have b0 : Below w.heap.size w (w.alloc (.cells #[.string pk, .string pv, .bool pg] 31)) := (Below.refl _ _).alloc (Nat.le_refl _) _
  have HB0 : Hid (Below w.heap.size w (w.alloc (.cells #[.string pk, .string pv, .bool pg] 31))) := b0
  have HR : Hid (Wide 3 (w.alloc (.cells #[.string pk, .string pv, .bool pg] 31)) a n cap (cells l)) := hr.below b0
  have HP : Hid (PAt (w.alloc (.cells #[.string pk, .string pv, .bool pg] 31)) w.heap.size ⟨pk, pv, pg⟩) := PAt.new w pk pv pg
  have HI : Hid (Rising l) := hris
  have a26 := aggP
  have z26 := sizeP
  clear hr hris b0
  go_enter Tryz.func60, Tryz.ntmps60
  go_upto_region 1 with fail
  generalize w.alloc (.cells #[.string pk, .string pv, .bool pg] 31) = w0 at HB0 HR HP ⊢
  go_wp2_with fail
  go_loopw [5, 6, 7] (fun v b i wr => ∃ (k : Nat) (B : Bool) (m : List Pair), k ≤ n ∧ i = .int .i64 (k : Int) ∧ b = .bool B ∧ Hid (m = outL l ⟨pk, pv, pg⟩ k B) ∧ Hid (Stores.At l ⟨pk, pv, pg⟩ k B) ∧ Hid (m.length ≤ k + B.toNat) ∧ wr.ownsRow w0.heap.size 31 3 v m.length (cells m) ∧ Below w0.heap.size w0 wr) (fun _ _ i _ => n - (intOf i).toNat)
  case atStart => exact ⟨0, false, [], Nat.zero_le _, rfl, rfl, rfl, Stores.at_zero _ _, Nat.le_refl _, World.ownsRow_nil _ _ _ _, Below.refl _ _⟩
  case round =>
    obtain ⟨k, B, m, hk, rfl, rfl, HM, HA, HC, hown, hb⟩ := hrel
    by_cases hlt : k < n
    · have i1 : (k : Int) < (n : Int) := by omega
      have hkl : k < l.length := by omega
      obtain ⟨b1, off1, rfl, _⟩ := (HR.out.below hb).2.2 (by omega)
      have HQ : Hid (∀ w1, Below w0.heap.size w0 w1 → w1.cell? ⟨b1, off1 + k * 3, none⟩ = some (.string (l[k]).key) ∧ w1.cell? ⟨b1, off1 + k * 3 + 1, none⟩ = some (.string (l[k]).val) ∧ w1.cell? ⟨b1, off1 + k * 3 + 2, none⟩ = some (.bool (l[k]).gone)) := fun w1 b => PairRows.at_three (HR.out.below b) k hkl
      obtain ⟨p0, p1, p2⟩ := HQ.out _ hb
      obtain ⟨r0, r1, r2⟩ := HP.out.below hb
      have HX1 : Hid (lt (l[k]).key pk = true → Stores.At l ⟨pk, pv, pg⟩ k false → outL l ⟨pk, pv, pg⟩ (k + 1) false = outL l ⟨pk, pv, pg⟩ k false ++ [l[k]] ∧ Stores.At l ⟨pk, pv, pg⟩ (k + 1) false) := fun h h2 => Stores.out_below hkl h h2
      have HX2 : Hid (lt (l[k]).key pk = false → Stores.At l ⟨pk, pv, pg⟩ k false → outL l ⟨pk, pv, pg⟩ (k + 1) true = outL l ⟨pk, pv, pg⟩ k false ++ [(⟨pk, pv, pg⟩ : Pair)] ++ (if (l[k]).key = pk then [] else [l[k]]) ∧ Stores.At l ⟨pk, pv, pg⟩ (k + 1) true) := fun h h2 => Stores.out_here hkl h h2
      have HX3 : Hid (Stores.At l ⟨pk, pv, pg⟩ k true → (l[k]).key ≠ pk ∧ outL l ⟨pk, pv, pg⟩ (k + 1) true = outL l ⟨pk, pv, pg⟩ k true ++ [l[k]] ∧ Stores.At l ⟨pk, pv, pg⟩ (k + 1) true) := fun h => Stores.out_behind hkl HI.out h
      generalize l[k] = x at p0 p1 p2 HQ HX1 HX2 HX3
      obtain ⟨x0, x1, x2⟩ := x
      simp only at p0 p1 p2 r0 r1 r2 HQ HX1 HX2 HX3
      have HO : Hid (wr.ownsRow w0.heap.size 31 3 u5 m.length (cells m)) := hown
      have HB : Hid (Below w0.heap.size w0 wr) := hb
      clear hown hb hkl
      cases B
      rotate_left
      · -- it was put
        have hcm : m.length ≤ k + 1 := HC.out
        obtain ⟨g1, g2, g3⟩ := HX3.out HA.out
        have e1 := eq_no g1
        have HG : Hid (m ++ [(⟨x0, x1, x2⟩ : Pair)] = outL l ⟨pk, pv, pg⟩ (k + 1) true) := by rw [HM.out]; exact g2.symm
        have HA2 : Hid (Stores.At l ⟨pk, pv, pg⟩ (k + 1) true) := g3
        clear g1 g2 g3 HX1 HX2 HX3
        go_wp2_with fail
        go_quiet (fail)
        have HO' : Hid ((wr.drewN nq).ownsRow w0.heap.size 31 3 u5 (m).length (cells (m))) := owns_drew HO.out nq
        have HB' : Hid (Below w0.heap.size w0 (wr.drewN nq)) := below_drewN HB.out nq
        clear p0 p1 p2 r0 r1 r2 HO HB
        generalize wr.drewN nq = wq at HO' HB' ⊢
        rename Hid (World.ownsRow _ _ _ _ _ _ _) => HO
        rename Hid (Below _ _ wq) => HB
        clear nq
        obtain ⟨p0, p1, p2⟩ := HQ.out _ HB.out
        obtain ⟨r0, r1, r2⟩ := HP.out.below HB.out
        simp only at p0 p1 p2 r0 r1 r2
        go_wp2_with fail
        go_quiet (fail)
        have HO' : Hid ((wq.drewN nq).ownsRow w0.heap.size 31 3 u5 (m).length (cells (m))) := owns_drew HO.out nq
        have HB' : Hid (Below w0.heap.size w0 (wq.drewN nq)) := below_drewN HB.out nq
        clear p0 p1 p2 r0 r1 r2 HO HB
        generalize wq.drewN nq = wp at HO' HB' ⊢
        rename Hid (World.ownsRow _ _ _ _ _ _ _) => HO
        rename Hid (Below _ _ wp) => HB
        clear nq
        obtain ⟨p0, p1, p2⟩ := HQ.out _ HB.out
        obtain ⟨r0, r1, r2⟩ := HP.out.below HB.out
        simp only at p0 p1 p2 r0 r1 r2
        go_wp2_with (at_builtin; go_must (refine wpList_append_own _ rfl (.tmp 38) (.tmp 43) 32 rfl w0.heap.size 31 i0 (.agg #[.string ⟨#[]⟩, .string ⟨#[]⟩, .bool false]) 3 40 Tryz.underlying32 hi hz0 hz1 hz2 rfl (by decide) _ _ _ rfl (HO.out.alloc _) ⟨_, 0, none⟩ 1 1 [.string x0, .string x1, .bool x2] rfl rfl (cell_three_new _ _ _ _ _) (fun u hu => by simp at hu; rcases hu with rfl | rfl | rfl <;> rfl) (by unfold maxLen; omega) (by omega) (by have := HB.out.size; simp; omega) ?_); intro v1 wn o1 g1 z1; clear z1)
        have HBN : Hid (Below w0.heap.size w0 wn) := (HB.out.alloc HB.out.size _).grown g1 (by have := HB.out.size; simp; omega) (fun k hk => (HO.out.lt k hk).1)
        have HON : Hid (wn.ownsRow w0.heap.size 31 3 v1 (m ++ [(⟨x0, x1, x2⟩ : Pair)]).length (cells (m ++ [(⟨x0, x1, x2⟩ : Pair)]))) := by
          rw [cells_append, List.length_append]
          exact o1
        clear g1 o1 HO HB p0 p1 p2 r0 r1 r2
        go_roundw
        case rel => exact ⟨k + 1, true, m ++ [(⟨x0, x1, x2⟩ : Pair)], by omega, by go_num, rfl, HG, HA2, by show _ ≤ _; simp only [List.length_append, List.length_singleton, Bool.toNat_true] at hcm ⊢; omega, HON.out, HBN.out⟩
        case measure => simp [intOf]; omega
      have hcm : m.length ≤ k := HC.out
      by_cases hl : lt x0 pk = true
      · -- it is below
        obtain ⟨g2, g3⟩ := HX1.out hl HA.out
        have e1 := eq_no (Stores.lt_ne hl)
        have e2 : Op.bytesLess x0.toList pk.toList = true := hl
        have HG : Hid (m ++ [(⟨x0, x1, x2⟩ : Pair)] = outL l ⟨pk, pv, pg⟩ (k + 1) false) := by rw [HM.out]; exact g2.symm
        have HA2 : Hid (Stores.At l ⟨pk, pv, pg⟩ (k + 1) false) := g3
        clear g2 g3 HX1 HX2 HX3 hl
        go_wp2_with fail
        go_quiet (fail)
        have HO' : Hid ((wr.drewN nq).ownsRow w0.heap.size 31 3 u5 (m).length (cells (m))) := owns_drew HO.out nq
        have HB' : Hid (Below w0.heap.size w0 (wr.drewN nq)) := below_drewN HB.out nq
        clear p0 p1 p2 r0 r1 r2 HO HB
        generalize wr.drewN nq = wq at HO' HB' ⊢
        rename Hid (World.ownsRow _ _ _ _ _ _ _) => HO
        rename Hid (Below _ _ wq) => HB
        clear nq
        obtain ⟨p0, p1, p2⟩ := HQ.out _ HB.out
        obtain ⟨r0, r1, r2⟩ := HP.out.below HB.out
        simp only at p0 p1 p2 r0 r1 r2
        go_wp2_with fail
        go_quiet (fail)
        have HO' : Hid ((wq.drewN nq).ownsRow w0.heap.size 31 3 u5 (m).length (cells (m))) := owns_drew HO.out nq
        have HB' : Hid (Below w0.heap.size w0 (wq.drewN nq)) := below_drewN HB.out nq
        clear p0 p1 p2 r0 r1 r2 HO HB
        generalize wq.drewN nq = wp at HO' HB' ⊢
        rename Hid (World.ownsRow _ _ _ _ _ _ _) => HO
        rename Hid (Below _ _ wp) => HB
        clear nq
        obtain ⟨p0, p1, p2⟩ := HQ.out _ HB.out
        obtain ⟨r0, r1, r2⟩ := HP.out.below HB.out
        simp only at p0 p1 p2 r0 r1 r2
        go_wp2_with (at_builtin; go_must (refine wpList_append_own _ rfl (.tmp 38) (.tmp 43) 32 rfl w0.heap.size 31 i0 (.agg #[.string ⟨#[]⟩, .string ⟨#[]⟩, .bool false]) 3 40 Tryz.underlying32 hi hz0 hz1 hz2 rfl (by decide) _ _ _ rfl (HO.out.alloc _) ⟨_, 0, none⟩ 1 1 [.string x0, .string x1, .bool x2] rfl rfl (cell_three_new _ _ _ _ _) (fun u hu => by simp at hu; rcases hu with rfl | rfl | rfl <;> rfl) (by unfold maxLen; omega) (by omega) (by have := HB.out.size; simp; omega) ?_); intro v1 wn o1 g1 z1; clear z1)
        have HBN : Hid (Below w0.heap.size w0 wn) := (HB.out.alloc HB.out.size _).grown g1 (by have := HB.out.size; simp; omega) (fun k hk => (HO.out.lt k hk).1)
        have HON : Hid (wn.ownsRow w0.heap.size 31 3 v1 (m ++ [(⟨x0, x1, x2⟩ : Pair)]).length (cells (m ++ [(⟨x0, x1, x2⟩ : Pair)]))) := by
          rw [cells_append, List.length_append]
          exact o1
        clear g1 o1 HO HB p0 p1 p2 r0 r1 r2
        go_roundw
        case rel => exact ⟨k + 1, false, m ++ [(⟨x0, x1, x2⟩ : Pair)], by omega, by go_num, rfl, HG, HA2, by show _ ≤ _; simp only [List.length_append, List.length_singleton, Bool.toNat_false] at hcm ⊢; omega, HON.out, HBN.out⟩
        case measure => simp [intOf]; omega
      have hl : lt x0 pk = false := by simpa using hl
      have e2 : Op.bytesLess x0.toList pk.toList = false := hl
      obtain ⟨g2, g3⟩ := HX2.out hl HA.out
      by_cases hq : x0 = pk
      · -- in its place
        rw [if_pos hq, List.append_nil] at g2
        have e1 := eq_yes hq
        have HG : Hid (m ++ [(⟨pk, pv, pg⟩ : Pair)] = outL l ⟨pk, pv, pg⟩ (k + 1) true) := by rw [HM.out]; exact g2.symm
        have HA2 : Hid (Stores.At l ⟨pk, pv, pg⟩ (k + 1) true) := g3
        clear g2 g3 HX1 HX2 HX3 hl hq
        go_wp2_with fail
        go_quiet (fail)
        have HO' : Hid ((wr.drewN nq).ownsRow w0.heap.size 31 3 u5 (m).length (cells (m))) := owns_drew HO.out nq
        have HB' : Hid (Below w0.heap.size w0 (wr.drewN nq)) := below_drewN HB.out nq
        clear p0 p1 p2 r0 r1 r2 HO HB
        generalize wr.drewN nq = wq at HO' HB' ⊢
        rename Hid (World.ownsRow _ _ _ _ _ _ _) => HO
        rename Hid (Below _ _ wq) => HB
        clear nq
        obtain ⟨p0, p1, p2⟩ := HQ.out _ HB.out
        obtain ⟨r0, r1, r2⟩ := HP.out.below HB.out
        simp only at p0 p1 p2 r0 r1 r2
        go_upto_region 8 with (at_builtin; go_must (refine wpList_append_own _ rfl (.tmp 26) (.tmp 28) 32 rfl w0.heap.size 31 i0 (.agg #[.string ⟨#[]⟩, .string ⟨#[]⟩, .bool false]) 3 40 Tryz.underlying32 hi hz0 hz1 hz2 rfl (by decide) _ _ _ rfl (HO.out.alloc _) ⟨_, 0, none⟩ 1 1 [.string pk, .string pv, .bool pg] rfl rfl (cell_three_new _ _ _ _ _) (fun u hu => by simp at hu; rcases hu with rfl | rfl | rfl <;> rfl) (by unfold maxLen; omega) (by omega) (by have := HB.out.size; simp; omega) ?_); intro v1 wn o1 g1 z1; clear z1)
        have HBN : Hid (Below w0.heap.size w0 wn) := (HB.out.alloc HB.out.size _).grown g1 (by have := HB.out.size; simp; omega) (fun k hk => (HO.out.lt k hk).1)
        have HON : Hid (wn.ownsRow w0.heap.size 31 3 v1 (m ++ [(⟨pk, pv, pg⟩ : Pair)]).length (cells (m ++ [(⟨pk, pv, pg⟩ : Pair)]))) := by
          rw [cells_append, List.length_append]
          exact o1
        clear g1 o1 HO HB p0 p1 p2 r0 r1 r2
        rename Hid (World.ownsRow _ _ _ _ _ _ _) => HO
        rename Hid (Below _ _ wn) => HB
        obtain ⟨p0, p1, p2⟩ := HQ.out _ HB.out
        obtain ⟨r0, r1, r2⟩ := HP.out.below HB.out
        simp only at p0 p1 p2 r0 r1 r2
        go_wp2_with fail
        go_quiet (fail)
        have HO' : Hid ((wn.drewN nq).ownsRow w0.heap.size 31 3 v1 (m ++ [(⟨pk, pv, pg⟩ : Pair)]).length (cells (m ++ [(⟨pk, pv, pg⟩ : Pair)]))) := owns_drew HO.out nq
        have HB' : Hid (Below w0.heap.size w0 (wn.drewN nq)) := below_drewN HB.out nq
        clear p0 p1 p2 r0 r1 r2 HO HB
        generalize wn.drewN nq = wp at HO' HB' ⊢
        rename Hid (World.ownsRow _ _ _ _ _ _ _) => HO
        rename Hid (Below _ _ wp) => HB
        clear nq
        obtain ⟨p0, p1, p2⟩ := HQ.out _ HB.out
        obtain ⟨r0, r1, r2⟩ := HP.out.below HB.out
        simp only at p0 p1 p2 r0 r1 r2
        have HON := HO
        have HBN := HB
        go_wp2_with fail
        go_roundw
        case rel => exact ⟨k + 1, true, m ++ [(⟨pk, pv, pg⟩ : Pair)], by omega, by go_num, rfl, HG, HA2, by show _ ≤ _; simp only [List.length_append, List.length_singleton, Bool.toNat_true] at hcm ⊢; omega, HON.out, HBN.out⟩
        case measure => simp [intOf]; omega
      · -- ahead of it
        rw [if_neg hq] at g2
        have e1 := eq_no hq
        have HG : Hid (m ++ [(⟨pk, pv, pg⟩ : Pair)] ++ [(⟨x0, x1, x2⟩ : Pair)] = outL l ⟨pk, pv, pg⟩ (k + 1) true) := by rw [HM.out]; exact g2.symm
        have HA2 : Hid (Stores.At l ⟨pk, pv, pg⟩ (k + 1) true) := g3
        clear g2 g3 HX1 HX2 HX3 hl hq
        go_wp2_with fail
        go_quiet (fail)
        have HO' : Hid ((wr.drewN nq).ownsRow w0.heap.size 31 3 u5 (m).length (cells (m))) := owns_drew HO.out nq
        have HB' : Hid (Below w0.heap.size w0 (wr.drewN nq)) := below_drewN HB.out nq
        clear p0 p1 p2 r0 r1 r2 HO HB
        generalize wr.drewN nq = wq at HO' HB' ⊢
        rename Hid (World.ownsRow _ _ _ _ _ _ _) => HO
        rename Hid (Below _ _ wq) => HB
        clear nq
        obtain ⟨p0, p1, p2⟩ := HQ.out _ HB.out
        obtain ⟨r0, r1, r2⟩ := HP.out.below HB.out
        simp only at p0 p1 p2 r0 r1 r2
        go_upto_region 8 with (at_builtin; go_must (refine wpList_append_own _ rfl (.tmp 26) (.tmp 28) 32 rfl w0.heap.size 31 i0 (.agg #[.string ⟨#[]⟩, .string ⟨#[]⟩, .bool false]) 3 40 Tryz.underlying32 hi hz0 hz1 hz2 rfl (by decide) _ _ _ rfl (HO.out.alloc _) ⟨_, 0, none⟩ 1 1 [.string pk, .string pv, .bool pg] rfl rfl (cell_three_new _ _ _ _ _) (fun u hu => by simp at hu; rcases hu with rfl | rfl | rfl <;> rfl) (by unfold maxLen; omega) (by omega) (by have := HB.out.size; simp; omega) ?_); intro v1 wn o1 g1 z1; clear z1)
        have HBN : Hid (Below w0.heap.size w0 wn) := (HB.out.alloc HB.out.size _).grown g1 (by have := HB.out.size; simp; omega) (fun k hk => (HO.out.lt k hk).1)
        have HON : Hid (wn.ownsRow w0.heap.size 31 3 v1 (m ++ [(⟨pk, pv, pg⟩ : Pair)]).length (cells (m ++ [(⟨pk, pv, pg⟩ : Pair)]))) := by
          rw [cells_append, List.length_append]
          exact o1
        clear g1 o1 HO HB p0 p1 p2 r0 r1 r2
        rename Hid (World.ownsRow _ _ _ _ _ _ _) => HO
        rename Hid (Below _ _ wn) => HB
        have hcl : (m ++ [(⟨pk, pv, pg⟩ : Pair)]).length ≤ k + 1 := by rw [List.length_append]; simp only [List.length_singleton]; omega
        obtain ⟨p0, p1, p2⟩ := HQ.out _ HB.out
        obtain ⟨r0, r1, r2⟩ := HP.out.below HB.out
        simp only at p0 p1 p2 r0 r1 r2
        go_wp2_with fail
        go_quiet (fail)
        have HO' : Hid ((wn.drewN nq).ownsRow w0.heap.size 31 3 v1 (m ++ [(⟨pk, pv, pg⟩ : Pair)]).length (cells (m ++ [(⟨pk, pv, pg⟩ : Pair)]))) := owns_drew HO.out nq
        have HB' : Hid (Below w0.heap.size w0 (wn.drewN nq)) := below_drewN HB.out nq
        clear p0 p1 p2 r0 r1 r2 HO HB
        generalize wn.drewN nq = wp at HO' HB' ⊢
        rename Hid (World.ownsRow _ _ _ _ _ _ _) => HO
        rename Hid (Below _ _ wp) => HB
        clear nq
        obtain ⟨p0, p1, p2⟩ := HQ.out _ HB.out
        obtain ⟨r0, r1, r2⟩ := HP.out.below HB.out
        simp only at p0 p1 p2 r0 r1 r2
        generalize hmm : m ++ [(⟨pk, pv, pg⟩ : Pair)] = m2 at HO HG hcl
        go_wp2_with (at_builtin; go_must (refine wpList_append_own _ rfl (.tmp 38) (.tmp 43) 32 rfl w0.heap.size 31 i0 (.agg #[.string ⟨#[]⟩, .string ⟨#[]⟩, .bool false]) 3 40 Tryz.underlying32 hi hz0 hz1 hz2 rfl (by decide) _ _ _ rfl (HO.out.alloc _) ⟨_, 0, none⟩ 1 1 [.string x0, .string x1, .bool x2] rfl rfl (cell_three_new _ _ _ _ _) (fun u hu => by simp at hu; rcases hu with rfl | rfl | rfl <;> rfl) (by unfold maxLen; omega) (by omega) (by have := HB.out.size; simp; omega) ?_); intro v2 wm o1 g1 z1; clear z1)
        have HBN : Hid (Below w0.heap.size w0 wm) := (HB.out.alloc HB.out.size _).grown g1 (by have := HB.out.size; simp; omega) (fun k hk => (HO.out.lt k hk).1)
        have HON : Hid (wm.ownsRow w0.heap.size 31 3 v2 (m2 ++ [(⟨x0, x1, x2⟩ : Pair)]).length (cells (m2 ++ [(⟨x0, x1, x2⟩ : Pair)]))) := by
          rw [cells_append, List.length_append]
          exact o1
        clear g1 o1 HO HB p0 p1 p2 r0 r1 r2
        go_roundw
        case rel => exact ⟨k + 1, true, m2 ++ [(⟨x0, x1, x2⟩ : Pair)], by omega, by go_num, rfl, HG, HA2, by show _ ≤ _; simp only [List.length_append, List.length_singleton, Bool.toNat_true] at hcl ⊢; omega, HON.out, HBN.out⟩
        case measure => simp [intOf]; omega
    · have i1 : ¬ (k : Int) < (n : Int) := by omega
      obtain rfl : k = n := by omega
      have HB : Hid (Below w0.heap.size w0 wr) := hb
      have hend := Stores.out_end (l := l) (p := ⟨pk, pv, pg⟩) (n := k) (by omega)
      cases B
      · have hcm : m.length ≤ k := HC.out
        have HG : Hid (m ++ [(⟨pk, pv, pg⟩ : Pair)] = withP l ⟨pk, pv, pg⟩) := by rw [HM.out]; exact hend.2 HA.out
        have HO : Hid (wr.ownsRow w0.heap.size 31 3 u5 m.length (cells m)) := hown
        obtain ⟨r0, r1, r2⟩ := HP.out.below HB.out
        simp only at r0 r1 r2
        clear hown hb hend
        go_upto_region 13 with (at_builtin; go_must (refine wpList_append_own _ rfl (.tmp 47) (.tmp 49) 32 rfl w0.heap.size 31 i0 (.agg #[.string ⟨#[]⟩, .string ⟨#[]⟩, .bool false]) 3 40 Tryz.underlying32 hi hz0 hz1 hz2 rfl (by decide) _ _ _ rfl (HO.out.alloc _) ⟨_, 0, none⟩ 1 1 [.string pk, .string pv, .bool pg] rfl rfl (cell_three_new _ _ _ _ _) (fun u hu => by simp at hu; rcases hu with rfl | rfl | rfl <;> rfl) (by unfold maxLen; omega) (by omega) (by have := HB.out.size; simp; omega) ?_); intro v1 wn o1 g1 z1; clear z1)
        have HBN : Hid (Below w0.heap.size w0 wn) := (HB.out.alloc HB.out.size _).grown g1 (by have := HB.out.size; simp; omega) (fun k hk => (HO.out.lt k hk).1)
        have HON : Hid (wn.ownsRow w0.heap.size 31 3 v1 (withP l ⟨pk, pv, pg⟩).length (cells (withP l ⟨pk, pv, pg⟩))) := by
          rw [← HG.out, cells_append, List.length_append]
          exact o1
        clear g1 o1 HO HB r0 r1 r2
        obtain ⟨a1, c1, rfl, hwd⟩ := Wides.owns_wide HON.out
        have HFr : Hid (∀ x, a1 = some x → w.heap.size ≤ x.block) := fun x hx => Nat.le_trans HB0.out.size (Wides.owns_fresh HON.out x hx)
        have HW : Hid (Wide 3 wn a1 (withP l ⟨pk, pv, pg⟩).length c1 (cells (withP l ⟨pk, pv, pg⟩))) := hwd
        clear hwd HON
        go_wp2_with fail
        go_ret
        exact ⟨_, _, rfl, HW.out, HFr.out, bt HB0.out HBN.out⟩
      · have HG : Hid (m = withP l ⟨pk, pv, pg⟩) := by rw [HM.out]; exact hend.1 HA.out
        rw [HG.out] at hown
        obtain ⟨a1, c1, rfl, hwd⟩ := Wides.owns_wide hown
        have HFr : Hid (∀ x, a1 = some x → w.heap.size ≤ x.block) := fun x hx => Nat.le_trans HB0.out.size (Wides.owns_fresh hown x hx)
        have HW : Hid (Wide 3 wr a1 (withP l ⟨pk, pv, pg⟩).length c1 (cells (withP l ⟨pk, pv, pg⟩))) := hwd
        clear hwd hown hb hend
        go_wp2_with fail
        go_ret
        exact ⟨_, _, rfl, HW.out, HFr.out, bt HB0.out HB.out⟩

set_option maxHeartbeats 4000000 in
theorem put_any (l : List Pair) (p : Pair) (a : Option Addr) (n cap : Nat) (w : World) (hr : Wide 3 w a n cap (cells l)) (hn : n ≤ 1000) (hris : Rising l) :
    Calls Tryz.prog 56 #[.slice a n cap, .agg #[.string p.key, .string p.val, .bool p.gone]] w fun e w' => ∃ a' c', e = .returned (.tuple #[.slice a' (putL l p).length c', .int .i64 (putE l p : Nat)]) ∧ Wide 3 w' a' (putL l p).length c' (cells (putL l p)) ∧ ((a' = a ∧ putL l p = l) ∨ ∀ x, a' = some x → w.heap.size ≤ x.block) ∧ Below w.heap.size w w' := by
  have hln := PairRows.len_of hr
  have cW := fun w1 (b : Below w.heap.size w w1) => with_any l p a n cap w1 (hr.below b) hn hris
  obtain ⟨pk, pv, pg⟩ := p
  simp only at cW ⊢
  have cF := fun w1 (b : Below w.heap.size w w1) => WalkStoreRef.find_any l pk a n cap w1 (hr.below b) (by omega)
  have cK := fun w1 => WalkStoreRef.key_any pk w1
  have b0 : Below w.heap.size w (w.alloc (.cells #[.string pk, .string pv, .bool pg] 31)) := (Below.refl _ _).alloc (Nat.le_refl _) _
  obtain ⟨r0, r1, r2⟩ := PAt.new w pk pv pg
  have HP : Hid (PAt (w.alloc (.cells #[.string pk, .string pv, .bool pg] 31)) w.heap.size ⟨pk, pv, pg⟩) := PAt.new w pk pv pg
  have HR : Hid (Wide 3 w a n cap (cells l)) := hr
  have a26 := aggP
  have z26 := sizeP
  simp only at r0 r1 r2
  clear hr
  obtain ⟨E, HE⟩ : ∃ E : Nat, Hid (keyE pk = E) := ⟨_, rfl⟩
  rw [HE.out] at cK
  -- what is refused leaves all as it was
  have HRef : Hid (∀ (w1 : World) (F : Nat), putE l ⟨pk, pv, pg⟩ = F → F ≠ 0 → Below w.heap.size w w1 → ∃ a' c', Ending.returned (.tuple #[.slice a n cap, .int .i64 (F : Int)]) = .returned (.tuple #[.slice a' (putL l ⟨pk, pv, pg⟩).length c', .int .i64 (putE l ⟨pk, pv, pg⟩ : Nat)]) ∧ Wide 3 w1 a' (putL l ⟨pk, pv, pg⟩).length c' (cells (putL l ⟨pk, pv, pg⟩)) ∧ ((a' = a ∧ putL l ⟨pk, pv, pg⟩ = l) ∨ ∀ x, a' = some x → w.heap.size ≤ x.block) ∧ Below w.heap.size w w1) := by
    intro w1 F hF h0 b
    have hp : putL l ⟨pk, pv, pg⟩ = l := if_neg (by rw [hF]; exact h0)
    rw [hp, hln, hF]
    exact ⟨a, cap, rfl, HR.out.below b, .inl ⟨rfl, rfl⟩, b⟩
  by_cases hE : E = 0
  rotate_left
  · have hd : (((E : Nat) : Int) == 0) = false := by rw [beq_eq_false_iff_ne]; omega
    have hd2 : (((E : Nat) : Int) != 0) = true := by rw [bne_iff_ne]; omega
    have HV := HRef.out (w.alloc (.cells #[.string pk, .string pv, .bool pg] 31)) E (by
      unfold putE
      simp only
      rw [HE.out, if_pos hE]) hE b0
    clear hE HRef HE cW cF
    go_enter Tryz.func56, Tryz.ntmps56
    go_wp2_with fail
    refine (cK _).mono ?_
    rintro e w1 ⟨rfl, rfl⟩
    go_wp2_with fail
    go_ret2
    exact HV
  subst hE
  have HPE : Hid (putE l ⟨pk, pv, pg⟩ = if 200 < pv.size ∨ (find l pk = none ∧ 60 ≤ l.length) then 4 else 0) := by
    show _ = _
    unfold putE
    simp only
    rw [HE.out, if_neg (by decide)]
  by_cases hv : 200 < pv.size
  · have i1 : (200 : Int) < (pv.size : Int) := by omega
    have HV := HRef.out (w.alloc (.cells #[.string pk, .string pv, .bool pg] 31)) 4 (by rw [HPE.out, if_pos (.inl hv)]) (by decide) b0
    clear HRef HE cW cF HPE hv
    go_enter Tryz.func56, Tryz.ntmps56
    go_wp2_with fail
    refine (cK _).mono ?_
    rintro e w1 ⟨rfl, rfl⟩
    go_wp2_with fail
    go_ret2
    exact HV
  have i1 : ¬ (200 : Int) < (pv.size : Int) := by omega
  go_enter Tryz.func56, Tryz.ntmps56
  go_wp2_with fail
  refine (cK _).mono ?_
  rintro e w1 ⟨rfl, rfl⟩
  clear cK
  go_wp2_with fail
  refine (cF _ b0).mono ?_
  rintro e w2 ⟨z, rfl, hz, b2⟩
  obtain ⟨s0, s1, s2⟩ := HP.out.below b2
  simp only at s0 s1 s2
  replace b0 := bt b0 b2
  clear cF b2 r0 r1 r2
  have HWith : Hid (putE l ⟨pk, pv, pg⟩ = 0 → putL l ⟨pk, pv, pg⟩ = withP l ⟨pk, pv, pg⟩) := fun h => if_pos h
  rcases hz with ⟨h1, rfl⟩ | ⟨j, hj, rfl, h1⟩
  · by_cases hl : 60 ≤ n
    · have i2 : (60 : Int) ≤ (n : Int) := by omega
      have HV := HRef.out w2 4 (by rw [HPE.out, if_pos (.inr ⟨h1, by omega⟩)]) (by decide) b0
      clear HRef HE cW HPE hv h1 HWith
      go_wp2_with fail
      go_ret2
      exact HV
    · have i2 : ¬ (60 : Int) ≤ (n : Int) := by omega
      have h0 : putE l ⟨pk, pv, pg⟩ = 0 := by
        rw [HPE.out, if_neg]
        rintro (q | ⟨_, q⟩)
        · exact hv q
        · omega
      have HL := HWith.out h0
      have HZ : Hid (putE l ⟨pk, pv, pg⟩ = 0 ∧ putL l ⟨pk, pv, pg⟩ = withP l ⟨pk, pv, pg⟩) := ⟨h0, HL⟩
      clear HRef HE HPE hv h1 HWith h0 HL
      go_wp2_with fail
      refine (cW _ b0).mono ?_
      rintro e w3 ⟨a', c', rfl, hw3, hf3, b3⟩
      have HW3 : Hid (Wide 3 w3 a' (withP l ⟨pk, pv, pg⟩).length c' (cells (withP l ⟨pk, pv, pg⟩))) := hw3
      have HF3 : Hid (∀ x, a' = some x → w.heap.size ≤ x.block) := fun x hx => Nat.le_trans b0.size (hf3 x hx)
      replace b0 := bt b0 b3
      clear cW hw3 b3 hf3 s0 s1 s2
      generalize hlen : (withP l ⟨pk, pv, pg⟩).length = q at HW3
      have HQ : Hid ((withP l ⟨pk, pv, pg⟩).length = q) := hlen
      clear hlen
      go_wp2_with fail
      go_ret2
      rw [HZ.out.1, HZ.out.2, HQ.out]
      exact ⟨a', c', rfl, HW3.out, .inr HF3.out, b0⟩
  · have i2 : ¬ (j : Int) < 0 := by omega
    have h0 : putE l ⟨pk, pv, pg⟩ = 0 := by
      rw [HPE.out, if_neg]
      rintro (q | ⟨q, _⟩)
      · exact hv q
      · rw [h1] at q
        cases q
    have HL := HWith.out h0
    have HZ : Hid (putE l ⟨pk, pv, pg⟩ = 0 ∧ putL l ⟨pk, pv, pg⟩ = withP l ⟨pk, pv, pg⟩) := ⟨h0, HL⟩
    clear HRef HE HPE hv h1 HWith h0 HL
    go_wp2_with fail
    refine (cW _ b0).mono ?_
    rintro e w3 ⟨a', c', rfl, hw3, hf3, b3⟩
    have HW3 : Hid (Wide 3 w3 a' (withP l ⟨pk, pv, pg⟩).length c' (cells (withP l ⟨pk, pv, pg⟩))) := hw3
    have HF3 : Hid (∀ x, a' = some x → w.heap.size ≤ x.block) := fun x hx => Nat.le_trans b0.size (hf3 x hx)
    replace b0 := bt b0 b3
    clear cW hw3 b3 hf3 s0 s1 s2
    generalize hlen : (withP l ⟨pk, pv, pg⟩).length = q at HW3
    have HQ : Hid ((withP l ⟨pk, pv, pg⟩).length = q) := hlen
    clear hlen
    go_wp2_with fail
    go_ret2
    rw [HZ.out.1, HZ.out.2, HQ.out]
    exact ⟨a', c', rfl, HW3.out, .inr HF3.out, b0⟩

end Go.Proofs.YtofaegcljcpceagGreatDoor.WalkWithRef

/-
  What the document's own Live (package witref2) returns: the pairs of some lists that one can get, the youngest first.
-/
namespace Go.Proofs.YtofaegcljcpceagGreatDoor.WalkLiveRef
open Go.RowKit
open Lists (Row bt)
open Keeps (Kept owns_kept)
open Stores (Pair find withP Rising)
open Wides (Wide owns_wide)
open PairRows (cells cells_append)
open LsmRows (PRow LRows)
open Lsms (joinL liveA live alive total)
open WalkStoreRef (aggP sizeP FindAt)

theorem infoP : (Tryz.prog.info? 31).map (fun i => (i.zero, i.size, i.bytes)) = some (some (.agg #[.string ⟨#[]⟩, .string ⟨#[]⟩, .bool false]), 3, 40) := by kernel_rfl
theorem alive_le (s : List Pair) (j : Nat) : (alive (s.take j)).length ≤ s.length := by
  have h := List.length_filter_le (fun p : Pair => !p.gone) (s.take j)
  unfold alive
  rw [List.length_take] at h
  omega

set_option maxHeartbeats 4000000 in
set_option maxRecDepth 100000 in
theorem live_any (r : List (List Pair)) (vs : List Value) (a : Option Addr) (n cap : Nat) (w : World) (hr : Row w a n cap vs) (hl : LRows w vs r) (hz : total r ≤ 1000) (hn : n ≤ 1000) :
    Calls Tryz.prog 34 #[.slice a n cap] w fun e w' => ∃ v, e = .returned v ∧ w'.ownsRow w.heap.size 31 3 v (live r).length (cells (live r)) ∧ Below w.heap.size w w' := by
  have hvn : vs.length = n := hr.1
  have hrn : r.length = n := by rw [← hl.1]; exact hvn
  have HR : Hid (Row w a n cap vs) := hr
  have HL : Hid (LRows w vs r) := hl
  have a23 := aggP
  have z23 := sizeP
  obtain ⟨i0, hi, hz0, hz1, hz2⟩ := info_parts infoP
  clear hr hl
  go_enter Tryz.func34, Tryz.ntmps34
  go_wp2_with fail
  go_loopw [3, 4] (fun v i wr => ∃ k : Nat, k ≤ n ∧ i = .int .i64 (k : Int) ∧ Hid (PRow wr v (liveA [] (r.take k))) ∧ Hid (Below w.heap.size w wr)) (fun _ i _ => n - (intOf i).toNat)
  case atStart => exact ⟨0, Nat.zero_le _, rfl, PRow.nil _, Below.refl _ _⟩
  case round =>
    obtain ⟨k, hk, rfl, HP, HB⟩ := hrel
    by_cases hlt : k < n
    · have i1 : (k : Int) < (n : Int) := by omega
      have hkr : k < r.length := by omega
      have hkv : k < vs.length := by omega
      obtain ⟨b1, off1, rfl, _⟩ := HR.out.2.2 (by omega)
      have HC : Hid (∀ w2, Below w.heap.size w w2 → w2.cell? ⟨b1, off1 + k, none⟩ = some vs[k]) := fun w2 b2 => (HR.out.below b2).at k _ (List.getElem?_eq_getElem hkv)
      have HQ : Hid (∀ w2, Below w.heap.size w w2 → PRow w2 vs[k] r[k]) := fun w2 b2 => (HL.out.below b2).2 k hkv hkr
      have HN : Hid (liveA [] (r.take (k + 1)) = joinL (liveA [] (r.take k)) r[k]) := Lsms.live_next r hkr
      have hT := LsmRows.total_at r k hkr
      have hA := Lsms.liveA_le (r.take k) []
      have hRi : Rising (liveA [] (r.take k)) := Lsms.rising_live _ _ Lsms.rising_nil
      simp only [List.length_nil] at hA
      generalize vs[k] = u at HC HQ
      generalize r[k] = q at HQ HN hT
      generalize liveA [] (r.take k) = A at HP HN hA hRi
      generalize total (r.take k) = T at hT hA
      obtain ⟨aq, cq, rfl, _⟩ := HQ.out w (Below.refl _ _)
      have HQ2 : Hid (∀ w2, Below w.heap.size w w2 → Wide 3 w2 aq q.length cq (cells q)) := fun w2 b2 => by
        obtain ⟨a2, c2, h1, h2⟩ := HQ.out w2 b2
        simp only [Value.slice.injEq] at h1
        obtain ⟨rfl, _, rfl⟩ := h1
        exact h2
      clear HQ
      go_wp2_with fail
      go_loopw [3, 5] (fun v i wr => ∃ j : Nat, j ≤ q.length ∧ i = .int .i64 (j : Int) ∧ Hid (PRow wr v (joinL A (q.take j))) ∧ Hid (Below w.heap.size w wr)) (fun _ i _ => q.length - (intOf i).toNat)
      case atStart => exact ⟨0, Nat.zero_le _, rfl, HP, HB⟩
      case round =>
        obtain ⟨j, hj, rfl, HJ, HBj⟩ := hrel
        clear HP HB
        have c0 := HC.out _ HBj.out
        by_cases hlt2 : j < q.length
        · have i2 : (j : Int) < (q.length : Int) := by omega
          have HX : Hid (joinL A (q.take (j + 1)) = if find (joinL A (q.take j)) (q[j]).key = none then withP (joinL A (q.take j)) q[j] else joinL A (q.take j)) := Lsms.join_next A q hlt2
          have hJl := Lsms.join_le (q.take j) A
          rw [List.length_take] at hJl
          have hJr : Rising (joinL A (q.take j)) := Lsms.rising_join _ _ hRi
          obtain ⟨b2, off2, rfl, _⟩ := (HQ2.out _ HBj.out).2.2 (by omega)
          have HP3 : Hid (∀ w2, Below w.heap.size w w2 → w2.cell? ⟨b2, off2 + j * 3, none⟩ = some (.string (q[j]).key) ∧ w2.cell? ⟨b2, off2 + j * 3 + 1, none⟩ = some (.string (q[j]).val) ∧ w2.cell? ⟨b2, off2 + j * 3 + 2, none⟩ = some (.bool (q[j]).gone)) := fun w2 k2 => PairRows.at_three (HQ2.out w2 k2) j hlt2
          generalize q[j] = y at HP3 HX
          generalize joinL A (q.take j) = J at HJ HX hJl hJr
          obtain ⟨y0, y1, y2⟩ := y
          simp only at HP3 HX
          obtain ⟨p0, p1, p2⟩ := HP3.out _ HBj.out
          obtain ⟨aJ, cJ, rfl, rJ⟩ := HJ.out
          have cF := WalkStoreRef.find_any J y0 aJ J.length cJ _ rJ (by omega)
          have HRJ : Hid (Wide 3 wr aJ J.length cJ (cells J)) := rJ
          clear rJ
          go_wp2_with fail
          refine cF.mono ?_
          rintro e w2 ⟨z, rfl, hf, b2⟩
          have HB2 : Hid (Below w.heap.size w w2) := bt HBj.out b2
          have HR2 : Hid (Wide 3 w2 aJ J.length cJ (cells J)) := HRJ.out.below b2
          clear cF b2 c0 p0 p1 p2
          obtain ⟨p0, p1, p2⟩ := HP3.out _ HB2.out
          have c0 := HC.out _ HB2.out
          rcases hf with ⟨hno, rfl⟩ | ⟨i', hi', rfl, hsome⟩
          · have HY : Hid (joinL A (q.take (j + 1)) = withP J ⟨y0, y1, y2⟩) := by show _ = _; rw [HX.out, if_pos hno]
            have cW := WalkWithRef.with_any J ⟨y0, y1, y2⟩ aJ J.length cJ w2 HR2.out (by omega) hJr
            simp only at cW
            clear hno HX HJ HRJ HR2
            go_wp2_with fail
            refine cW.mono ?_
            rintro e w3 ⟨a', c', rfl, r3, _, b3⟩
            have HP4 : Hid (PRow w3 (.slice a' (withP J ⟨y0, y1, y2⟩).length c') (joinL A (q.take (j + 1)))) := by show PRow _ _ _; rw [HY.out]; exact ⟨a', c', rfl, r3⟩
            have HB3 : Hid (Below w.heap.size w w3) := bt HB2.out b3
            clear cW r3 b3 HB2 p0 p1 p2 c0
            go_wp2_with fail
            go_roundw
            case rel => exact ⟨j + 1, by omega, by go_num, HP4, HB3⟩
            case measure => simp [intOf]; omega
          · have HY : Hid (joinL A (q.take (j + 1)) = J) := by show _ = _; rw [HX.out, if_neg (by rw [hsome]; exact fun h => by cases h)]
            have HP4 : Hid (PRow w2 (.slice aJ J.length cJ) (joinL A (q.take (j + 1)))) := by show PRow _ _ _; rw [HY.out]; exact ⟨aJ, cJ, rfl, HR2.out⟩
            have hi2 : (0 : Int) ≤ (i' : Int) := by omega
            clear hsome hi' HX HJ HRJ HR2 p0 p1 p2 c0
            go_wp2_with fail
            go_roundw
            case rel => exact ⟨j + 1, by omega, by go_num, HP4, HB2⟩
            case measure => simp [intOf]; omega
        · have i2 : ¬ (j : Int) < (q.length : Int) := by omega
          have HP4 : Hid (PRow wr u3 (liveA [] (r.take (k + 1)))) := by
            show PRow _ _ _
            rw [HN.out]
            have h := HJ.out
            rw [List.take_of_length_le (by omega)] at h
            exact h
          clear HJ
          go_wp2_with fail
          go_roundw
          case rel => exact ⟨k + 1, by omega, by go_num, HP4, HBj⟩
          case measure => simp [intOf]; omega
    · have i1 : ¬ (k : Int) < (n : Int) := by omega
      have hp := HP.out
      rw [List.take_of_length_le (by omega)] at hp
      have hA := Lsms.liveA_le r []
      simp only [List.length_nil] at hA
      have HV : Hid (live r = alive (liveA [] r)) := rfl
      generalize liveA [] r = A at hp hA HV
      obtain ⟨aA, cA, rfl, rA⟩ := hp
      obtain ⟨wA, rfl⟩ : ∃ w0, w0 = wr := ⟨wr, rfl⟩
      have HA : Hid (Wide 3 wA aA A.length cA (cells A)) := rA
      clear rA HP HL HR
      go_wp2_with fail
      go_loopw [6, 7] (fun v i wn => ∃ j : Nat, j ≤ A.length ∧ i = .int .i64 (j : Int) ∧ Hid (wn.ownsRow wA.heap.size 31 3 v (alive (A.take j)).length (cells (alive (A.take j)))) ∧ Hid (Below wA.heap.size wA wn)) (fun _ i _ => A.length - (intOf i).toNat)
      case atStart => exact ⟨0, Nat.zero_le _, rfl, World.ownsRow_nil _ _ _ _, Below.refl _ _⟩
      case round =>
        obtain ⟨j, hj, rfl, HO, HBn⟩ := hrel
        by_cases hlt2 : j < A.length
        · have i2 : (j : Int) < (A.length : Int) := by omega
          obtain ⟨b2, off2, rfl, _⟩ := HA.out.2.2 (by omega)
          obtain ⟨p0, p1, p2⟩ := PairRows.at_three (HA.out.below HBn.out) j hlt2
          have HN : Hid (alive (A.take (j + 1)) = alive (A.take j) ++ (if (A[j]).gone = true then [] else [A[j]])) := Lsms.alive_next hlt2
          have hal := alive_le A j
          generalize A[j] = y at p0 p1 p2 HN
          obtain ⟨y0, y1, y2⟩ := y
          simp only at p0 p1 p2 HN
          cases y2
          · have HN2 : Hid (alive (A.take (j + 1)) = alive (A.take j) ++ [⟨y0, y1, false⟩]) := HN.out
            clear HN
            go_wp2_with (at_builtin; go_must (refine wpList_append_own _ rfl (.tmp 55) (.tmp 60) 32 rfl wA.heap.size 31 i0 (.agg #[.string ⟨#[]⟩, .string ⟨#[]⟩, .bool false]) 3 40 Tryz.underlying32 hi hz0 hz1 hz2 rfl (by decide) _ _ _ rfl (HO.out.alloc _) ⟨_, 0, none⟩ 1 1 [.string y0, .string y1, .bool false] rfl rfl (WalkWithRef.cell_three_new _ _ _ _ _) (fun u hu => by simp at hu; rcases hu with rfl | rfl | rfl <;> rfl) (by unfold maxLen; omega) (by omega) (by have := HBn.out.size; simp; omega) ?_); intro v1 wn o1 g1 z1; clear z1)
            have HB4 : Hid (Below wA.heap.size wA wn) := (HBn.out.alloc HBn.out.size _).grown g1 (by have := HBn.out.size; simp; omega) (fun k hk => (HO.out.lt k hk).1)
            have HON : Hid (wn.ownsRow wA.heap.size 31 3 v1 (alive (A.take (j + 1))).length (cells (alive (A.take (j + 1))))) := by
              rw [HN2.out, cells_append, List.length_append]
              exact o1
            clear g1 o1
            go_roundw
            case rel => exact ⟨j + 1, by omega, by go_num, HON, HB4⟩
            case measure => simp [intOf]; omega
          · have HN2 : Hid (alive (A.take (j + 1)) = alive (A.take j)) := by show _ = _; rw [HN.out]; simp
            clear HN
            go_wp2_with fail
            go_roundw
            case rel => exact ⟨j + 1, by omega, by go_num, by show Hid _; rw [HN2.out]; exact HO, HBn⟩
            case measure => simp [intOf]; omega
        · have i2 : ¬ (j : Int) < (A.length : Int) := by omega
          have hO := HO.out
          rw [List.take_of_length_le (by omega), ← HV.out] at hO
          have HF := Keeps.owns_base hO HB.out.size
          have HE : Hid (Below w.heap.size w _) := bt HB.out HBn.out
          have HO2 : Hid (wr.ownsRow w.heap.size 31 3 u6 (live r).length (cells (live r))) := HF
          clear hO HF HO
          go_wp2_with fail
          go_ret
          exact ⟨_, rfl, HO2.out, HE.out⟩

end Go.Proofs.YtofaegcljcpceagGreatDoor.WalkLiveRef

/-
  What the document's own lsm (package witref2) does: Merge, All.
-/
namespace Go.Proofs.YtofaegcljcpceagGreatDoor.WalkMergeRef
open Go.RowKit
open Lists (Row bt)
open Keeps (Kept owns_kept owns_row)
open Stores (Pair)
open Wides (Wide owns_wide)
open PairRows (cells)
open LsmRows (PRow LRows)
open LsmDoc (Dl In)
open Lsms (Lsm live total mergeV merged mergeE)

theorem infoL : (Tryz.prog.info? 32).map (fun i => (i.zero, i.size, i.bytes)) = some (some (.slice none 0 0), 1, 24) := by kernel_rfl
theorem one_at (w : World) (v : Value) (t : TypeId) : ∀ j u, [v][j]? = some u → (w.alloc (.cells #[v] t)).cell? ((⟨w.heap.size, 0, none⟩ : Addr).add j) = some u := by
  intro j u hj
  match j, hj with
  | 0, hj => simp at hj; subst hj; simp [Addr.add]
theorem owns_fresh1 {w : World} {base : Nat} {e : TypeId} {v : Value} {n : Nat} {xs : List Value} (h : w.ownsRow base e 1 v n xs) : ∀ ad, (∃ m c, v = .slice (some ad) m c) → base ≤ ad.block := by
  rintro ad ⟨m, c, rfl⟩
  exact Wides.owns_fresh h ad rfl
/-- the document's lsm, wherever its parts lie -/
def DL (w : World) (B g : Nat) (D : Nat → Prop) (x : Lsm) : Prop := ∃ yv lv vs, Dl w B g D x yv lv vs
/-- what a method that writes leaves -/
def Stays (w w' : World) (B g : Nat) (D : Nat → Prop) (x : Lsm) : Prop := (∃ D', DL w' B g D' x ∧ ∀ k, D' k → D k ∨ w.heap.size ≤ k) ∧ Kept (fun k => k = g) w w'

set_option maxHeartbeats 4000000 in
set_option maxRecDepth 100000 in
theorem merge_any {w : World} {B g : Nat} {D : Nat → Prop} {x : Lsm} (h : DL w B g D x) (hz : total x.levels ≤ 1000) (hn : x.levels.length ≤ 1000) :
    Calls Tryz.prog 76 #[.pointer (some ⟨g, 0, none⟩)] w fun e w' => e = .returned (.int .i64 (mergeE x : Nat)) ∧ Stays w w' B g D (merged x) := by
  obtain ⟨yv, lv, vs, hd⟩ := h
  obtain ⟨i0, hi, hz0, hz1, hz2⟩ := info_parts infoL
  obtain ⟨a, cap, rfl, hrow, hnil⟩ := hd.levels
  have c2 : w.cell? ⟨g, 2, none⟩ = some (.slice a x.levels.length cap) := hd.lies.cell (i := 2) (by omega)
  have HD : Hid (Dl w B g D x yv (.slice a x.levels.length cap) vs) := hd
  by_cases h0 : x.levels = []
  · have HE : Hid (mergeE x = 6) := if_pos h0
    have HM : Hid (merged x = x) := by
      show ({ x with levels := mergeV x } : Lsm) = x
      rw [show mergeV x = [] from if_pos h0, ← h0]
    have hl0 : x.levels.length = 0 := by rw [h0]; rfl
    rw [hl0] at c2
    clear hd hrow hnil h0
    go_enter Tryz.func76, Tryz.ntmps76
    go_wp2_with fail
    go_ret
    exact ⟨by rw [HE.out]; rfl, ⟨D, by rw [HM.out]; exact ⟨_, _, _, HD.out⟩, fun k q => .inl q⟩, Kept.refl _ _⟩
  · have hp : ((x.levels.length : Int) == 0) = false := by
      have := List.length_pos_iff.2 h0
      rw [beq_eq_false_iff_ne]
      omega
    have HE : Hid (mergeE x = 0) := if_neg h0
    have HMv : Hid (mergeV x = if live x.levels = [] then [] else [live x.levels]) := if_neg h0
    have cL := WalkLiveRef.live_any x.levels vs a x.levels.length cap w hrow hd.rows hz hn
    generalize x.levels.length = N at *
    clear hd h0
    go_enter Tryz.func76, Tryz.ntmps76
    go_wp2_with fail
    refine cL.mono ?_
    rintro e w1 ⟨v, rfl, o1, b1⟩
    have hd1 := HD.out.below b1
    have c3 : w1.cell? ⟨g, 2, none⟩ = some (.slice a N cap) := hd1.lies.cell (i := 2) (by omega)
    have f3 : w1.frozen? ⟨g, 2, none⟩ = false := hd1.lies.frozen 2
    obtain ⟨hd2, k2⟩ := hd1.setLevels (E := D) (r := []) (a := none) (cap := 0) (ws := []) (fun _ q => q) hd1.foot (Row.nil _ _ _) (fun _ => ⟨rfl, rfl⟩) (In.nil _ _) (LRows.nil _) (fun v hv => by cases hv)
    have HD2 : Hid (Dl (w1.setCell ⟨g, 2, none⟩ (.slice none 0 0)) B g D { x with levels := [] } yv (.slice none 0 0) []) := hd2
    have HK2 : Hid (Kept (fun k => k = g) w (w1.setCell ⟨g, 2, none⟩ (.slice none 0 0))) := (Kept.of_below _ b1).trans k2 fun i q => .inl q
    have hgw : g < w.heap.size := (HD.out.foot g HD.out.own).2
    obtain ⟨aL, cL', rfl, rL⟩ := owns_wide o1
    have hfr := Wides.owns_fresh o1
    have HRL : Hid (Wide 3 (w1.setCell ⟨g, 2, none⟩ (.slice none 0 0)) aL (live x.levels).length cL' (cells (live x.levels))) := LsmDoc.wide_kept rL k2 fun ad e q => by have := hfr ad e; omega
    clear cL hd1 hd2 k2 o1 rL b1 hrow
    by_cases hlv : live x.levels = []
    · have HM : Hid (merged x = { x with levels := [] }) := by
        show ({ x with levels := mergeV x } : Lsm) = _
        rw [HMv.out, if_pos hlv]
      have hl0 : (live x.levels).length = 0 := by rw [hlv]; rfl
      rw [hl0]
      clear hlv HRL
      go_wp2_with fail
      go_ret
      exact ⟨by rw [HE.out]; rfl, ⟨D, by rw [HM.out]; exact ⟨_, _, _, HD2.out⟩, fun k q => .inl q⟩, HK2.out⟩
    · have HM : Hid (merged x = { x with levels := [live x.levels] }) := by
        show ({ x with levels := mergeV x } : Lsm) = _
        rw [HMv.out, if_neg hlv]
      have hpl : (0 : Int) < ((live x.levels).length : Int) := by
        have := List.length_pos_iff.2 hlv
        omega
      obtain ⟨L, HL⟩ : ∃ L, Hid (live x.levels = L) := ⟨_, rfl⟩
      rw [HL.out] at hpl HRL HM ⊢
      clear hlv HL
      have hdr := HD2.out.lies
      go_upto_region 6 with fail
      have c4 : (w1.setCell ⟨g, 2, none⟩ (.slice none 0 0)).cell? ⟨g, 2, none⟩ = some (.slice none 0 0) := hdr.cell (i := 2) (by omega)
      have h12 : w.heap.size ≤ (w1.setCell ⟨g, 2, none⟩ (.slice none 0 0)).heap.size := HK2.out.size
      clear hdr c3 f3
      generalize w1.setCell ⟨g, 2, none⟩ (.slice none 0 0) = w2 at HD2 HK2 HRL c4 h12 ⊢
      have c5 : (w2.alloc (.cells #[.slice aL L.length cL'] 32)).cell? ⟨g, 2, none⟩ = some (.slice none 0 0) := by rw [World.cell?_alloc_lt _ _ _ (by show g < w2.heap.size; omega)]; exact c4
      go_wp2_with (at_builtin; go_must (refine wpList_append_own _ rfl (.tmp 25) (.tmp 27) 22 rfl w2.heap.size 32 i0 (.slice none 0 0) 1 24 Tryz.underlying22 hi hz0 hz1 hz2 rfl (by decide) _ _ _ rfl (World.ownsRow_nil _ _ _ _) ⟨_, 0, none⟩ 1 1 [.slice aL L.length cL'] rfl rfl (one_at _ _ _) (fun u hu => by rw [List.mem_singleton.1 hu]; rfl) (by unfold maxLen; omega) (by omega) (by simp) ?_); intro v1 wn o1 g1 z1; clear z1; have bn : Below w2.heap.size w2 wn := ((Below.refl _ w2).alloc (Nat.le_refl _) _).grown g1 (by simp) (fun k hk => by have hk' : (none : Option Nat) = some k := hk; cases hk'); have hfn := owns_fresh1 o1; obtain ⟨a1, c1, rfl, r1, _⟩ := owns_row o1; have hdn := HD2.out.below bn; have c6 : wn.cell? ⟨g, 2, none⟩ = some (.slice none 0 0) := hdn.lies.cell (i := 2) (by omega); have f6 : wn.frozen? ⟨g, 2, none⟩ = false := hdn.lies.frozen 2)
      have hlt1 : ∀ ad, a1 = some ad → ad.block < wn.heap.size := fun ad e => by
        obtain ⟨b5, off5, h5, hc5⟩ := r1.2.2 (by omega)
        rw [e] at h5
        obtain rfl : ad = ⟨b5, off5, none⟩ := by simpa using h5
        exact Lists.block_lt (hc5 0 _ rfl)
      have hE : ∀ i, (D i ∨ (w.heap.size ≤ i ∧ i < wn.heap.size)) → B ≤ i ∧ i < wn.heap.size := fun i q => by
        rcases q with q | q
        · exact hdn.foot i q
        · have := (HD.out.foot g HD.out.own).1
          omega
      have hLlt : ∀ ad, aL = some ad → ad.block < wn.heap.size := fun ad e => by
        obtain ⟨b5, off5, h5, hc5⟩ := HRL.out.2.2 (by omega)
        rw [e] at h5
        obtain rfl : ad = ⟨b5, off5, none⟩ := by simpa using h5
        have hl : 0 < (cells L).length := by rw [PairRows.cells_length]; omega
        exact Nat.lt_of_lt_of_le (Lists.block_lt (hc5 0 _ (List.getElem?_eq_getElem hl))) bn.size
      have hin : In (fun i => D i ∨ (w.heap.size ≤ i ∧ i < wn.heap.size)) g (.slice a1 ([L] : List (List Pair)).length c1) := fun ad n c e => by
        simp only [Value.slice.injEq] at e
        have h5 := hfn ad ⟨_, _, by rw [e.1]⟩
        have h6 := hlt1 ad e.1
        exact ⟨.inr ⟨by omega, h6⟩, by omega⟩
      have hiL : In (fun i => D i ∨ (w.heap.size ≤ i ∧ i < wn.heap.size)) g (.slice aL L.length cL') := fun ad n c e => by
        simp only [Value.slice.injEq] at e
        have h5 := hfr ad e.1
        have h6 := hLlt ad e.1
        exact ⟨.inr ⟨h5, h6⟩, by omega⟩
      obtain ⟨hd7, k7⟩ := hdn.setLevels (E := fun i => D i ∨ (w.heap.size ≤ i ∧ i < wn.heap.size)) (r := [L]) (a := a1) (cap := c1) (ws := [.slice aL L.length cL']) (fun _ q => .inl q) hE r1 (fun q => by cases q) hin (LRows.cons ⟨aL, cL', rfl, HRL.out.below bn⟩ (LRows.nil _)) (fun v hv => by rw [List.mem_singleton.1 hv]; exact hiL)
      have HF : Hid (Stays w (wn.setCell ⟨g, 2, none⟩ (.slice a1 1 c1)) B g D (merged x)) := ⟨⟨fun i => D i ∨ (w.heap.size ≤ i ∧ i < wn.heap.size), by rw [HM.out]; exact ⟨_, _, _, hd7⟩, fun k q => Or.imp id And.left q⟩, (HK2.out.then bn).trans k7 fun i q => .inl q⟩
      clear hd7 k7 hin hiL hE hLlt hlt1 hdn
      go_wp2_with fail
      go_ret
      exact ⟨by rw [HE.out]; rfl, HF.out⟩

end Go.Proofs.YtofaegcljcpceagGreatDoor.WalkMergeRef

/-
  What the document's own lsm (package witref2) does: All, Flush.
-/
namespace Go.Proofs.YtofaegcljcpceagGreatDoor.WalkFlushRef
open Go.RowKit
open Lists (Row bt)
open Keeps (Kept owns_kept owns_row owns_base)
open Stores (Pair)
open Wides (Wide owns_wide)
open PairRows (cells)
open LsmRows (PRow LRows)
open LsmDoc (Dl In)
open Lsms (Lsm live total mergeV merged mergeE flushed flushE room)
open WalkMergeRef (DL Stays infoL one_at owns_fresh1)

/-- one slice in a new row -/
theorem lit_one (w : World) (v : Value) : (w.alloc (.cells #[v] 32)).ownsRow w.heap.size 32 1 (.slice (some ⟨w.heap.size, 0, none⟩) 1 1) 1 [v] :=
  ⟨rfl, .inr ⟨w.heap.size, 1, #[v], rfl, Nat.le_refl _, heap_alloc_new w _, Nat.le_refl _, by decide, rfl, rfl⟩⟩
/-- a slice takes one cell -/
theorem prow_cell {w : World} {v : Value} {l : List Pair} (h : PRow w v l) : v.oneCell' = true := by
  obtain ⟨a, cap, rfl, _⟩ := h
  rfl
theorem lrows_cell {w : World} {vs : List Value} {r : List (List Pair)} (h : LRows w vs r) : ∀ u ∈ vs, u.oneCell' = true := by
  intro u hu
  obtain ⟨i, hi, rfl⟩ := List.getElem_of_mem hu
  exact prow_cell (h.2 i hi (by rw [← h.1]; exact hi))
theorem row_add {w : World} {b off n cap : Nat} {xs : List Value} (h : Row w (some ⟨b, off, none⟩) n cap xs) : ∀ j u, xs[j]? = some u → w.cell? ((⟨b, off, none⟩ : Addr).add j) = some u := by
  intro j u hj
  rw [show (⟨b, off, none⟩ : Addr).add j = ⟨b, off + j, none⟩ by (unfold Addr.add; split <;> simp_all)]
  exact h.at j u hj

set_option maxHeartbeats 4000000 in
set_option maxRecDepth 100000 in
theorem all_any {w : World} {B g : Nat} {D : Nat → Prop} {x : Lsm} (h : DL w B g D x) (hz : total x.lists ≤ 1000) (hn : x.levels.length ≤ 999) :
    Calls Tryz.prog 16 #[.pointer (some ⟨g, 0, none⟩)] w fun e w' => ∃ v, e = .returned v ∧ w'.ownsRow w.heap.size 31 3 v x.all.length (cells x.all) ∧ Below w.heap.size w w' := by
  obtain ⟨yv, lv, vs, hd⟩ := h
  obtain ⟨i0, hi, hz0, hz1, hz2⟩ := info_parts infoL
  obtain ⟨a, cap, rfl, hrow, hnil⟩ := hd.levels
  have c1 : w.cell? ⟨g, 1, none⟩ = some yv := hd.lies.cell (i := 1) (by omega)
  have c2 : w.cell? ⟨g, 2, none⟩ = some (.slice a x.levels.length cap) := hd.lies.cell (i := 2) (by omega)
  have hLR : LRows w (yv :: vs) x.lists := LRows.cons hd.young hd.rows
  have hone := lrows_cell hd.rows
  have hvl : vs.length = x.levels.length := hd.rows.1
  have hgw : g < w.heap.size := (hd.foot g hd.own).2
  have HLR : Hid (LRows w (yv :: vs) x.lists) := hLR
  have HR : Hid (Row w a x.levels.length cap vs) := hrow
  have hll : x.lists.length = x.levels.length + 1 := rfl
  obtain ⟨ay, cy, rfl, _⟩ := hd.young
  clear hd hLR hrow
  have b0 : Below w.heap.size w (w.alloc (.cells #[.slice ay x.young.length cy] 32)) := (Below.refl _ _).alloc (Nat.le_refl _) _
  have o0 := lit_one w (.slice ay x.young.length cy)
  have e2 : (w.alloc (.cells #[.slice ay x.young.length cy] 32)).cell? ⟨g, 2, none⟩ = some (.slice a x.levels.length cap) := by rw [World.cell?_alloc_lt _ _ _ hgw]; exact c2
  by_cases h0 : x.levels = []
  · obtain ⟨rfl, rfl⟩ := hnil h0
    have hl0 : x.levels.length = 0 := by rw [h0]; rfl
    have hv0 : vs = [] := List.length_eq_zero_iff.1 (by omega)
    subst hv0
    rw [hl0] at c2 e2
    go_enter Tryz.func16, Tryz.ntmps16
    go_upto_region 2 with fail
    generalize w.alloc (.cells #[.slice ay x.young.length cy] 32) = w1 at b0 o0 e2 ⊢
    have cL := fun w2 (k : Below w1.heap.size w1 w2) => WalkLiveRef.live_any x.lists [.slice ay x.young.length cy] (some ⟨w.heap.size, 0, none⟩) 1 1 w2 ((Row.of_owns o0).2.below k) (HLR.out.below (bt b0 k)) hz (by omega)
    go_wp2_with (at_builtin; go_must (refine wpList_append_own_none rfl (.tmp 9) (.tmp 13) 22 rfl w.heap.size 32 i0 1 Tryz.underlying22 hi _ _ _ rfl o0 rfl ?_))
    refine (cL _ (Below.refl _ _)).mono ?_
    rintro e w3 ⟨v, rfl, o3, b3⟩
    have HO : Hid (w3.ownsRow w.heap.size 31 3 v x.all.length (cells x.all)) := owns_base o3 b0.size
    have HB : Hid (Below w.heap.size w w3) := bt b0 b3
    clear cL o3 b3
    go_wp2_with fail
    go_ret
    exact ⟨_, rfl, HO.out, HB.out⟩
  · obtain ⟨b5, off5, rfl, _⟩ := HR.out.2.2 (List.length_pos_iff.2 h0)
    go_enter Tryz.func16, Tryz.ntmps16
    go_upto_region 2 with fail
    generalize w.alloc (.cells #[.slice ay x.young.length cy] 32) = w1 at b0 o0 e2 ⊢
    have hr1 := HR.out.below b0
    have hsrc := row_add hr1
    go_wp2_with (at_builtin; go_must (refine wpList_append_own _ rfl (.tmp 9) (.tmp 13) 22 rfl w.heap.size 32 i0 (.slice none 0 0) 1 24 Tryz.underlying22 hi hz0 hz1 hz2 rfl (by decide) _ _ _ rfl o0 ⟨b5, off5, none⟩ x.levels.length cap vs rfl (by rw [hvl, Nat.mul_one]) hsrc hone (by unfold maxLen; omega) (by omega) b0.size ?_); intro v1 wn o1 g1 z1; clear z1; have bn : Below w.heap.size w wn := b0.grown g1 b0.size (fun k hk => (o0.lt k hk).1); obtain ⟨a1, c1', rfl, r1, _⟩ := owns_row o1)
    have cL := WalkLiveRef.live_any x.lists (.slice ay x.young.length cy :: vs) a1 (1 + x.levels.length) c1' wn r1 (HLR.out.below bn) hz (by omega)
    clear o1 g1 r1
    go_wp2_with fail
    refine cL.mono ?_
    rintro e w3 ⟨v, rfl, o3, b3⟩
    have HO : Hid (w3.ownsRow w.heap.size 31 3 v x.all.length (cells x.all)) := owns_base o3 bn.size
    have HB : Hid (Below w.heap.size w w3) := bt bn b3
    clear cL o3 b3
    go_wp2_with fail
    go_ret
    exact ⟨_, rfl, HO.out, HB.out⟩

theorem room_le (x : Lsm) : (room x).length ≤ 7 := by
  unfold room
  split
  · unfold mergeV
    split
    · simp
    · split <;> simp
  · omega
/-- what the two stores of Flush leave -/
theorem flush_left {w wc wn : World} {B g : Nat} {D D1 : Nat → Prop} {x : Lsm} {yv lv : Value} {vs : List Value} {a1 : Option Addr} {c1 : Nat} (hd : Dl wc B g D1 { x with levels := room x } yv lv vs) (hD1 : ∀ k, D1 k → D k ∨ w.heap.size ≤ k) (k1 : Kept (fun k => k = g) w wc) (hy : x.young ≠ [])
    (bn : Below wc.heap.size wc wn) (r1 : Row wn a1 (x.young :: room x).length c1 (yv :: vs)) (hf : ∀ ad, a1 = some ad → wc.heap.size ≤ ad.block) :
    Stays w ((wn.setCell ⟨g, 2, none⟩ (.slice a1 (x.young :: room x).length c1)).setCell ⟨g, 1, none⟩ (.slice none 0 0)) B g D (flushed x) := by
  have hdn := hd.below bn
  have hg := hd.foot g hd.own
  have hlt1 : ∀ ad, a1 = some ad → ad.block < wn.heap.size := fun ad e => by
    obtain ⟨b5, off5, h5, hc5⟩ := r1.2.2 (by simp)
    rw [e] at h5
    obtain rfl : ad = ⟨b5, off5, none⟩ := by simpa using h5
    exact Lists.block_lt (hc5 0 _ rfl)
  have hE : ∀ i, (D1 i ∨ (wc.heap.size ≤ i ∧ i < wn.heap.size)) → B ≤ i ∧ i < wn.heap.size := fun i q => by
    rcases q with q | q
    · exact hdn.foot i q
    · omega
  have hin : In (fun i => D1 i ∨ (wc.heap.size ≤ i ∧ i < wn.heap.size)) g (.slice a1 (x.young :: room x).length c1) := fun ad n c e => by
    simp only [Value.slice.injEq] at e
    have h5 := hf ad e.1
    have h6 := hlt1 ad e.1
    exact ⟨.inr ⟨h5, h6⟩, by omega⟩
  obtain ⟨hd7, k7⟩ := hdn.setLevels (E := fun i => D1 i ∨ (wc.heap.size ≤ i ∧ i < wn.heap.size)) (r := x.young :: room x) (a := a1) (cap := c1) (ws := yv :: vs) (fun _ q => .inl q) hE r1 (fun q => by cases q) hin (LRows.cons hdn.young hdn.rows) (fun v hv => by
    rcases List.mem_cons.1 hv with rfl | hv
    · exact hdn.yin.mono fun _ q => .inl q
    · exact (hdn.rin v hv).mono fun _ q => .inl q)
  obtain ⟨hd8, k8⟩ := hd7.setYoung (fun _ q => q) hd7.foot (nv := .slice none 0 0) (l := []) (PRow.nil _) (In.nil _ _)
  refine ⟨⟨fun i => D1 i ∨ (wc.heap.size ≤ i ∧ i < wn.heap.size), ?_, fun k q => ?_⟩, ((k1.then bn).trans k7 fun i q => .inl q).trans k8 fun i q => .inl q⟩
  · rw [show flushed x = { x with young := [], levels := x.young :: room x } from if_neg hy]
    exact ⟨_, _, _, hd8⟩
  · rcases q with q | q
    · exact hD1 k q
    · have := k1.size
      exact .inr (by omega)

set_option maxHeartbeats 4000000 in
set_option maxRecDepth 100000 in
theorem flush_any {w : World} {B g : Nat} {D : Nat → Prop} {x : Lsm} (h : DL w B g D x) (hz : total x.levels ≤ 1000) (hn : x.levels.length ≤ 900) :
    Calls Tryz.prog 57 #[.pointer (some ⟨g, 0, none⟩)] w fun e w' => e = .returned (.int .i64 (flushE x : Nat)) ∧ Stays w w' B g D (flushed x) := by
  obtain ⟨i0, hi, hz0, hz1, hz2⟩ := info_parts infoL
  have HD : Hid (DL w B g D x) := h
  obtain ⟨yv, lv, vs, hd⟩ := h
  obtain ⟨a, cap, rfl, _, _⟩ := hd.levels
  obtain ⟨ay, cy, rfl, _⟩ := hd.young
  have c1 : w.cell? ⟨g, 1, none⟩ = some (.slice ay x.young.length cy) := hd.lies.cell (i := 1) (by omega)
  have c2 : w.cell? ⟨g, 2, none⟩ = some (.slice a x.levels.length cap) := hd.lies.cell (i := 2) (by omega)
  clear hd
  by_cases hy : x.young = []
  · have HE : Hid (flushE x = 6) := if_pos hy
    have HF : Hid (flushed x = x) := if_pos hy
    have hl0 : x.young.length = 0 := by rw [hy]; rfl
    rw [hl0] at c1
    clear hy
    go_enter Tryz.func57, Tryz.ntmps57
    go_wp2_with fail
    go_ret
    exact ⟨by rw [HE.out]; rfl, ⟨D, by rw [HF.out]; exact HD.out, fun k q => .inl q⟩, Kept.refl _ _⟩
  · have hp : ((x.young.length : Int) == 0) = false := by
      have := List.length_pos_iff.2 hy
      rw [beq_eq_false_iff_ne]
      omega
    have HE : Hid (flushE x = 0) := if_neg hy
    have HY : Hid (x.young ≠ []) := hy
    have cM := WalkMergeRef.merge_any HD.out hz (by omega)
    clear hy
    go_enter Tryz.func57, Tryz.ntmps57
    go_upto_if 15 with fail
    go_cut [15] from 16 to 17 (fun _ wc => Stays w wc B g D { x with levels := room x })
    case first => as_aux_lemma =>
      by_cases h8 : 8 ≤ x.levels.length
      · have h8' : (8 : Int) ≤ (x.levels.length : Int) := by omega
        have HR : Hid (merged x = { x with levels := room x }) := by
          show ({ x with levels := mergeV x } : Lsm) = _
          rw [show room x = mergeV x from if_pos h8]
        clear h8
        go_wp2_with fail
        refine cM.mono ?_
        rintro e w1 ⟨rfl, hl⟩
        rw [HR.out] at hl
        clear cM
        go_wp2_with fail
        go_meet
        case rel => exact hl
      · have h8' : ¬ (8 : Int) ≤ (x.levels.length : Int) := by omega
        have HR : Hid (({ x with levels := room x } : Lsm) = x) := by
          show ({ x with levels := room x } : Lsm) = x
          rw [show room x = x.levels from if_neg h8]
        clear h8 cM
        go_wp2_with fail
        go_meet
        case rel => exact ⟨⟨D, by rw [HR.out]; exact HD.out, fun k q => .inl q⟩, Kept.refl _ _⟩
    obtain ⟨⟨D1, ⟨yv, lv, vs, hd⟩, hD1⟩, k1⟩ := hcut
    obtain ⟨a6, c6, rfl, hrow6, hnil6⟩ := hd.levels
    simp only at hrow6 hnil6
    obtain ⟨ay6, cy6, rfl, _⟩ := hd.young
    simp only at hd
    have hrl := room_le x
    have hgw : g < wc.heap.size := (hd.foot g hd.own).2
    have d1 : wc.cell? ⟨g, 1, none⟩ = some (.slice ay6 x.young.length cy6) := hd.lies.cell (i := 1) (by omega)
    have hone := lrows_cell hd.rows
    have hvl : vs.length = (room x).length := hd.rows.1
    have b0 : Below wc.heap.size wc (wc.alloc (.cells #[.slice ay6 x.young.length cy6] 32)) := (Below.refl _ _).alloc (Nat.le_refl _) _
    have o0 := lit_one wc (.slice ay6 x.young.length cy6)
    have e2 : (wc.alloc (.cells #[.slice ay6 x.young.length cy6] 32)).cell? ⟨g, 2, none⟩ = some (.slice a6 (room x).length c6) := by
      rw [World.cell?_alloc_lt _ _ _ hgw]
      exact hd.lies.cell (i := 2) (by omega)
    have HD6 : Hid (Dl wc B g D1 { x with levels := room x } (.slice ay6 x.young.length cy6) (.slice a6 (room x).length c6) vs) := hd
    clear cM c1 c2 hd hp
    by_cases h0 : room x = []
    · obtain ⟨rfl, rfl⟩ := hnil6 h0
      have hl0 : (room x).length = 0 := by rw [h0]; rfl
      have hv0 : vs = [] := List.length_eq_zero_iff.1 (by omega)
      subst hv0
      rw [hl0] at e2
      go_upto_region 6 with fail
      have HL : Hid (Stays w (((wc.alloc (.cells #[.slice ay6 x.young.length cy6] 32)).setCell ⟨g, 2, none⟩ (.slice (some ⟨wc.heap.size, 0, none⟩) 1 1)).setCell ⟨g, 1, none⟩ (.slice none 0 0)) B g D (flushed x)) := by
        have h := flush_left HD6.out hD1 k1 HY.out b0 (a1 := some ⟨wc.heap.size, 0, none⟩) (c1 := 1) (by rw [List.length_cons, hl0]; exact (Row.of_owns o0).2) (fun ad e => by cases e; exact Nat.le_refl _)
        rw [List.length_cons, hl0] at h
        exact h
      have hdn := HD6.out.below b0
      have f2 : (wc.alloc (.cells #[.slice ay6 x.young.length cy6] 32)).frozen? ⟨g, 2, none⟩ = false := hdn.lies.frozen 2
      have f1 : (wc.alloc (.cells #[.slice ay6 x.young.length cy6] 32)).frozen? ⟨g, 1, none⟩ = false := hdn.lies.frozen 1
      have e1 : (wc.alloc (.cells #[.slice ay6 x.young.length cy6] 32)).cell? ⟨g, 1, none⟩ = some (.slice ay6 x.young.length cy6) := hdn.lies.cell (i := 1) (by omega)
      clear hdn HD6 HD
      generalize wc.alloc (.cells #[.slice ay6 x.young.length cy6] 32) = w1 at b0 o0 e2 HL f2 f1 e1 ⊢
      go_wp2_with (at_builtin; go_must (refine wpList_append_own_none rfl (.tmp 24) (.tmp 28) 22 rfl wc.heap.size 32 i0 1 Tryz.underlying22 hi _ _ _ rfl o0 rfl ?_))
      go_ret
      exact ⟨by rw [HE.out]; rfl, HL.out⟩
    · obtain ⟨b5, off5, rfl, _⟩ := hrow6.2.2 (List.length_pos_iff.2 h0)
      go_upto_region 6 with fail
      have hsrc := row_add (hrow6.below b0)
      generalize wc.alloc (.cells #[.slice ay6 x.young.length cy6] 32) = w1 at b0 o0 e2 hsrc ⊢
      go_wp2_with (at_builtin; go_must (refine wpList_append_own _ rfl (.tmp 24) (.tmp 28) 22 rfl wc.heap.size 32 i0 (.slice none 0 0) 1 24 Tryz.underlying22 hi hz0 hz1 hz2 rfl (by decide) _ _ _ rfl o0 ⟨b5, off5, none⟩ (room x).length c6 vs rfl (by rw [hvl, Nat.mul_one]) hsrc hone (by unfold maxLen; omega) (by omega) b0.size ?_); intro v1 wn o1 g1 z1; clear z1; have bn : Below wc.heap.size wc wn := b0.grown g1 b0.size (fun k hk => (o0.lt k hk).1); have hfn := owns_fresh1 o1; obtain ⟨a1, c1', rfl, r1, _⟩ := owns_row o1; have hdn := HD6.out.below bn; have q2 : wn.cell? ⟨g, 2, none⟩ = some (.slice (some ⟨b5, off5, none⟩) (room x).length c6) := hdn.lies.cell (i := 2) (by omega); have q1 : wn.cell? ⟨g, 1, none⟩ = some (.slice ay6 x.young.length cy6) := hdn.lies.cell (i := 1) (by omega); have f2 := hdn.lies.frozen 2; have f1 := hdn.lies.frozen 1)
      have HL : Hid (Stays w ((wn.setCell ⟨g, 2, none⟩ (.slice a1 (1 + (room x).length) c1')).setCell ⟨g, 1, none⟩ (.slice none 0 0)) B g D (flushed x)) := by
        have h := flush_left HD6.out hD1 k1 HY.out bn (a1 := a1) (c1 := c1') (by rw [List.length_cons, Nat.add_comm]; exact r1) (fun ad e => hfn ad ⟨_, _, by rw [e]⟩)
        rw [List.length_cons, Nat.add_comm] at h
        exact h
      clear o1 g1 r1 hdn HD6 HD
      go_wp2_with fail
      go_ret
      exact ⟨by rw [HE.out]; rfl, HL.out⟩

end Go.Proofs.YtofaegcljcpceagGreatDoor.WalkFlushRef

/-
  What the document's own lsm (package witref2) does: Put, Tables.
-/
namespace Go.Proofs.YtofaegcljcpceagGreatDoor.WalkLPutRef
open Go.RowKit
open Lists (Row bt)
open Keeps (Kept owns_kept owns_row owns_base)
open Stores (Pair putE putL withP Rising)
open Wides (Wide owns_wide)
open PairRows (cells)
open LsmRows (PRow LRows)
open LsmDoc (Dl In)
open Lsms (Lsm total putted flushed)
open WalkMergeRef (DL Stays)
open WalkStoreRef (aggP sizeP)

theorem below_drewN {B : Nat} {a w : World} (h : Below B a w) (n : Nat) : Below B a (w.drewN n) := ⟨h.os, h.tape, h.output, h.size, h.block⟩
theorem with_pos (l : List Pair) (p : Pair) : 0 < (withP l p).length := by
  cases l with
  | nil => simp [withP]
  | cons q r =>
    unfold withP
    split <;> simp
/-- then goes on -/
theorem Stays.next {w w1 w2 : World} {B g : Nat} {D D1 : Nat → Prop} {x : Lsm} (hD : ∀ k, D1 k → D k ∨ w.heap.size ≤ k) (k1 : Kept (fun k => k = g) w w1) (h : Stays w1 w2 B g D1 x) : Stays w w2 B g D x := by
  obtain ⟨⟨D2, h1, h2⟩, h3⟩ := h
  refine ⟨⟨D2, h1, fun k q => ?_⟩, k1.trans h3 fun i q => .inl q⟩
  rcases h2 k q with q | q
  · exact hD k q
  · have := k1.size
    exact .inr (by omega)

set_option maxHeartbeats 4000000 in
set_option maxRecDepth 100000 in
theorem put_any {w : World} {B g : Nat} {D : Nat → Prop} {x : Lsm} (h : DL w B g D x) (p0 p1 : ByteArray) (p2 : Bool) (hris : Rising x.young) (hy : x.young.length ≤ 900) (hz : total x.levels ≤ 1000) (hn : x.levels.length ≤ 900) :
    Calls Tryz.prog 32 #[.pointer (some ⟨g, 0, none⟩), .agg #[.string p0, .string p1, .bool p2]] w fun e w' => e = .returned (.int .i64 (putE x.young ⟨p0, p1, p2⟩ : Nat)) ∧ Stays w w' B g D (putted x ⟨p0, p1, p2⟩) := by
  have a23 := aggP
  have z23 := sizeP
  obtain ⟨yv, lv, vs, hd⟩ := h
  obtain ⟨ay, cy, rfl, hwy⟩ := hd.young
  have hgw : g < w.heap.size := (hd.foot g hd.own).2
  have b0 : Below w.heap.size w (w.alloc (.cells #[.string p0, .string p1, .bool p2] 31)) := (Below.refl _ _).alloc (Nat.le_refl _) _
  have r0 : (w.alloc (.cells #[.string p0, .string p1, .bool p2] 31)).cell? ⟨w.heap.size, 0, none⟩ = some (.string p0) := by simp
  have r1 : (w.alloc (.cells #[.string p0, .string p1, .bool p2] 31)).cell? ⟨w.heap.size, 1, none⟩ = some (.string p1) := by simp
  have r2 : (w.alloc (.cells #[.string p0, .string p1, .bool p2] 31)).cell? ⟨w.heap.size, 2, none⟩ = some (.bool p2) := by simp
  have hd0 := hd.below b0
  have c1 : (w.alloc (.cells #[.string p0, .string p1, .bool p2] 31)).cell? ⟨g, 1, none⟩ = some (.slice ay x.young.length cy) := hd0.lies.cell (i := 1) (by omega)
  have HW : Hid (∀ w2, Below w.heap.size w w2 → Calls Tryz.prog 56 #[.slice ay x.young.length cy, .agg #[.string p0, .string p1, .bool p2]] w2 fun e w' => ∃ a' c', e = .returned (.tuple #[.slice a' (putL x.young ⟨p0, p1, p2⟩).length c', .int .i64 (putE x.young ⟨p0, p1, p2⟩ : Nat)]) ∧ Wide 3 w' a' (putL x.young ⟨p0, p1, p2⟩).length c' (cells (putL x.young ⟨p0, p1, p2⟩)) ∧ ((a' = ay ∧ putL x.young ⟨p0, p1, p2⟩ = x.young) ∨ ∀ y, a' = some y → w2.heap.size ≤ y.block) ∧ Below w2.heap.size w2 w') := fun w2 k2 => WalkWithRef.put_any x.young ⟨p0, p1, p2⟩ ay x.young.length cy w2 (hwy.below k2) (by omega) hris
  have HD : Hid (Dl w B g D x (.slice ay x.young.length cy) lv vs) := hd
  clear hd hd0 hwy
  go_enter Tryz.func32, Tryz.ntmps32
  go_upto_region 1 with fail
  generalize w.alloc (.cells #[.string p0, .string p1, .bool p2] 31) = w1 at b0 r0 r1 r2 c1 ⊢
  go_region_with (go_at_call 56; refine (HW.out _ b0.drew).mono ?_; rintro e w2 ⟨a', c', rfl, hw2, ha2, b2⟩)
  all_goals
    have hb2 : Below w.heap.size w w2 := b0.drew.trans (b2.mono b0.size)
    have hd2 := HD.out.below hb2
    have d1 : w2.cell? ⟨g, 1, none⟩ = some (.slice ay x.young.length cy) := hd2.lies.cell (i := 1) (by omega)
    have f1 : w2.frozen? ⟨g, 1, none⟩ = false := hd2.lies.frozen 1
    have hw1 : w.heap.size ≤ w1.heap.size := b0.size
    clear b2 b0 r0 r1 r2 c1 HW
    simp [Act.put]
    by_cases h0 : putE x.young ⟨p0, p1, p2⟩ = 0
    · have e1 : putL x.young ⟨p0, p1, p2⟩ = withP x.young ⟨p0, p1, p2⟩ := if_pos h0
      have HE : Hid (putE x.young ⟨p0, p1, p2⟩ = 0) := h0
      have HP : Hid (putted x ⟨p0, p1, p2⟩ = if x.limit ≤ (withP x.young ⟨p0, p1, p2⟩).length then flushed { x with young := withP x.young ⟨p0, p1, p2⟩ } else { x with young := withP x.young ⟨p0, p1, p2⟩ }) := if_pos h0
      have hwl := Lsms.with_le x.young ⟨p0, p1, p2⟩
      have hwp := with_pos x.young ⟨p0, p1, p2⟩
      rw [e1] at hw2 ha2 ⊢
      rw [h0]
      generalize withP x.young ⟨p0, p1, p2⟩ = Y at hw2 ha2 HP hwl hwp
      have hlt : ∀ ad, a' = some ad → ad.block < w2.heap.size := fun ad e => by
        obtain ⟨b5, off5, h5, hc5⟩ := hw2.2.2 hwp
        rw [e] at h5
        obtain rfl : ad = ⟨b5, off5, none⟩ := by simpa using h5
        have hl : 0 < (cells Y).length := by rw [PairRows.cells_length]; omega
        exact Lists.block_lt (hc5 0 _ (List.getElem?_eq_getElem hl))
      have hE : ∀ i, (D i ∨ (w.heap.size ≤ i ∧ i < w2.heap.size)) → B ≤ i ∧ i < w2.heap.size := fun i q => by
        rcases q with q | q
        · exact hd2.foot i q
        · have := (HD.out.foot g HD.out.own).1
          omega
      have hin : In (fun i => D i ∨ (w.heap.size ≤ i ∧ i < w2.heap.size)) g (.slice a' Y.length c') := fun ad n c e => by
        simp only [Value.slice.injEq] at e
        rcases ha2 with ⟨q, _⟩ | q
        · have h5 := hd2.yin ad x.young.length cy (by rw [← q, e.1])
          exact ⟨.inl h5.1, h5.2⟩
        · have h5 : w1.heap.size ≤ ad.block := q ad e.1
          have h6 := hlt ad e.1
          exact ⟨.inr ⟨by omega, h6⟩, by omega⟩
      obtain ⟨hd3, k3⟩ := hd2.setYoung (E := fun i => D i ∨ (w.heap.size ≤ i ∧ i < w2.heap.size)) (fun _ q => .inl q) hE (nv := .slice a' Y.length c') (l := Y) ⟨a', c', rfl, hw2⟩ hin
      have hk : Kept (fun k => k = g) w (w2.setCell ⟨g, 1, none⟩ (.slice a' Y.length c')) := (Kept.of_below _ hb2).trans k3 fun i q => .inl q
      have y1 : (w2.setCell ⟨g, 1, none⟩ (.slice a' Y.length c')).cell? ⟨g, 1, none⟩ = some (.slice a' Y.length c') := hd3.lies.cell (i := 1) (by omega)
      have y0 : (w2.setCell ⟨g, 1, none⟩ (.slice a' Y.length c')).cell? ⟨g, 0, none⟩ = some (.int .i64 (x.limit : Int)) := hd3.lies.cell (i := 0) (by omega)
      clear hE hin hlt hw2 ha2 hd2 k3 h0 e1
      go_upto_region 5 with fail
      generalize w2.setCell ⟨g, 1, none⟩ (.slice a' Y.length c') = w3 at hd3 hk y1 y0 ⊢
      go_quiet (fail)
      have hd4 := hd3.below (below_drewN (Below.refl _ w3) nq)
      replace hk := hk.then (below_drewN (Below.refl _ w3) nq)
      clear hd3 y1 y0
      generalize w3.drewN nq = w4 at hd4 hk ⊢
      by_cases hlim : x.limit ≤ Y.length
      · have hl2 : (x.limit : Int) ≤ (Y.length : Int) := by omega
        have cF := WalkFlushRef.flush_any (x := { x with young := Y }) ⟨_, _, _, hd4⟩ hz hn
        rw [if_pos hlim] at HP
        clear hlim
        go_wp2_with fail
        refine cF.mono ?_
        rintro e w5 ⟨rfl, hs5⟩
        have HS : Hid (Stays w w5 B g D (putted x ⟨p0, p1, p2⟩)) := by
          show Stays _ _ _ _ _ _
          rw [HP.out]
          exact Stays.next (fun k q => Or.imp id And.left q) hk hs5
        clear cF hs5 hd4
        go_wp2_with fail
        go_ret
        exact ⟨by rw [HE.out]; rfl, HS.out⟩
      · have hl2 : ¬ (x.limit : Int) ≤ (Y.length : Int) := by omega
        rw [if_neg hlim] at HP
        have HS : Hid (Stays w w4 B g D (putted x ⟨p0, p1, p2⟩)) := by
          show Stays _ _ _ _ _ _
          rw [HP.out]
          exact ⟨⟨_, ⟨_, _, _, hd4⟩, fun k q => Or.imp id And.left q⟩, hk⟩
        clear hlim hd4
        go_wp2_with fail
        go_ret
        exact ⟨by rw [HE.out]; rfl, HS.out⟩
    · have HP : Hid (putted x ⟨p0, p1, p2⟩ = x) := if_neg h0
      have hx : ((putE x.young ⟨p0, p1, p2⟩ : Int) != 0) = true := by rw [bne_iff_ne]; omega
      have HS : Hid (Stays w w2 B g D (putted x ⟨p0, p1, p2⟩)) := ⟨⟨D, by rw [HP.out]; exact ⟨_, _, _, hd2⟩, fun k q => .inl q⟩, Kept.of_below _ hb2⟩
      clear h0 hw2 ha2 hd2
      obtain ⟨E, HEe⟩ : ∃ E : Int, Hid ((putE x.young ⟨p0, p1, p2⟩ : Int) = E) := ⟨_, rfl⟩
      rw [HEe.out] at hx ⊢
      go_wp2_with fail
      go_ret
      exact ⟨by rw [HEe.out]; rfl, HS.out⟩

end Go.Proofs.YtofaegcljcpceagGreatDoor.WalkLPutRef

